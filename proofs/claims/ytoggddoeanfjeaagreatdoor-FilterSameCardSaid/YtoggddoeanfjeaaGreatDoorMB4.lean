/- Texts of one proof, laid together: F11 F12 F13. -/
import Derived.Test.YtoggddoeanfjeaaGreatDoorMB3
import Derived.Test.YtoggddoeanfjeaaGreatDoorM04
import Derived.BigQuiet
/- filter: entry's Get, the program's and the document's (as in W21 and X6). -/
namespace Go.Proofs.YtoggddoeanfjeaaGreatDoor
open Go.RowKit Go.Shelf
set_option linter.unusedVariables false
set_option linter.unusedSimpArgs false
set_option maxRecDepth 100000

theorem StrsIn.src {w : World} {A : Option Addr} {n : Nat} {l : List Txt} (h : StrsIn w A n l) : Src w A n (l.map tv) := by
  refine ⟨fun hA => ?_, fun ad hA j u hu => ?_⟩
  · rcases Nat.eq_zero_or_pos n with h0 | h0
    · exact h0
    · obtain ⟨b, o, e, _⟩ := h.2.2 h0
      rw [hA] at e
      cases e
  · rw [List.getElem?_map] at hu
    obtain ⟨s, hs, rfl⟩ := Option.map_eq_some_iff.1 hu
    have hp : 0 < n := by have := (List.getElem?_eq_some_iff.1 hs).1; rw [h.1] at this; omega
    obtain ⟨b, o, e, hc⟩ := h.2.2 hp
    rw [hA] at e
    injection e with e
    rw [e, add_at]
    exact hc j s hs
theorem tvs_one (l : List Txt) : ∀ u ∈ l.map tv, u.oneCell' = true := by
  intro u hu
  obtain ⟨s, _, rfl⟩ := List.mem_map.1 hu
  rfl
theorem own_caps {w : World} {base n c size : Nat} {e : TypeId} {A : Option Addr} {xs : List Value} (h : w.ownsRow base e size (.slice A n c) n xs) : n ≤ c ∧ c ≤ 9223372036854775807 := by
  rcases h.2 with ⟨hv, h2⟩ | ⟨g, cap, cur, hA, hg, hh, r1, r2, r3⟩
  · injection hv with e1 e2 e3
    omega
  · injection hA with e1 e2 e3
    subst e3
    unfold maxLen at r2
    omega
theorem tvs_cells (w : World) (A : Option Addr) (n : Nat) (l : List Txt) (o : Obj) (h : StrsIn w A n l) : Src (w.alloc o) A n (l.map tv) := (StrsIn.grow ((Keeps.refl [] w).alloc o) h).src
set_option maxHeartbeats 4000000 in
theorem clones_is (A : Option Addr) (n c : Nat) (l : List Txt) (w : World) (h : StrsIn w A n l) (hn : n ≤ 1000000) :
    Calls Tryz.prog 57 #[.slice A n c] w fun e w' => ∃ A' c', e = .returned (.slice A' n c') ∧ w'.ownsRow w.heap.size 9 1 (.slice A' n c') n (l.map tv) ∧ Keeps [] w w' := by
  obtain ⟨iu, hiu, hzu0, hzu1, hzu2⟩ := info_parts str_info7
  have HS := Lib.hid h.src
  have HSR := Lib.hid (fun o => tvs_cells w A n l o h)
  have HLL : Hid (l.length = n) := h.1
  have HL : Hid ((l.map tv).length = n * 1) := by show _ = _; rw [List.length_map, h.1, Nat.mul_one]
  have hq := fun (W : World) (a : Option Addr) (n c : Nat) => Lib.run_eql_slice_nil (P := Tryz.prog) W 53 9 a n c 0 0 Tryz.underlying53
  clear h
  rcases A with _ | ad
  · have hz : n = 0 := HS.out.1 rfl
    subst hz
    have hd : l = [] := List.length_eq_zero_iff.1 HLL.out
    subst hd
    go_enter Tryz.func57, Tryz.ntmps57
    go_wp2_with fail
    go_ret
    exact ⟨_, _, rfl, World.ownsRow_nil _ _ _ _, Keeps.refl _ _⟩
  · go_enter Tryz.func57, Tryz.ntmps57
    go_wp2_with (at_builtin; refine wpList_append_opt rfl (.tmp 5) (.tmp 6) 53 rfl w.heap.size 9 iu _ 1 16 Tryz.underlying53 hiu hzu0 hzu1 hzu2 rfl (by decide) (.slice (some ⟨w.heap.size, 0, none⟩) 0 0) 0 [] rfl (World.ownsRow_made w #[] 0 (Nat.le_refl _) (by unfold maxLen; omega) rfl) (some ad) n c (l.map tv) rfl HL.out (HSR.out _) (tvs_one l) (by unfold maxLen; omega) (by omega) (by simp) ?_; intro v1 w1 ho1 hg1 hs1; obtain ⟨A1, c1, hv1⟩ := own_slice ho1; subst hv1; have HG1 := Lib.hid (Keeps.trans ((Keeps.refl [] w).alloc (.cells #[] 9)) (Keeps.of_grown (bs := [w.heap.size]) hg1 (fun x hx => .inl (by simp [Value.ownBlock] at hx; simp [hx]))) (fun y hy => .inr (by rw [List.mem_singleton.1 hy]; exact Nat.le_refl _))); have HO1 : Hid (w1.ownsRow w.heap.size 9 1 (.slice A1 (0 + n) c1) (0 + n) (l.map tv)) := (by have h9 := ho1; rw [List.nil_append] at h9; exact h9); rw [Nat.zero_add] at HO1 ⊢; clear ho1 hg1 hs1)
    go_ret
    exact ⟨_, _, rfl, HO1.out, HG1.out⟩
def cont2 (L : List Att) (k : Txt) : List Txt := ((L.find? fun a => a.1 == k).map fun a => a.2).getD []
theorem find_none7 {l : List Att} {j : Nat} {a : Att} {z : Txt} (h : l[j]? = some a) (hn : a.1 ≠ z) (hp : (l.take j).find? (fun a => a.1 == z) = none) : (l.take (j + 1)).find? (fun a => a.1 == z) = none := by
  rw [List.take_add_one, h, List.find?_append, hp]
  simp [hn]
theorem find_some7 {l : List Att} {j : Nat} {a : Att} {z : Txt} (h : l[j]? = some a) (hn : a.1 = z) (hp : (l.take j).find? (fun a => a.1 == z) = none) : l.find? (fun a => a.1 == z) = some a := by
  have h1 : (l.take (j + 1)).find? (fun a => a.1 == z) = some a := by
    rw [List.take_add_one, h, List.find?_append, hp]
    simp [hn]
  have h2 : l = l.take (j + 1) ++ l.drop (j + 1) := (List.take_append_drop _ _).symm
  rw [h2, List.find?_append, h1]
  rfl
/-- What a call answers that tells Values: in new memory. -/
def ValsQ (vs : List Txt) (w : World) (e : Ending) (w' : World) : Prop :=
  ∃ A c, e = .returned (.slice A vs.length c) ∧ w'.ownsRow w.heap.size 9 1 (.slice A vs.length c) vs.length (vs.map tv) ∧ Keeps [] w w'
set_option maxHeartbeats 4000000 in
theorem get_is (A : Option Addr) (n c : Nat) (l : List At7) (v : Txt) (w : World) (h : EntIn w A n l) (hf : Few7 100000 l) (hv : v.length ≤ 9223372036854775807) :
    Calls Tryz.prog 155 #[.slice A n c, tv v] w (ValsQ (cont2 (ents l) (smallL v)) w) := by
  have HD := Lib.hid h
  have HF := Lib.hid hf
  have hn : n ≤ 100000 := by rw [← h.1]; exact hf.1
  have HEL : Hid ((ents l).length = n) := by show _ = _; rw [ents_len, h.1]
  have HSM := Lib.hid (small_is v w hv)
  obtain ⟨z, hz⟩ : ∃ z, smallL v = z := ⟨_, rfl⟩
  rw [hz] at HSM ⊢
  unfold tv
  clear h hf hz
  go_enter Tryz.func155, Tryz.ntmps155
  go_wp2_with fail
  refine HSM.out.mono ?_
  rintro e w1 ⟨rfl, hk1⟩
  have HK1 := Lib.hid hk1
  clear hk1
  go_wp2_with fail
  go_loopw [11] (fun i wr => ∃ j : Nat, i = .int .i64 (j : Int) ∧ j ≤ n ∧ Hid (((ents l).take j).find? (fun a => a.1 == z) = none) ∧ Hid (Keeps [] w wr)) (fun i _ => n - (intOf i).toNat)
  case atStart => exact ⟨0, rfl, Nat.zero_le _, by simp [Hid], HK1.out⟩
  case round =>
    obtain ⟨j, rfl, hj, HA, HKR⟩ := hrel
    by_cases hlt : j < n
    · obtain ⟨hl, hp, hc9⟩ := EntIn.grow HKR.out HD.out
      obtain ⟨b, o, hA9, hcc⟩ := hc9 (by omega)
      clear hc9
      subst hA9
      obtain ⟨a, hu⟩ : ∃ a, l[j]? = some a := ⟨_, List.getElem?_eq_getElem (by omega)⟩
      obtain ⟨c0, c1⟩ := hcc j a hu
      have hfit := hp a (List.mem_of_getElem? hu)
      have hfn := HF.out.2 a (List.mem_of_getElem? hu)
      have HUE := Lib.hid (ents_at hu)
      obtain ⟨nm, aA, an, ac, avs⟩ := a
      obtain ⟨hnm, hnc, hac, hV⟩ := hfit
      dsimp only at c0 c1 hnm hV hfn
      unfold tv at c0
      have hji : (j : Int) < (n : Int) := by omega
      have HK4 : Hid (Keeps [] wr (wr.alloc (.cells #[.string ⟨nm.toArray⟩, .slice aA an ac] 55))) := (Keeps.refl [] wr).alloc _
      obtain ⟨⟨d0, d1⟩, _⟩ := blk2 (heap_new8 wr (.cells #[.string ⟨nm.toArray⟩, .slice aA an ac] 55))
      obtain ⟨w4, hw4⟩ : ∃ w4, wr.alloc (.cells #[.string ⟨nm.toArray⟩, .slice aA an ac] 55) = w4 := ⟨_, rfl⟩
      rw [hw4] at HK4 d0 d1
      have HCL := Lib.hid (clones_is aA an ac avs w4 (StrsIn.grow HK4.out hV) (by omega))
      have HVL : Hid (avs.length = an) := hV.1
      have HZ : Hid (wr.heap.size ≤ w4.heap.size) := HK4.out.size
      obtain ⟨r, hr⟩ : ∃ r, (nm == z) = r := ⟨_, rfl⟩
      clear hcc hu hp hl hV hnm hnc hac hfn
      cases r
      · have HN2 := Lib.hid (find_none7 HUE.out (show nm ≠ z by simpa using hr) HA.out)
        go_wp2_with fail
        go_roundw
        case rel => exact ⟨j + 1, by go_num, by omega, HN2.out, HKR.out.trans' HK4.out⟩
        case measure => simp [intOf]; omega
      · have heq : nm = z := by simpa using hr
        have HF2 := Lib.hid (find_some7 HUE.out heq HA.out)
        subst heq
        clear hr
        go_wp2_with fail
        refine HCL.out.mono ?_
        rintro e w5 ⟨A5, c5, rfl, ho5, hk5⟩
        have HO5 : Hid (w5.ownsRow w.heap.size 9 1 (.slice A5 an c5) an (avs.map tv)) := own_base7 ho5 (Nat.le_trans HKR.out.size HZ.out)
        have HK5 := Lib.hid (HKR.out.trans' (HK4.out.trans' hk5))
        clear ho5 hk5
        go_wp2_with fail
        go_ret
        have he : cont2 (ents l) nm = avs := by unfold cont2; rw [HF2.out]; rfl
        rw [he]
        unfold ValsQ
        rw [HVL.out]
        exact ⟨A5, c5, rfl, HO5.out, HK5.out⟩
    · obtain rfl : j = n := by omega
      have h9 := HA.out
      rw [List.take_of_length_le (by rw [HEL.out]; exact Nat.le_refl _)] at h9
      have H9 := Lib.hid h9
      clear h9
      go_wp2_with fail
      go_ret
      have he : cont2 (ents l) z = [] := by unfold cont2; rw [H9.out]; rfl
      rw [he]
      exact ⟨none, 0, rfl, World.ownsRow_nil _ _ _ _, HKR.out⟩
/-- What a call answers that tells texts: in memory that may be its own. -/
def StrQ (xs : List Txt) (w : World) (e : Ending) (w' : World) : Prop := ∃ A c, e = .returned (.slice A xs.length c) ∧ StrsIn w' A xs.length xs ∧ xs.length ≤ c ∧ c ≤ 9223372036854775807 ∧ Keeps [] w w'
theorem StrQ.of {w wr : World} {A : Option Addr} {m c : Nat} {xs : List Txt} (h : StrsIn wr A m xs) (h1 : m ≤ c) (h2 : c ≤ 9223372036854775807) (hk : Keeps [] w wr) : StrQ xs w (.returned (.slice A m c)) wr := by
  obtain rfl := h.1
  exact ⟨A, c, rfl, h, h1, h2, hk⟩
set_option maxHeartbeats 8000000 in
theorem rget_is (A : Option Addr) (n c : Nat) (l : List At7) (v : Txt) (w : World) (h : EntIn w A n l) (hn : n ≤ 100000) (hv : v.length ≤ 9223372036854775807) :
    Calls Tryz.prog 26 #[.slice A n c, tv v] w (StrQ (cont2 (ents l) (smallL v)) w) := by
  have HD := Lib.hid h
  have HEL : Hid ((ents l).length = n) := by show _ = _; rw [ents_len, h.1]
  have HSM := Lib.hid (fun X : World => rsmall_is v X hv)
  obtain ⟨z, hz⟩ : ∃ z, smallL v = z := ⟨_, rfl⟩
  rw [hz] at HSM ⊢
  unfold tv
  clear h hz hv
  go_enter Tryz.func26, Tryz.ntmps26
  go_wp2_with fail
  go_loopw [5] (fun i wr => ∃ j : Nat, i = .int .i64 (j : Int) ∧ j ≤ n ∧ Hid (((ents l).take j).find? (fun a => a.1 == z) = none) ∧ Hid (Keeps [] w wr)) (fun i _ => n - (intOf i).toNat)
  case atStart => exact ⟨0, rfl, Nat.zero_le _, by simp [Hid], Keeps.refl _ _⟩
  case round =>
    obtain ⟨j, rfl, hj, HA, HKR⟩ := hrel
    by_cases hlt : j < n
    · obtain ⟨hl, hp, hc9⟩ := EntIn.grow HKR.out HD.out
      obtain ⟨b, o, hA9, hcc⟩ := hc9 (by omega)
      clear hc9
      subst hA9
      obtain ⟨a, hu⟩ : ∃ a, l[j]? = some a := ⟨_, List.getElem?_eq_getElem (by omega)⟩
      obtain ⟨c0, c1⟩ := hcc j a hu
      have HFT : Hid (a.fits wr) := hp a (List.mem_of_getElem? hu)
      have HUE := Lib.hid (ents_at hu)
      obtain ⟨nm, aA, an, ac, avs⟩ := a
      dsimp only at c0 c1
      unfold tv at c0
      have hji : (j : Int) < (n : Int) := by omega
      have hj0 : (0 : Int) ≤ (j : Int) := by omega
      have HF : Hid (∀ X, Keeps [] wr X → X.cell? ⟨b, o + j * 2, none⟩ = some (.string ⟨nm.toArray⟩) ∧ X.cell? ⟨b, o + j * 2 + 1, none⟩ = some (.slice aA an ac)) := fun X hX => ⟨(hX.cell (lt_of_cell c0) (by simp)).trans c0, (hX.cell (lt_of_cell c1) (by simp)).trans c1⟩
      obtain ⟨r, hr⟩ : ∃ r, (nm == z) = r := ⟨_, rfl⟩
      obtain ⟨hs1, hs2, hs3⟩ := tx_beq nm z r hr
      clear hcc hu hp hl c0 c1
      cases r
      · have HN2 := Lib.hid (find_none7 HUE.out (show nm ≠ z by simpa using hr) HA.out)
        clear hr
        go_wp2_with fail
        refine wp_region_held_drew (S := (fun X => X.cell? ⟨b, o + j * 2, none⟩ = some (.string ⟨nm.toArray⟩) ∧ X.cell? ⟨b, o + j * 2 + 1, none⟩ = some (.slice aA an ac))) (by kernel_rfl) (HF.out _ ((Keeps.refl [] wr).drew)) ?_
        intro HS
        refine wpAnyH_take (i := 0) (v := .slice (some ⟨b, o, none⟩) n c) rfl (by kernel_rfl) (by kernel_rfl) (by kernel_rfl) (fun _ _ _ h => h) (Or.inl ⟨by kernel_rfl, ?_⟩) HS ?_
        · intro w5 hw5
          obtain ⟨c0, c1⟩ := hw5
          go_simp
        simp only [List.getElem_toArray, List.getElem_cons_succ, List.getElem_cons_zero, Act.put, List.setIfInBounds_toArray, List.set_cons_zero, List.set_cons_succ]
        refine wpAnyH_take (i := 1) (v := .int .i64 (j : Int)) rfl (by kernel_rfl) (by kernel_rfl) (by kernel_rfl) (fun _ _ _ h => h) (Or.inl ⟨by kernel_rfl, ?_⟩) HS ?_
        · intro w5 hw5
          obtain ⟨c0, c1⟩ := hw5
          go_simp
        simp only [List.getElem_toArray, List.getElem_cons_succ, List.getElem_cons_zero, Act.put, List.setIfInBounds_toArray, List.set_cons_zero, List.set_cons_succ]
        refine wpAnyH_take (i := 2) (v := .pointer (some ⟨b, o + j * 2, none⟩)) rfl (by kernel_rfl) (by kernel_rfl) (by kernel_rfl) (fun _ _ _ h => h) (Or.inl ⟨by kernel_rfl, ?_⟩) HS ?_
        · intro w5 hw5
          obtain ⟨c0, c1⟩ := hw5
          go_simp
        simp only [List.getElem_toArray, List.getElem_cons_succ, List.getElem_cons_zero, Act.put, List.setIfInBounds_toArray, List.set_cons_zero, List.set_cons_succ]
        refine wpAnyH_take (i := 3) (v := .pointer (some ⟨b, o + j * 2, none⟩)) rfl (by kernel_rfl) (by kernel_rfl) (by kernel_rfl) (fun _ _ _ h => h) (Or.inl ⟨by kernel_rfl, ?_⟩) HS ?_
        · intro w5 hw5
          obtain ⟨c0, c1⟩ := hw5
          go_simp
        simp only [List.getElem_toArray, List.getElem_cons_succ, List.getElem_cons_zero, Act.put, List.setIfInBounds_toArray, List.set_cons_zero, List.set_cons_succ]
        refine wpAnyH_take (i := 4) (v := .string ⟨nm.toArray⟩) rfl (by kernel_rfl) (by kernel_rfl) (by kernel_rfl) (fun _ _ _ h => h) (Or.inl ⟨by kernel_rfl, ?_⟩) HS ?_
        · intro w5 hw5
          obtain ⟨c0, c1⟩ := hw5
          go_simp
        simp only [List.getElem_toArray, List.getElem_cons_succ, List.getElem_cons_zero, Act.put, List.setIfInBounds_toArray, List.set_cons_zero, List.set_cons_succ]
        refine wpAnyH_take (i := 5) (v := .string ⟨v.toArray⟩) rfl (by kernel_rfl) (by kernel_rfl) (by kernel_rfl) (fun _ _ _ h => h) (Or.inl ⟨by kernel_rfl, ?_⟩) HS ?_
        · intro w5 hw5
          obtain ⟨c0, c1⟩ := hw5
          go_simp
        simp only [List.getElem_toArray, List.getElem_cons_succ, List.getElem_cons_zero, Act.put, List.setIfInBounds_toArray, List.set_cons_zero, List.set_cons_succ]
        refine wpAnyH_ready (rs := [6]) (by kernel_rfl) (by simp) ?_
        refine AllReadyH.cons rfl (fun K hK => ?_) AllReadyH.nil
        go_simp
        refine (HSM.out _).mono ?_
        rintro e w5 ⟨rfl, hk5⟩
        have K5 : Hid (Keeps [] wr w5) := Keeps.trans' ((Keeps.refl [] wr).drew) hk5
        clear hk5
        refine hK.out _ _ (HF.out _ K5.out) (fun HS => ?_)
        clear hK K
        refine wpAnyH_take (i := 7) (v := .bool false) rfl (by kernel_rfl) (by kernel_rfl) (by kernel_rfl) (fun _ _ _ h => h) (Or.inl ⟨by kernel_rfl, ?_⟩) HS ?_
        · intro w5 hw5
          obtain ⟨c0, c1⟩ := hw5
          go_simp
          first | done | (simp [hs1]; done) | (simp [hs3]; done) | (simp_all; done)
        simp only [List.getElem_toArray, List.getElem_cons_succ, List.getElem_cons_zero, Act.put, List.setIfInBounds_toArray, List.set_cons_zero, List.set_cons_succ]
        refine wpAnyH_done (by kernel_rfl) ?_ _
        go_wp2_with fail
        go_roundw
        case rel => exact ⟨j + 1, by go_num, by omega, HN2.out, HKR.out.trans' K5.out⟩
        case measure => simp [intOf]; omega
      · have heq : nm = z := by simpa using hr
        have HF2 := Lib.hid (find_some7 HUE.out heq HA.out)
        clear hr
        go_wp2_with fail
        refine wp_region_held_drew (S := (fun X => X.cell? ⟨b, o + j * 2, none⟩ = some (.string ⟨nm.toArray⟩) ∧ X.cell? ⟨b, o + j * 2 + 1, none⟩ = some (.slice aA an ac))) (by kernel_rfl) (HF.out _ ((Keeps.refl [] wr).drew)) ?_
        intro HS
        refine wpAnyH_take (i := 0) (v := .slice (some ⟨b, o, none⟩) n c) rfl (by kernel_rfl) (by kernel_rfl) (by kernel_rfl) (fun _ _ _ h => h) (Or.inl ⟨by kernel_rfl, ?_⟩) HS ?_
        · intro w5 hw5
          obtain ⟨c0, c1⟩ := hw5
          go_simp
        simp only [List.getElem_toArray, List.getElem_cons_succ, List.getElem_cons_zero, Act.put, List.setIfInBounds_toArray, List.set_cons_zero, List.set_cons_succ]
        refine wpAnyH_take (i := 1) (v := .int .i64 (j : Int)) rfl (by kernel_rfl) (by kernel_rfl) (by kernel_rfl) (fun _ _ _ h => h) (Or.inl ⟨by kernel_rfl, ?_⟩) HS ?_
        · intro w5 hw5
          obtain ⟨c0, c1⟩ := hw5
          go_simp
        simp only [List.getElem_toArray, List.getElem_cons_succ, List.getElem_cons_zero, Act.put, List.setIfInBounds_toArray, List.set_cons_zero, List.set_cons_succ]
        refine wpAnyH_take (i := 2) (v := .pointer (some ⟨b, o + j * 2, none⟩)) rfl (by kernel_rfl) (by kernel_rfl) (by kernel_rfl) (fun _ _ _ h => h) (Or.inl ⟨by kernel_rfl, ?_⟩) HS ?_
        · intro w5 hw5
          obtain ⟨c0, c1⟩ := hw5
          go_simp
        simp only [List.getElem_toArray, List.getElem_cons_succ, List.getElem_cons_zero, Act.put, List.setIfInBounds_toArray, List.set_cons_zero, List.set_cons_succ]
        refine wpAnyH_take (i := 3) (v := .pointer (some ⟨b, o + j * 2, none⟩)) rfl (by kernel_rfl) (by kernel_rfl) (by kernel_rfl) (fun _ _ _ h => h) (Or.inl ⟨by kernel_rfl, ?_⟩) HS ?_
        · intro w5 hw5
          obtain ⟨c0, c1⟩ := hw5
          go_simp
        simp only [List.getElem_toArray, List.getElem_cons_succ, List.getElem_cons_zero, Act.put, List.setIfInBounds_toArray, List.set_cons_zero, List.set_cons_succ]
        refine wpAnyH_take (i := 4) (v := .string ⟨nm.toArray⟩) rfl (by kernel_rfl) (by kernel_rfl) (by kernel_rfl) (fun _ _ _ h => h) (Or.inl ⟨by kernel_rfl, ?_⟩) HS ?_
        · intro w5 hw5
          obtain ⟨c0, c1⟩ := hw5
          go_simp
        simp only [List.getElem_toArray, List.getElem_cons_succ, List.getElem_cons_zero, Act.put, List.setIfInBounds_toArray, List.set_cons_zero, List.set_cons_succ]
        refine wpAnyH_take (i := 5) (v := .string ⟨v.toArray⟩) rfl (by kernel_rfl) (by kernel_rfl) (by kernel_rfl) (fun _ _ _ h => h) (Or.inl ⟨by kernel_rfl, ?_⟩) HS ?_
        · intro w5 hw5
          obtain ⟨c0, c1⟩ := hw5
          go_simp
        simp only [List.getElem_toArray, List.getElem_cons_succ, List.getElem_cons_zero, Act.put, List.setIfInBounds_toArray, List.set_cons_zero, List.set_cons_succ]
        refine wpAnyH_ready (rs := [6]) (by kernel_rfl) (by simp) ?_
        refine AllReadyH.cons rfl (fun K hK => ?_) AllReadyH.nil
        go_simp
        refine (HSM.out _).mono ?_
        rintro e w5 ⟨rfl, hk5⟩
        have K5 : Hid (Keeps [] wr w5) := Keeps.trans' ((Keeps.refl [] wr).drew) hk5
        clear hk5
        refine hK.out _ _ (HF.out _ K5.out) (fun HS => ?_)
        clear hK K
        refine wpAnyH_take (i := 7) (v := .bool true) rfl (by kernel_rfl) (by kernel_rfl) (by kernel_rfl) (fun _ _ _ h => h) (Or.inl ⟨by kernel_rfl, ?_⟩) HS ?_
        · intro w5 hw5
          obtain ⟨c0, c1⟩ := hw5
          go_simp
          first | done | (simp [hs1]; done) | (simp [hs3]; done) | (simp_all; done)
        simp only [List.getElem_toArray, List.getElem_cons_succ, List.getElem_cons_zero, Act.put, List.setIfInBounds_toArray, List.set_cons_zero, List.set_cons_succ]
        refine wpAnyH_done (by kernel_rfl) ?_ _
        obtain ⟨d0, d1⟩ := HF.out _ K5.out
        go_wp2_with fail
        go_ret
        have he : cont2 (ents l) z = avs := by unfold cont2; rw [HF2.out]; rfl
        rw [he]
        exact StrQ.of (StrsIn.grow K5.out HFT.out.2.2.2) HFT.out.2.1 HFT.out.2.2.1 (HKR.out.trans' K5.out)
    · obtain rfl : j = n := by omega
      have h9 := HA.out
      rw [List.take_of_length_le (by rw [HEL.out]; exact Nat.le_refl _)] at h9
      have H9 := Lib.hid h9
      clear h9
      go_wp2_with fail
      go_ret
      have he : cont2 (ents l) z = [] := by unfold cont2; rw [H9.out]; rfl
      rw [he]
      exact StrQ.of (StrsIn.nil _ _) (Nat.le_refl _) (by omega) HKR.out
end Go.Proofs.YtoggddoeanfjeaaGreatDoor
/- filter: slices.Contains of truths, strings.HasPrefix, slices.ContainsFunc; walked. -/
namespace Go.Proofs.YtoggddoeanfjeaaGreatDoor
open Go.RowKit Go.Shelf
set_option linter.unusedVariables false
set_option linter.unusedSimpArgs false
set_option maxRecDepth 100000

/-- Truths in memory. -/
def BoolsIn (w : World) (A : Option Addr) (n : Nat) (l : List Bool) : Prop :=
  l.length = n ∧ (0 < n → ∃ b o, A = some ⟨b, o, none⟩ ∧ ∀ (i : Nat) (s : Bool), l[i]? = some s → w.cell? ⟨b, o + i, none⟩ = some (.bool s))
theorem BoolsIn.grow {w w' : World} {A : Option Addr} {n : Nat} {l : List Bool} (hk : Keeps [] w w') (h : BoolsIn w A n l) : BoolsIn w' A n l := by
  obtain ⟨h1, h3⟩ := h
  refine ⟨h1, fun hp => ?_⟩
  obtain ⟨b, o, e, hc⟩ := h3 hp
  exact ⟨b, o, e, fun i s hi => (hk.cell (lt_of_cell (hc i s hi)) (by simp)).trans (hc i s hi)⟩
theorem BoolsIn.of_own {w : World} {B n c : Nat} {A : Option Addr} {t : TypeId} {l : List Bool} (h : w.ownsRow B t 1 (.slice A n c) n (l.map Value.bool)) (hn : l.length = n) : BoolsIn w A n l := by
  refine ⟨hn, fun hp => ?_⟩
  rcases h.2 with ⟨_, h2⟩ | ⟨g, cap, cur, hA, hg, hh, r⟩
  · omega
  · injection hA with e1 e2 e3
    subst e1
    refine ⟨g, 0, rfl, fun i s hi => ?_⟩
    have c1 := h.cells (g := g) rfl i (Value.bool s) (by rw [List.getElem?_map, hi]; rfl)
    rw [show (⟨g, 0, none⟩ : Addr).add i = ⟨g, 0 + i, none⟩ from by unfold Addr.add; split <;> simp_all] at c1
    exact c1
theorem indexb_is (A : Option Addr) (n c : Nat) (l : List Bool) (v : Bool) (w : World) (h : BoolsIn w A n l) (hn : n ≤ 1000000) :
    Calls Tryz.prog 153 #[.slice A n c, .bool v] w fun e w' => (v ∉ l → e = .returned (.int .i64 (-1))) ∧ (v ∈ l → ∃ i : Nat, e = .returned (.int .i64 (i : Int))) ∧ w = w' := by
  have HV : Hid (BoolsIn w A n l) := h
  obtain ⟨V, hV⟩ : ∃ V : World, V = w := ⟨_, rfl⟩
  subst hV
  clear h
  go_enter Tryz.func153, Tryz.ntmps153
  go_wp2_with fail
  go_loopw [8] (fun i wr => ∃ j : Nat, i = .int .i64 (j : Int) ∧ j ≤ n ∧ Hid (v ∉ l.take j) ∧ wr = V) (fun i _ => n - (intOf i).toNat)
  case atStart => exact ⟨0, rfl, Nat.zero_le _, by simp [Hid], rfl⟩
  case round =>
    obtain ⟨j, rfl, hj, HA, rfl⟩ := hrel
    by_cases hlt : j < n
    · obtain ⟨hl, hc9⟩ := HV.out
      obtain ⟨b, o, hA9, hcc⟩ := hc9 (by omega)
      subst hA9
      obtain ⟨s, hu⟩ : ∃ s, l[j]? = some s := ⟨_, List.getElem?_eq_getElem (by omega)⟩
      have c0 := hcc j s hu
      have hmem := List.mem_of_getElem? hu
      have HM : Hid (v = s → v ∈ l) := fun e => by rw [e]; exact hmem
      have HNX : Hid (v ≠ s → v ∉ l.take (j + 1)) := fun hd => by
        rw [List.take_add_one, hu, List.mem_append]
        rintro (h9 | h9)
        · exact HA.out h9
        · simp at h9
          exact hd h9
      have hji : (j : Int) < (n : Int) := by omega
      have hj0 : 0 ≤ (j : Int) := by omega
      clear hcc hu hl hc9 hmem
      by_cases heq : v = s
      · have HM2 := Lib.hid (HM.out heq)
        subst heq
        have hvv : (v == v) = true := by simp
        go_wp2_with fail
        go_ret
        exact ⟨fun h9 => absurd HM2.out h9, fun _ => ⟨j, rfl⟩, rfl⟩
      · have HN2 := Lib.hid (HNX.out heq)
        have hvs : (v == s) = false := by simpa using heq
        cases v <;> cases s
        · exact absurd rfl heq
        · go_wp2_with fail
          go_roundw
          case rel => exact ⟨j + 1, by go_num, by omega, HN2.out, trivial⟩
          case measure => simp [intOf]; omega
        · go_wp2_with fail
          go_roundw
          case rel => exact ⟨j + 1, by go_num, by omega, HN2.out, trivial⟩
          case measure => simp [intOf]; omega
        · exact absurd rfl heq
    · obtain rfl : j = n := by omega
      have h9 := HA.out
      rw [List.take_of_length_le (by rw [HV.out.1]; exact Nat.le_refl _)] at h9
      have H9 := Lib.hid h9
      clear h9
      go_wp2_with fail
      go_ret
      exact ⟨fun _ => rfl, fun h9 => absurd h9 H9.out, rfl⟩
theorem containsb_is (A : Option Addr) (n c : Nat) (l : List Bool) (v : Bool) (w : World) (h : BoolsIn w A n l) (hn : n ≤ 1000000) :
    Calls Tryz.prog 126 #[.slice A n c, .bool v] w fun e w' => e = .returned (.bool (l.contains v)) ∧ w = w' := by
  have HI := Lib.hid (indexb_is A n c l v w h hn)
  clear h
  by_cases hm : v ∈ l
  · have hc : l.contains v = true := by simpa using hm
    rw [hc]
    go_enter Tryz.func126, Tryz.ntmps126
    go_wp2_with fail
    refine HI.out.mono ?_
    rintro e w1 ⟨_, h2, rfl⟩
    obtain ⟨i, rfl⟩ := h2 hm
    have hi : (0 : Int) ≤ (i : Int) := by omega
    clear h2 hm hc
    go_wp2_with fail
    go_ret
    exact ⟨by first | rfl | simp, rfl⟩
  · have hc : l.contains v = false := by simpa using hm
    rw [hc]
    go_enter Tryz.func126, Tryz.ntmps126
    go_wp2_with fail
    refine HI.out.mono ?_
    rintro e w1 ⟨h1, _, rfl⟩
    obtain rfl := h1 hm
    clear h1 hm hc
    go_wp2_with fail
    go_ret
    exact ⟨by first | rfl | simp, rfl⟩
/-- Does a text begin so? -/
def begP (p s : Txt) : Bool := s.take p.length == p
theorem str_to8 (T : Txt) (j : Nat) (hj : j ≤ T.length) (W : World) : (Instr.slice 9 (.string ⟨T.toArray⟩) none (some (.int .i64 (j : Int))) none).run Tryz.prog W = .ok (.string ⟨(T.take j).toArray⟩) W := by
  rw [run_slice_string_to_if W 9 ⟨T.toArray⟩ .i64 (j : Int) Tryz.underlying9, if_pos ⟨by omega, by show (j : Int) ≤ (T.length : Int); omega⟩]
  rw [show ((j : Int)).toNat = j by omega, ByteArray.extract_mk]
  rfl
theorem slprefix_is (s p : Txt) (w : World) (hs : s.length ≤ 9223372036854775807) (hp : p.length ≤ 9223372036854775807) :
    Calls Tryz.prog 96 #[tv s, tv p] w fun e w' => e = .returned (.bool (begP p s)) ∧ Keeps [] w w' := by
  obtain ⟨n, hn⟩ : ∃ n, s.length = n := ⟨_, rfl⟩
  obtain ⟨m, hm⟩ : ∃ n, p.length = n := ⟨_, rfl⟩
  have hsz : (⟨s.toArray⟩ : ByteArray).size = n := hn
  have hpz : (⟨p.toArray⟩ : ByteArray).size = m := hm
  obtain ⟨q, hq⟩ : ∃ q, begP p s = q := ⟨_, rfl⟩
  have HQ := Lib.hid hq
  have HN := Lib.hid hn
  have HM := Lib.hid hm
  rw [hq]
  rw [hn] at hs
  rw [hm] at hp
  clear hn hm hq
  unfold tv
  by_cases h : m ≤ n
  · have hi : (m : Int) ≤ (n : Int) := by omega
    have hto := str_to8 s m (by rw [HN.out]; exact h)
    have hb := tx_beq (s.take m) p q (by rw [← HQ.out]; unfold begP; rw [HM.out])
    obtain ⟨hs1, hs2, hs3⟩ := hb
    have hup : (s.take m == p) = q := by rw [← HQ.out]; unfold begP; rw [HM.out]
    generalize s.take m = u at hto hs1 hs2 hs3 hup
    go_enter Tryz.func96, Tryz.ntmps96
    go_wp2_with fail
    go_ret
    rw [← hup]
    exact ⟨rfl, Keeps.refl _ _⟩
  · have hi : ¬ (m : Int) ≤ (n : Int) := by omega
    have hq : q = false := by
      rw [← HQ.out]
      unfold begP
      rw [beq_eq_false_iff_ne]
      intro e
      have := congrArg List.length e
      rw [List.length_take, HN.out, HM.out] at this
      omega
    subst hq
    go_enter Tryz.func96, Tryz.ntmps96
    go_wp2_with fail
    go_ret
    exact ⟨rfl, Keeps.refl _ _⟩
theorem sprefix_is (s p : Txt) (w : World) (hs : s.length ≤ 9223372036854775807) (hp : p.length ≤ 9223372036854775807) :
    Calls Tryz.prog 67 #[tv s, tv p] w fun e w' => e = .returned (.bool (begP p s)) ∧ Keeps [] w w' := by
  have HC := Lib.hid (slprefix_is s p w hs hp)
  obtain ⟨q, hq⟩ : ∃ q, begP p s = q := ⟨_, rfl⟩
  rw [hq] at HC ⊢
  unfold tv at *
  clear hq
  go_enter Tryz.func67, Tryz.ntmps67
  go_wp2_with fail
  refine HC.out.mono ?_
  rintro e w1 ⟨rfl, hk1⟩
  have HK1 := Lib.hid hk1
  clear hk1
  go_wp2_with fail
  go_ret
  exact ⟨rfl, HK1.out⟩
theorem indexfv_is (g : Nat) (p : Txt → Bool) (A : Option Addr) (n c : Nat) (l : List Txt) (w : World) (hG : ∀ s ∈ l, ∀ X, Keeps [] w X → Calls Tryz.prog 129 #[tv s, .pointer (some ⟨g, 0, none⟩)] X fun e w' => e = .returned (.bool (p s)) ∧ Keeps [] X w') (h : StrsIn w A n l) (hn : n ≤ 1000000) :
    Calls Tryz.prog 154 #[.slice A n c, .func (.func 129) #[] #[.pointer (some ⟨g, 0, none⟩)]] w fun e w' =>
      (l.any p = false ∧ e = .returned (.int .i64 (-1)) ∨ l.any p = true ∧ ∃ i : Nat, e = .returned (.int .i64 (i : Int))) ∧ Keeps [] w w' := by
  have HV : Hid (StrsIn w A n l) := h
  have HG := Lib.hid hG
  clear h hG
  go_enter Tryz.func154, Tryz.ntmps154
  go_wp2_with fail
  go_loopw [8] (fun i wr => ∃ j : Nat, i = .int .i64 (j : Int) ∧ j ≤ n ∧ Hid ((l.take j).any p = false) ∧ Hid (Keeps [] w wr)) (fun i _ => n - (intOf i).toNat)
  case atStart => exact ⟨0, rfl, Nat.zero_le _, by simp [Hid], Keeps.refl _ _⟩
  case round =>
    obtain ⟨j, rfl, hj, HA, HKR⟩ := hrel
    by_cases hlt : j < n
    · obtain ⟨hl, hp, hc9⟩ := StrsIn.grow HKR.out HV.out
      obtain ⟨b, o, hA9, hcc⟩ := hc9 (by omega)
      subst hA9
      obtain ⟨s, hu⟩ : ∃ s, l[j]? = some s := ⟨_, List.getElem?_eq_getElem (by omega)⟩
      have c0 := hcc j s hu
      have HU := Lib.hid hu
      have HGS := Lib.hid (HG.out s (List.mem_of_getElem? hu) wr HKR.out)
      obtain ⟨r, hr⟩ : ∃ r, p s = r := ⟨_, rfl⟩
      rw [hr] at HGS
      have HR := Lib.hid hr
      unfold tv at c0 HGS
      have hji : (j : Int) < (n : Int) := by omega
      have hj0 : 0 ≤ (j : Int) := by omega
      clear hcc hu hp hl hc9 hr
      go_wp2_with fail
      refine HGS.out.mono ?_
      rintro e w1 ⟨rfl, hk1⟩
      have HK1 := Lib.hid (HKR.out.trans' hk1)
      clear hk1
      cases r
      · have HN2 : Hid ((l.take (j + 1)).any p = false) := by
          show _ = _
          rw [List.take_add_one, HU.out, List.any_append, HA.out]
          simp [HR.out]
        go_wp2_with fail
        go_roundw
        case rel => exact ⟨j + 1, by go_num, by omega, HN2.out, HK1.out⟩
        case measure => simp [intOf]; omega
      · go_wp2_with fail
        go_ret
        exact ⟨.inr ⟨List.any_eq_true.2 ⟨s, List.mem_of_getElem? HU.out, HR.out⟩, j, rfl⟩, HK1.out⟩
    · obtain rfl : j = n := by omega
      have h9 := HA.out
      rw [List.take_of_length_le (by rw [HV.out.1]; exact Nat.le_refl _)] at h9
      have H9 := Lib.hid h9
      clear h9
      go_wp2_with fail
      go_ret
      exact ⟨.inl ⟨H9.out, rfl⟩, HKR.out⟩
theorem containsfv_is (g : Nat) (p : Txt → Bool) (A : Option Addr) (n c : Nat) (l : List Txt) (w : World) (hG : ∀ s ∈ l, ∀ X, Keeps [] w X → Calls Tryz.prog 129 #[tv s, .pointer (some ⟨g, 0, none⟩)] X fun e w' => e = .returned (.bool (p s)) ∧ Keeps [] X w') (h : StrsIn w A n l) (hn : n ≤ 1000000) :
    Calls Tryz.prog 127 #[.slice A n c, .func (.func 129) #[] #[.pointer (some ⟨g, 0, none⟩)]] w fun e w' => e = .returned (.bool (l.any p)) ∧ Keeps [] w w' := by
  have HI := Lib.hid (indexfv_is g p A n c l w hG h hn)
  clear h hG
  obtain ⟨q, hq⟩ : ∃ q, l.any p = q := ⟨_, rfl⟩
  rw [hq] at HI ⊢
  clear hq
  go_enter Tryz.func127, Tryz.ntmps127
  go_wp2_with fail
  refine HI.out.mono ?_
  rintro e w1 ⟨⟨rfl, rfl⟩ | ⟨rfl, i, rfl⟩, hk1⟩
  · have HK1 := Lib.hid hk1
    clear hk1
    go_wp2_with fail
    go_ret
    exact ⟨by first | rfl | simp, HK1.out⟩
  · have HK1 := Lib.hid hk1
    have hi : (0 : Int) ≤ (i : Int) := by omega
    clear hk1
    go_wp2_with fail
    go_ret
    exact ⟨by first | rfl | simp, HK1.out⟩
theorem indexfb_is (g : Nat) (p : Txt → Bool) (A : Option Addr) (n c : Nat) (l : List Txt) (w : World) (hG : ∀ s ∈ l, ∀ X, Keeps [] w X → Calls Tryz.prog 130 #[tv s, .pointer (some ⟨g, 0, none⟩)] X fun e w' => e = .returned (.bool (p s)) ∧ Keeps [] X w') (h : StrsIn w A n l) (hn : n ≤ 1000000) :
    Calls Tryz.prog 154 #[.slice A n c, .func (.func 130) #[] #[.pointer (some ⟨g, 0, none⟩)]] w fun e w' =>
      (l.any p = false ∧ e = .returned (.int .i64 (-1)) ∨ l.any p = true ∧ ∃ i : Nat, e = .returned (.int .i64 (i : Int))) ∧ Keeps [] w w' := by
  have HV : Hid (StrsIn w A n l) := h
  have HG := Lib.hid hG
  clear h hG
  go_enter Tryz.func154, Tryz.ntmps154
  go_wp2_with fail
  go_loopw [8] (fun i wr => ∃ j : Nat, i = .int .i64 (j : Int) ∧ j ≤ n ∧ Hid ((l.take j).any p = false) ∧ Hid (Keeps [] w wr)) (fun i _ => n - (intOf i).toNat)
  case atStart => exact ⟨0, rfl, Nat.zero_le _, by simp [Hid], Keeps.refl _ _⟩
  case round =>
    obtain ⟨j, rfl, hj, HA, HKR⟩ := hrel
    by_cases hlt : j < n
    · obtain ⟨hl, hp, hc9⟩ := StrsIn.grow HKR.out HV.out
      obtain ⟨b, o, hA9, hcc⟩ := hc9 (by omega)
      subst hA9
      obtain ⟨s, hu⟩ : ∃ s, l[j]? = some s := ⟨_, List.getElem?_eq_getElem (by omega)⟩
      have c0 := hcc j s hu
      have HU := Lib.hid hu
      have HGS := Lib.hid (HG.out s (List.mem_of_getElem? hu) wr HKR.out)
      obtain ⟨r, hr⟩ : ∃ r, p s = r := ⟨_, rfl⟩
      rw [hr] at HGS
      have HR := Lib.hid hr
      unfold tv at c0 HGS
      have hji : (j : Int) < (n : Int) := by omega
      have hj0 : 0 ≤ (j : Int) := by omega
      clear hcc hu hp hl hc9 hr
      go_wp2_with fail
      refine HGS.out.mono ?_
      rintro e w1 ⟨rfl, hk1⟩
      have HK1 := Lib.hid (HKR.out.trans' hk1)
      clear hk1
      cases r
      · have HN2 : Hid ((l.take (j + 1)).any p = false) := by
          show _ = _
          rw [List.take_add_one, HU.out, List.any_append, HA.out]
          simp [HR.out]
        go_wp2_with fail
        go_roundw
        case rel => exact ⟨j + 1, by go_num, by omega, HN2.out, HK1.out⟩
        case measure => simp [intOf]; omega
      · go_wp2_with fail
        go_ret
        exact ⟨.inr ⟨List.any_eq_true.2 ⟨s, List.mem_of_getElem? HU.out, HR.out⟩, j, rfl⟩, HK1.out⟩
    · obtain rfl : j = n := by omega
      have h9 := HA.out
      rw [List.take_of_length_le (by rw [HV.out.1]; exact Nat.le_refl _)] at h9
      have H9 := Lib.hid h9
      clear h9
      go_wp2_with fail
      go_ret
      exact ⟨.inl ⟨H9.out, rfl⟩, HKR.out⟩
theorem containsfb_is (g : Nat) (p : Txt → Bool) (A : Option Addr) (n c : Nat) (l : List Txt) (w : World) (hG : ∀ s ∈ l, ∀ X, Keeps [] w X → Calls Tryz.prog 130 #[tv s, .pointer (some ⟨g, 0, none⟩)] X fun e w' => e = .returned (.bool (p s)) ∧ Keeps [] X w') (h : StrsIn w A n l) (hn : n ≤ 1000000) :
    Calls Tryz.prog 127 #[.slice A n c, .func (.func 130) #[] #[.pointer (some ⟨g, 0, none⟩)]] w fun e w' => e = .returned (.bool (l.any p)) ∧ Keeps [] w w' := by
  have HI := Lib.hid (indexfb_is g p A n c l w hG h hn)
  clear h hG
  obtain ⟨q, hq⟩ : ∃ q, l.any p = q := ⟨_, rfl⟩
  rw [hq] at HI ⊢
  clear hq
  go_enter Tryz.func127, Tryz.ntmps127
  go_wp2_with fail
  refine HI.out.mono ?_
  rintro e w1 ⟨⟨rfl, rfl⟩ | ⟨rfl, i, rfl⟩, hk1⟩
  · have HK1 := Lib.hid hk1
    clear hk1
    go_wp2_with fail
    go_ret
    exact ⟨by first | rfl | simp, HK1.out⟩
  · have HK1 := Lib.hid hk1
    have hi : (0 : Int) ≤ (i : Int) := by omega
    clear hk1
    go_wp2_with fail
    go_ret
    exact ⟨by first | rfl | simp, HK1.out⟩
end Go.Proofs.YtoggddoeanfjeaaGreatDoor
/- filter: the subject's Values of a Name; walked. -/
namespace Go.Proofs.YtoggddoeanfjeaaGreatDoor
open Go.RowKit Go.Shelf
set_option linter.unusedVariables false
set_option linter.unusedSimpArgs false
set_option maxRecDepth 100000

/-- A subject: an entry, and attributes that stand in the place of its own. -/
structure SubV where
  A : Option Addr
  n : Nat
  c : Nat
  B : Option Addr
  m : Nat
  d : Nat
def SubV.val (S : SubV) : Value := .agg #[.slice S.A S.n S.c, .slice S.B S.m S.d]
structure SubOk (w : World) (S : SubV) (lo lb : List At7) : Prop where
  own : EntIn w S.A S.n lo
  few : Few7 100000 lo
  beside : EntIn w S.B S.m lb
  few2 : Few7 100000 lb
theorem SubOk.grow {w w' : World} {S : SubV} {lo lb : List At7} (h : SubOk w S lo lb) (hk : Keeps [] w w') : SubOk w' S lo lb := ⟨h.own.grow hk, h.few, h.beside.grow hk, h.few2⟩
/-- The Values of a Name. -/
def valsS (own beside : List Att) (v : Txt) : List Txt := match beside.find? (fun a => a.1 == v) with
  | some a => a.2
  | none => cont2 own (smallL v)
theorem cont2_fits {w : World} {A : Option Addr} {n : Nat} {l : List At7} (h : EntIn w A n l) (k : Txt) : ∀ s ∈ cont2 (ents l) k, s.length ≤ 9223372036854775807 := by
  intro s hs
  unfold cont2 at hs
  cases hq : (ents l).find? (fun a => a.1 == k) with
  | none => rw [hq] at hs; cases hs
  | some a =>
    rw [hq] at hs
    have hm := List.mem_of_find?_eq_some hq
    unfold ents at hm
    obtain ⟨x, hx, rfl⟩ := List.mem_map.1 hm
    exact (h.2.1 x hx).2.2.2.2.1 s hs
theorem cont2_few {w : World} {A : Option Addr} {n m : Nat} {l : List At7} (h : EntIn w A n l) (hf : Few7 m l) (k : Txt) : (cont2 (ents l) k).length ≤ m := by
  unfold cont2
  cases hq : (ents l).find? (fun a => a.1 == k) with
  | none => simp
  | some a =>
    have hm := List.mem_of_find?_eq_some hq
    unfold ents at hm
    obtain ⟨x, hx, rfl⟩ := List.mem_map.1 hm
    have h1 := hf.2 x hx
    have h2 : x.vs.length = x.n := (h.2.1 x hx).2.2.2.1
    show x.vs.length ≤ m
    omega
set_option maxHeartbeats 4000000 in
theorem values8_is (S : SubV) (lo lb : List At7) (v : Txt) (w : World) (h : SubOk w S lo lb) (hv : v.length ≤ 9223372036854775807) :
    Calls Tryz.prog 128 #[S.val, tv v] w (StrQ (valsS (ents lo) (ents lb) v) w) := by
  have HG := Lib.hid (fun X (hX : Keeps [] w X) => get_is S.A S.n S.c lo v X (EntIn.grow hX h.own) h.few hv)
  have HGT := Lib.hid (cont2_fits h.own (smallL v))
  have HD := Lib.hid h.beside
  have hm9 : S.m ≤ 100000 := by rw [← h.beside.1]; exact h.few2.1
  have HF := Lib.hid h.few2
  have HEL : Hid ((ents lb).length = S.m) := by show _ = _; rw [ents_len, h.beside.1]
  obtain ⟨A, n, c, B, m, d⟩ := S
  unfold SubV.val tv at *
  dsimp only at HG HD hm9 HEL ⊢
  have HB0 := Lib.hid (heap_new8 w (.cells #[.slice A n c, .slice B m d] 64))
  have HK0 : Hid (Keeps [] w (w.alloc (.cells #[.slice A n c, .slice B m d] 64))) := (Keeps.refl [] w).alloc _
  clear h hv
  go_enter Tryz.func128, Tryz.ntmps128
  go_wp2_with fail
  go_loopw [10] (fun i wr => ∃ j : Nat, i = .int .i64 (j : Int) ∧ j ≤ m ∧ Hid (((ents lb).take j).find? (fun a => a.1 == v) = none) ∧ Hid (Keeps [] w wr) ∧ Hid (wr.heap[w.heap.size]? = some (.cells #[.slice A n c, .slice B m d] 64 (0, 0)))) (fun i _ => m - (intOf i).toNat)
  case atStart => exact ⟨0, rfl, Nat.zero_le _, by simp [Hid], HK0.out, HB0.out⟩
  case round =>
    obtain ⟨j, rfl, hj, HA, HKR, HBX⟩ := hrel
    obtain ⟨⟨z0, z1⟩, _⟩ := blk2 HBX.out
    by_cases hlt : j < m
    · obtain ⟨hl, hp, hc9⟩ := EntIn.grow HKR.out HD.out
      obtain ⟨b, o, hA9, hcc⟩ := hc9 (by omega)
      clear hc9
      subst hA9
      obtain ⟨a, hu⟩ : ∃ a, lb[j]? = some a := ⟨_, List.getElem?_eq_getElem (by omega)⟩
      obtain ⟨c0, c1⟩ := hcc j a hu
      have hfit := hp a (List.mem_of_getElem? hu)
      have hfn := HF.out.2 a (List.mem_of_getElem? hu)
      have HUE := Lib.hid (ents_at hu)
      obtain ⟨nm, aA, an, ac, avs⟩ := a
      obtain ⟨hnm, hnc, hac, hV⟩ := hfit
      dsimp only at c0 c1 hnm hV hfn hnc hac
      unfold tv at c0
      have hji : (j : Int) < (m : Int) := by omega
      have hj0 : (0 : Int) ≤ (j : Int) := by omega
      have HK4 : Hid (Keeps [] wr (wr.alloc (.cells #[.string ⟨nm.toArray⟩, .slice aA an ac] 55))) := (Keeps.refl [] wr).alloc _
      obtain ⟨⟨d0, d1⟩, _⟩ := blk2 (heap_new8 wr (.cells #[.string ⟨nm.toArray⟩, .slice aA an ac] 55))
      have HB4 := Lib.hid (blk_keep HBX.out HK4.out (by simp))
      obtain ⟨w4, hw4⟩ : ∃ w4, wr.alloc (.cells #[.string ⟨nm.toArray⟩, .slice aA an ac] 55) = w4 := ⟨_, rfl⟩
      rw [hw4] at HK4 d0 d1 HB4
      have HVI := Lib.hid (StrsIn.grow HK4.out hV)
      have HCP : Hid (an ≤ ac ∧ ac ≤ 9223372036854775807) := ⟨hnc, hac⟩
      obtain ⟨r, hr⟩ : ∃ r, (nm == v) = r := ⟨_, rfl⟩
      obtain ⟨hs1, hs2, hs3⟩ := tx_beq nm v r hr
      clear hcc hu hp hl hV hnm hnc hac hfn
      cases r
      · have HN2 := Lib.hid (find_none7 HUE.out (show nm ≠ v by simpa using hr) HA.out)
        go_wp2_with fail
        go_roundw
        case rel => exact ⟨j + 1, by go_num, by omega, HN2.out, HKR.out.trans' HK4.out, HB4.out⟩
        case measure => simp [intOf]; omega
      · have heq : nm = v := by simpa using hr
        have HF2 := Lib.hid (find_some7 HUE.out heq HA.out)
        subst heq
        clear hr hs1 hs2 hs3
        have hnn : (nm == nm) = true := by simp
        go_wp2_with fail
        go_ret
        have he : valsS (ents lo) (ents lb) nm = avs := by unfold valsS; rw [HF2.out]; rfl
        rw [he]
        exact StrQ.of HVI.out HCP.out.1 HCP.out.2 (HKR.out.trans' HK4.out)
    · obtain rfl : j = m := by omega
      have h9 := HA.out
      rw [List.take_of_length_le (by rw [HEL.out]; exact Nat.le_refl _)] at h9
      have H9 := Lib.hid h9
      clear h9
      go_wp2_with fail
      refine (HG.out _ HKR.out).mono ?_
      rintro e w5 ⟨A5, c5, rfl, ho5, hk5⟩
      have HO5 := Lib.hid ho5
      have HK5 := Lib.hid (HKR.out.trans' hk5)
      clear ho5 hk5
      go_wp2_with fail
      go_ret
      have he : valsS (ents lo) (ents lb) v = cont2 (ents lo) (smallL v) := by unfold valsS; rw [H9.out]
      rw [he]
      exact StrQ.of (StrsIn.of_own HO5.out rfl HGT.out) (own_caps HO5.out).1 (own_caps HO5.out).2 HK5.out
end Go.Proofs.YtoggddoeanfjeaaGreatDoor
