/- Texts of one proof, laid together: F11 F12 F13 F14. -/
import Derived.Test.YtbfebljahjmjfaaGreatDoorME4
import Derived.Test.YtbfebljahjmjfaaGreatDoorN3
import Derived.BigQuiet
/- filter: entry's Get, the program's and the document's (as in W21 and X6). -/
namespace Go.Proofs.YtbfebljahjmjfaaGreatDoor
open Go.RowKit Go.Shelf
set_option linter.unusedVariables false
set_option linter.unusedSimpArgs false
set_option maxRecDepth 100000

theorem StrsIn.src {w : World} {A : Option Addr} {n : Nat} {l : List Txt} (h : StrsIn w A n l) : Src w A n (l.map tv) := by
  refine ⟨fun hA => ?_, fun ad hA j u hu => ?_⟩
  · rcases Nat.eq_zero_or_pos n with h0 | h0
    · exact h0
    · obtain ⟨b, o, e, _⟩ := h.2.2 h0
      rw [hA] at e
      cases e
  · rw [List.getElem?_map] at hu
    obtain ⟨s, hs, rfl⟩ := Option.map_eq_some_iff.1 hu
    have hp : 0 < n := by have := (List.getElem?_eq_some_iff.1 hs).1; rw [h.1] at this; omega
    obtain ⟨b, o, e, hc⟩ := h.2.2 hp
    rw [hA] at e
    injection e with e
    rw [e, add_at]
    exact hc j s hs
theorem tvs_one (l : List Txt) : ∀ u ∈ l.map tv, u.oneCell' = true := by
  intro u hu
  obtain ⟨s, _, rfl⟩ := List.mem_map.1 hu
  rfl
theorem own_caps {w : World} {base n c size : Nat} {e : TypeId} {A : Option Addr} {xs : List Value} (h : w.ownsRow base e size (.slice A n c) n xs) : n ≤ c ∧ c ≤ 9223372036854775807 := by
  rcases h.2 with ⟨hv, h2⟩ | ⟨g, cap, cur, hA, hg, hh, r1, r2, r3⟩
  · injection hv with e1 e2 e3
    omega
  · injection hA with e1 e2 e3
    subst e3
    unfold maxLen at r2
    omega
theorem tvs_cells (w : World) (A : Option Addr) (n : Nat) (l : List Txt) (o : Obj) (h : StrsIn w A n l) : Src (w.alloc o) A n (l.map tv) := (StrsIn.grow ((Keeps.refl [] w).alloc o) h).src
set_option maxHeartbeats 4000000 in
theorem clones_is (A : Option Addr) (n c : Nat) (l : List Txt) (w : World) (h : StrsIn w A n l) (hn : n ≤ 1000000) :
    Calls Tryz.prog 126 #[.slice A n c] w fun e w' => ∃ A' c', e = .returned (.slice A' n c') ∧ w'.ownsRow w.heap.size 9 1 (.slice A' n c') n (l.map tv) ∧ Keeps [] w w' := by
  obtain ⟨iu, hiu, hzu0, hzu1, hzu2⟩ := info_parts str_info7
  have HS := Lib.hid h.src
  have HSR := Lib.hid (fun o => tvs_cells w A n l o h)
  have HLL : Hid (l.length = n) := h.1
  have HL : Hid ((l.map tv).length = n * 1) := by show _ = _; rw [List.length_map, h.1, Nat.mul_one]
  have hq := fun (W : World) (a : Option Addr) (n c : Nat) => Lib.run_eql_slice_nil (P := Tryz.prog) W 68 9 a n c 0 0 Tryz.underlying68
  clear h
  rcases A with _ | ad
  · have hz : n = 0 := HS.out.1 rfl
    subst hz
    have hd : l = [] := List.length_eq_zero_iff.1 HLL.out
    subst hd
    go_enter Tryz.func126, Tryz.ntmps126
    go_wp2_with fail
    go_ret
    exact ⟨_, _, rfl, World.ownsRow_nil _ _ _ _, Keeps.refl _ _⟩
  · go_enter Tryz.func126, Tryz.ntmps126
    go_wp2_with (at_builtin; refine wpList_append_opt rfl (.tmp 5) (.tmp 6) 68 rfl w.heap.size 9 iu _ 1 16 Tryz.underlying68 hiu hzu0 hzu1 hzu2 rfl (by decide) (.slice (some ⟨w.heap.size, 0, none⟩) 0 0) 0 [] rfl (World.ownsRow_made w #[] 0 (Nat.le_refl _) (by unfold maxLen; omega) rfl) (some ad) n c (l.map tv) rfl HL.out (HSR.out _) (tvs_one l) (by unfold maxLen; omega) (by omega) (by simp) ?_; intro v1 w1 ho1 hg1 hs1; obtain ⟨A1, c1, hv1⟩ := own_slice ho1; subst hv1; have HG1 := Lib.hid (Keeps.trans ((Keeps.refl [] w).alloc (.cells #[] 9)) (Keeps.of_grown (bs := [w.heap.size]) hg1 (fun x hx => .inl (by simp [Value.ownBlock] at hx; simp [hx]))) (fun y hy => .inr (by rw [List.mem_singleton.1 hy]; exact Nat.le_refl _))); have HO1 : Hid (w1.ownsRow w.heap.size 9 1 (.slice A1 (0 + n) c1) (0 + n) (l.map tv)) := (by have h9 := ho1; rw [List.nil_append] at h9; exact h9); rw [Nat.zero_add] at HO1 ⊢; clear ho1 hg1 hs1)
    go_ret
    exact ⟨_, _, rfl, HO1.out, HG1.out⟩
def cont2 (L : List Att) (k : Txt) : List Txt := ((L.find? fun a => a.1 == k).map fun a => a.2).getD []
theorem find_none7 {l : List Att} {j : Nat} {a : Att} {z : Txt} (h : l[j]? = some a) (hn : a.1 ≠ z) (hp : (l.take j).find? (fun a => a.1 == z) = none) : (l.take (j + 1)).find? (fun a => a.1 == z) = none := by
  rw [List.take_add_one, h, List.find?_append, hp]
  simp [hn]
theorem find_some7 {l : List Att} {j : Nat} {a : Att} {z : Txt} (h : l[j]? = some a) (hn : a.1 = z) (hp : (l.take j).find? (fun a => a.1 == z) = none) : l.find? (fun a => a.1 == z) = some a := by
  have h1 : (l.take (j + 1)).find? (fun a => a.1 == z) = some a := by
    rw [List.take_add_one, h, List.find?_append, hp]
    simp [hn]
  have h2 : l = l.take (j + 1) ++ l.drop (j + 1) := (List.take_append_drop _ _).symm
  rw [h2, List.find?_append, h1]
  rfl
/-- What a call answers that tells Values: in new memory. -/
def ValsQ (vs : List Txt) (w : World) (e : Ending) (w' : World) : Prop :=
  ∃ A c, e = .returned (.slice A vs.length c) ∧ w'.ownsRow w.heap.size 9 1 (.slice A vs.length c) vs.length (vs.map tv) ∧ Keeps [] w w'
set_option maxHeartbeats 4000000 in
theorem get_is (A : Option Addr) (n c : Nat) (l : List At7) (v : Txt) (w : World) (h : EntIn w A n l) (hf : Few7 100000 l) (hv : v.length ≤ 9223372036854775807) :
    Calls Tryz.prog 295 #[.slice A n c, tv v] w (ValsQ (cont2 (ents l) (smallL v)) w) := by
  have HD := Lib.hid h
  have HF := Lib.hid hf
  have hn : n ≤ 100000 := by rw [← h.1]; exact hf.1
  have HEL : Hid ((ents l).length = n) := by show _ = _; rw [ents_len, h.1]
  have HSM := Lib.hid (small_is v w hv)
  obtain ⟨z, hz⟩ : ∃ z, smallL v = z := ⟨_, rfl⟩
  rw [hz] at HSM ⊢
  unfold tv
  clear h hf hz
  go_enter Tryz.func295, Tryz.ntmps295
  go_wp2_with fail
  refine HSM.out.mono ?_
  rintro e w1 ⟨rfl, hk1⟩
  have HK1 := Lib.hid hk1
  clear hk1
  go_wp2_with fail
  go_loopw [11] (fun i wr => ∃ j : Nat, i = .int .i64 (j : Int) ∧ j ≤ n ∧ Hid (((ents l).take j).find? (fun a => a.1 == z) = none) ∧ Hid (Keeps [] w wr)) (fun i _ => n - (intOf i).toNat)
  case atStart => exact ⟨0, rfl, Nat.zero_le _, by simp [Hid], HK1.out⟩
  case round =>
    obtain ⟨j, rfl, hj, HA, HKR⟩ := hrel
    by_cases hlt : j < n
    · obtain ⟨hl, hp, hc9⟩ := EntIn.grow HKR.out HD.out
      obtain ⟨b, o, hA9, hcc⟩ := hc9 (by omega)
      clear hc9
      subst hA9
      obtain ⟨a, hu⟩ : ∃ a, l[j]? = some a := ⟨_, List.getElem?_eq_getElem (by omega)⟩
      obtain ⟨c0, c1⟩ := hcc j a hu
      have hfit := hp a (List.mem_of_getElem? hu)
      have hfn := HF.out.2 a (List.mem_of_getElem? hu)
      have HUE := Lib.hid (ents_at hu)
      obtain ⟨nm, aA, an, ac, avs⟩ := a
      obtain ⟨hnm, hnc, hac, hV⟩ := hfit
      dsimp only at c0 c1 hnm hV hfn
      unfold tv at c0
      have hji : (j : Int) < (n : Int) := by omega
      have HK4 : Hid (Keeps [] wr (wr.alloc (.cells #[.string ⟨nm.toArray⟩, .slice aA an ac] 70))) := (Keeps.refl [] wr).alloc _
      obtain ⟨⟨d0, d1⟩, _⟩ := blk2 (heap_new8 wr (.cells #[.string ⟨nm.toArray⟩, .slice aA an ac] 70))
      obtain ⟨w4, hw4⟩ : ∃ w4, wr.alloc (.cells #[.string ⟨nm.toArray⟩, .slice aA an ac] 70) = w4 := ⟨_, rfl⟩
      rw [hw4] at HK4 d0 d1
      have HCL := Lib.hid (clones_is aA an ac avs w4 (StrsIn.grow HK4.out hV) (by omega))
      have HVL : Hid (avs.length = an) := hV.1
      have HZ : Hid (wr.heap.size ≤ w4.heap.size) := HK4.out.size
      obtain ⟨r, hr⟩ : ∃ r, (nm == z) = r := ⟨_, rfl⟩
      clear hcc hu hp hl hV hnm hnc hac hfn
      cases r
      · have HN2 := Lib.hid (find_none7 HUE.out (show nm ≠ z by simpa using hr) HA.out)
        go_wp2_with fail
        go_roundw
        case rel => exact ⟨j + 1, by go_num, by omega, HN2.out, HKR.out.trans' HK4.out⟩
        case measure => simp [intOf]; omega
      · have heq : nm = z := by simpa using hr
        have HF2 := Lib.hid (find_some7 HUE.out heq HA.out)
        subst heq
        clear hr
        go_wp2_with fail
        refine HCL.out.mono ?_
        rintro e w5 ⟨A5, c5, rfl, ho5, hk5⟩
        have HO5 : Hid (w5.ownsRow w.heap.size 9 1 (.slice A5 an c5) an (avs.map tv)) := own_base7 ho5 (Nat.le_trans HKR.out.size HZ.out)
        have HK5 := Lib.hid (HKR.out.trans' (HK4.out.trans' hk5))
        clear ho5 hk5
        go_wp2_with fail
        go_ret
        have he : cont2 (ents l) nm = avs := by unfold cont2; rw [HF2.out]; rfl
        rw [he]
        unfold ValsQ
        rw [HVL.out]
        exact ⟨A5, c5, rfl, HO5.out, HK5.out⟩
    · obtain rfl : j = n := by omega
      have h9 := HA.out
      rw [List.take_of_length_le (by rw [HEL.out]; exact Nat.le_refl _)] at h9
      have H9 := Lib.hid h9
      clear h9
      go_wp2_with fail
      go_ret
      have he : cont2 (ents l) z = [] := by unfold cont2; rw [H9.out]; rfl
      rw [he]
      exact ⟨none, 0, rfl, World.ownsRow_nil _ _ _ _, HKR.out⟩
/-- What a call answers that tells texts: in memory that may be its own. -/
def StrQ (xs : List Txt) (w : World) (e : Ending) (w' : World) : Prop := ∃ A c, e = .returned (.slice A xs.length c) ∧ StrsIn w' A xs.length xs ∧ xs.length ≤ c ∧ c ≤ 9223372036854775807 ∧ Keeps [] w w'
theorem StrQ.of {w wr : World} {A : Option Addr} {m c : Nat} {xs : List Txt} (h : StrsIn wr A m xs) (h1 : m ≤ c) (h2 : c ≤ 9223372036854775807) (hk : Keeps [] w wr) : StrQ xs w (.returned (.slice A m c)) wr := by
  obtain rfl := h.1
  exact ⟨A, c, rfl, h, h1, h2, hk⟩
end Go.Proofs.YtbfebljahjmjfaaGreatDoor
/- filter: slices.Contains of truths, strings.HasPrefix, slices.ContainsFunc; walked. -/
namespace Go.Proofs.YtbfebljahjmjfaaGreatDoor
open Go.RowKit Go.Shelf
set_option linter.unusedVariables false
set_option linter.unusedSimpArgs false
set_option maxRecDepth 100000

/-- Truths in memory. -/
def BoolsIn (w : World) (A : Option Addr) (n : Nat) (l : List Bool) : Prop :=
  l.length = n ∧ (0 < n → ∃ b o, A = some ⟨b, o, none⟩ ∧ ∀ (i : Nat) (s : Bool), l[i]? = some s → w.cell? ⟨b, o + i, none⟩ = some (.bool s))
theorem BoolsIn.grow {w w' : World} {A : Option Addr} {n : Nat} {l : List Bool} (hk : Keeps [] w w') (h : BoolsIn w A n l) : BoolsIn w' A n l := by
  obtain ⟨h1, h3⟩ := h
  refine ⟨h1, fun hp => ?_⟩
  obtain ⟨b, o, e, hc⟩ := h3 hp
  exact ⟨b, o, e, fun i s hi => (hk.cell (lt_of_cell (hc i s hi)) (by simp)).trans (hc i s hi)⟩
theorem BoolsIn.of_own {w : World} {B n c : Nat} {A : Option Addr} {t : TypeId} {l : List Bool} (h : w.ownsRow B t 1 (.slice A n c) n (l.map Value.bool)) (hn : l.length = n) : BoolsIn w A n l := by
  refine ⟨hn, fun hp => ?_⟩
  rcases h.2 with ⟨_, h2⟩ | ⟨g, cap, cur, hA, hg, hh, r⟩
  · omega
  · injection hA with e1 e2 e3
    subst e1
    refine ⟨g, 0, rfl, fun i s hi => ?_⟩
    have c1 := h.cells (g := g) rfl i (Value.bool s) (by rw [List.getElem?_map, hi]; rfl)
    rw [show (⟨g, 0, none⟩ : Addr).add i = ⟨g, 0 + i, none⟩ from by unfold Addr.add; split <;> simp_all] at c1
    exact c1
theorem indexb_is (A : Option Addr) (n c : Nat) (l : List Bool) (v : Bool) (w : World) (h : BoolsIn w A n l) (hn : n ≤ 1000000) :
    Calls Tryz.prog 294 #[.slice A n c, .bool v] w fun e w' => (v ∉ l → e = .returned (.int .i64 (-1))) ∧ (v ∈ l → ∃ i : Nat, e = .returned (.int .i64 (i : Int))) ∧ w = w' := by
  have HV : Hid (BoolsIn w A n l) := h
  obtain ⟨V, hV⟩ : ∃ V : World, V = w := ⟨_, rfl⟩
  subst hV
  clear h
  go_enter Tryz.func294, Tryz.ntmps294
  go_wp2_with fail
  go_loopw [8] (fun i wr => ∃ j : Nat, i = .int .i64 (j : Int) ∧ j ≤ n ∧ Hid (v ∉ l.take j) ∧ wr = V) (fun i _ => n - (intOf i).toNat)
  case atStart => exact ⟨0, rfl, Nat.zero_le _, by simp [Hid], rfl⟩
  case round =>
    obtain ⟨j, rfl, hj, HA, rfl⟩ := hrel
    by_cases hlt : j < n
    · obtain ⟨hl, hc9⟩ := HV.out
      obtain ⟨b, o, hA9, hcc⟩ := hc9 (by omega)
      subst hA9
      obtain ⟨s, hu⟩ : ∃ s, l[j]? = some s := ⟨_, List.getElem?_eq_getElem (by omega)⟩
      have c0 := hcc j s hu
      have hmem := List.mem_of_getElem? hu
      have HM : Hid (v = s → v ∈ l) := fun e => by rw [e]; exact hmem
      have HNX : Hid (v ≠ s → v ∉ l.take (j + 1)) := fun hd => by
        rw [List.take_add_one, hu, List.mem_append]
        rintro (h9 | h9)
        · exact HA.out h9
        · simp at h9
          exact hd h9
      have hji : (j : Int) < (n : Int) := by omega
      have hj0 : 0 ≤ (j : Int) := by omega
      clear hcc hu hl hc9 hmem
      by_cases heq : v = s
      · have HM2 := Lib.hid (HM.out heq)
        subst heq
        have hvv : (v == v) = true := by simp
        go_wp2_with fail
        go_ret
        exact ⟨fun h9 => absurd HM2.out h9, fun _ => ⟨j, rfl⟩, rfl⟩
      · have HN2 := Lib.hid (HNX.out heq)
        have hvs : (v == s) = false := by simpa using heq
        cases v <;> cases s
        · exact absurd rfl heq
        · go_wp2_with fail
          go_roundw
          case rel => exact ⟨j + 1, by go_num, by omega, HN2.out, trivial⟩
          case measure => simp [intOf]; omega
        · go_wp2_with fail
          go_roundw
          case rel => exact ⟨j + 1, by go_num, by omega, HN2.out, trivial⟩
          case measure => simp [intOf]; omega
        · exact absurd rfl heq
    · obtain rfl : j = n := by omega
      have h9 := HA.out
      rw [List.take_of_length_le (by rw [HV.out.1]; exact Nat.le_refl _)] at h9
      have H9 := Lib.hid h9
      clear h9
      go_wp2_with fail
      go_ret
      exact ⟨fun _ => rfl, fun h9 => absurd h9 H9.out, rfl⟩
theorem containsb_is (A : Option Addr) (n c : Nat) (l : List Bool) (v : Bool) (w : World) (h : BoolsIn w A n l) (hn : n ≤ 1000000) :
    Calls Tryz.prog 255 #[.slice A n c, .bool v] w fun e w' => e = .returned (.bool (l.contains v)) ∧ w = w' := by
  have HI := Lib.hid (indexb_is A n c l v w h hn)
  clear h
  by_cases hm : v ∈ l
  · have hc : l.contains v = true := by simpa using hm
    rw [hc]
    go_enter Tryz.func255, Tryz.ntmps255
    go_wp2_with fail
    refine HI.out.mono ?_
    rintro e w1 ⟨_, h2, rfl⟩
    obtain ⟨i, rfl⟩ := h2 hm
    have hi : (0 : Int) ≤ (i : Int) := by omega
    clear h2 hm hc
    go_wp2_with fail
    go_ret
    exact ⟨by first | rfl | simp, rfl⟩
  · have hc : l.contains v = false := by simpa using hm
    rw [hc]
    go_enter Tryz.func255, Tryz.ntmps255
    go_wp2_with fail
    refine HI.out.mono ?_
    rintro e w1 ⟨h1, _, rfl⟩
    obtain rfl := h1 hm
    clear h1 hm hc
    go_wp2_with fail
    go_ret
    exact ⟨by first | rfl | simp, rfl⟩
/-- Does a text begin so? -/
def begP (p s : Txt) : Bool := s.take p.length == p
theorem str_to8 (T : Txt) (j : Nat) (hj : j ≤ T.length) (W : World) : (Instr.slice 9 (.string ⟨T.toArray⟩) none (some (.int .i64 (j : Int))) none).run Tryz.prog W = .ok (.string ⟨(T.take j).toArray⟩) W := by
  rw [run_slice_string_to_if W 9 ⟨T.toArray⟩ .i64 (j : Int) Tryz.underlying9, if_pos ⟨by omega, by show (j : Int) ≤ (T.length : Int); omega⟩]
  rw [show ((j : Int)).toNat = j by omega, ByteArray.extract_mk]
  rfl
theorem slprefix_is (s p : Txt) (w : World) (hs : s.length ≤ 9223372036854775807) (hp : p.length ≤ 9223372036854775807) :
    Calls Tryz.prog 138 #[tv s, tv p] w fun e w' => e = .returned (.bool (begP p s)) ∧ Keeps [] w w' := by
  obtain ⟨n, hn⟩ : ∃ n, s.length = n := ⟨_, rfl⟩
  obtain ⟨m, hm⟩ : ∃ n, p.length = n := ⟨_, rfl⟩
  have hsz : (⟨s.toArray⟩ : ByteArray).size = n := hn
  have hpz : (⟨p.toArray⟩ : ByteArray).size = m := hm
  obtain ⟨q, hq⟩ : ∃ q, begP p s = q := ⟨_, rfl⟩
  have HQ := Lib.hid hq
  have HN := Lib.hid hn
  have HM := Lib.hid hm
  rw [hq]
  rw [hn] at hs
  rw [hm] at hp
  clear hn hm hq
  unfold tv
  by_cases h : m ≤ n
  · have hi : (m : Int) ≤ (n : Int) := by omega
    have hto := str_to8 s m (by rw [HN.out]; exact h)
    have hb := tx_beq (s.take m) p q (by rw [← HQ.out]; unfold begP; rw [HM.out])
    obtain ⟨hs1, hs2, hs3⟩ := hb
    have hup : (s.take m == p) = q := by rw [← HQ.out]; unfold begP; rw [HM.out]
    generalize s.take m = u at hto hs1 hs2 hs3 hup
    go_enter Tryz.func138, Tryz.ntmps138
    go_wp2_with fail
    go_ret
    rw [← hup]
    exact ⟨rfl, Keeps.refl _ _⟩
  · have hi : ¬ (m : Int) ≤ (n : Int) := by omega
    have hq : q = false := by
      rw [← HQ.out]
      unfold begP
      rw [beq_eq_false_iff_ne]
      intro e
      have := congrArg List.length e
      rw [List.length_take, HN.out, HM.out] at this
      omega
    subst hq
    go_enter Tryz.func138, Tryz.ntmps138
    go_wp2_with fail
    go_ret
    exact ⟨rfl, Keeps.refl _ _⟩
theorem sprefix_is (s p : Txt) (w : World) (hs : s.length ≤ 9223372036854775807) (hp : p.length ≤ 9223372036854775807) :
    Calls Tryz.prog 84 #[tv s, tv p] w fun e w' => e = .returned (.bool (begP p s)) ∧ Keeps [] w w' := by
  have HC := Lib.hid (slprefix_is s p w hs hp)
  obtain ⟨q, hq⟩ : ∃ q, begP p s = q := ⟨_, rfl⟩
  rw [hq] at HC ⊢
  unfold tv at *
  clear hq
  go_enter Tryz.func84, Tryz.ntmps84
  go_wp2_with fail
  refine HC.out.mono ?_
  rintro e w1 ⟨rfl, hk1⟩
  have HK1 := Lib.hid hk1
  clear hk1
  go_wp2_with fail
  go_ret
  exact ⟨rfl, HK1.out⟩
theorem indexfv_is (g : Nat) (p : Txt → Bool) (A : Option Addr) (n c : Nat) (l : List Txt) (w : World) (hG : ∀ s ∈ l, ∀ X, Keeps [] w X → Calls Tryz.prog 257 #[tv s, .pointer (some ⟨g, 0, none⟩)] X fun e w' => e = .returned (.bool (p s)) ∧ Keeps [] X w') (h : StrsIn w A n l) (hn : n ≤ 1000000) :
    Calls Tryz.prog 267 #[.slice A n c, .func (.func 257) #[] #[.pointer (some ⟨g, 0, none⟩)]] w fun e w' =>
      (l.any p = false ∧ e = .returned (.int .i64 (-1)) ∨ l.any p = true ∧ ∃ i : Nat, e = .returned (.int .i64 (i : Int))) ∧ Keeps [] w w' := by
  have HV : Hid (StrsIn w A n l) := h
  have HG := Lib.hid hG
  clear h hG
  go_enter Tryz.func267, Tryz.ntmps267
  go_wp2_with fail
  go_loopw [8] (fun i wr => ∃ j : Nat, i = .int .i64 (j : Int) ∧ j ≤ n ∧ Hid ((l.take j).any p = false) ∧ Hid (Keeps [] w wr)) (fun i _ => n - (intOf i).toNat)
  case atStart => exact ⟨0, rfl, Nat.zero_le _, by simp [Hid], Keeps.refl _ _⟩
  case round =>
    obtain ⟨j, rfl, hj, HA, HKR⟩ := hrel
    by_cases hlt : j < n
    · obtain ⟨hl, hp, hc9⟩ := StrsIn.grow HKR.out HV.out
      obtain ⟨b, o, hA9, hcc⟩ := hc9 (by omega)
      subst hA9
      obtain ⟨s, hu⟩ : ∃ s, l[j]? = some s := ⟨_, List.getElem?_eq_getElem (by omega)⟩
      have c0 := hcc j s hu
      have HU := Lib.hid hu
      have HGS := Lib.hid (HG.out s (List.mem_of_getElem? hu) wr HKR.out)
      obtain ⟨r, hr⟩ : ∃ r, p s = r := ⟨_, rfl⟩
      rw [hr] at HGS
      have HR := Lib.hid hr
      unfold tv at c0 HGS
      have hji : (j : Int) < (n : Int) := by omega
      have hj0 : 0 ≤ (j : Int) := by omega
      clear hcc hu hp hl hc9 hr
      go_wp2_with fail
      refine HGS.out.mono ?_
      rintro e w1 ⟨rfl, hk1⟩
      have HK1 := Lib.hid (HKR.out.trans' hk1)
      clear hk1
      cases r
      · have HN2 : Hid ((l.take (j + 1)).any p = false) := by
          show _ = _
          rw [List.take_add_one, HU.out, List.any_append, HA.out]
          simp [HR.out]
        go_wp2_with fail
        go_roundw
        case rel => exact ⟨j + 1, by go_num, by omega, HN2.out, HK1.out⟩
        case measure => simp [intOf]; omega
      · go_wp2_with fail
        go_ret
        exact ⟨.inr ⟨List.any_eq_true.2 ⟨s, List.mem_of_getElem? HU.out, HR.out⟩, j, rfl⟩, HK1.out⟩
    · obtain rfl : j = n := by omega
      have h9 := HA.out
      rw [List.take_of_length_le (by rw [HV.out.1]; exact Nat.le_refl _)] at h9
      have H9 := Lib.hid h9
      clear h9
      go_wp2_with fail
      go_ret
      exact ⟨.inl ⟨H9.out, rfl⟩, HKR.out⟩
theorem containsfv_is (g : Nat) (p : Txt → Bool) (A : Option Addr) (n c : Nat) (l : List Txt) (w : World) (hG : ∀ s ∈ l, ∀ X, Keeps [] w X → Calls Tryz.prog 257 #[tv s, .pointer (some ⟨g, 0, none⟩)] X fun e w' => e = .returned (.bool (p s)) ∧ Keeps [] X w') (h : StrsIn w A n l) (hn : n ≤ 1000000) :
    Calls Tryz.prog 213 #[.slice A n c, .func (.func 257) #[] #[.pointer (some ⟨g, 0, none⟩)]] w fun e w' => e = .returned (.bool (l.any p)) ∧ Keeps [] w w' := by
  have HI := Lib.hid (indexfv_is g p A n c l w hG h hn)
  clear h hG
  obtain ⟨q, hq⟩ : ∃ q, l.any p = q := ⟨_, rfl⟩
  rw [hq] at HI ⊢
  clear hq
  go_enter Tryz.func213, Tryz.ntmps213
  go_wp2_with fail
  refine HI.out.mono ?_
  rintro e w1 ⟨⟨rfl, rfl⟩ | ⟨rfl, i, rfl⟩, hk1⟩
  · have HK1 := Lib.hid hk1
    clear hk1
    go_wp2_with fail
    go_ret
    exact ⟨by first | rfl | simp, HK1.out⟩
  · have HK1 := Lib.hid hk1
    have hi : (0 : Int) ≤ (i : Int) := by omega
    clear hk1
    go_wp2_with fail
    go_ret
    exact ⟨by first | rfl | simp, HK1.out⟩
theorem indexfb_is (g : Nat) (p : Txt → Bool) (A : Option Addr) (n c : Nat) (l : List Txt) (w : World) (hG : ∀ s ∈ l, ∀ X, Keeps [] w X → Calls Tryz.prog 258 #[tv s, .pointer (some ⟨g, 0, none⟩)] X fun e w' => e = .returned (.bool (p s)) ∧ Keeps [] X w') (h : StrsIn w A n l) (hn : n ≤ 1000000) :
    Calls Tryz.prog 267 #[.slice A n c, .func (.func 258) #[] #[.pointer (some ⟨g, 0, none⟩)]] w fun e w' =>
      (l.any p = false ∧ e = .returned (.int .i64 (-1)) ∨ l.any p = true ∧ ∃ i : Nat, e = .returned (.int .i64 (i : Int))) ∧ Keeps [] w w' := by
  have HV : Hid (StrsIn w A n l) := h
  have HG := Lib.hid hG
  clear h hG
  go_enter Tryz.func267, Tryz.ntmps267
  go_wp2_with fail
  go_loopw [8] (fun i wr => ∃ j : Nat, i = .int .i64 (j : Int) ∧ j ≤ n ∧ Hid ((l.take j).any p = false) ∧ Hid (Keeps [] w wr)) (fun i _ => n - (intOf i).toNat)
  case atStart => exact ⟨0, rfl, Nat.zero_le _, by simp [Hid], Keeps.refl _ _⟩
  case round =>
    obtain ⟨j, rfl, hj, HA, HKR⟩ := hrel
    by_cases hlt : j < n
    · obtain ⟨hl, hp, hc9⟩ := StrsIn.grow HKR.out HV.out
      obtain ⟨b, o, hA9, hcc⟩ := hc9 (by omega)
      subst hA9
      obtain ⟨s, hu⟩ : ∃ s, l[j]? = some s := ⟨_, List.getElem?_eq_getElem (by omega)⟩
      have c0 := hcc j s hu
      have HU := Lib.hid hu
      have HGS := Lib.hid (HG.out s (List.mem_of_getElem? hu) wr HKR.out)
      obtain ⟨r, hr⟩ : ∃ r, p s = r := ⟨_, rfl⟩
      rw [hr] at HGS
      have HR := Lib.hid hr
      unfold tv at c0 HGS
      have hji : (j : Int) < (n : Int) := by omega
      have hj0 : 0 ≤ (j : Int) := by omega
      clear hcc hu hp hl hc9 hr
      go_wp2_with fail
      refine HGS.out.mono ?_
      rintro e w1 ⟨rfl, hk1⟩
      have HK1 := Lib.hid (HKR.out.trans' hk1)
      clear hk1
      cases r
      · have HN2 : Hid ((l.take (j + 1)).any p = false) := by
          show _ = _
          rw [List.take_add_one, HU.out, List.any_append, HA.out]
          simp [HR.out]
        go_wp2_with fail
        go_roundw
        case rel => exact ⟨j + 1, by go_num, by omega, HN2.out, HK1.out⟩
        case measure => simp [intOf]; omega
      · go_wp2_with fail
        go_ret
        exact ⟨.inr ⟨List.any_eq_true.2 ⟨s, List.mem_of_getElem? HU.out, HR.out⟩, j, rfl⟩, HK1.out⟩
    · obtain rfl : j = n := by omega
      have h9 := HA.out
      rw [List.take_of_length_le (by rw [HV.out.1]; exact Nat.le_refl _)] at h9
      have H9 := Lib.hid h9
      clear h9
      go_wp2_with fail
      go_ret
      exact ⟨.inl ⟨H9.out, rfl⟩, HKR.out⟩
theorem containsfb_is (g : Nat) (p : Txt → Bool) (A : Option Addr) (n c : Nat) (l : List Txt) (w : World) (hG : ∀ s ∈ l, ∀ X, Keeps [] w X → Calls Tryz.prog 258 #[tv s, .pointer (some ⟨g, 0, none⟩)] X fun e w' => e = .returned (.bool (p s)) ∧ Keeps [] X w') (h : StrsIn w A n l) (hn : n ≤ 1000000) :
    Calls Tryz.prog 213 #[.slice A n c, .func (.func 258) #[] #[.pointer (some ⟨g, 0, none⟩)]] w fun e w' => e = .returned (.bool (l.any p)) ∧ Keeps [] w w' := by
  have HI := Lib.hid (indexfb_is g p A n c l w hG h hn)
  clear h hG
  obtain ⟨q, hq⟩ : ∃ q, l.any p = q := ⟨_, rfl⟩
  rw [hq] at HI ⊢
  clear hq
  go_enter Tryz.func213, Tryz.ntmps213
  go_wp2_with fail
  refine HI.out.mono ?_
  rintro e w1 ⟨⟨rfl, rfl⟩ | ⟨rfl, i, rfl⟩, hk1⟩
  · have HK1 := Lib.hid hk1
    clear hk1
    go_wp2_with fail
    go_ret
    exact ⟨by first | rfl | simp, HK1.out⟩
  · have HK1 := Lib.hid hk1
    have hi : (0 : Int) ≤ (i : Int) := by omega
    clear hk1
    go_wp2_with fail
    go_ret
    exact ⟨by first | rfl | simp, HK1.out⟩
end Go.Proofs.YtbfebljahjmjfaaGreatDoor
/- filter: the subject's Values of a Name; walked. -/
namespace Go.Proofs.YtbfebljahjmjfaaGreatDoor
open Go.RowKit Go.Shelf
set_option linter.unusedVariables false
set_option linter.unusedSimpArgs false
set_option maxRecDepth 100000

/-- A subject: an entry, and attributes that stand in the place of its own. -/
structure SubV where
  A : Option Addr
  n : Nat
  c : Nat
  B : Option Addr
  m : Nat
  d : Nat
def SubV.val (S : SubV) : Value := .agg #[.slice S.A S.n S.c, .slice S.B S.m S.d]
structure SubOk (w : World) (S : SubV) (lo lb : List At7) : Prop where
  own : EntIn w S.A S.n lo
  few : Few7 100000 lo
  beside : EntIn w S.B S.m lb
  few2 : Few7 100000 lb
theorem SubOk.grow {w w' : World} {S : SubV} {lo lb : List At7} (h : SubOk w S lo lb) (hk : Keeps [] w w') : SubOk w' S lo lb := ⟨h.own.grow hk, h.few, h.beside.grow hk, h.few2⟩
/-- The Values of a Name. -/
def valsS (own beside : List Att) (v : Txt) : List Txt := match beside.find? (fun a => a.1 == v) with
  | some a => a.2
  | none => cont2 own (smallL v)
theorem cont2_fits {w : World} {A : Option Addr} {n : Nat} {l : List At7} (h : EntIn w A n l) (k : Txt) : ∀ s ∈ cont2 (ents l) k, s.length ≤ 9223372036854775807 := by
  intro s hs
  unfold cont2 at hs
  cases hq : (ents l).find? (fun a => a.1 == k) with
  | none => rw [hq] at hs; cases hs
  | some a =>
    rw [hq] at hs
    have hm := List.mem_of_find?_eq_some hq
    unfold ents at hm
    obtain ⟨x, hx, rfl⟩ := List.mem_map.1 hm
    exact (h.2.1 x hx).2.2.2.2.1 s hs
theorem cont2_few {w : World} {A : Option Addr} {n m : Nat} {l : List At7} (h : EntIn w A n l) (hf : Few7 m l) (k : Txt) : (cont2 (ents l) k).length ≤ m := by
  unfold cont2
  cases hq : (ents l).find? (fun a => a.1 == k) with
  | none => simp
  | some a =>
    have hm := List.mem_of_find?_eq_some hq
    unfold ents at hm
    obtain ⟨x, hx, rfl⟩ := List.mem_map.1 hm
    have h1 := hf.2 x hx
    have h2 : x.vs.length = x.n := (h.2.1 x hx).2.2.2.1
    show x.vs.length ≤ m
    omega
set_option maxHeartbeats 4000000 in
theorem values8_is (S : SubV) (lo lb : List At7) (v : Txt) (w : World) (h : SubOk w S lo lb) (hv : v.length ≤ 9223372036854775807) :
    Calls Tryz.prog 256 #[S.val, tv v] w (StrQ (valsS (ents lo) (ents lb) v) w) := by
  have HG := Lib.hid (fun X (hX : Keeps [] w X) => get_is S.A S.n S.c lo v X (EntIn.grow hX h.own) h.few hv)
  have HGT := Lib.hid (cont2_fits h.own (smallL v))
  have HD := Lib.hid h.beside
  have hm9 : S.m ≤ 100000 := by rw [← h.beside.1]; exact h.few2.1
  have HF := Lib.hid h.few2
  have HEL : Hid ((ents lb).length = S.m) := by show _ = _; rw [ents_len, h.beside.1]
  obtain ⟨A, n, c, B, m, d⟩ := S
  unfold SubV.val tv at *
  dsimp only at HG HD hm9 HEL ⊢
  have HB0 := Lib.hid (heap_new8 w (.cells #[.slice A n c, .slice B m d] 110))
  have HK0 : Hid (Keeps [] w (w.alloc (.cells #[.slice A n c, .slice B m d] 110))) := (Keeps.refl [] w).alloc _
  clear h hv
  go_enter Tryz.func256, Tryz.ntmps256
  go_wp2_with fail
  go_loopw [10] (fun i wr => ∃ j : Nat, i = .int .i64 (j : Int) ∧ j ≤ m ∧ Hid (((ents lb).take j).find? (fun a => a.1 == v) = none) ∧ Hid (Keeps [] w wr) ∧ Hid (wr.heap[w.heap.size]? = some (.cells #[.slice A n c, .slice B m d] 110 (0, 0)))) (fun i _ => m - (intOf i).toNat)
  case atStart => exact ⟨0, rfl, Nat.zero_le _, by simp [Hid], HK0.out, HB0.out⟩
  case round =>
    obtain ⟨j, rfl, hj, HA, HKR, HBX⟩ := hrel
    obtain ⟨⟨z0, z1⟩, _⟩ := blk2 HBX.out
    by_cases hlt : j < m
    · obtain ⟨hl, hp, hc9⟩ := EntIn.grow HKR.out HD.out
      obtain ⟨b, o, hA9, hcc⟩ := hc9 (by omega)
      clear hc9
      subst hA9
      obtain ⟨a, hu⟩ : ∃ a, lb[j]? = some a := ⟨_, List.getElem?_eq_getElem (by omega)⟩
      obtain ⟨c0, c1⟩ := hcc j a hu
      have hfit := hp a (List.mem_of_getElem? hu)
      have hfn := HF.out.2 a (List.mem_of_getElem? hu)
      have HUE := Lib.hid (ents_at hu)
      obtain ⟨nm, aA, an, ac, avs⟩ := a
      obtain ⟨hnm, hnc, hac, hV⟩ := hfit
      dsimp only at c0 c1 hnm hV hfn hnc hac
      unfold tv at c0
      have hji : (j : Int) < (m : Int) := by omega
      have hj0 : (0 : Int) ≤ (j : Int) := by omega
      have HK4 : Hid (Keeps [] wr (wr.alloc (.cells #[.string ⟨nm.toArray⟩, .slice aA an ac] 70))) := (Keeps.refl [] wr).alloc _
      obtain ⟨⟨d0, d1⟩, _⟩ := blk2 (heap_new8 wr (.cells #[.string ⟨nm.toArray⟩, .slice aA an ac] 70))
      have HB4 := Lib.hid (blk_keep HBX.out HK4.out (by simp))
      obtain ⟨w4, hw4⟩ : ∃ w4, wr.alloc (.cells #[.string ⟨nm.toArray⟩, .slice aA an ac] 70) = w4 := ⟨_, rfl⟩
      rw [hw4] at HK4 d0 d1 HB4
      have HVI := Lib.hid (StrsIn.grow HK4.out hV)
      have HCP : Hid (an ≤ ac ∧ ac ≤ 9223372036854775807) := ⟨hnc, hac⟩
      obtain ⟨r, hr⟩ : ∃ r, (nm == v) = r := ⟨_, rfl⟩
      obtain ⟨hs1, hs2, hs3⟩ := tx_beq nm v r hr
      clear hcc hu hp hl hV hnm hnc hac hfn
      cases r
      · have HN2 := Lib.hid (find_none7 HUE.out (show nm ≠ v by simpa using hr) HA.out)
        go_wp2_with fail
        go_roundw
        case rel => exact ⟨j + 1, by go_num, by omega, HN2.out, HKR.out.trans' HK4.out, HB4.out⟩
        case measure => simp [intOf]; omega
      · have heq : nm = v := by simpa using hr
        have HF2 := Lib.hid (find_some7 HUE.out heq HA.out)
        subst heq
        clear hr hs1 hs2 hs3
        have hnn : (nm == nm) = true := by simp
        go_wp2_with fail
        go_ret
        have he : valsS (ents lo) (ents lb) nm = avs := by unfold valsS; rw [HF2.out]; rfl
        rw [he]
        exact StrQ.of HVI.out HCP.out.1 HCP.out.2 (HKR.out.trans' HK4.out)
    · obtain rfl : j = m := by omega
      have h9 := HA.out
      rw [List.take_of_length_le (by rw [HEL.out]; exact Nat.le_refl _)] at h9
      have H9 := Lib.hid h9
      clear h9
      go_wp2_with fail
      refine (HG.out _ HKR.out).mono ?_
      rintro e w5 ⟨A5, c5, rfl, ho5, hk5⟩
      have HO5 := Lib.hid ho5
      have HK5 := Lib.hid (HKR.out.trans' hk5)
      clear ho5 hk5
      go_wp2_with fail
      go_ret
      have he : valsS (ents lo) (ents lb) v = cont2 (ents lo) (smallL v) := by unfold valsS; rw [H9.out]
      rw [he]
      exact StrQ.of (StrsIn.of_own HO5.out rfl HGT.out) (own_caps HO5.out).1 (own_caps HO5.out).2 HK5.out
end Go.Proofs.YtbfebljahjmjfaaGreatDoor
/- filter: what each Kind means; walked. -/
namespace Go.Proofs.YtbfebljahjmjfaaGreatDoor
open Go.RowKit Go.Shelf
set_option linter.unusedVariables false
set_option linter.unusedSimpArgs false
set_option maxRecDepth 100000

theorem valsS_fits {w : World} {S : SubV} {lo lb : List At7} (h : SubOk w S lo lb) (v : Txt) : (∀ s ∈ valsS (ents lo) (ents lb) v, s.length ≤ 9223372036854775807) ∧ (valsS (ents lo) (ents lb) v).length ≤ 100000 := by
  unfold valsS
  cases hq : (ents lb).find? (fun a => a.1 == v) with
  | none => exact ⟨cont2_fits h.own _, cont2_few h.own h.few _⟩
  | some a =>
    have hm := List.mem_of_find?_eq_some hq
    unfold ents at hm
    obtain ⟨x, hx, rfl⟩ := List.mem_map.1 hm
    have h2 : x.vs.length = x.n := (h.beside.2.1 x hx).2.2.2.1
    have h1 := h.few2.2 x hx
    exact ⟨(h.beside.2.1 x hx).2.2.2.2.1, by show x.vs.length ≤ _; omega⟩
/-- What a filter means, from what those in its Of mean. -/
def meanK (own beside : List Att) (k : Int) (s v : Txt) (of : List Bool) : Bool :=
  if k = 1 then !of.contains false else if k = 2 then of.contains true else if k = 3 then !(of.head?.getD false) else
  if k = 4 then (valsS own beside s).any (fun x => smallL x == smallL v) else if k = 5 then (valsS own beside s).any (fun x => begP (smallL v) (smallL x)) else decide (0 < (valsS own beside s).length)
theorem results_cell1 {P : Program} {fn : Func} {p : Tmp} {t1 : TypeId} (h : fn.results = #[.cell p t1]) (tmps : Array Value) (w : World) {a : Nat} {u : Value}
    (ha : tmps.getD p undef = .pointer (some ⟨a, 0, none⟩)) (h1 : (loadVar t1 ⟨a, 0, none⟩).run P w = .ok u w) : (results fn tmps).run P w = .ok u w := by
  have ha' : tmps[p]?.getD undef = .pointer (some ⟨a, 0, none⟩) := by simpa using ha
  simp [results, h, ha', asAddr, h1]
theorem meanings_is (w : World) : Calls Tryz.prog 129 #[] w fun e w' => e = .returned (.agg #[.nilFunc, .func (.func 193) #[] #[], .func (.func 194) #[] #[], .func (.func 195) #[] #[], .func (.func 196) #[] #[], .func (.func 197) #[] #[], .func (.func 198) #[] #[]]) ∧ Keeps [] w w' := by
  go_enter Tryz.func129, Tryz.ntmps129
  go_wp2_with fail
  refine bodyPost_ret (results_cell1 rfl _ _ rfl (run_loadVar_row _ _ _ _ _ (0, 0) _ (heap_new8 w _) Tryz.underlying164 rfl (by kernel_rfl))) rfl ?_
  exact ⟨rfl, (Keeps.refl [] w).alloc _⟩
set_option maxHeartbeats 4000000 in
theorem byall_is (S : SubV) (h : FH) (A : Option Addr) (n c : Nat) (of : List Bool) (lo lb : List At7) (w : World) (hS : SubOk w S lo lb) (hs : h.s.length ≤ 9223372036854775807) (hv : h.v.length ≤ 9223372036854775807) (hof : BoolsIn w A n of) (hn : n ≤ 1000000) :
    Calls Tryz.prog 193 #[S.val, h.val, .slice A n c] w fun e w' => e = .returned (.bool (!of.contains false)) ∧ Keeps [] w w' := by
  obtain ⟨k, B, m, d, s, v⟩ := h
  dsimp only at hs hv
  obtain ⟨SA, Sn, Sc, SB, Sm, Sd⟩ := S
  have b1 := heap_new8 w (.cells #[.slice SA Sn Sc, .slice SB Sm Sd] 110)
  have k1 : Keeps [] w (w.alloc (.cells #[.slice SA Sn Sc, .slice SB Sm Sd] 110)) := (Keeps.refl [] w).alloc _
  have k2 : Keeps [] (w.alloc (.cells #[.slice SA Sn Sc, .slice SB Sm Sd] 110)) ((w.alloc (.cells #[.slice SA Sn Sc, .slice SB Sm Sd] 110)).alloc (.cells #[.int .i64 k, .slice B m d, .string ⟨s.toArray⟩, .string ⟨v.toArray⟩] 26)) := (Keeps.refl [] _).alloc _
  have b2 := heap_new8 (w.alloc (.cells #[.slice SA Sn Sc, .slice SB Sm Sd] 110)) (.cells #[.int .i64 k, .slice B m d, .string ⟨s.toArray⟩, .string ⟨v.toArray⟩] 26)
  rw [World.size_alloc] at b2
  have HB1 := Lib.hid (blk_keep b1 k2 (by simp))
  have HB2 := Lib.hid b2
  have HKB := Lib.hid (k1.trans' k2)
  clear b1 b2 k1 k2
  have HC := Lib.hid (containsb_is A n c of false ((w.alloc (.cells #[.slice SA Sn Sc, .slice SB Sm Sd] 110)).alloc (.cells #[.int .i64 k, .slice B m d, .string ⟨s.toArray⟩, .string ⟨v.toArray⟩] 26)) (BoolsIn.grow HKB.out hof) hn)
  obtain ⟨q, hq⟩ : ∃ q, of.contains false = q := ⟨_, rfl⟩
  rw [hq] at HC ⊢
  unfold SubV.val FH.val tv
  dsimp only
  clear hq hS hof
  go_enter Tryz.func193, Tryz.ntmps193
  go_wp2_with fail
  refine HC.out.mono ?_
  rintro e w1 ⟨rfl, rfl⟩
  go_wp2_with fail
  go_ret
  exact ⟨rfl, HKB.out⟩
set_option maxHeartbeats 4000000 in
theorem byone_is (S : SubV) (h : FH) (A : Option Addr) (n c : Nat) (of : List Bool) (lo lb : List At7) (w : World) (hS : SubOk w S lo lb) (hs : h.s.length ≤ 9223372036854775807) (hv : h.v.length ≤ 9223372036854775807) (hof : BoolsIn w A n of) (hn : n ≤ 1000000) :
    Calls Tryz.prog 194 #[S.val, h.val, .slice A n c] w fun e w' => e = .returned (.bool (of.contains true)) ∧ Keeps [] w w' := by
  obtain ⟨k, B, m, d, s, v⟩ := h
  dsimp only at hs hv
  obtain ⟨SA, Sn, Sc, SB, Sm, Sd⟩ := S
  have b1 := heap_new8 w (.cells #[.slice SA Sn Sc, .slice SB Sm Sd] 110)
  have k1 : Keeps [] w (w.alloc (.cells #[.slice SA Sn Sc, .slice SB Sm Sd] 110)) := (Keeps.refl [] w).alloc _
  have k2 : Keeps [] (w.alloc (.cells #[.slice SA Sn Sc, .slice SB Sm Sd] 110)) ((w.alloc (.cells #[.slice SA Sn Sc, .slice SB Sm Sd] 110)).alloc (.cells #[.int .i64 k, .slice B m d, .string ⟨s.toArray⟩, .string ⟨v.toArray⟩] 26)) := (Keeps.refl [] _).alloc _
  have b2 := heap_new8 (w.alloc (.cells #[.slice SA Sn Sc, .slice SB Sm Sd] 110)) (.cells #[.int .i64 k, .slice B m d, .string ⟨s.toArray⟩, .string ⟨v.toArray⟩] 26)
  rw [World.size_alloc] at b2
  have HB1 := Lib.hid (blk_keep b1 k2 (by simp))
  have HB2 := Lib.hid b2
  have HKB := Lib.hid (k1.trans' k2)
  clear b1 b2 k1 k2
  have HC := Lib.hid (containsb_is A n c of true ((w.alloc (.cells #[.slice SA Sn Sc, .slice SB Sm Sd] 110)).alloc (.cells #[.int .i64 k, .slice B m d, .string ⟨s.toArray⟩, .string ⟨v.toArray⟩] 26)) (BoolsIn.grow HKB.out hof) hn)
  obtain ⟨q, hq⟩ : ∃ q, of.contains true = q := ⟨_, rfl⟩
  rw [hq] at HC ⊢
  unfold SubV.val FH.val tv
  dsimp only
  clear hq hS hof
  go_enter Tryz.func194, Tryz.ntmps194
  go_wp2_with fail
  refine HC.out.mono ?_
  rintro e w1 ⟨rfl, rfl⟩
  go_wp2_with fail
  go_ret
  exact ⟨rfl, HKB.out⟩
set_option maxHeartbeats 4000000 in
theorem bynot_is (S : SubV) (h : FH) (A : Option Addr) (n c : Nat) (of : List Bool) (lo lb : List At7) (w : World) (hS : SubOk w S lo lb) (hs : h.s.length ≤ 9223372036854775807) (hv : h.v.length ≤ 9223372036854775807) (hof : BoolsIn w A n of) (hn : n ≤ 1000000) (h1 : 0 < n) :
    Calls Tryz.prog 195 #[S.val, h.val, .slice A n c] w fun e w' => e = .returned (.bool (!(of.head?.getD false))) ∧ Keeps [] w w' := by
  obtain ⟨k, B, m, d, s, v⟩ := h
  dsimp only at hs hv
  obtain ⟨SA, Sn, Sc, SB, Sm, Sd⟩ := S
  have b1 := heap_new8 w (.cells #[.slice SA Sn Sc, .slice SB Sm Sd] 110)
  have k1 : Keeps [] w (w.alloc (.cells #[.slice SA Sn Sc, .slice SB Sm Sd] 110)) := (Keeps.refl [] w).alloc _
  have k2 : Keeps [] (w.alloc (.cells #[.slice SA Sn Sc, .slice SB Sm Sd] 110)) ((w.alloc (.cells #[.slice SA Sn Sc, .slice SB Sm Sd] 110)).alloc (.cells #[.int .i64 k, .slice B m d, .string ⟨s.toArray⟩, .string ⟨v.toArray⟩] 26)) := (Keeps.refl [] _).alloc _
  have b2 := heap_new8 (w.alloc (.cells #[.slice SA Sn Sc, .slice SB Sm Sd] 110)) (.cells #[.int .i64 k, .slice B m d, .string ⟨s.toArray⟩, .string ⟨v.toArray⟩] 26)
  rw [World.size_alloc] at b2
  have HB1 := Lib.hid (blk_keep b1 k2 (by simp))
  have HB2 := Lib.hid b2
  have HKB := Lib.hid (k1.trans' k2)
  clear b1 b2 k1 k2
  obtain ⟨hl, hc9⟩ := BoolsIn.grow HKB.out hof
  obtain ⟨b, o, hA9, hcc⟩ := hc9 h1
  subst hA9
  obtain ⟨q, hu⟩ : ∃ q, of[0]? = some q := ⟨_, List.getElem?_eq_getElem (by omega)⟩
  have c0 := hcc 0 q hu
  rw [Nat.add_zero] at c0
  rw [show of.head? = some q by rw [List.head?_eq_getElem?]; exact hu]
  have hni : (0 : Int) < (n : Int) := by omega
  unfold SubV.val FH.val tv
  dsimp only [Option.getD_some]
  clear hcc hu hl hc9 hS hof
  go_enter Tryz.func195, Tryz.ntmps195
  go_wp2_with fail
  go_ret
  exact ⟨rfl, HKB.out⟩
set_option maxHeartbeats 4000000 in
theorem byname_is (S : SubV) (h : FH) (A : Option Addr) (n c : Nat) (of : List Bool) (lo lb : List At7) (w : World) (hS : SubOk w S lo lb) (hs : h.s.length ≤ 9223372036854775807) (hv : h.v.length ≤ 9223372036854775807) (hof : BoolsIn w A n of) (hn : n ≤ 1000000) :
    Calls Tryz.prog 198 #[S.val, h.val, .slice A n c] w fun e w' => e = .returned (.bool (decide (0 < (valsS (ents lo) (ents lb) h.s).length))) ∧ Keeps [] w w' := by
  obtain ⟨k, B, m, d, s, v⟩ := h
  dsimp only at hs hv
  obtain ⟨SA, Sn, Sc, SB, Sm, Sd⟩ := S
  have b1 := heap_new8 w (.cells #[.slice SA Sn Sc, .slice SB Sm Sd] 110)
  have k1 : Keeps [] w (w.alloc (.cells #[.slice SA Sn Sc, .slice SB Sm Sd] 110)) := (Keeps.refl [] w).alloc _
  have k2 : Keeps [] (w.alloc (.cells #[.slice SA Sn Sc, .slice SB Sm Sd] 110)) ((w.alloc (.cells #[.slice SA Sn Sc, .slice SB Sm Sd] 110)).alloc (.cells #[.int .i64 k, .slice B m d, .string ⟨s.toArray⟩, .string ⟨v.toArray⟩] 26)) := (Keeps.refl [] _).alloc _
  have b2 := heap_new8 (w.alloc (.cells #[.slice SA Sn Sc, .slice SB Sm Sd] 110)) (.cells #[.int .i64 k, .slice B m d, .string ⟨s.toArray⟩, .string ⟨v.toArray⟩] 26)
  rw [World.size_alloc] at b2
  have HB1 := Lib.hid (blk_keep b1 k2 (by simp))
  have HB2 := Lib.hid b2
  have HKB := Lib.hid (k1.trans' k2)
  clear b1 b2 k1 k2
  have HV := Lib.hid (values8_is ⟨SA, Sn, Sc, SB, Sm, Sd⟩ lo lb s ((w.alloc (.cells #[.slice SA Sn Sc, .slice SB Sm Sd] 110)).alloc (.cells #[.int .i64 k, .slice B m d, .string ⟨s.toArray⟩, .string ⟨v.toArray⟩] 26)) (hS.grow HKB.out) hs)
  have hf := (valsS_fits hS s).2
  dsimp only
  generalize valsS (ents lo) (ents lb) s = vs at HV hf ⊢
  obtain ⟨q, hq⟩ : ∃ q, decide (0 < vs.length) = q := ⟨_, rfl⟩
  rw [hq]
  obtain ⟨⟨z0, z1⟩, _⟩ := blk2 HB1.out
  obtain ⟨⟨y0, y1, y2, y3⟩, _⟩ := four_facts8 HB2.out
  unfold SubV.val FH.val tv at *
  dsimp only at HV ⊢
  clear hS hof
  go_enter Tryz.func198, Tryz.ntmps198
  go_wp2_with fail
  refine HV.out.mono ?_
  rintro e w1 ⟨A1, c1, rfl, _, _, _, hk1⟩
  have HK1 := Lib.hid (HKB.out.trans' hk1)
  clear hk1
  by_cases h0 : 0 < vs.length
  · have h0i : (0 : Int) < (vs.length : Int) := by omega
    obtain rfl : q = true := by rw [← hq]; simpa using h0
    clear hq
    go_wp2_with fail
    go_ret
    exact ⟨by first | rfl | simp, HK1.out⟩
  · have h0i : ¬ (0 : Int) < (vs.length : Int) := by omega
    obtain rfl : q = false := by rw [← hq]; simpa using h0
    clear hq
    go_wp2_with fail
    go_ret
    exact ⟨by first | rfl | simp, HK1.out⟩
theorem byvaluec_is (g : Nat) (z x : Txt) (w : World) (hz : w.cell? ⟨g, 0, none⟩ = some (tv z)) (hx : x.length ≤ 9223372036854775807) (hzl : z.length ≤ 9223372036854775807) :
    Calls Tryz.prog 257 #[tv x, .pointer (some ⟨g, 0, none⟩)] w fun e w' => e = .returned (.bool (smallL x == z)) ∧ Keeps [] w w' := by
  have HSM := Lib.hid (fun X => small_is x X hx)
  have hul : (smallL x).length ≤ 9223372036854775807 := by rw [smallL_len]; exact hx
  have HZ := Lib.hid (fun X (hX : Keeps [] w X) => (hX.cell (lt_of_cell hz) (by simp)).trans hz)
  generalize smallL x = u at HSM hul ⊢
  obtain ⟨q, hq⟩ : ∃ q, (u == z) = q := ⟨_, rfl⟩
  obtain ⟨hs1, hs2, hs3⟩ := tx_beq u z q hq
  rw [hq]
  unfold tv at *
  clear hz
  go_enter Tryz.func257, Tryz.ntmps257
  go_wp2_with fail
  refine wp_region_held_drew (S := (fun X => Keeps [] w X)) (by kernel_rfl) ((Keeps.refl [] w).drew) ?_
  intro HS
  refine wpAnyH_take (i := 0) (v := .string ⟨x.toArray⟩) rfl (by kernel_rfl) (by kernel_rfl) (by kernel_rfl) (fun _ _ _ h => h) (Or.inl ⟨by kernel_rfl, ?_⟩) HS ?_
  · intro w5 hw5
    go_simp
  simp only [List.getElem_toArray, List.getElem_cons_succ, List.getElem_cons_zero, Act.put, List.setIfInBounds_toArray, List.set_cons_zero, List.set_cons_succ]
  refine wpAnyH_take (i := 2) (v := .string ⟨z.toArray⟩) rfl (by kernel_rfl) (by kernel_rfl) (by kernel_rfl) (fun _ _ _ h => h) (Or.inl ⟨by kernel_rfl, ?_⟩) HS ?_
  · intro w5 hw5
    have d0 := HZ.out w5 hw5
    go_simp
  simp only [List.getElem_toArray, List.getElem_cons_succ, List.getElem_cons_zero, Act.put, List.setIfInBounds_toArray, List.set_cons_zero, List.set_cons_succ]
  refine wpAnyH_ready (rs := [1]) (by kernel_rfl) (by simp) ?_
  refine AllReadyH.cons rfl (fun K hK => ?_) AllReadyH.nil
  go_simp
  refine (HSM.out _).mono ?_
  rintro e w1 ⟨rfl, hk1⟩
  have HK1 := Lib.hid (((Keeps.refl [] w).drew).trans' hk1)
  clear hk1
  refine hK.out _ _ HK1.out (fun HS => ?_)
  clear hK K
  try simp only [List.getElem_toArray, List.getElem_cons_succ, List.getElem_cons_zero, Act.put, List.setIfInBounds_toArray, List.set_cons_zero, List.set_cons_succ]
  refine wpAnyH_take (i := 3) (v := .bool q) rfl (by kernel_rfl) (by kernel_rfl) (by kernel_rfl) (fun _ _ _ h => h) (Or.inl ⟨by kernel_rfl, ?_⟩) HS ?_
  · intro w5 hw5
    go_simp
  simp only [List.getElem_toArray, List.getElem_cons_succ, List.getElem_cons_zero, Act.put, List.setIfInBounds_toArray, List.set_cons_zero, List.set_cons_succ]
  refine wpAnyH_take (i := 4) (v := .bool q) rfl (by kernel_rfl) (by kernel_rfl) (by kernel_rfl) (fun _ _ _ h => h) (Or.inl ⟨by kernel_rfl, ?_⟩) HS ?_
  · intro w5 hw5
    go_simp
  simp only [List.getElem_toArray, List.getElem_cons_succ, List.getElem_cons_zero, Act.put, List.setIfInBounds_toArray, List.set_cons_zero, List.set_cons_succ]
  refine wpAnyH_done (by kernel_rfl) ?_ _
  go_wp2_with fail
  go_ret
  exact ⟨rfl, HK1.out⟩
theorem bybeginc_is (g : Nat) (z x : Txt) (w : World) (hz : w.cell? ⟨g, 0, none⟩ = some (tv z)) (hx : x.length ≤ 9223372036854775807) (hzl : z.length ≤ 9223372036854775807) :
    Calls Tryz.prog 258 #[tv x, .pointer (some ⟨g, 0, none⟩)] w fun e w' => e = .returned (.bool (begP z (smallL x))) ∧ Keeps [] w w' := by
  have HSM := Lib.hid (fun X => small_is x X hx)
  have hul : (smallL x).length ≤ 9223372036854775807 := by rw [smallL_len]; exact hx
  have HZ := Lib.hid (fun X (hX : Keeps [] w X) => (hX.cell (lt_of_cell hz) (by simp)).trans hz)
  generalize smallL x = u at HSM hul ⊢
  have HPX := Lib.hid (fun X => sprefix_is u z X hul hzl)
  obtain ⟨q, hq⟩ : ∃ q, begP z u = q := ⟨_, rfl⟩
  rw [hq] at HPX ⊢
  unfold tv at *
  clear hz hq
  go_enter Tryz.func258, Tryz.ntmps258
  go_wp2_with fail
  refine wp_region_held_drew (S := (fun X => Keeps [] w X)) (by kernel_rfl) ((Keeps.refl [] w).drew) ?_
  intro HS
  refine wpAnyH_take (i := 0) (v := .string ⟨x.toArray⟩) rfl (by kernel_rfl) (by kernel_rfl) (by kernel_rfl) (fun _ _ _ h => h) (Or.inl ⟨by kernel_rfl, ?_⟩) HS ?_
  · intro w5 hw5
    go_simp
  simp only [List.getElem_toArray, List.getElem_cons_succ, List.getElem_cons_zero, Act.put, List.setIfInBounds_toArray, List.set_cons_zero, List.set_cons_succ]
  refine wpAnyH_take (i := 2) (v := .string ⟨z.toArray⟩) rfl (by kernel_rfl) (by kernel_rfl) (by kernel_rfl) (fun _ _ _ h => h) (Or.inl ⟨by kernel_rfl, ?_⟩) HS ?_
  · intro w5 hw5
    have d0 := HZ.out w5 hw5
    go_simp
  simp only [List.getElem_toArray, List.getElem_cons_succ, List.getElem_cons_zero, Act.put, List.setIfInBounds_toArray, List.set_cons_zero, List.set_cons_succ]
  refine wpAnyH_ready (rs := [1]) (by kernel_rfl) (by simp) ?_
  refine AllReadyH.cons rfl (fun K hK => ?_) AllReadyH.nil
  go_simp
  refine (HSM.out _).mono ?_
  rintro e w1 ⟨rfl, hk1⟩
  have HK1 := Lib.hid (((Keeps.refl [] w).drew).trans' hk1)
  clear hk1
  refine hK.out _ _ HK1.out (fun HS => ?_)
  clear hK K
  try simp only [List.getElem_toArray, List.getElem_cons_succ, List.getElem_cons_zero, Act.put, List.setIfInBounds_toArray, List.set_cons_zero, List.set_cons_succ]
  refine wpAnyH_ready (rs := [3]) (by kernel_rfl) (by simp) ?_
  refine AllReadyH.cons rfl (fun K hK => ?_) AllReadyH.nil
  go_simp
  refine (HPX.out _).mono ?_
  rintro e w2 ⟨rfl, hk2⟩
  have HK2 := Lib.hid (HK1.out.trans' hk2)
  clear hk2
  refine hK.out _ _ HK2.out (fun HS => ?_)
  clear hK K
  try simp only [List.getElem_toArray, List.getElem_cons_succ, List.getElem_cons_zero, Act.put, List.setIfInBounds_toArray, List.set_cons_zero, List.set_cons_succ]
  refine wpAnyH_take (i := 4) (v := .bool q) rfl (by kernel_rfl) (by kernel_rfl) (by kernel_rfl) (fun _ _ _ h => h) (Or.inl ⟨by kernel_rfl, ?_⟩) HS ?_
  · intro w5 hw5
    go_simp
  simp only [List.getElem_toArray, List.getElem_cons_succ, List.getElem_cons_zero, Act.put, List.setIfInBounds_toArray, List.set_cons_zero, List.set_cons_succ]
  refine wpAnyH_done (by kernel_rfl) ?_ _
  go_wp2_with fail
  go_ret
  exact ⟨rfl, HK2.out⟩
set_option maxHeartbeats 4000000 in
theorem byvalue_is (S : SubV) (h : FH) (A : Option Addr) (n c : Nat) (of : List Bool) (lo lb : List At7) (w : World) (hS : SubOk w S lo lb) (hs : h.s.length ≤ 9223372036854775807) (hv : h.v.length ≤ 9223372036854775807) (hof : BoolsIn w A n of) (hn : n ≤ 1000000) :
    Calls Tryz.prog 196 #[S.val, h.val, .slice A n c] w fun e w' => e = .returned (.bool ((valsS (ents lo) (ents lb) h.s).any (fun x => smallL x == smallL h.v))) ∧ Keeps [] w w' := by
  obtain ⟨k, B, m, d, s, v⟩ := h
  dsimp only at hs hv
  obtain ⟨SA, Sn, Sc, SB, Sm, Sd⟩ := S
  have b1 := heap_new8 w (.cells #[.slice SA Sn Sc, .slice SB Sm Sd] 110)
  have k1 : Keeps [] w (w.alloc (.cells #[.slice SA Sn Sc, .slice SB Sm Sd] 110)) := (Keeps.refl [] w).alloc _
  have k2 : Keeps [] (w.alloc (.cells #[.slice SA Sn Sc, .slice SB Sm Sd] 110)) ((w.alloc (.cells #[.slice SA Sn Sc, .slice SB Sm Sd] 110)).alloc (.cells #[.int .i64 k, .slice B m d, .string ⟨s.toArray⟩, .string ⟨v.toArray⟩] 26)) := (Keeps.refl [] _).alloc _
  have b2 := heap_new8 (w.alloc (.cells #[.slice SA Sn Sc, .slice SB Sm Sd] 110)) (.cells #[.int .i64 k, .slice B m d, .string ⟨s.toArray⟩, .string ⟨v.toArray⟩] 26)
  rw [World.size_alloc] at b2
  have HB1 := Lib.hid (blk_keep b1 k2 (by simp))
  have HB2 := Lib.hid b2
  have HKB := Lib.hid (k1.trans' k2)
  clear b1 b2 k1 k2
  have HV := Lib.hid (fun X (hX : Keeps [] w X) => values8_is ⟨SA, Sn, Sc, SB, Sm, Sd⟩ lo lb s X (hS.grow hX) hs)
  obtain ⟨hf1, hf2⟩ := valsS_fits hS s
  have HF1 := Lib.hid hf1
  have HSM := Lib.hid (fun X => small_is v X hv)
  have hzl : (smallL v).length ≤ 9223372036854775807 := by rw [smallL_len]; exact hv
  dsimp only
  generalize valsS (ents lo) (ents lb) s = vs at HV HF1 hf2 ⊢
  generalize smallL v = z at HSM hzl ⊢
  obtain ⟨q, hq⟩ : ∃ q, vs.any (fun x => smallL x == z) = q := ⟨_, rfl⟩
  rw [hq]
  have HQ := Lib.hid hq
  have hmf : ∀ (fn : Fn) (first cap : Array Value) (w : World), (Instr.makeFunc fn first cap).run Tryz.prog w = .ok (.func fn first cap) w := fun _ _ _ _ => rfl
  obtain ⟨⟨z0, z1⟩, _⟩ := blk2 HB1.out
  obtain ⟨⟨y0, y1, y2, y3⟩, _⟩ := four_facts8 HB2.out
  unfold SubV.val FH.val tv at *
  dsimp only at HV ⊢
  clear hS hof hf1 hq
  go_enter Tryz.func196, Tryz.ntmps196
  go_wp2_with fail
  refine (HSM.out _).mono ?_
  rintro e w1 ⟨rfl, hk1⟩
  have HK1 := Lib.hid (HKB.out.trans' hk1)
  have k3 : Keeps [] w1 (w1.alloc (.cells #[.string ⟨z.toArray⟩] 9)) := (Keeps.refl [] w1).alloc _
  have HZ3 := Lib.hid (cell_of_blk (heap_new8 w1 (.cells #[.string ⟨z.toArray⟩] 9)) 0)
  have HK3 := Lib.hid (HK1.out.trans' k3)
  obtain ⟨⟨z0, z1⟩, _⟩ := blk2 (blk_keep (blk_keep HB1.out hk1 (by simp)) k3 (by simp))
  obtain ⟨⟨y0, y1, y2, y3⟩, _⟩ := four_facts8 (blk_keep (blk_keep HB2.out hk1 (by simp)) k3 (by simp))
  clear hk1 k3
  go_wp2_with fail
  refine (HV.out _ HK3.out).mono ?_
  rintro e w2 ⟨A2, c2, rfl, hs2, _, _, hk2⟩
  have HK2 := Lib.hid (HK3.out.trans' hk2)
  have HZ2 := Lib.hid ((hk2.cell (lt_of_cell HZ3.out) (by simp)).trans HZ3.out)
  have HCF := Lib.hid (containsfv_is w1.heap.size (fun x => smallL x == z) A2 vs.length c2 vs w2 (fun x hx X hX => byvaluec_is w1.heap.size z x X ((hX.cell (lt_of_cell HZ2.out) (by simp)).trans HZ2.out) (HF1.out x hx) hzl) hs2 (by omega))
  rw [HQ.out] at HCF
  clear hk2 hs2
  go_wp2_with fail
  refine HCF.out.mono ?_
  rintro e w3 ⟨rfl, hk3⟩
  have HK4 := Lib.hid (HK2.out.trans' hk3)
  clear hk3
  go_wp2_with fail
  go_ret
  exact ⟨rfl, HK4.out⟩
set_option maxHeartbeats 4000000 in
theorem bybegin_is (S : SubV) (h : FH) (A : Option Addr) (n c : Nat) (of : List Bool) (lo lb : List At7) (w : World) (hS : SubOk w S lo lb) (hs : h.s.length ≤ 9223372036854775807) (hv : h.v.length ≤ 9223372036854775807) (hof : BoolsIn w A n of) (hn : n ≤ 1000000) :
    Calls Tryz.prog 197 #[S.val, h.val, .slice A n c] w fun e w' => e = .returned (.bool ((valsS (ents lo) (ents lb) h.s).any (fun x => begP (smallL h.v) (smallL x)))) ∧ Keeps [] w w' := by
  obtain ⟨k, B, m, d, s, v⟩ := h
  dsimp only at hs hv
  obtain ⟨SA, Sn, Sc, SB, Sm, Sd⟩ := S
  have b1 := heap_new8 w (.cells #[.slice SA Sn Sc, .slice SB Sm Sd] 110)
  have k1 : Keeps [] w (w.alloc (.cells #[.slice SA Sn Sc, .slice SB Sm Sd] 110)) := (Keeps.refl [] w).alloc _
  have k2 : Keeps [] (w.alloc (.cells #[.slice SA Sn Sc, .slice SB Sm Sd] 110)) ((w.alloc (.cells #[.slice SA Sn Sc, .slice SB Sm Sd] 110)).alloc (.cells #[.int .i64 k, .slice B m d, .string ⟨s.toArray⟩, .string ⟨v.toArray⟩] 26)) := (Keeps.refl [] _).alloc _
  have b2 := heap_new8 (w.alloc (.cells #[.slice SA Sn Sc, .slice SB Sm Sd] 110)) (.cells #[.int .i64 k, .slice B m d, .string ⟨s.toArray⟩, .string ⟨v.toArray⟩] 26)
  rw [World.size_alloc] at b2
  have HB1 := Lib.hid (blk_keep b1 k2 (by simp))
  have HB2 := Lib.hid b2
  have HKB := Lib.hid (k1.trans' k2)
  clear b1 b2 k1 k2
  have HV := Lib.hid (fun X (hX : Keeps [] w X) => values8_is ⟨SA, Sn, Sc, SB, Sm, Sd⟩ lo lb s X (hS.grow hX) hs)
  obtain ⟨hf1, hf2⟩ := valsS_fits hS s
  have HF1 := Lib.hid hf1
  have HSM := Lib.hid (fun X => small_is v X hv)
  have hzl : (smallL v).length ≤ 9223372036854775807 := by rw [smallL_len]; exact hv
  dsimp only
  generalize valsS (ents lo) (ents lb) s = vs at HV HF1 hf2 ⊢
  generalize smallL v = z at HSM hzl ⊢
  obtain ⟨q, hq⟩ : ∃ q, vs.any (fun x => begP (z) (smallL x)) = q := ⟨_, rfl⟩
  rw [hq]
  have HQ := Lib.hid hq
  have hmf : ∀ (fn : Fn) (first cap : Array Value) (w : World), (Instr.makeFunc fn first cap).run Tryz.prog w = .ok (.func fn first cap) w := fun _ _ _ _ => rfl
  obtain ⟨⟨z0, z1⟩, _⟩ := blk2 HB1.out
  obtain ⟨⟨y0, y1, y2, y3⟩, _⟩ := four_facts8 HB2.out
  unfold SubV.val FH.val tv at *
  dsimp only at HV ⊢
  clear hS hof hf1 hq
  go_enter Tryz.func197, Tryz.ntmps197
  go_wp2_with fail
  refine (HSM.out _).mono ?_
  rintro e w1 ⟨rfl, hk1⟩
  have HK1 := Lib.hid (HKB.out.trans' hk1)
  have k3 : Keeps [] w1 (w1.alloc (.cells #[.string ⟨z.toArray⟩] 9)) := (Keeps.refl [] w1).alloc _
  have HZ3 := Lib.hid (cell_of_blk (heap_new8 w1 (.cells #[.string ⟨z.toArray⟩] 9)) 0)
  have HK3 := Lib.hid (HK1.out.trans' k3)
  obtain ⟨⟨z0, z1⟩, _⟩ := blk2 (blk_keep (blk_keep HB1.out hk1 (by simp)) k3 (by simp))
  obtain ⟨⟨y0, y1, y2, y3⟩, _⟩ := four_facts8 (blk_keep (blk_keep HB2.out hk1 (by simp)) k3 (by simp))
  clear hk1 k3
  go_wp2_with fail
  refine (HV.out _ HK3.out).mono ?_
  rintro e w2 ⟨A2, c2, rfl, hs2, _, _, hk2⟩
  have HK2 := Lib.hid (HK3.out.trans' hk2)
  have HZ2 := Lib.hid ((hk2.cell (lt_of_cell HZ3.out) (by simp)).trans HZ3.out)
  have HCF := Lib.hid (containsfb_is w1.heap.size (fun x => begP (z) (smallL x)) A2 vs.length c2 vs w2 (fun x hx X hX => bybeginc_is w1.heap.size z x X ((hX.cell (lt_of_cell HZ2.out) (by simp)).trans HZ2.out) (HF1.out x hx) hzl) hs2 (by omega))
  rw [HQ.out] at HCF
  clear hk2 hs2
  go_wp2_with fail
  refine HCF.out.mono ?_
  rintro e w3 ⟨rfl, hk3⟩
  have HK4 := Lib.hid (HK2.out.trans' hk3)
  clear hk3
  go_wp2_with fail
  go_ret
  exact ⟨rfl, HK4.out⟩
end Go.Proofs.YtbfebljahjmjfaaGreatDoor
