/- Texts of one proof, laid together: X6 X7. -/
import Derived.Test.YtebocagkpkpghaaGreatDoorM90
import Derived.Test.YtebocagkpkpghaaGreatDoorM83
import Derived.Test.YtebocagkpkpghaaGreatDoorM04
import Derived.BigQuiet
import Derived.Test.YtebocagkpkpghaaGreatDoorM89
import Derived.Test.YtebocagkpkpghaaGreatDoorM08
/- entry: the document's Get, values; walked. -/
namespace Go.Proofs.YtebocagkpkpghaaGreatDoor
open Go.RowKit Go.Shelf
set_option linter.unusedVariables false
set_option linter.unusedSimpArgs false
set_option maxRecDepth 100000

theorem StrQ.of {w wr : World} {A : Option Addr} {m c : Nat} {xs : List Txt} (h : StrsIn wr A m xs) (h1 : m ≤ c) (h2 : c ≤ 9223372036854775807) (hk : Keeps [] w wr) : StrQ xs w (.returned (.slice A m c)) wr := by
  obtain rfl := h.1
  exact ⟨A, c, rfl, h, h1, h2, hk⟩
set_option maxHeartbeats 8000000 in
theorem rget_is (A : Option Addr) (n c : Nat) (l : List At7) (v : Txt) (w : World) (h : EntIn w A n l) (hn : n ≤ 100000) (hv : v.length ≤ 9223372036854775807) :
    Calls Tryz.prog 21 #[.slice A n c, tv v] w (StrQ (cont2 (ents l) (smallL v)) w) := by
  have HD := Lib.hid h
  have HEL : Hid ((ents l).length = n) := by show _ = _; rw [ents_len, h.1]
  have HSM := Lib.hid (fun X : World => rsmall_is v X hv)
  obtain ⟨z, hz⟩ : ∃ z, smallL v = z := ⟨_, rfl⟩
  rw [hz] at HSM ⊢
  unfold tv
  clear h hz hv
  go_enter Tryz.func21, Tryz.ntmps21
  go_wp2_with fail
  go_loopw [5] (fun i wr => ∃ j : Nat, i = .int .i64 (j : Int) ∧ j ≤ n ∧ Hid (((ents l).take j).find? (fun a => a.1 == z) = none) ∧ Hid (Keeps [] w wr)) (fun i _ => n - (intOf i).toNat)
  case atStart => exact ⟨0, rfl, Nat.zero_le _, by simp [Hid], Keeps.refl _ _⟩
  case round =>
    obtain ⟨j, rfl, hj, HA, HKR⟩ := hrel
    by_cases hlt : j < n
    · obtain ⟨hl, hp, hc9⟩ := EntIn.grow HKR.out HD.out
      obtain ⟨b, o, hA9, hcc⟩ := hc9 (by omega)
      clear hc9
      subst hA9
      obtain ⟨a, hu⟩ : ∃ a, l[j]? = some a := ⟨_, List.getElem?_eq_getElem (by omega)⟩
      obtain ⟨c0, c1⟩ := hcc j a hu
      have HFT : Hid (a.fits wr) := hp a (List.mem_of_getElem? hu)
      have HUE := Lib.hid (ents_at hu)
      obtain ⟨nm, aA, an, ac, avs⟩ := a
      dsimp only at c0 c1
      unfold tv at c0
      have hji : (j : Int) < (n : Int) := by omega
      have hj0 : (0 : Int) ≤ (j : Int) := by omega
      have HF : Hid (∀ X, Keeps [] wr X → X.cell? ⟨b, o + j * 2, none⟩ = some (.string ⟨nm.toArray⟩) ∧ X.cell? ⟨b, o + j * 2 + 1, none⟩ = some (.slice aA an ac)) := fun X hX => ⟨(hX.cell (lt_of_cell c0) (by simp)).trans c0, (hX.cell (lt_of_cell c1) (by simp)).trans c1⟩
      obtain ⟨r, hr⟩ : ∃ r, (nm == z) = r := ⟨_, rfl⟩
      obtain ⟨hs1, hs2, hs3⟩ := tx_beq nm z r hr
      clear hcc hu hp hl c0 c1
      cases r
      · have HN2 := Lib.hid (find_none7 HUE.out (show nm ≠ z by simpa using hr) HA.out)
        clear hr
        go_wp2_with fail
        refine wp_region_held_drew (S := (fun X => X.cell? ⟨b, o + j * 2, none⟩ = some (.string ⟨nm.toArray⟩) ∧ X.cell? ⟨b, o + j * 2 + 1, none⟩ = some (.slice aA an ac))) (by kernel_rfl) (HF.out _ ((Keeps.refl [] wr).drew)) ?_
        intro HS
        refine wpAnyH_take (i := 0) (v := .slice (some ⟨b, o, none⟩) n c) rfl (by kernel_rfl) (by kernel_rfl) (by kernel_rfl) (fun _ _ _ h => h) (Or.inl ⟨by kernel_rfl, ?_⟩) HS ?_
        · intro w5 hw5
          obtain ⟨c0, c1⟩ := hw5
          go_simp
        simp only [List.getElem_toArray, List.getElem_cons_succ, List.getElem_cons_zero, Act.put, List.setIfInBounds_toArray, List.set_cons_zero, List.set_cons_succ]
        refine wpAnyH_take (i := 1) (v := .int .i64 (j : Int)) rfl (by kernel_rfl) (by kernel_rfl) (by kernel_rfl) (fun _ _ _ h => h) (Or.inl ⟨by kernel_rfl, ?_⟩) HS ?_
        · intro w5 hw5
          obtain ⟨c0, c1⟩ := hw5
          go_simp
        simp only [List.getElem_toArray, List.getElem_cons_succ, List.getElem_cons_zero, Act.put, List.setIfInBounds_toArray, List.set_cons_zero, List.set_cons_succ]
        refine wpAnyH_take (i := 2) (v := .pointer (some ⟨b, o + j * 2, none⟩)) rfl (by kernel_rfl) (by kernel_rfl) (by kernel_rfl) (fun _ _ _ h => h) (Or.inl ⟨by kernel_rfl, ?_⟩) HS ?_
        · intro w5 hw5
          obtain ⟨c0, c1⟩ := hw5
          go_simp
        simp only [List.getElem_toArray, List.getElem_cons_succ, List.getElem_cons_zero, Act.put, List.setIfInBounds_toArray, List.set_cons_zero, List.set_cons_succ]
        refine wpAnyH_take (i := 3) (v := .pointer (some ⟨b, o + j * 2, none⟩)) rfl (by kernel_rfl) (by kernel_rfl) (by kernel_rfl) (fun _ _ _ h => h) (Or.inl ⟨by kernel_rfl, ?_⟩) HS ?_
        · intro w5 hw5
          obtain ⟨c0, c1⟩ := hw5
          go_simp
        simp only [List.getElem_toArray, List.getElem_cons_succ, List.getElem_cons_zero, Act.put, List.setIfInBounds_toArray, List.set_cons_zero, List.set_cons_succ]
        refine wpAnyH_take (i := 4) (v := .string ⟨nm.toArray⟩) rfl (by kernel_rfl) (by kernel_rfl) (by kernel_rfl) (fun _ _ _ h => h) (Or.inl ⟨by kernel_rfl, ?_⟩) HS ?_
        · intro w5 hw5
          obtain ⟨c0, c1⟩ := hw5
          go_simp
        simp only [List.getElem_toArray, List.getElem_cons_succ, List.getElem_cons_zero, Act.put, List.setIfInBounds_toArray, List.set_cons_zero, List.set_cons_succ]
        refine wpAnyH_take (i := 5) (v := .string ⟨v.toArray⟩) rfl (by kernel_rfl) (by kernel_rfl) (by kernel_rfl) (fun _ _ _ h => h) (Or.inl ⟨by kernel_rfl, ?_⟩) HS ?_
        · intro w5 hw5
          obtain ⟨c0, c1⟩ := hw5
          go_simp
        simp only [List.getElem_toArray, List.getElem_cons_succ, List.getElem_cons_zero, Act.put, List.setIfInBounds_toArray, List.set_cons_zero, List.set_cons_succ]
        refine wpAnyH_ready (rs := [6]) (by kernel_rfl) (by simp) ?_
        refine AllReadyH.cons rfl (fun K hK => ?_) AllReadyH.nil
        go_simp
        refine (HSM.out _).mono ?_
        rintro e w5 ⟨rfl, hk5⟩
        have K5 : Hid (Keeps [] wr w5) := Keeps.trans' ((Keeps.refl [] wr).drew) hk5
        clear hk5
        refine hK.out _ _ (HF.out _ K5.out) (fun HS => ?_)
        clear hK K
        refine wpAnyH_take (i := 7) (v := .bool false) rfl (by kernel_rfl) (by kernel_rfl) (by kernel_rfl) (fun _ _ _ h => h) (Or.inl ⟨by kernel_rfl, ?_⟩) HS ?_
        · intro w5 hw5
          obtain ⟨c0, c1⟩ := hw5
          go_simp
          first | done | (simp [hs1]; done) | (simp [hs3]; done) | (simp_all; done)
        simp only [List.getElem_toArray, List.getElem_cons_succ, List.getElem_cons_zero, Act.put, List.setIfInBounds_toArray, List.set_cons_zero, List.set_cons_succ]
        refine wpAnyH_done (by kernel_rfl) ?_ _
        go_wp2_with fail
        go_roundw
        case rel => exact ⟨j + 1, by go_num, by omega, HN2.out, HKR.out.trans' K5.out⟩
        case measure => simp [intOf]; omega
      · have heq : nm = z := by simpa using hr
        have HF2 := Lib.hid (find_some7 HUE.out heq HA.out)
        clear hr
        go_wp2_with fail
        refine wp_region_held_drew (S := (fun X => X.cell? ⟨b, o + j * 2, none⟩ = some (.string ⟨nm.toArray⟩) ∧ X.cell? ⟨b, o + j * 2 + 1, none⟩ = some (.slice aA an ac))) (by kernel_rfl) (HF.out _ ((Keeps.refl [] wr).drew)) ?_
        intro HS
        refine wpAnyH_take (i := 0) (v := .slice (some ⟨b, o, none⟩) n c) rfl (by kernel_rfl) (by kernel_rfl) (by kernel_rfl) (fun _ _ _ h => h) (Or.inl ⟨by kernel_rfl, ?_⟩) HS ?_
        · intro w5 hw5
          obtain ⟨c0, c1⟩ := hw5
          go_simp
        simp only [List.getElem_toArray, List.getElem_cons_succ, List.getElem_cons_zero, Act.put, List.setIfInBounds_toArray, List.set_cons_zero, List.set_cons_succ]
        refine wpAnyH_take (i := 1) (v := .int .i64 (j : Int)) rfl (by kernel_rfl) (by kernel_rfl) (by kernel_rfl) (fun _ _ _ h => h) (Or.inl ⟨by kernel_rfl, ?_⟩) HS ?_
        · intro w5 hw5
          obtain ⟨c0, c1⟩ := hw5
          go_simp
        simp only [List.getElem_toArray, List.getElem_cons_succ, List.getElem_cons_zero, Act.put, List.setIfInBounds_toArray, List.set_cons_zero, List.set_cons_succ]
        refine wpAnyH_take (i := 2) (v := .pointer (some ⟨b, o + j * 2, none⟩)) rfl (by kernel_rfl) (by kernel_rfl) (by kernel_rfl) (fun _ _ _ h => h) (Or.inl ⟨by kernel_rfl, ?_⟩) HS ?_
        · intro w5 hw5
          obtain ⟨c0, c1⟩ := hw5
          go_simp
        simp only [List.getElem_toArray, List.getElem_cons_succ, List.getElem_cons_zero, Act.put, List.setIfInBounds_toArray, List.set_cons_zero, List.set_cons_succ]
        refine wpAnyH_take (i := 3) (v := .pointer (some ⟨b, o + j * 2, none⟩)) rfl (by kernel_rfl) (by kernel_rfl) (by kernel_rfl) (fun _ _ _ h => h) (Or.inl ⟨by kernel_rfl, ?_⟩) HS ?_
        · intro w5 hw5
          obtain ⟨c0, c1⟩ := hw5
          go_simp
        simp only [List.getElem_toArray, List.getElem_cons_succ, List.getElem_cons_zero, Act.put, List.setIfInBounds_toArray, List.set_cons_zero, List.set_cons_succ]
        refine wpAnyH_take (i := 4) (v := .string ⟨nm.toArray⟩) rfl (by kernel_rfl) (by kernel_rfl) (by kernel_rfl) (fun _ _ _ h => h) (Or.inl ⟨by kernel_rfl, ?_⟩) HS ?_
        · intro w5 hw5
          obtain ⟨c0, c1⟩ := hw5
          go_simp
        simp only [List.getElem_toArray, List.getElem_cons_succ, List.getElem_cons_zero, Act.put, List.setIfInBounds_toArray, List.set_cons_zero, List.set_cons_succ]
        refine wpAnyH_take (i := 5) (v := .string ⟨v.toArray⟩) rfl (by kernel_rfl) (by kernel_rfl) (by kernel_rfl) (fun _ _ _ h => h) (Or.inl ⟨by kernel_rfl, ?_⟩) HS ?_
        · intro w5 hw5
          obtain ⟨c0, c1⟩ := hw5
          go_simp
        simp only [List.getElem_toArray, List.getElem_cons_succ, List.getElem_cons_zero, Act.put, List.setIfInBounds_toArray, List.set_cons_zero, List.set_cons_succ]
        refine wpAnyH_ready (rs := [6]) (by kernel_rfl) (by simp) ?_
        refine AllReadyH.cons rfl (fun K hK => ?_) AllReadyH.nil
        go_simp
        refine (HSM.out _).mono ?_
        rintro e w5 ⟨rfl, hk5⟩
        have K5 : Hid (Keeps [] wr w5) := Keeps.trans' ((Keeps.refl [] wr).drew) hk5
        clear hk5
        refine hK.out _ _ (HF.out _ K5.out) (fun HS => ?_)
        clear hK K
        refine wpAnyH_take (i := 7) (v := .bool true) rfl (by kernel_rfl) (by kernel_rfl) (by kernel_rfl) (fun _ _ _ h => h) (Or.inl ⟨by kernel_rfl, ?_⟩) HS ?_
        · intro w5 hw5
          obtain ⟨c0, c1⟩ := hw5
          go_simp
          first | done | (simp [hs1]; done) | (simp [hs3]; done) | (simp_all; done)
        simp only [List.getElem_toArray, List.getElem_cons_succ, List.getElem_cons_zero, Act.put, List.setIfInBounds_toArray, List.set_cons_zero, List.set_cons_succ]
        refine wpAnyH_done (by kernel_rfl) ?_ _
        obtain ⟨d0, d1⟩ := HF.out _ K5.out
        go_wp2_with fail
        go_ret
        have he : cont2 (ents l) z = avs := by unfold cont2; rw [HF2.out]; rfl
        rw [he]
        exact StrQ.of (StrsIn.grow K5.out HFT.out.2.2.2) HFT.out.2.1 HFT.out.2.2.1 (HKR.out.trans' K5.out)
    · obtain rfl : j = n := by omega
      have h9 := HA.out
      rw [List.take_of_length_le (by rw [HEL.out]; exact Nat.le_refl _)] at h9
      have H9 := Lib.hid h9
      clear h9
      go_wp2_with fail
      go_ret
      have he : cont2 (ents l) z = [] := by unfold cont2; rw [H9.out]; rfl
      rw [he]
      exact StrQ.of (StrsIn.nil _ _) (Nat.le_refl _) (by omega) HKR.out

set_option maxHeartbeats 4000000 in
theorem rvalues_is (A : Option Addr) (n c : Nat) (l : List Txt) (w : World) (h : StrsIn w A n l) (hn : n ≤ 4611686018427387904) :
    Calls Tryz.prog 44 #[.slice A n c] w fun e w' => e = .returned (.bool (l.all valOk)) ∧ w = w' := by
  have HV : Hid (StrsIn w A n l) := h
  obtain ⟨V, hV⟩ : ∃ V : World, V = w := ⟨_, rfl⟩
  subst hV
  clear h
  go_enter Tryz.func44, Tryz.ntmps44
  go_wp2_with fail
  go_loopw [3] (fun i wr => ∃ j : Nat, i = .int .i64 (j : Int) ∧ j ≤ n ∧ Hid ((l.take j).all valOk = true) ∧ wr = V) (fun i _ => n - (intOf i).toNat)
  case atStart => exact ⟨0, rfl, Nat.zero_le _, by simp [Hid], rfl⟩
  case round =>
    obtain ⟨j, rfl, hj, HA, rfl⟩ := hrel
    by_cases hlt : j < n
    · obtain ⟨hl, hp, hc9⟩ := HV.out
      obtain ⟨b, o, hA9, hcc⟩ := hc9 (by omega)
      clear hc9
      subst hA9
      obtain ⟨s, hu⟩ : ∃ s, l[j]? = some s := ⟨_, List.getElem?_eq_getElem (by omega)⟩
      have c0 := hcc j s hu
      have HT := Lib.hid (vals_take hu)
      have HC := Lib.hid (fun h => vals_cut hu h)
      have hs63 := hp s (List.mem_of_getElem? hu)
      have HVO : Hid (valOk s = (decide (1 ≤ s.length) && decide (s.length ≤ 2048))) := rfl
      unfold tv at c0
      have hji : (j : Int) < (n : Int) := by omega
      have hj0 : (0 : Int) ≤ (j : Int) := by omega
      clear hcc hu hp hl
      by_cases h1 : s.length < 1
      · have h1' : (s.length : Int) < 1 := by omega
        have HVF : Hid (valOk s = false) := by show _ = _; rw [HVO.out]; simp; omega
        go_wp2_with fail
        go_ret
        exact ⟨by rw [HC.out HVF.out]; rfl, rfl⟩
      · have h1' : ¬ (s.length : Int) < 1 := by omega
        by_cases h2 : 2048 < s.length
        · have h2' : (2048 : Int) < (s.length : Int) := by omega
          have HVF : Hid (valOk s = false) := by show _ = _; rw [HVO.out]; simp; omega
          go_wp2_with fail
          go_ret
          exact ⟨by rw [HC.out HVF.out]; rfl, rfl⟩
        · have h2' : ¬ (2048 : Int) < (s.length : Int) := by omega
          have HVF : Hid (valOk s = true) := by show _ = _; rw [HVO.out]; simp; omega
          go_wp2_with fail
          go_roundw
          case rel => exact ⟨j + 1, by go_num, by omega, by show _ = _; rw [HT.out, HA.out, HVF.out]; rfl, trivial⟩
          case measure => simp [intOf]; omega
    · obtain rfl : j = n := by omega
      have h9 := HA.out
      rw [List.take_of_length_le (by rw [HV.out.1]; exact Nat.le_refl _)] at h9
      have H9 := Lib.hid h9
      clear h9
      go_wp2_with fail
      go_ret
      exact ⟨by rw [H9.out]; rfl, rfl⟩
end Go.Proofs.YtebocagkpkpghaaGreatDoor
/- entry: the document's Order; walked. -/
namespace Go.Proofs.YtebocagkpkpghaaGreatDoor
open Go.RowKit Go.Shelf
set_option linter.unusedVariables false
set_option linter.unusedSimpArgs false
set_option maxRecDepth 100000

theorem preO_take {e : List Att} {j : Nat} {a : Att} (h : e[j]? = some a) : preO (e.take (j + 1)) = stepO (preO (e.take j)) a := by
  rw [List.take_add_one, h]
  exact preO_snoc _ _
theorem preO_len : ∀ l, (preO l).1.length ≤ l.length := by
  refine snoc_ind (by simp [preO]) (fun l a ih => ?_)
  rw [preO_snoc]
  have := setR_len (preO l).1 (smallL a.1) (a.2.foldl withR (cont2 (preO l).1 (smallL a.1)))
  unfold stepO
  simp only [List.length_append, List.length_singleton]
  omega
theorem withs_len (vs : List Txt) : ∀ l, (vs.foldl withR l).length ≤ l.length + vs.length := by
  induction vs with
  | nil => intro l; simp
  | cons s r ih =>
    intro l
    have h1 := ih (withR l s)
    have h2 := withR_len l s
    simp only [List.foldl_cons, List.length_cons]
    omega
theorem withs_take {vs : List Txt} {q : Nat} {s : Txt} (h : vs[q]? = some s) (l : List Txt) : (vs.take (q + 1)).foldl withR l = withR ((vs.take q).foldl withR l) s := by
  rw [List.take_add_one, h, List.foldl_append]
  rfl
theorem preO_vals {l : List At7} (hf : Few7 100 l) (hs : ∀ a ∈ l, a.vs.length = a.n) (j : Nat) (k : Txt) : (cont2 (preO ((ents l).take j)).1 k).length ≤ 10000 := by
  rw [(preO_is _).2.1 k]
  have h1 := ordS_len (gath ((ents l).take j) k)
  have h2 := gath_len (e := (ents l).take j) (m := 100) (fun a ha => by
    obtain ⟨x, hx, rfl⟩ := List.mem_map.1 (List.mem_of_mem_take ha)
    show x.vs.length ≤ 100
    rw [hs x hx]
    exact hf.2 x hx) k
  have h3 : ((ents l).take j).length ≤ 100 := by
    rw [List.length_take, ents_len]
    have := hf.1
    omega
  have h4 : ((ents l).take j).length * 100 ≤ 100 * 100 := Nat.mul_le_mul_right _ h3
  omega
set_option maxHeartbeats 8000000 in
theorem rorder_is (A : Option Addr) (n c : Nat) (l : List At7) (w : World) (h : EntIn w A n l) (hf : Few7 100 l) :
    Calls Tryz.prog 18 #[.slice A n c] w (EnrQ (orderP (ents l)) w) := by
  rw [← rorder_eq]
  have HD := Lib.hid h
  have HF := Lib.hid hf
  have hn : n ≤ 100 := by rw [← h.1]; exact hf.1
  have HEL : Hid ((ents l).length = n) := by show _ = _; rw [ents_len, h.1]
  have HPL : Hid (∀ j, j ≤ n → (preO ((ents l).take j)).1.length ≤ j) := fun j hj => by
    have h1 := preO_len ((ents l).take j)
    rw [List.length_take, ents_len, h.1, Nat.min_eq_left hj] at h1
    exact h1
  have HPV : Hid (∀ j k, (cont2 (preO ((ents l).take j)).1 k).length ≤ 10000) := fun j k => preO_vals hf (fun a ha => (h.2.1 a ha).2.2.2.1) j k
  obtain ⟨P, hP⟩ : ∃ P, rorderP (ents l) = P := ⟨_, rfl⟩
  rw [hP]
  have HP := Lib.hid hP
  clear h hf hP
  go_enter Tryz.func18, Tryz.ntmps18
  go_wp2_with fail
  go_loopw [6] (fun i wr => ∃ j : Nat, i = .int .i64 (j : Int) ∧ j ≤ n ∧ Hid (((ents l).take j).all (fun a => maybeA a.1 a.2) = true) ∧ Hid (Keeps [] w wr)) (fun i _ => n - (intOf i).toNat)
  case atStart => exact ⟨0, rfl, Nat.zero_le _, rfl, Keeps.refl _ _⟩
  case round =>
    obtain ⟨j, rfl, hj, HA, HKR⟩ := hrel
    by_cases hlt : j < n
    · obtain ⟨hl, hp, hc9⟩ := EntIn.grow HKR.out HD.out
      obtain ⟨b, o, hA9, hcc⟩ := hc9 (by omega)
      clear hc9
      subst hA9
      obtain ⟨a, hu⟩ : ∃ a, l[j]? = some a := ⟨_, List.getElem?_eq_getElem (by omega)⟩
      obtain ⟨c0, c1⟩ := hcc j a hu
      have hfit := hp a (List.mem_of_getElem? hu)
      have hue := ents_at hu
      have HT := Lib.hid (all_take7 (p := fun a : Att => maybeA a.1 a.2) hue)
      have HC := Lib.hid (fun h => all_cut7 (p := fun a : Att => maybeA a.1 a.2) hue h)
      have hfn := HF.out.2 a (List.mem_of_getElem? hu)
      obtain ⟨nm, aA, an, ac, avs⟩ := a
      obtain ⟨hnm, hnc, hac, hV⟩ := hfit
      dsimp only at c0 c1 hnm hV hfn
      unfold At7.att at HT HC
      dsimp only at HT HC
      have HRN := Lib.hid (fun X => rname_is nm X hnm)
      have HRV := Lib.hid (rvalues_is aA an ac avs wr hV (by omega))
      have hmb : maybeA nm avs = (avs.all valOk && nameT nm) := rfl
      obtain ⟨q1, hq1⟩ : ∃ q, avs.all valOk = q := ⟨_, rfl⟩
      obtain ⟨q2, hq2⟩ : ∃ q, nameT nm = q := ⟨_, rfl⟩
      rw [hmb, hq1, hq2] at HT HC
      rw [hq1] at HRV
      rw [hq2] at HRN
      unfold tv at c0
      have hji : (j : Int) < (n : Int) := by omega
      clear hcc hu hue hp hl hq1 hq2 hV hnm hnc hac hmb
      go_wp2_with fail
      refine (HRN.out _).mono ?_
      rintro e w5 ⟨rfl, rfl⟩
      cases q2
      · have HPN : Hid (P = ([], 2)) := by
          show _ = _
          rw [← HP.out]
          unfold rorderP
          rw [if_neg (by rw [HC.out (by cases q1 <;> rfl)]; decide)]
        go_wp2_with fail
        refine bodyPost_ret (results_tmp2 rfl _ _ _) rfl ?_
        rw [HPN.out]
        exact EnrQ.no HKR.out
      · go_wp2_with fail
        refine HRV.out.mono ?_
        rintro e w5 ⟨rfl, rfl⟩
        cases q1
        · have HPN : Hid (P = ([], 2)) := by
            show _ = _
            rw [← HP.out]
            unfold rorderP
            rw [if_neg (by rw [HC.out (by rfl)]; decide)]
          go_wp2_with fail
          refine bodyPost_ret (results_tmp2 rfl _ _ _) rfl ?_
          rw [HPN.out]
          exact EnrQ.no HKR.out
        · go_wp2_with fail
          go_roundw
          case rel => exact ⟨j + 1, by go_num, by omega, by show _ = _; rw [HT.out, HA.out]; rfl, HKR.out⟩
          case measure => simp [intOf]; omega
    · obtain rfl : j = n := by omega
      have h9 := HA.out
      rw [List.take_of_length_le (by rw [HEL.out]; exact Nat.le_refl _)] at h9
      have HPY : Hid (P = if ((preO (ents l)).2 || decide (24 < (preO (ents l)).1.length)) = true then ([], 3) else ((preO (ents l)).1, 0)) := by
        show _ = _
        rw [← HP.out]
        unfold rorderP
        rw [if_pos h9]
      clear h9 HA hlt hj
      obtain ⟨V, hV⟩ : ∃ V : World, V = wr := ⟨_, rfl⟩
      subst hV
      go_wp2_with fail
      go_loopw [4, 5, 7] (fun x f i wr => ∃ (A' : Option Addr) (k c' i7 : Nat), x = .slice A' k c' ∧ f = .bool (preO ((ents l).take i7)).2 ∧ i = .int .i64 (i7 : Int) ∧ i7 ≤ j ∧ Hid (EntQ (preO ((ents l).take i7)).1 w A' k c' wr) ∧ Hid (Keeps [] w wr)) (fun _ _ i _ => j - (intOf i).toNat)
      case atStart => exact ⟨none, 0, 0, 0, rfl, rfl, rfl, Nat.zero_le _, EntQ.nil w _, HKR.out⟩
      case round =>
        obtain ⟨A', k, c', i, rfl, rfl, rfl, hi, HQ, HKS⟩ := hrel
        have hk9 : k ≤ i := by
          obtain ⟨L, e1, e2, _⟩ := HQ.out
          have h9 := HPL.out i hi
          rw [← e1, ents_len, e2.1] at h9
          exact h9
        by_cases hlt : i < j
        · obtain ⟨hl, hp, hc9⟩ := HD.out
          obtain ⟨b, o, hA9, hcc⟩ := hc9 (by omega)
          clear hc9
          subst hA9
          obtain ⟨a, hu⟩ : ∃ a, l[i]? = some a := ⟨_, List.getElem?_eq_getElem (by omega)⟩
          obtain ⟨c0w, c1w⟩ := hcc i a hu
          have hfit := hp a (List.mem_of_getElem? hu)
          have HT := Lib.hid (preO_take (ents_at hu))
          have hfn := HF.out.2 a (List.mem_of_getElem? hu)
          obtain ⟨nm, aA, an, ac, avs⟩ := a
          obtain ⟨hnm, hnc, hac, hV⟩ := hfit
          dsimp only at c0w c1w hnm hV hfn
          unfold At7.att at HT
          dsimp only at HT
          have HCX : Hid (∀ X, Keeps [] w X → X.cell? ⟨b, o + i * 2, none⟩ = some (.string ⟨nm.toArray⟩) ∧ X.cell? ⟨b, o + i * 2 + 1, none⟩ = some (.slice aA an ac)) := fun X hX => ⟨(hX.cell (lt_of_cell c0w) (by simp)).trans c0w, (hX.cell (lt_of_cell c1w) (by simp)).trans c1w⟩
          obtain ⟨c0, c1⟩ := HCX.out wr HKS.out
          have HVS := Lib.hid hV
          have HNM := Lib.hid hnm
          have hv0 := HPV.out i (smallL nm)
          obtain ⟨L, e1, e2, e3, e4, e5⟩ := HQ.out
          have HGT := Lib.hid (rget_is A' k c' L nm wr e2 (by omega) hnm)
          have HST := Lib.hid (fun (z : Txt) (B : Option Addr) (m d : Nat) (vs : List Txt) (X : World) (hX : Keeps [] wr X) (hz : At7.fits X ⟨z, B, m, d, vs⟩) => rset_is A' k c' L z B m d vs X (EntIn.grow hX e2) hz (by omega))
          rw [e1] at HGT HST
          have HSM := Lib.hid (fun X : World => rsmall_is nm X hnm)
          obtain ⟨z, hz⟩ : ∃ z, smallL nm = z := ⟨_, rfl⟩
          have HZL : Hid (z.length ≤ 9223372036854775807) := by show _ ≤ _; rw [← hz]; unfold smallL; rw [List.length_map]; exact hnm
          unfold stepO at HT
          dsimp only at HT
          rw [hz] at HGT HSM HT hv0
          clear e1 e2 e3 e4 e5 hz HQ
          generalize preO ((ents l).take i) = p at HT HGT HST hv0 ⊢
          obtain ⟨E, lg⟩ := p
          dsimp only at HGT HST HT hv0
          obtain ⟨v0, hv⟩ : ∃ v0, cont2 E z = v0 := ⟨_, rfl⟩
          rw [hv] at HGT HT hv0
          have hii : (i : Int) < (j : Int) := by omega
          have hi0 : (0 : Int) ≤ (i : Int) := by omega
          clear hcc hu hp hl c0w c1w hv hnm hV
          dsimp only
          go_wp2_with fail
          refine HGT.out.mono ?_
          rintro e w8 ⟨A8, c8, rfl, hs8, hc8, hd8, hk8⟩
          have HS8 : Hid (StrsIn w8 A8 v0.length v0 ∧ v0.length ≤ c8 ∧ c8 ≤ 9223372036854775807) := ⟨hs8, hc8, hd8⟩
          have HK8 := Lib.hid hk8
          clear hs8 hc8 hd8 hk8 c0 c1
          go_wp2_with fail
          obtain ⟨U, hU⟩ : ∃ U : World, U = wr := ⟨_, rfl⟩
          subst hU
          go_loopw [8, 9] (fun v i2 wq => ∃ (A9 : Option Addr) (c9 m q : Nat), v = .slice A9 m c9 ∧ i2 = .int .i64 (q : Int) ∧ q ≤ an ∧ Hid (m = ((avs.take q).foldl withR v0).length) ∧ Hid (StrsIn wq A9 m ((avs.take q).foldl withR v0) ∧ m ≤ c9 ∧ c9 ≤ 9223372036854775807) ∧ Hid (Keeps [] U wq)) (fun _ i2 _ => an - (intOf i2).toNat)
          case atStart => exact ⟨A8, c8, v0.length, 0, rfl, rfl, Nat.zero_le _, rfl, HS8.out, HK8.out⟩
          case round =>
            obtain ⟨A9, c9, m, q, rfl, rfl, hq, HM, HSQ, HKQ⟩ := hrel
            obtain ⟨c0, c1⟩ := HCX.out wr (HKS.out.trans' HKQ.out)
            have hm9 : m ≤ 20000 := by
              have h9 := withs_len (avs.take q) v0
              rw [← HM.out, List.length_take] at h9
              omega
            by_cases hlq : q < an
            · obtain ⟨hv1, hv2, hv3⟩ := StrsIn.grow (HKS.out.trans' HKQ.out) HVS.out
              obtain ⟨b4, o4, hA4, hc4⟩ := hv3 (by omega)
              subst hA4
              obtain ⟨s, hs⟩ : ∃ v, avs[q]? = some v := ⟨_, List.getElem?_eq_getElem (by omega)⟩
              have v1 := hc4 q s hs
              have HWI := Lib.hid (rwith_is A9 m c9 _ s wr HSQ.out.1 (hv2 s (List.mem_of_getElem? hs)) (by omega))
              have HTQ := Lib.hid (withs_take hs v0)
              rw [← HTQ.out] at HWI
              unfold tv at v1
              have hqi : (q : Int) < (an : Int) := by omega
              have hq0 : (0 : Int) ≤ (q : Int) := by omega
              clear hv1 hv2 hv3 hc4 hs HTQ
              go_wp2_with fail
              refine HWI.out.mono ?_
              rintro e w6 ⟨A6, c6, rfl, hs6, hc6, hd6, hk6⟩
              have HS6 : Hid (StrsIn w6 A6 ((avs.take (q + 1)).foldl withR v0).length ((avs.take (q + 1)).foldl withR v0) ∧ ((avs.take (q + 1)).foldl withR v0).length ≤ c6 ∧ c6 ≤ 9223372036854775807) := ⟨hs6, hc6, hd6⟩
              have HK6 := Lib.hid (HKQ.out.trans' hk6)
              clear hs6 hc6 hd6 hk6
              go_wp2_with fail
              go_roundw
              case rel => exact ⟨A6, c6, _, q + 1, rfl, by go_num, by omega, rfl, HS6.out, HK6.out⟩
              case measure => simp [intOf]; omega
            · obtain rfl : q = an := by omega
              have h9 : avs.take q = avs := List.take_of_length_le (by rw [HVS.out.1]; exact Nat.le_refl _)
              have hm := HM.out
              rw [h9] at hm HSQ
              obtain ⟨vv, hvv⟩ : ∃ vv, avs.foldl withR v0 = vv := ⟨_, rfl⟩
              rw [hvv] at hm HSQ HT
              clear h9 hvv
              have HSE := Lib.hid (fun (X : World) (hX : Keeps [] wr X) => HST.out z A9 m c9 vv X (HKQ.out.trans' hX) ⟨HZL.out, HSQ.out.2.1, HSQ.out.2.2, StrsIn.grow hX HSQ.out.1⟩)
              obtain ⟨g, hg⟩ : ∃ g, decide (16 < m) = g := ⟨_, rfl⟩
              rw [← hm, hg] at HT
              have hgi : decide ((16 : Int) < (m : Int)) = g := by rw [← hg, decide_eq_decide]; omega
              have HTE : Hid ((preO ((ents l).take (i + 1))).1 = setR E z vv ∧ (preO ((ents l).take (i + 1))).2 = (lg || g)) := by
                rw [HT.out]
                exact ⟨rfl, rfl⟩
              clear HT HST hm hg
              cases lg
              · cases g
                · have hgn : ¬ (16 : Int) < (m : Int) := by simpa using hgi
                  go_wp2_with fail
                  refine (HSM.out _).mono ?_
                  rintro e w6 ⟨rfl, hk6⟩
                  have HK6 := Lib.hid hk6
                  clear hk6
                  go_wp2_with fail
                  refine (HSE.out _ HK6.out).mono ?_
                  rintro e w7 ⟨A7, n7, c7, rfl, hQ7, hk7⟩
                  have HQ7 : Hid (EntQ (preO ((ents l).take (i + 1))).1 w A7 n7 c7 w7) := by show EntQ _ _ _ _ _ _; rw [HTE.out.1]; exact hQ7
                  have HK7 : Hid (Keeps [] w w7) := HKS.out.trans' (HKQ.out.trans' (HK6.out.trans' hk7))
                  clear hQ7 hk7
                  go_wp2_with fail
                  go_roundw
                  case rel => exact ⟨A7, n7, c7, i + 1, rfl, by rw [HTE.out.2]; rfl, by go_num, by omega, HQ7.out, HK7.out⟩
                  case measure => simp [intOf]; omega
                · have hgn : (16 : Int) < (m : Int) := by simpa using hgi
                  go_wp2_with fail
                  refine (HSM.out _).mono ?_
                  rintro e w6 ⟨rfl, hk6⟩
                  have HK6 := Lib.hid hk6
                  clear hk6
                  go_wp2_with fail
                  refine (HSE.out _ HK6.out).mono ?_
                  rintro e w7 ⟨A7, n7, c7, rfl, hQ7, hk7⟩
                  have HQ7 : Hid (EntQ (preO ((ents l).take (i + 1))).1 w A7 n7 c7 w7) := by show EntQ _ _ _ _ _ _; rw [HTE.out.1]; exact hQ7
                  have HK7 : Hid (Keeps [] w w7) := HKS.out.trans' (HKQ.out.trans' (HK6.out.trans' hk7))
                  clear hQ7 hk7
                  go_wp2_with fail
                  go_roundw
                  case rel => exact ⟨A7, n7, c7, i + 1, rfl, by rw [HTE.out.2]; rfl, by go_num, by omega, HQ7.out, HK7.out⟩
                  case measure => simp [intOf]; omega
              · clear hgi
                go_wp2_with fail
                refine (HSM.out _).mono ?_
                rintro e w6 ⟨rfl, hk6⟩
                have HK6 := Lib.hid hk6
                clear hk6
                go_wp2_with fail
                refine (HSE.out _ HK6.out).mono ?_
                rintro e w7 ⟨A7, n7, c7, rfl, hQ7, hk7⟩
                have HQ7 : Hid (EntQ (preO ((ents l).take (i + 1))).1 w A7 n7 c7 w7) := by show EntQ _ _ _ _ _ _; rw [HTE.out.1]; exact hQ7
                have HK7 : Hid (Keeps [] w w7) := HKS.out.trans' (HKQ.out.trans' (HK6.out.trans' hk7))
                clear hQ7 hk7
                go_wp2_with fail
                go_roundw
                case rel => exact ⟨A7, n7, c7, i + 1, rfl, by rw [HTE.out.2]; rfl, by go_num, by omega, HQ7.out, HK7.out⟩
                case measure => simp [intOf]; omega
        · obtain rfl : i = j := by omega
          have h9 : (ents l).take i = ents l := List.take_of_length_le (by rw [HEL.out]; exact Nat.le_refl _)
          rw [h9] at HQ ⊢
          have hkl : (preO (ents l)).1.length = k := by
            obtain ⟨L, e1, e2, _⟩ := HQ.out
            rw [← e1, ents_len, e2.1]
          rw [hkl] at HPY
          generalize preO (ents l) = p at HQ HPY hkl ⊢
          obtain ⟨E, lg⟩ := p
          dsimp only at HQ HPY ⊢
          clear h9 hkl
          cases lg
          · by_cases hk : 24 < k
            · have hki : (24 : Int) < (k : Int) := by omega
              have HPE : Hid (P = ([], 3)) := by show _ = _; rw [HPY.out]; simp [hk]
              go_wp2_with fail
              refine bodyPost_ret (results_tmp2 rfl _ _ _) rfl ?_
              rw [HPE.out]
              exact EnrQ.no HKS.out
            · have hki : ¬ (24 : Int) < (k : Int) := by omega
              have HPE : Hid (P = (E, 0)) := by show _ = _; rw [HPY.out]; simp [hk]
              go_wp2_with fail
              refine bodyPost_ret (results_tmp2 rfl _ _ _) rfl ?_
              rw [HPE.out]
              exact ⟨A', k, c', rfl, HQ.out, HKS.out⟩
          · have HPE : Hid (P = ([], 3)) := by show _ = _; rw [HPY.out]; rfl
            go_wp2_with fail
            refine bodyPost_ret (results_tmp2 rfl _ _ _) rfl ?_
            rw [HPE.out]
            exact EnrQ.no HKS.out
end Go.Proofs.YtebocagkpkpghaaGreatDoor
