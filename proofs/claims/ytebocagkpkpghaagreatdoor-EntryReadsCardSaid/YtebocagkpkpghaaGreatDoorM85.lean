/- Texts of one proof, laid together: W26 W27. -/
import Derived.Test.YtebocagkpkpghaaGreatDoorM84
import Derived.BigQuiet
/- entry: the document's Texts, Same; walked. -/
namespace Go.Proofs.YtebocagkpkpghaaGreatDoor
open Go.RowKit Go.Shelf
set_option linter.unusedVariables false
set_option linter.unusedSimpArgs false
set_option maxRecDepth 100000

theorem take_eq7 {α : Type} [BEq α] [LawfulBEq α] {l m : List α} {j : Nat} {x y : α} (hx : l[j]? = some x) (hy : m[j]? = some y) (h : l.take j = m.take j) (he : (x == y) = true) : l.take (j + 1) = m.take (j + 1) := by
  rw [List.take_add_one, List.take_add_one, hx, hy, h]
  have : x = y := by simpa using he
  rw [this]
theorem ne_at7 {α : Type} [BEq α] [LawfulBEq α] {l m : List α} {j : Nat} {x y : α} (hx : l[j]? = some x) (hy : m[j]? = some y) (he : (x == y) = false) : (l == m) = false := by
  rw [beq_eq_false_iff_ne]
  intro h
  rw [h, hy] at hx
  injection hx with hx
  rw [hx] at he
  simp at he
set_option maxHeartbeats 4000000 in
theorem rtexts_is (A B : Option Addr) (n m c d : Nat) (a b : List Txt) (w : World) (ha : StrsIn w A n a) (hb : StrsIn w B m b) (hn : n ≤ 4611686018427387904) :
    Calls Tryz.prog 19 #[.slice A n c, .slice B m d] w fun e w' => e = .returned (.bool (a == b)) ∧ Keeps [] w w' := by
  have HA := Lib.hid ha
  have HB := Lib.hid hb
  by_cases hnm : n = m
  · subst hnm
    clear ha hb
    go_enter Tryz.func19, Tryz.ntmps19
    go_wp2_with fail
    go_loopw [5] (fun i wr => ∃ j : Nat, i = .int .i64 (j : Int) ∧ j ≤ n ∧ Hid (a.take j = b.take j) ∧ Hid (Keeps [] w wr)) (fun i _ => n - (intOf i).toNat)
    case atStart => exact ⟨0, rfl, Nat.zero_le _, by simp [Hid], Keeps.refl _ _⟩
    case round =>
      obtain ⟨j, rfl, hj, HZ, HKR⟩ := hrel
      by_cases hlt : j < n
      · obtain ⟨hl, hp, hc9⟩ := StrsIn.grow HKR.out HA.out
        obtain ⟨b1, o1, hA9, hcc⟩ := hc9 (by omega)
        obtain ⟨hl2, hp2, hc8⟩ := StrsIn.grow HKR.out HB.out
        obtain ⟨b2, o2, hB9, hcd⟩ := hc8 (by omega)
        clear hc9 hc8
        subst hA9 hB9
        obtain ⟨s, hu⟩ : ∃ p, a[j]? = some p := ⟨_, List.getElem?_eq_getElem (by omega)⟩
        obtain ⟨t, hu2⟩ : ∃ q, b[j]? = some q := ⟨_, List.getElem?_eq_getElem (by omega)⟩
        have c0 := hcc j s hu
        have c2 := hcd j t hu2
        have HT := Lib.hid (take_eq7 hu hu2 HZ.out)
        have HC := Lib.hid (fun h => ne_at7 hu hu2 h)
        unfold tv at c0 c2
        obtain ⟨r, hr⟩ : ∃ r, (s == t) = r := ⟨_, rfl⟩
        obtain ⟨hs1, hs2, hs3⟩ := tx_beq s t r hr
        rw [hr] at HT HC
        clear hcc hcd hu hu2 hp hp2 hl hl2
        have hjj : (j : Int) < (n : Int) := by omega
        have hji : 0 ≤ (j : Int) := by omega
        cases r
        · clear hs1 hs2 hs3
          go_wp2_with fail
          go_quiet (fail)
          go_wp2_with fail
          go_ret
          exact ⟨by rw [HC.out (by first | exact trivial | rfl)]; rfl, HKR.out.drewN _⟩
        · have heq : s = t := by simpa using hr
          subst heq
          clear hr hs1 hs2 hs3
          go_wp2_with fail
          go_quiet (fail)
          go_wp2_with fail
          go_roundw
          case rel => exact ⟨j + 1, by go_num, by omega, HT.out (by first | exact trivial | rfl), HKR.out.drewN _⟩
          case measure => simp [intOf]; omega
      · obtain rfl : j = n := by omega
        have h9 := HZ.out
        rw [List.take_of_length_le (by rw [HA.out.1]; exact Nat.le_refl _), List.take_of_length_le (by rw [HB.out.1]; exact Nat.le_refl _)] at h9
        have H9 := Lib.hid h9
        clear h9
        go_wp2_with fail
        go_ret
        exact ⟨by rw [H9.out]; simp, HKR.out⟩
  · have hf : (a == b) = false := by
      rw [beq_eq_false_iff_ne]
      intro e
      subst e
      exact hnm (ha.1.symm.trans hb.1)
    rw [hf]
    have hni : ¬ (n : Int) = (m : Int) := by omega
    have hnb : ((n : Int) == (m : Int)) = false := by simpa using hni
    have hnc : ((n : Int) != (m : Int)) = true := by simpa using hni
    clear ha hb
    go_enter Tryz.func19, Tryz.ntmps19
    go_wp2_with fail
    go_ret
    exact ⟨rfl, Keeps.refl _ _⟩

set_option maxHeartbeats 8000000 in
theorem rsame7_is (A B : Option Addr) (n c m d : Nat) (l k : List At7) (w : World) (h : EntIn w A n l) (h2 : EntIn w B m k) (hf : Few7 100000 l) :
    Calls Tryz.prog 14 #[.slice A n c, .slice B m d] w fun e w' => e = .returned (.bool (ents l == ents k)) ∧ Keeps [] w w' := by
  have HE1 := Lib.hid h
  have HE2 := Lib.hid h2
  have HF9 := Lib.hid hf
  have hn : n ≤ 100000 := by rw [← h.1]; exact hf.1
  have HL1 : Hid ((ents l).length = n) := by show _ = _; rw [ents_len, h.1]
  have HL2 : Hid ((ents k).length = m) := by show _ = _; rw [ents_len, h2.1]
  obtain ⟨z, hz⟩ : ∃ r, (ents l == ents k) = r := ⟨_, rfl⟩
  rw [hz]
  have HR := Lib.hid hz
  clear h h2 hf hz
  by_cases hnm : n = m
  · subst hnm
    go_enter Tryz.func14, Tryz.ntmps14
    go_wp2_with fail
    go_loopw [5] (fun i wr => ∃ j : Nat, i = .int .i64 (j : Int) ∧ j ≤ n ∧ Hid ((ents l).take j = (ents k).take j) ∧ Hid (Keeps [] w wr)) (fun i _ => n - (intOf i).toNat)
    case atStart => exact ⟨0, rfl, Nat.zero_le _, by simp [Hid], Keeps.refl _ _⟩
    case round =>
      obtain ⟨j, rfl, hj, HA, HKR⟩ := hrel
      by_cases hlt : j < n
      · obtain ⟨hl1, hp1, hc1⟩ := EntIn.grow HKR.out HE1.out
        obtain ⟨b1, o1, hA1, hcc1⟩ := hc1 (by omega)
        obtain ⟨hl2, hp2, hc2⟩ := EntIn.grow HKR.out HE2.out
        obtain ⟨b2, o2, hA2, hcc2⟩ := hc2 (by omega)
        clear hc1 hc2
        subst hA1 hA2
        obtain ⟨x, hu⟩ : ∃ a, l[j]? = some a := ⟨_, List.getElem?_eq_getElem (by omega)⟩
        obtain ⟨y, hv⟩ : ∃ a, k[j]? = some a := ⟨_, List.getElem?_eq_getElem (by omega)⟩
        obtain ⟨c0, c1⟩ := hcc1 j x hu
        obtain ⟨c2, c3⟩ := hcc2 j y hv
        have hfx := hp1 x (List.mem_of_getElem? hu)
        have hfy := hp2 y (List.mem_of_getElem? hv)
        have hxn := HF9.out.2 x (List.mem_of_getElem? hu)
        have HTX := Lib.hid (fun X (hX : Keeps [] wr X) => rtexts_is x.A y.A x.n y.n x.c y.c x.vs y.vs X (StrsIn.grow hX hfx.2.2.2) (StrsIn.grow hX hfy.2.2.2) (by omega))
        have HTE := Lib.hid (take_eq7 (ents_at hu) (ents_at hv) HA.out)
        have HNE := Lib.hid (ne_at7 (ents_at hu) (ents_at hv))
        obtain ⟨s, aA, an, ac, avs⟩ := x
        obtain ⟨t, bA, bn, bc, bvs⟩ := y
        dsimp only at c0 c1 c2 c3 HTX
        unfold At7.att at HTE HNE
        dsimp only at HTE HNE
        obtain ⟨q, hq⟩ : ∃ q, (avs == bvs) = q := ⟨_, rfl⟩
        obtain ⟨r, hr⟩ : ∃ r, (s == t) = r := ⟨_, rfl⟩
        have hqr : ((s, avs) == (t, bvs)) = (r && q) := by rw [← hr, ← hq]; rfl
        rw [hqr] at HTE HNE
        rw [hq] at HTX
        obtain ⟨hs1, hs2, hs3⟩ := tx_beq s t r hr
        unfold tv at c0 c2
        have hji : (j : Int) < (n : Int) := by omega
        have hj0 : (0 : Int) ≤ (j : Int) := by omega
        have HF : Hid (∀ X, Keeps [] wr X → X.cell? ⟨b1, o1 + j * 2, none⟩ = some (.string ⟨s.toArray⟩) ∧ X.cell? ⟨b1, o1 + j * 2 + 1, none⟩ = some (.slice aA an ac) ∧ X.cell? ⟨b2, o2 + j * 2, none⟩ = some (.string ⟨t.toArray⟩) ∧ X.cell? ⟨b2, o2 + j * 2 + 1, none⟩ = some (.slice bA bn bc)) := fun X hX => ⟨(hX.cell (lt_of_cell c0) (by simp)).trans c0, (hX.cell (lt_of_cell c1) (by simp)).trans c1, (hX.cell (lt_of_cell c2) (by simp)).trans c2, (hX.cell (lt_of_cell c3) (by simp)).trans c3⟩
        clear hcc1 hcc2 hu hv hp1 hp2 hl1 hl2 hfx hfy hxn hq hqr hr c0 c1 c2 c3
        cases r
        · have HRF : Hid (z = false) := by show _ = _; rw [← HR.out]; exact HNE.out (by first | exact trivial | rfl)
          go_wp2_with fail
          refine wp_region_held_drew (S := (fun X => X.cell? ⟨b1, o1 + j * 2, none⟩ = some (.string ⟨s.toArray⟩) ∧ X.cell? ⟨b1, o1 + j * 2 + 1, none⟩ = some (.slice aA an ac) ∧ X.cell? ⟨b2, o2 + j * 2, none⟩ = some (.string ⟨t.toArray⟩) ∧ X.cell? ⟨b2, o2 + j * 2 + 1, none⟩ = some (.slice bA bn bc))) (by kernel_rfl) (HF.out _ ((Keeps.refl [] wr).drew)) ?_
          intro HS
          refine wpAnyH_take (i := 0) (v := .slice (some ⟨b1, o1, none⟩) n c) rfl (by kernel_rfl) (by kernel_rfl) (by kernel_rfl) (fun _ _ _ h => h) (Or.inl ⟨by kernel_rfl, ?_⟩) HS ?_
          · intro w5 hw5
            obtain ⟨c0, c1, c2, c3⟩ := hw5
            go_simp
          simp only [List.getElem_toArray, List.getElem_cons_succ, List.getElem_cons_zero, Act.put, List.setIfInBounds_toArray, List.set_cons_zero, List.set_cons_succ]
          refine wpAnyH_take (i := 1) (v := .int .i64 (j : Int)) rfl (by kernel_rfl) (by kernel_rfl) (by kernel_rfl) (fun _ _ _ h => h) (Or.inl ⟨by kernel_rfl, ?_⟩) HS ?_
          · intro w5 hw5
            obtain ⟨c0, c1, c2, c3⟩ := hw5
            go_simp
          simp only [List.getElem_toArray, List.getElem_cons_succ, List.getElem_cons_zero, Act.put, List.setIfInBounds_toArray, List.set_cons_zero, List.set_cons_succ]
          refine wpAnyH_take (i := 2) (v := .pointer (some ⟨b1, o1 + j * 2, none⟩)) rfl (by kernel_rfl) (by kernel_rfl) (by kernel_rfl) (fun _ _ _ h => h) (Or.inl ⟨by kernel_rfl, ?_⟩) HS ?_
          · intro w5 hw5
            obtain ⟨c0, c1, c2, c3⟩ := hw5
            go_simp
          simp only [List.getElem_toArray, List.getElem_cons_succ, List.getElem_cons_zero, Act.put, List.setIfInBounds_toArray, List.set_cons_zero, List.set_cons_succ]
          refine wpAnyH_take (i := 3) (v := .pointer (some ⟨b1, o1 + j * 2, none⟩)) rfl (by kernel_rfl) (by kernel_rfl) (by kernel_rfl) (fun _ _ _ h => h) (Or.inl ⟨by kernel_rfl, ?_⟩) HS ?_
          · intro w5 hw5
            obtain ⟨c0, c1, c2, c3⟩ := hw5
            go_simp
          simp only [List.getElem_toArray, List.getElem_cons_succ, List.getElem_cons_zero, Act.put, List.setIfInBounds_toArray, List.set_cons_zero, List.set_cons_succ]
          refine wpAnyH_take (i := 4) (v := .string ⟨s.toArray⟩) rfl (by kernel_rfl) (by kernel_rfl) (by kernel_rfl) (fun _ _ _ h => h) (Or.inl ⟨by kernel_rfl, ?_⟩) HS ?_
          · intro w5 hw5
            obtain ⟨c0, c1, c2, c3⟩ := hw5
            go_simp
          simp only [List.getElem_toArray, List.getElem_cons_succ, List.getElem_cons_zero, Act.put, List.setIfInBounds_toArray, List.set_cons_zero, List.set_cons_succ]
          refine wpAnyH_take (i := 5) (v := .slice (some ⟨b2, o2, none⟩) n d) rfl (by kernel_rfl) (by kernel_rfl) (by kernel_rfl) (fun _ _ _ h => h) (Or.inl ⟨by kernel_rfl, ?_⟩) HS ?_
          · intro w5 hw5
            obtain ⟨c0, c1, c2, c3⟩ := hw5
            go_simp
          simp only [List.getElem_toArray, List.getElem_cons_succ, List.getElem_cons_zero, Act.put, List.setIfInBounds_toArray, List.set_cons_zero, List.set_cons_succ]
          refine wpAnyH_take (i := 6) (v := .int .i64 (j : Int)) rfl (by kernel_rfl) (by kernel_rfl) (by kernel_rfl) (fun _ _ _ h => h) (Or.inl ⟨by kernel_rfl, ?_⟩) HS ?_
          · intro w5 hw5
            obtain ⟨c0, c1, c2, c3⟩ := hw5
            go_simp
          simp only [List.getElem_toArray, List.getElem_cons_succ, List.getElem_cons_zero, Act.put, List.setIfInBounds_toArray, List.set_cons_zero, List.set_cons_succ]
          refine wpAnyH_take (i := 7) (v := .pointer (some ⟨b2, o2 + j * 2, none⟩)) rfl (by kernel_rfl) (by kernel_rfl) (by kernel_rfl) (fun _ _ _ h => h) (Or.inl ⟨by kernel_rfl, ?_⟩) HS ?_
          · intro w5 hw5
            obtain ⟨c0, c1, c2, c3⟩ := hw5
            go_simp
          simp only [List.getElem_toArray, List.getElem_cons_succ, List.getElem_cons_zero, Act.put, List.setIfInBounds_toArray, List.set_cons_zero, List.set_cons_succ]
          refine wpAnyH_take (i := 8) (v := .pointer (some ⟨b2, o2 + j * 2, none⟩)) rfl (by kernel_rfl) (by kernel_rfl) (by kernel_rfl) (fun _ _ _ h => h) (Or.inl ⟨by kernel_rfl, ?_⟩) HS ?_
          · intro w5 hw5
            obtain ⟨c0, c1, c2, c3⟩ := hw5
            go_simp
          simp only [List.getElem_toArray, List.getElem_cons_succ, List.getElem_cons_zero, Act.put, List.setIfInBounds_toArray, List.set_cons_zero, List.set_cons_succ]
          refine wpAnyH_take (i := 9) (v := .string ⟨t.toArray⟩) rfl (by kernel_rfl) (by kernel_rfl) (by kernel_rfl) (fun _ _ _ h => h) (Or.inl ⟨by kernel_rfl, ?_⟩) HS ?_
          · intro w5 hw5
            obtain ⟨c0, c1, c2, c3⟩ := hw5
            go_simp
          simp only [List.getElem_toArray, List.getElem_cons_succ, List.getElem_cons_zero, Act.put, List.setIfInBounds_toArray, List.set_cons_zero, List.set_cons_succ]
          refine wpAnyH_take (i := 10) (v := .bool true) rfl (by kernel_rfl) (by kernel_rfl) (by kernel_rfl) (fun _ _ _ h => h) (Or.inl ⟨by kernel_rfl, ?_⟩) HS ?_
          · intro w5 hw5
            obtain ⟨c0, c1, c2, c3⟩ := hw5
            go_simp
            first | done | (simp [hs2]; done) | (simp_all; done)
          simp only [List.getElem_toArray, List.getElem_cons_succ, List.getElem_cons_zero, Act.put, List.setIfInBounds_toArray, List.set_cons_zero, List.set_cons_succ]
          refine wpAnyH_take (i := 11) (v := .bool true) rfl (by kernel_rfl) (by kernel_rfl) (by kernel_rfl) (fun _ _ _ h => h) (Or.inl ⟨by kernel_rfl, ?_⟩) HS ?_
          · intro w5 hw5
            obtain ⟨c0, c1, c2, c3⟩ := hw5
            go_simp
          simp only [List.getElem_toArray, List.getElem_cons_succ, List.getElem_cons_zero, Act.put, List.setIfInBounds_toArray, List.set_cons_zero, List.set_cons_succ]
          refine wpAnyH_take (i := 12) (v := undef) rfl (by kernel_rfl) (by kernel_rfl) (by kernel_rfl) (fun _ _ _ h => h) (Or.inr ⟨by kernel_rfl, rfl⟩) HS ?_
          simp only [List.getElem_toArray, List.getElem_cons_succ, List.getElem_cons_zero, Act.put, List.setIfInBounds_toArray, List.set_cons_zero, List.set_cons_succ]
          refine wpAnyH_take (i := 13) (v := undef) rfl (by kernel_rfl) (by kernel_rfl) (by kernel_rfl) (fun _ _ _ h => h) (Or.inr ⟨by kernel_rfl, rfl⟩) HS ?_
          simp only [List.getElem_toArray, List.getElem_cons_succ, List.getElem_cons_zero, Act.put, List.setIfInBounds_toArray, List.set_cons_zero, List.set_cons_succ]
          refine wpAnyH_take (i := 14) (v := undef) rfl (by kernel_rfl) (by kernel_rfl) (by kernel_rfl) (fun _ _ _ h => h) (Or.inr ⟨by kernel_rfl, rfl⟩) HS ?_
          simp only [List.getElem_toArray, List.getElem_cons_succ, List.getElem_cons_zero, Act.put, List.setIfInBounds_toArray, List.set_cons_zero, List.set_cons_succ]
          refine wpAnyH_take (i := 15) (v := undef) rfl (by kernel_rfl) (by kernel_rfl) (by kernel_rfl) (fun _ _ _ h => h) (Or.inr ⟨by kernel_rfl, rfl⟩) HS ?_
          simp only [List.getElem_toArray, List.getElem_cons_succ, List.getElem_cons_zero, Act.put, List.setIfInBounds_toArray, List.set_cons_zero, List.set_cons_succ]
          refine wpAnyH_take (i := 16) (v := undef) rfl (by kernel_rfl) (by kernel_rfl) (by kernel_rfl) (fun _ _ _ h => h) (Or.inr ⟨by kernel_rfl, rfl⟩) HS ?_
          simp only [List.getElem_toArray, List.getElem_cons_succ, List.getElem_cons_zero, Act.put, List.setIfInBounds_toArray, List.set_cons_zero, List.set_cons_succ]
          refine wpAnyH_take (i := 17) (v := undef) rfl (by kernel_rfl) (by kernel_rfl) (by kernel_rfl) (fun _ _ _ h => h) (Or.inr ⟨by kernel_rfl, rfl⟩) HS ?_
          simp only [List.getElem_toArray, List.getElem_cons_succ, List.getElem_cons_zero, Act.put, List.setIfInBounds_toArray, List.set_cons_zero, List.set_cons_succ]
          refine wpAnyH_take (i := 18) (v := undef) rfl (by kernel_rfl) (by kernel_rfl) (by kernel_rfl) (fun _ _ _ h => h) (Or.inr ⟨by kernel_rfl, rfl⟩) HS ?_
          simp only [List.getElem_toArray, List.getElem_cons_succ, List.getElem_cons_zero, Act.put, List.setIfInBounds_toArray, List.set_cons_zero, List.set_cons_succ]
          refine wpAnyH_take (i := 19) (v := undef) rfl (by kernel_rfl) (by kernel_rfl) (by kernel_rfl) (fun _ _ _ h => h) (Or.inr ⟨by kernel_rfl, rfl⟩) HS ?_
          simp only [List.getElem_toArray, List.getElem_cons_succ, List.getElem_cons_zero, Act.put, List.setIfInBounds_toArray, List.set_cons_zero, List.set_cons_succ]
          refine wpAnyH_take (i := 20) (v := undef) rfl (by kernel_rfl) (by kernel_rfl) (by kernel_rfl) (fun _ _ _ h => h) (Or.inr ⟨by kernel_rfl, rfl⟩) HS ?_
          simp only [List.getElem_toArray, List.getElem_cons_succ, List.getElem_cons_zero, Act.put, List.setIfInBounds_toArray, List.set_cons_zero, List.set_cons_succ]
          refine wpAnyH_take (i := 21) (v := undef) rfl (by kernel_rfl) (by kernel_rfl) (by kernel_rfl) (fun _ _ _ h => h) (Or.inr ⟨by kernel_rfl, rfl⟩) HS ?_
          simp only [List.getElem_toArray, List.getElem_cons_succ, List.getElem_cons_zero, Act.put, List.setIfInBounds_toArray, List.set_cons_zero, List.set_cons_succ]
          refine wpAnyH_take (i := 22) (v := undef) rfl (by kernel_rfl) (by kernel_rfl) (by kernel_rfl) (fun _ _ _ h => h) (Or.inr ⟨by kernel_rfl, rfl⟩) HS ?_
          simp only [List.getElem_toArray, List.getElem_cons_succ, List.getElem_cons_zero, Act.put, List.setIfInBounds_toArray, List.set_cons_zero, List.set_cons_succ]
          refine wpAnyH_take (i := 23) (v := undef) rfl (by kernel_rfl) (by kernel_rfl) (by kernel_rfl) (fun _ _ _ h => h) (Or.inr ⟨by kernel_rfl, rfl⟩) HS ?_
          simp only [List.getElem_toArray, List.getElem_cons_succ, List.getElem_cons_zero, Act.put, List.setIfInBounds_toArray, List.set_cons_zero, List.set_cons_succ]
          refine wpAnyH_take (i := 24) (v := .bool true) rfl (by kernel_rfl) (by kernel_rfl) (by kernel_rfl) (fun _ _ _ h => h) (Or.inl ⟨by kernel_rfl, ?_⟩) HS ?_
          · intro w5 hw5
            obtain ⟨c0, c1, c2, c3⟩ := hw5
            go_simp
          simp only [List.getElem_toArray, List.getElem_cons_succ, List.getElem_cons_zero, Act.put, List.setIfInBounds_toArray, List.set_cons_zero, List.set_cons_succ]
          refine wpAnyH_done (by kernel_rfl) ?_ _
          go_wp2_with fail
          go_ret
          rw [HRF.out]
          exact ⟨rfl, HKR.out.drew⟩
        · rw [Bool.true_and] at HTE HNE
          go_wp2_with fail
          refine wp_region_held_drew (S := (fun X => X.cell? ⟨b1, o1 + j * 2, none⟩ = some (.string ⟨s.toArray⟩) ∧ X.cell? ⟨b1, o1 + j * 2 + 1, none⟩ = some (.slice aA an ac) ∧ X.cell? ⟨b2, o2 + j * 2, none⟩ = some (.string ⟨t.toArray⟩) ∧ X.cell? ⟨b2, o2 + j * 2 + 1, none⟩ = some (.slice bA bn bc))) (by kernel_rfl) (HF.out _ ((Keeps.refl [] wr).drew)) ?_
          intro HS
          refine wpAnyH_take (i := 0) (v := .slice (some ⟨b1, o1, none⟩) n c) rfl (by kernel_rfl) (by kernel_rfl) (by kernel_rfl) (fun _ _ _ h => h) (Or.inl ⟨by kernel_rfl, ?_⟩) HS ?_
          · intro w5 hw5
            obtain ⟨c0, c1, c2, c3⟩ := hw5
            go_simp
          simp only [List.getElem_toArray, List.getElem_cons_succ, List.getElem_cons_zero, Act.put, List.setIfInBounds_toArray, List.set_cons_zero, List.set_cons_succ]
          refine wpAnyH_take (i := 1) (v := .int .i64 (j : Int)) rfl (by kernel_rfl) (by kernel_rfl) (by kernel_rfl) (fun _ _ _ h => h) (Or.inl ⟨by kernel_rfl, ?_⟩) HS ?_
          · intro w5 hw5
            obtain ⟨c0, c1, c2, c3⟩ := hw5
            go_simp
          simp only [List.getElem_toArray, List.getElem_cons_succ, List.getElem_cons_zero, Act.put, List.setIfInBounds_toArray, List.set_cons_zero, List.set_cons_succ]
          refine wpAnyH_take (i := 2) (v := .pointer (some ⟨b1, o1 + j * 2, none⟩)) rfl (by kernel_rfl) (by kernel_rfl) (by kernel_rfl) (fun _ _ _ h => h) (Or.inl ⟨by kernel_rfl, ?_⟩) HS ?_
          · intro w5 hw5
            obtain ⟨c0, c1, c2, c3⟩ := hw5
            go_simp
          simp only [List.getElem_toArray, List.getElem_cons_succ, List.getElem_cons_zero, Act.put, List.setIfInBounds_toArray, List.set_cons_zero, List.set_cons_succ]
          refine wpAnyH_take (i := 3) (v := .pointer (some ⟨b1, o1 + j * 2, none⟩)) rfl (by kernel_rfl) (by kernel_rfl) (by kernel_rfl) (fun _ _ _ h => h) (Or.inl ⟨by kernel_rfl, ?_⟩) HS ?_
          · intro w5 hw5
            obtain ⟨c0, c1, c2, c3⟩ := hw5
            go_simp
          simp only [List.getElem_toArray, List.getElem_cons_succ, List.getElem_cons_zero, Act.put, List.setIfInBounds_toArray, List.set_cons_zero, List.set_cons_succ]
          refine wpAnyH_take (i := 4) (v := .string ⟨s.toArray⟩) rfl (by kernel_rfl) (by kernel_rfl) (by kernel_rfl) (fun _ _ _ h => h) (Or.inl ⟨by kernel_rfl, ?_⟩) HS ?_
          · intro w5 hw5
            obtain ⟨c0, c1, c2, c3⟩ := hw5
            go_simp
          simp only [List.getElem_toArray, List.getElem_cons_succ, List.getElem_cons_zero, Act.put, List.setIfInBounds_toArray, List.set_cons_zero, List.set_cons_succ]
          refine wpAnyH_take (i := 5) (v := .slice (some ⟨b2, o2, none⟩) n d) rfl (by kernel_rfl) (by kernel_rfl) (by kernel_rfl) (fun _ _ _ h => h) (Or.inl ⟨by kernel_rfl, ?_⟩) HS ?_
          · intro w5 hw5
            obtain ⟨c0, c1, c2, c3⟩ := hw5
            go_simp
          simp only [List.getElem_toArray, List.getElem_cons_succ, List.getElem_cons_zero, Act.put, List.setIfInBounds_toArray, List.set_cons_zero, List.set_cons_succ]
          refine wpAnyH_take (i := 6) (v := .int .i64 (j : Int)) rfl (by kernel_rfl) (by kernel_rfl) (by kernel_rfl) (fun _ _ _ h => h) (Or.inl ⟨by kernel_rfl, ?_⟩) HS ?_
          · intro w5 hw5
            obtain ⟨c0, c1, c2, c3⟩ := hw5
            go_simp
          simp only [List.getElem_toArray, List.getElem_cons_succ, List.getElem_cons_zero, Act.put, List.setIfInBounds_toArray, List.set_cons_zero, List.set_cons_succ]
          refine wpAnyH_take (i := 7) (v := .pointer (some ⟨b2, o2 + j * 2, none⟩)) rfl (by kernel_rfl) (by kernel_rfl) (by kernel_rfl) (fun _ _ _ h => h) (Or.inl ⟨by kernel_rfl, ?_⟩) HS ?_
          · intro w5 hw5
            obtain ⟨c0, c1, c2, c3⟩ := hw5
            go_simp
          simp only [List.getElem_toArray, List.getElem_cons_succ, List.getElem_cons_zero, Act.put, List.setIfInBounds_toArray, List.set_cons_zero, List.set_cons_succ]
          refine wpAnyH_take (i := 8) (v := .pointer (some ⟨b2, o2 + j * 2, none⟩)) rfl (by kernel_rfl) (by kernel_rfl) (by kernel_rfl) (fun _ _ _ h => h) (Or.inl ⟨by kernel_rfl, ?_⟩) HS ?_
          · intro w5 hw5
            obtain ⟨c0, c1, c2, c3⟩ := hw5
            go_simp
          simp only [List.getElem_toArray, List.getElem_cons_succ, List.getElem_cons_zero, Act.put, List.setIfInBounds_toArray, List.set_cons_zero, List.set_cons_succ]
          refine wpAnyH_take (i := 9) (v := .string ⟨t.toArray⟩) rfl (by kernel_rfl) (by kernel_rfl) (by kernel_rfl) (fun _ _ _ h => h) (Or.inl ⟨by kernel_rfl, ?_⟩) HS ?_
          · intro w5 hw5
            obtain ⟨c0, c1, c2, c3⟩ := hw5
            go_simp
          simp only [List.getElem_toArray, List.getElem_cons_succ, List.getElem_cons_zero, Act.put, List.setIfInBounds_toArray, List.set_cons_zero, List.set_cons_succ]
          refine wpAnyH_take (i := 10) (v := .bool false) rfl (by kernel_rfl) (by kernel_rfl) (by kernel_rfl) (fun _ _ _ h => h) (Or.inl ⟨by kernel_rfl, ?_⟩) HS ?_
          · intro w5 hw5
            obtain ⟨c0, c1, c2, c3⟩ := hw5
            go_simp
            first | done | (simp [hs2]; done) | (simp_all; done)
          simp only [List.getElem_toArray, List.getElem_cons_succ, List.getElem_cons_zero, Act.put, List.setIfInBounds_toArray, List.set_cons_zero, List.set_cons_succ]
          refine wpAnyH_take (i := 11) (v := .bool false) rfl (by kernel_rfl) (by kernel_rfl) (by kernel_rfl) (fun _ _ _ h => h) (Or.inl ⟨by kernel_rfl, ?_⟩) HS ?_
          · intro w5 hw5
            obtain ⟨c0, c1, c2, c3⟩ := hw5
            go_simp
          simp only [List.getElem_toArray, List.getElem_cons_succ, List.getElem_cons_zero, Act.put, List.setIfInBounds_toArray, List.set_cons_zero, List.set_cons_succ]
          refine wpAnyH_take (i := 12) (v := .slice (some ⟨b1, o1, none⟩) n c) rfl (by kernel_rfl) (by kernel_rfl) (by kernel_rfl) (fun _ _ _ h => h) (Or.inl ⟨by kernel_rfl, ?_⟩) HS ?_
          · intro w5 hw5
            obtain ⟨c0, c1, c2, c3⟩ := hw5
            go_simp
          simp only [List.getElem_toArray, List.getElem_cons_succ, List.getElem_cons_zero, Act.put, List.setIfInBounds_toArray, List.set_cons_zero, List.set_cons_succ]
          refine wpAnyH_take (i := 13) (v := .int .i64 (j : Int)) rfl (by kernel_rfl) (by kernel_rfl) (by kernel_rfl) (fun _ _ _ h => h) (Or.inl ⟨by kernel_rfl, ?_⟩) HS ?_
          · intro w5 hw5
            obtain ⟨c0, c1, c2, c3⟩ := hw5
            go_simp
          simp only [List.getElem_toArray, List.getElem_cons_succ, List.getElem_cons_zero, Act.put, List.setIfInBounds_toArray, List.set_cons_zero, List.set_cons_succ]
          refine wpAnyH_take (i := 14) (v := .pointer (some ⟨b1, o1 + j * 2, none⟩)) rfl (by kernel_rfl) (by kernel_rfl) (by kernel_rfl) (fun _ _ _ h => h) (Or.inl ⟨by kernel_rfl, ?_⟩) HS ?_
          · intro w5 hw5
            obtain ⟨c0, c1, c2, c3⟩ := hw5
            go_simp
          simp only [List.getElem_toArray, List.getElem_cons_succ, List.getElem_cons_zero, Act.put, List.setIfInBounds_toArray, List.set_cons_zero, List.set_cons_succ]
          refine wpAnyH_take (i := 15) (v := .pointer (some ⟨b1, o1 + j * 2 + 1, none⟩)) rfl (by kernel_rfl) (by kernel_rfl) (by kernel_rfl) (fun _ _ _ h => h) (Or.inl ⟨by kernel_rfl, ?_⟩) HS ?_
          · intro w5 hw5
            obtain ⟨c0, c1, c2, c3⟩ := hw5
            go_simp
          simp only [List.getElem_toArray, List.getElem_cons_succ, List.getElem_cons_zero, Act.put, List.setIfInBounds_toArray, List.set_cons_zero, List.set_cons_succ]
          refine wpAnyH_take (i := 16) (v := .slice aA an ac) rfl (by kernel_rfl) (by kernel_rfl) (by kernel_rfl) (fun _ _ _ h => h) (Or.inl ⟨by kernel_rfl, ?_⟩) HS ?_
          · intro w5 hw5
            obtain ⟨c0, c1, c2, c3⟩ := hw5
            go_simp
          simp only [List.getElem_toArray, List.getElem_cons_succ, List.getElem_cons_zero, Act.put, List.setIfInBounds_toArray, List.set_cons_zero, List.set_cons_succ]
          refine wpAnyH_take (i := 17) (v := .slice (some ⟨b2, o2, none⟩) n d) rfl (by kernel_rfl) (by kernel_rfl) (by kernel_rfl) (fun _ _ _ h => h) (Or.inl ⟨by kernel_rfl, ?_⟩) HS ?_
          · intro w5 hw5
            obtain ⟨c0, c1, c2, c3⟩ := hw5
            go_simp
          simp only [List.getElem_toArray, List.getElem_cons_succ, List.getElem_cons_zero, Act.put, List.setIfInBounds_toArray, List.set_cons_zero, List.set_cons_succ]
          refine wpAnyH_take (i := 18) (v := .int .i64 (j : Int)) rfl (by kernel_rfl) (by kernel_rfl) (by kernel_rfl) (fun _ _ _ h => h) (Or.inl ⟨by kernel_rfl, ?_⟩) HS ?_
          · intro w5 hw5
            obtain ⟨c0, c1, c2, c3⟩ := hw5
            go_simp
          simp only [List.getElem_toArray, List.getElem_cons_succ, List.getElem_cons_zero, Act.put, List.setIfInBounds_toArray, List.set_cons_zero, List.set_cons_succ]
          refine wpAnyH_take (i := 19) (v := .pointer (some ⟨b2, o2 + j * 2, none⟩)) rfl (by kernel_rfl) (by kernel_rfl) (by kernel_rfl) (fun _ _ _ h => h) (Or.inl ⟨by kernel_rfl, ?_⟩) HS ?_
          · intro w5 hw5
            obtain ⟨c0, c1, c2, c3⟩ := hw5
            go_simp
          simp only [List.getElem_toArray, List.getElem_cons_succ, List.getElem_cons_zero, Act.put, List.setIfInBounds_toArray, List.set_cons_zero, List.set_cons_succ]
          refine wpAnyH_take (i := 20) (v := .pointer (some ⟨b2, o2 + j * 2 + 1, none⟩)) rfl (by kernel_rfl) (by kernel_rfl) (by kernel_rfl) (fun _ _ _ h => h) (Or.inl ⟨by kernel_rfl, ?_⟩) HS ?_
          · intro w5 hw5
            obtain ⟨c0, c1, c2, c3⟩ := hw5
            go_simp
          simp only [List.getElem_toArray, List.getElem_cons_succ, List.getElem_cons_zero, Act.put, List.setIfInBounds_toArray, List.set_cons_zero, List.set_cons_succ]
          refine wpAnyH_take (i := 21) (v := .slice bA bn bc) rfl (by kernel_rfl) (by kernel_rfl) (by kernel_rfl) (fun _ _ _ h => h) (Or.inl ⟨by kernel_rfl, ?_⟩) HS ?_
          · intro w5 hw5
            obtain ⟨c0, c1, c2, c3⟩ := hw5
            go_simp
          simp only [List.getElem_toArray, List.getElem_cons_succ, List.getElem_cons_zero, Act.put, List.setIfInBounds_toArray, List.set_cons_zero, List.set_cons_succ]
          refine wpAnyH_ready (rs := [22]) (by kernel_rfl) (by simp) ?_
          refine AllReadyH.cons rfl (fun K hK => ?_) AllReadyH.nil
          go_simp
          refine (HTX.out _ (Keeps.drew (Keeps.refl [] wr))).mono ?_
          rintro e w5 ⟨rfl, hk5⟩
          have K5 : Hid (Keeps [] wr w5) := Keeps.trans' ((Keeps.refl [] wr).drew) hk5
          clear hk5
          refine hK.out _ _ (HF.out _ K5.out) (fun HS => ?_)
          clear hK K
          refine wpAnyH_take (i := 23) (v := .bool (!q)) rfl (by kernel_rfl) (by kernel_rfl) (by kernel_rfl) (fun _ _ _ h => h) (Or.inl ⟨by kernel_rfl, ?_⟩) HS ?_
          · intro w5 hw5
            obtain ⟨c0, c1, c2, c3⟩ := hw5
            go_simp
          simp only [List.getElem_toArray, List.getElem_cons_succ, List.getElem_cons_zero, Act.put, List.setIfInBounds_toArray, List.set_cons_zero, List.set_cons_succ]
          refine wpAnyH_take (i := 24) (v := .bool (!q)) rfl (by kernel_rfl) (by kernel_rfl) (by kernel_rfl) (fun _ _ _ h => h) (Or.inl ⟨by kernel_rfl, ?_⟩) HS ?_
          · intro w5 hw5
            obtain ⟨c0, c1, c2, c3⟩ := hw5
            go_simp
          simp only [List.getElem_toArray, List.getElem_cons_succ, List.getElem_cons_zero, Act.put, List.setIfInBounds_toArray, List.set_cons_zero, List.set_cons_succ]
          refine wpAnyH_done (by kernel_rfl) ?_ _
          cases q
          · have HRF : Hid (z = false) := by show _ = _; rw [← HR.out]; exact HNE.out (by first | exact trivial | rfl)
            go_wp2_with fail
            go_ret
            rw [HRF.out]
            exact ⟨rfl, HKR.out.trans' K5.out⟩
          · go_wp2_with fail
            go_roundw
            case rel => exact ⟨j + 1, by go_num, by omega, HTE.out (by first | exact trivial | rfl), HKR.out.trans' K5.out⟩
            case measure => simp [intOf]; omega
      · obtain rfl : j = n := by omega
        have h9 := HA.out
        rw [List.take_of_length_le (by rw [HL1.out]; exact Nat.le_refl _), List.take_of_length_le (by rw [HL2.out]; exact Nat.le_refl _)] at h9
        have HRT : Hid (z = true) := by show _ = _; rw [← HR.out, h9]; simp
        clear h9
        go_wp2_with fail
        go_ret
        rw [HRT.out]
        exact ⟨rfl, HKR.out⟩
  · have hne : ¬ (n : Int) = (m : Int) := by omega
    have hneb : ((n : Int) == (m : Int)) = false := by simp; omega
    have HRF : Hid (z = false) := by
      show _ = _
      rw [← HR.out, beq_eq_false_iff_ne]
      intro h9
      rw [h9, HL2.out] at HL1
      exact hnm HL1.out.symm
    go_enter Tryz.func14, Tryz.ntmps14
    go_wp2_with fail
    go_ret
    rw [HRF.out]
    exact ⟨rfl, Keeps.refl _ _⟩
end Go.Proofs.YtebocagkpkpghaaGreatDoor
/- entry: the law's texts, light; walked. -/
namespace Go.Proofs.YtebocagkpkpghaaGreatDoor
open Go.RowKit Go.Shelf
set_option linter.unusedVariables false
set_option linter.unusedSimpArgs false
set_option maxRecDepth 100000

def TxtQ (n most : Nat) (l : List Txt) (w : World) (e : Ending) (w' : World) : Prop := ∃ (k : Nat) (r : Bool), e = .returned (.tuple #[.int .i64 (k : Int), .bool r]) ∧ (r = true → n ≤ most ∧ k ≤ 6000 ∧ ∀ s ∈ l, s.length ≤ 3000) ∧ k ≤ 3000000 ∧ w = w'
set_option maxHeartbeats 4000000 in
theorem texts7_is (A : Option Addr) (n c most : Nat) (l : List Txt) (w : World) (h : StrsIn w A n l) (hm : most ≤ 1000) :
    Calls Tryz.prog 31 #[.slice A n c, .int .i64 (most : Int)] w (TxtQ n most l w) := by
  have HV : Hid (StrsIn w A n l) := h
  obtain ⟨V, hV⟩ : ∃ V : World, V = w := ⟨_, rfl⟩
  subst hV
  clear h
  by_cases hnm : n ≤ most
  · have h1 : ¬ (most : Int) < (n : Int) := by omega
    go_enter Tryz.func31, Tryz.ntmps31
    go_wp2_with fail
    go_loopw [6, 7] (fun t i wr => ∃ j k : Nat, t = .int .i64 (k : Int) ∧ i = .int .i64 (j : Int) ∧ j ≤ n ∧ k ≤ 3000 * j ∧ Hid (∀ s ∈ l.take j, s.length ≤ 3000) ∧ wr = V) (fun _ i _ => n - (intOf i).toNat)
    case atStart => exact ⟨0, 0, rfl, rfl, Nat.zero_le _, Nat.le_refl _, by simp [Hid], rfl⟩
    case round =>
      obtain ⟨j, k, rfl, rfl, hj, hk, HA, rfl⟩ := hrel
      by_cases hlt : j < n
      · obtain ⟨hl, hp, hc9⟩ := HV.out
        obtain ⟨b, o, hA9, hcc⟩ := hc9 (by omega)
        clear hc9
        subst hA9
        obtain ⟨s, hu⟩ : ∃ s, l[j]? = some s := ⟨_, List.getElem?_eq_getElem (by omega)⟩
        have c0 := hcc j s hu
        have HU := Lib.hid hu
        unfold tv at c0
        have hji : (j : Int) < (n : Int) := by omega
        have hj0 : (0 : Int) ≤ (j : Int) := by omega
        clear hcc hu hp hl
        by_cases h3 : 3000 < s.length
        · have h3' : (3000 : Int) < (s.length : Int) := by omega
          go_wp2_with fail
          refine bodyPost_ret (results_tmp2 rfl _ _ _) rfl ?_
          exact ⟨0, false, rfl, by simp, by omega, rfl⟩
        · have h3' : ¬ (3000 : Int) < (s.length : Int) := by omega
          have HN2 : Hid (∀ x ∈ l.take (j + 1), x.length ≤ 3000) := fun x hx => by
            rw [List.take_add_one, HU.out, List.mem_append] at hx
            rcases hx with h9 | h9
            · exact HA.out x h9
            · simp at h9
              rw [h9]
              omega
          have hs9 : s.length ≤ 3000 := by omega
          have hk9 : k ≤ 3000000 := by omega
          go_wp2_with fail
          go_roundw
          case rel => exact ⟨j + 1, k + s.length, by go_num, by go_num, by omega, by omega, HN2.out, trivial⟩
          case measure => simp [intOf]; omega
      · obtain rfl : j = n := by omega
        have h9 := HA.out
        rw [List.take_of_length_le (by rw [HV.out.1]; exact Nat.le_refl _)] at h9
        have H9 := Lib.hid h9
        clear h9
        by_cases h6 : k ≤ 6000
        · have h6' : (k : Int) ≤ 6000 := by omega
          go_wp2_with fail
          refine bodyPost_ret (results_tmp2 rfl _ _ _) rfl ?_
          exact ⟨k, true, rfl, fun _ => ⟨hnm, h6, H9.out⟩, by omega, rfl⟩
        · have h6' : ¬ (k : Int) ≤ 6000 := by omega
          go_wp2_with fail
          refine bodyPost_ret (results_tmp2 rfl _ _ _) rfl ?_
          exact ⟨k, false, rfl, by simp, by omega, rfl⟩
  · have h1 : (most : Int) < (n : Int) := by omega
    go_enter Tryz.func31, Tryz.ntmps31
    go_wp2_with fail
    refine bodyPost_ret (results_tmp2 rfl _ _ _) rfl ?_
    exact ⟨0, false, rfl, by simp, by omega, rfl⟩

/-- What a light entry is. -/
def LightE (l : List At7) : Prop := l.length ≤ 30 ∧ ∀ a ∈ l, a.n ≤ 20 ∧ a.name.length ≤ 200 ∧ ∀ s ∈ a.vs, s.length ≤ 3000
def LigQ (l : List At7) (w : World) (e : Ending) (w' : World) : Prop := ∃ r : Bool, e = .returned (.bool r) ∧ (r = true → LightE l) ∧ w = w'
set_option maxHeartbeats 4000000 in
theorem light7_is (A : Option Addr) (n c : Nat) (l : List At7) (w : World) (h : EntIn w A n l) :
    Calls Tryz.prog 9 #[.slice A n c] w (LigQ l w) := by
  have HV := Lib.hid h
  obtain ⟨V, hV⟩ : ∃ V : World, V = w := ⟨_, rfl⟩
  subst hV
  clear h
  by_cases hnm : n ≤ 30
  · have h1 : ¬ (30 : Int) < (n : Int) := by omega
    go_enter Tryz.func9, Tryz.ntmps9
    go_wp2_with fail
    go_loopw [3, 4] (fun t i wr => ∃ j k : Nat, t = .int .i64 (k : Int) ∧ i = .int .i64 (j : Int) ∧ j ≤ n ∧ k ≤ 3000000 * j ∧ Hid (∀ a ∈ l.take j, a.n ≤ 20 ∧ a.name.length ≤ 200 ∧ ∀ s ∈ a.vs, s.length ≤ 3000) ∧ wr = V) (fun _ i _ => n - (intOf i).toNat)
    case atStart => exact ⟨0, 0, rfl, rfl, Nat.zero_le _, Nat.le_refl _, by simp [Hid], rfl⟩
    case round =>
      obtain ⟨j, k, rfl, rfl, hj, hk, HA, rfl⟩ := hrel
      by_cases hlt : j < n
      · obtain ⟨hl, hp, hc9⟩ := HV.out
        obtain ⟨b, o, hA9, hcc⟩ := hc9 (by omega)
        clear hc9
        subst hA9
        obtain ⟨a, hu⟩ : ∃ s, l[j]? = some s := ⟨_, List.getElem?_eq_getElem (by omega)⟩
        obtain ⟨c0, c1⟩ := hcc j a hu
        have HTX := Lib.hid (texts7_is a.A a.n a.c 20 a.vs wr (hp a (List.mem_of_getElem? hu)).2.2.2 (by omega))
        have HU := Lib.hid hu
        obtain ⟨nm, aA, an, ac, avs⟩ := a
        dsimp only at c0 c1 HTX
        unfold tv at c0
        have hji : (j : Int) < (n : Int) := by omega
        have hj0 : (0 : Int) ≤ (j : Int) := by omega
        clear hcc hu hp hl
        go_wp2_with fail
        refine HTX.out.mono ?_
        rintro e w1 ⟨k1, r, rfl, hr, hk1, rfl⟩
        have HR := Lib.hid hr
        clear hr
        cases r
        · go_wp2_with fail
          go_ret
          exact ⟨false, rfl, by simp, rfl⟩
        · by_cases h2 : 200 < nm.length
          · have h2' : (200 : Int) < (nm.length : Int) := by omega
            go_wp2_with fail
            go_ret
            exact ⟨false, rfl, by simp, rfl⟩
          · have h2' : ¬ (200 : Int) < (nm.length : Int) := by omega
            have HN2 : Hid (∀ x ∈ l.take (j + 1), x.n ≤ 20 ∧ x.name.length ≤ 200 ∧ ∀ s ∈ x.vs, s.length ≤ 3000) := fun x hx => by
              rw [List.take_add_one, HU.out, List.mem_append] at hx
              rcases hx with h9 | h9
              · exact HA.out x h9
              · simp at h9
                rw [h9]
                obtain ⟨h7, _, h8⟩ := HR.out rfl
                exact ⟨h7, by show nm.length ≤ _; omega, h8⟩
            have hk9 : k ≤ 90000000 := by omega
            go_wp2_with fail
            go_roundw
            case rel => exact ⟨j + 1, k + k1, by go_num, by go_num, by omega, by omega, HN2.out, trivial⟩
            case measure => simp [intOf]; omega
      · obtain rfl : j = n := by omega
        have h9 := HA.out
        rw [List.take_of_length_le (by rw [HV.out.1]; exact Nat.le_refl _)] at h9
        have H9 : Hid (LightE l) := ⟨by rw [HV.out.1]; exact hnm, h9⟩
        clear h9
        by_cases h6 : k ≤ 6000
        · have h6' : (k : Int) ≤ 6000 := by omega
          go_wp2_with fail
          go_ret
          exact ⟨true, rfl, fun _ => H9.out, rfl⟩
        · have h6' : ¬ (k : Int) ≤ 6000 := by omega
          go_wp2_with fail
          go_ret
          exact ⟨false, rfl, by simp, rfl⟩
  · have h1 : (30 : Int) < (n : Int) := by omega
    go_enter Tryz.func9, Tryz.ntmps9
    go_wp2_with fail
    go_ret
    exact ⟨false, rfl, by simp, rfl⟩
end Go.Proofs.YtebocagkpkpghaaGreatDoor
