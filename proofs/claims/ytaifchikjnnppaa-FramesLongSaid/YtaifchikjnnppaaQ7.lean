/- FramesLong: records as long as they may be, and one byte more. -/
import Derived.Test.YtaifchikjnnppaaQ5
import Derived.Laws.MakeOwn
import Derived.Laws.OwnMore
namespace Go.Proofs.Ytaifchikjnnppaa
open Go.RowKit
set_option linter.unusedVariables false

theorem long_out (k : Int) (w : World) (h : k < 32760 ∨ (32760 ≤ k ∧ 32780 < k)) : Calls Try.prog 6 #[.int .i64 k] w fun e w' => e = .returned (.bool true) ∧ Keeps [] w w' := by
  rcases h with h | ⟨h, h2⟩
  · go_enter Try.func6, Try.ntmps6
    go_wp2_with fail
    refine (known3_any w).mono ?_
    rintro e w1 ⟨rfl, hk1⟩
    have HK1 := Lib.hid hk1
    clear hk1
    go_wp2_with fail
    go_ret
    exact ⟨rfl, HK1.out⟩
  · go_enter Try.func6, Try.ntmps6
    go_wp2_with fail
    refine (known3_any w).mono ?_
    rintro e w1 ⟨rfl, hk1⟩
    have HK1 := Lib.hid hk1
    clear hk1
    go_wp2_with fail
    go_ret
    exact ⟨rfl, HK1.out⟩

/-- The record: a seven, then noughts. -/
def seven (n : Nat) : List UInt8 := 7 :: List.replicate (n - 1) 0

theorem frames_one {x : List UInt8} (h : x.length ≤ 32768) : recs (frameOf x) = [x] := by
  have h1 := recs_joinF [x] [] (by simpa using h)
  have h0 : recs [] = [] := rfl
  simp only [joinF, List.flatMap_cons, List.flatMap_nil, List.append_nil, h0] at h1
  exact h1

/-- What make and the store leave. -/
theorem long_mem (n : Nat) (w : World) (h1 : 32760 ≤ n) (h2 : n ≤ 32780) : ∃ W1, (Instr.makeSlice 22 (.int .i64 (n : Int)) (.int .i64 (n : Int))).run Try.prog w = .ok (.slice (some ⟨w.heap.size, 0, none⟩) n n) W1 ∧ W1.cell? ⟨w.heap.size, 0, none⟩ = some (.int .u8 0) ∧ W1.frozen? ⟨w.heap.size, 0, none⟩ = false ∧
    BytesAt (W1.setCell ⟨w.heap.size, 0, none⟩ (.int .u8 7)) (.slice (some ⟨w.heap.size, 0, none⟩) n n) (seven n) ∧ (seven n).length = n ∧ Keeps [] w (W1.setCell ⟨w.heap.size, 0, none⟩ (.int .u8 7)) := by
  obtain ⟨iu, hiu, hzu0, hzu1, hzu2⟩ := info_parts u8_of
  have hmk := run_make (P := Try.prog) (w := w) 22 5 iu (.int .u8 0) Try.underlying22 hiu hzu0 .i64 .i64 (n : Int) (n : Int) (by omega) (by omega) (by rw [hzu2]; omega) (by omega)
  rw [hzu1] at hmk
  simp only [Int.toNat_natCast, Nat.mul_one] at hmk
  rw [show (Value.int IntKind.u8 0).cells = #[.int .u8 0] from rfl] at hmk
  have hC : ∀ i, i < n → (w.alloc (.cells (madeCells #[.int .u8 0] n) 5)).cell? ⟨w.heap.size, i, none⟩ = some (.int .u8 0) := fun i hi => by
    rw [World.cell?_alloc_new, ← Array.getElem?_toList, toList_madeCells_one]
    simp [hi]
  have hF : (w.alloc (.cells (madeCells #[.int .u8 0] n) 5)).frozen? ⟨w.heap.size, 0, none⟩ = false := free_of_blk (heap_alloc_new' w _) 0
  have hK : Keeps [] w (w.alloc (.cells (madeCells #[.int .u8 0] n) 5)) := (Keeps.refl [] w).alloc _
  generalize w.alloc (.cells (madeCells #[.int .u8 0] n) 5) = W1 at *
  have c0 := hC 0 (by omega)
  have HB : (BytesAt (W1.setCell ⟨w.heap.size, 0, none⟩ (.int .u8 7)) (.slice (some ⟨w.heap.size, 0, none⟩) n n) (seven n)) := by
    have hl : (seven n).length = n := by simp [seven]; omega
    refine ⟨_, n, by rw [hl], by omega, by unfold maxLen; omega, fun _ => ⟨w.heap.size, 0, rfl, fun i u hu => ?_⟩⟩
    rw [Nat.zero_add]
    have hi : i < n := by have := (List.getElem?_eq_some_iff.1 hu).1; omega
    by_cases h0 : i = 0
    · subst h0
      simp only [seven, List.getElem?_cons_zero, Option.some.injEq] at hu
      subst hu
      exact World.cell?_setCell_same' _ _ _ (by rw [c0]; rfl)
    · rw [World.cell?_setCell_other _ _ _ _ (by intro h; cases h; exact h0 rfl), hC i hi]
      obtain ⟨j, rfl⟩ : ∃ j, i = j + 1 := ⟨i - 1, by omega⟩
      simp only [seven, List.getElem?_cons_succ] at hu
      rw [List.getElem?_replicate, if_pos (by omega)] at hu
      injection hu with hu
      subst hu
      rfl
  have hln : (seven n).length = n := by simp [seven]; omega
  exact ⟨W1, hmk, c0, hF, HB, hln, hK.setCell (.inr (Nat.le_refl _)) _⟩

set_option maxRecDepth 100000 in
theorem long_over (n : Nat) (w : World) (h1 : 32760 ≤ n) (h2 : n ≤ 32780) (hg : 32768 < n) : Calls Try.prog 6 #[.int .i64 (n : Int)] w fun e w' => e = .returned (.bool true) ∧ Keeps [] w w' := by
  obtain ⟨W1, hmk, c0, hF, hB, hln, hK2⟩ := long_mem n w h1 h2
  have HB := Lib.hid hB
  have HL := Lib.hid hln
  have HK2 := Lib.hid hK2
  have j1 : (32760 : Int) ≤ (n : Int) := by omega
  have j2 : (n : Int) ≤ 32780 := by omega
  have j0 : 0 < n := by omega
  clear hB hln hK2 h1
  go_enter Try.func6, Try.ntmps6
  go_wp2_with fail
  refine (frame_long _ n n _ hg (by omega)).mono ?_
  rintro e w2 ⟨rfl, rfl⟩
  go_wp2_with fail
  refine (size_long _ n n _ hg (by omega)).mono ?_
  rintro e w2 ⟨rfl, rfl⟩
  go_wp2_with fail
  refine (known3_any _).mono ?_
  rintro e w3 ⟨rfl, hk3⟩
  have HK3 := Lib.hid (HK2.out.trans' hk3)
  clear hk3
  go_wp2_with fail
  go_ret
  exact ⟨rfl, HK3.out⟩

set_option maxRecDepth 100000 in
set_option maxHeartbeats 1000000 in
theorem long_ok (n : Nat) (w : World) (h1 : 32760 ≤ n) (h2 : n ≤ 32780) (hg' : n ≤ 32768) : Calls Try.prog 6 #[.int .i64 (n : Int)] w fun e w' => e = .returned (.bool true) ∧ Keeps [] w w' := by
  obtain ⟨W1, hmk, c0, hF, hB, hln, hK2⟩ := long_mem n w h1 h2
  have HB := Lib.hid hB
  have HL := Lib.hid hln
  have HK2 := Lib.hid hK2
  have j1 : (32760 : Int) ≤ (n : Int) := by omega
  have j2 : (n : Int) ≤ 32780 := by omega
  have j0 : 0 < n := by omega
  clear hB hln hK2 h1
  have F1 := Lib.hid (frame_ok _ n n (seven n) _ HL.out HB.out hg')
  have HO : Hid (offs (recs (frameOf (seven n))) = n + 12) := by
    show _ = _
    rw [frames_one (by rw [HL.out]; exact hg')]
    simp [offs, HL.out]
  have HFL : Hid ((frameOf (seven n)).length = n + 12) := by
    show _ = _
    rw [frameOf_len, HL.out]
  generalize seven n = sv at *
  generalize frameOf sv = fr at *
  go_enter Try.func6, Try.ntmps6
  go_wp2_with fail
  refine F1.out.mono ?_
  rintro e w2 ⟨g, cp, rfl, hg, hM, hk2⟩
  have hbf : BytesAt w2 (.slice (some ⟨g, 0, none⟩) (n + 12) cp) fr := by
    have h := hM.bytes
    rw [HFL.out] at h
    exact h
  have HBF := Lib.hid hbf
  have K2 := Lib.hid (HK2.out.trans' hk2)
  clear hbf hk2 hM hg F1 c0 hF hmk HB
  go_wp2_with fail
  refine (size_ok _ n n _ hg').mono ?_
  rintro e w3 ⟨rfl, rfl⟩
  go_wp2_with fail
  refine (asks_is _ (n + 12) cp fr w2 HFL.out HBF.out (by omega)).mono ?_
  rintro e w3 ⟨rfl, hk3⟩
  have HK3 := Lib.hid hk3
  clear hk3
  have H4 := Lib.hid (end_is _ (n + 12) cp fr w3 HFL.out (HBF.out.grow HK3.out))
  rw [HO.out] at H4
  go_wp2_with fail
  refine H4.out.mono ?_
  rintro e w4 ⟨rfl, hk4⟩
  have HK4 := Lib.hid (HK3.out.trans' hk4)
  clear hk4
  go_wp2_with fail
  refine (known3_any _).mono ?_
  rintro e w5 ⟨rfl, hk5⟩
  have HK5 := Lib.hid (K2.out.trans' (HK4.out.trans' hk5))
  clear hk5
  go_wp2_with fail
  go_ret
  exact ⟨rfl, HK5.out⟩

theorem long_row (k : Int) (w : World) (hk : -9223372036854775808 ≤ k ∧ k ≤ 9223372036854775807) : Calls Try.prog 6 #[.int .i64 k] w fun e w' => e = .returned (.bool true) ∧ Below w.heap.size w w' := by
  have h : Calls Try.prog 6 #[.int .i64 k] w fun e w' => e = .returned (.bool true) ∧ Keeps [] w w' := by
    by_cases h1 : k < 32760
    · exact long_out k w (.inl h1)
    · by_cases h2 : 32780 < k
      · exact long_out k w (.inr ⟨by omega, h2⟩)
      · obtain ⟨m, rfl⟩ : ∃ m : Nat, k = (m : Int) := ⟨k.toNat, by omega⟩
        by_cases h3 : 32768 < m
        · exact long_over m w (by omega) (by omega) h3
        · exact long_ok m w (by omega) (by omega) (by omega)
  exact h.mono fun e w' ⟨h1, h2⟩ => ⟨h1, h2.below (Nat.le_refl _) (by simp)⟩

end Go.Proofs.Ytaifchikjnnppaa
