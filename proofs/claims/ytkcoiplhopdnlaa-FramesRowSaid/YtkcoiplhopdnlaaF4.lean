/- frames: is the sum of a frame that of its record? what bytes must be. -/
import Derived.Test.YtkcoiplhopdnlaaF3
import Derived.Test.YtkcoiplhopdnlaaL5
namespace Go.Proofs.Ytkcoiplhopdnlaa
open Go.RowKit
set_option linter.unusedVariables false

theorem cap_of_bytes {w : World} {A : Option Addr} {n c : Nat} {xs : List UInt8} (h : BytesAt w (.slice A n c) xs) : n ≤ c ∧ c ≤ 9223372036854775807 ∧ n = xs.length := by
  obtain ⟨A', c', he, h1, h2, _⟩ := h
  injection he with he1 he2 he3
  unfold maxLen at h2
  omega

theorem sum_right (b o n c : Nat) (xs : List UInt8) (w : World) (hn : xs.length = n) (hb : BytesAt w (.slice (some ⟨b, o, none⟩) n c) xs) (h4 : 8 ≤ n) (h1 : 1 ≤ num4 xs) (h2 : num4 xs + 11 ≤ n) : Calls Try.prog 44 #[.slice (some ⟨b, o, none⟩) n c] w fun e w' => e = .returned (.bool (decide (num4 (xs.drop (7 + num4 xs)) = crcSum (recOf xs)))) ∧ Keeps [] w w' := by
  obtain ⟨hnc, hcm, hxx⟩ := cap_of_bytes hb
  clear hxx
  have RI := record_in b o n c xs w hn hb h4 h1 h2 hnc hcm
  have NU := num_u32 (some ⟨b, o + (7 + num4 xs), none⟩) (n - (7 + num4 xs)) (c - (7 + num4 xs)) (xs.drop (7 + num4 xs)) w (by rw [List.length_drop]; omega) (hb.from (by omega)) (by omega) (by omega)
  have hl := num4_lt xs
  have hl2 := num4_lt (xs.drop (7 + num4 xs))
  have hrl : (recOf xs).length = num4 xs - 1 := by unfold recOf; rw [List.length_take, List.length_drop]; omega
  have BR : BytesAt w (.slice (some ⟨b, o + 8, none⟩) (recOf xs).length (c - 8)) (recOf xs) := by
    rw [hrl]
    exact hb.part (by omega) hn
  have P1 := one_part BR (by omega)
  have SU := csum (some ⟨w.heap.size, 0, none⟩) 1 1 _ _ P1 (by decide) trivial
  rw [hrl] at P1 SU
  have hsl := crcSum_lt (recOf xs)
  have HSU := Lib.hid SU
  have e8 : Hid ((8 : Int) + ((num4 xs - 1 : Nat) : Int) = ((7 + num4 xs : Nat) : Int)) := by show _ = _; omega
  have flat1 : (List.flatMap (fun x : Part => x.bs) [⟨some ⟨b, o + 8, none⟩, c - 8, recOf xs⟩]) = recOf xs := by simp
  rw [flat1] at SU
  have HS := Lib.hid SU
  clear SU HSU hb BR P1 flat1 hrl
  generalize crcSum (recOf xs) = s at *
  generalize num4 (xs.drop (7 + num4 xs)) = s' at *
  generalize num4 xs = h at *
  go_enter Try.func44, Try.ntmps44
  go_wp2_with fail
  refine RI.mono ?_
  rintro e w' ⟨rfl, rfl⟩
  go_wp2_with fail
  rw [show 8 + (h - 1) = 7 + h by omega]
  refine NU.mono ?_
  rintro e w' ⟨rfl, rfl⟩
  go_wp2_with fail
  refine HS.out.mono ?_
  rintro e w1 ⟨rfl, hk1⟩
  have HK : Hid (Keeps [] w w1) := ((Keeps.refl [] w).alloc _).trans' hk1
  clear hk1
  go_wp2_with fail
  go_ret
  exact ⟨ret_bool3 (by rw [Bool.eq_iff_iff, beq_iff_eq, decide_eq_true_eq]; omega), HK.out⟩

/-- The conditions, as they lie in an array. -/
theorem conds_is (w : World) : Calls Try.prog 32 #[] w fun e w' => e = .returned (.agg #[.func (.func 40) #[] #[], .func (.func 41) #[] #[], .func (.func 42) #[] #[], .func (.func 43) #[] #[], .func (.func 44) #[] #[]]) ∧ Keeps [] w w' := by
  go_enter Try.func32, Try.ntmps32
  go_wp2_with fail
  exact bodyPost_ret (results_cell_row rfl _ _ w.heap.size 56 _ (0, 0) _ rfl (heap_alloc_new' w _) Try.underlying56 rfl (by kernel_rfl)) rfl ⟨rfl, (Keeps.refl [] w).alloc _⟩

end Go.Proofs.Ytkcoiplhopdnlaa
