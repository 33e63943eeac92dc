/- DiskReads: sizes that New refuses, and rows that are too long. -/
import Derived.Test.YtadpomclnhemoaaS17
import Derived.Test.YtadpomclnhemoaaD23
namespace Go.Proofs.Ytadpomclnhemoaa
open Go.RowKit
set_option linter.unusedVariables false

theorem diskreads_out (size : Int) (A : Option Addr) (len c : Nat) (l : List ActD) (b0 b1 : Int) (w : World) (hl : ActsAt w A len l) (hm : len ≤ 9223372036854775807) (hf : fewB size l = false) :
    Calls Try.prog 4 #[.int .i64 size, .slice A len c, .agg #[.int .i64 b0, .int .i64 b1]] w fun e w' => e = .returned (.bool true) ∧ Below w.heap.size w w' := by
  have FW := Lib.hid (few_is size A len c l (w.alloc (.cells #[.int .i64 b0, .int .i64 b1] 42)) (hl.keep ((Keeps.refl [] w).alloc _)) hm)
  rw [hf] at FW
  clear hl hf
  go_enter Try.func4, Try.ntmps4
  go_wp2_with fail
  refine FW.out.mono ?_
  rintro e w' ⟨rfl, rfl⟩
  go_wp2_with fail
  refine (known_any _).mono ?_
  rintro e w1 ⟨rfl, hb1⟩
  have HB := Lib.hid (((Keeps.refl [] w).alloc _).trans' (Keeps.of_below hb1))
  clear hb1
  go_wp2
  go_ret
  exact ⟨rfl, HB.out.below (Nat.le_refl _) (by simp)⟩

theorem diskreads_small (size : Int) (A : Option Addr) (len c : Nat) (l : List ActD) (b0 b1 : Int) (w : World) (hl : ActsAt w A len l) (hm : len ≤ 9223372036854775807) (hs : size < 1) (hf : fewB size l = true) :
    Calls Try.prog 4 #[.int .i64 size, .slice A len c, .agg #[.int .i64 b0, .int .i64 b1]] w fun e w' => e = .returned (.bool true) ∧ Below w.heap.size w w' := by
  have FW := Lib.hid (few_is size A len c l (w.alloc (.cells #[.int .i64 b0, .int .i64 b1] 42)) (hl.keep ((Keeps.refl [] w).alloc _)) hm)
  rw [hf] at FW
  have NW := Lib.hid (new_no size (w.alloc (.cells #[.int .i64 b0, .int .i64 b1] 42)) (.inl hs))
  clear hl hf hs
  go_enter Try.func4, Try.ntmps4
  go_wp2_with fail
  refine FW.out.mono ?_
  rintro e w' ⟨rfl, rfl⟩
  go_wp2_with fail
  refine NW.out.mono ?_
  rintro e w' ⟨rfl, rfl⟩
  go_wp2_with fail
  refine (known_any _).mono ?_
  rintro e w2 ⟨rfl, hb2⟩
  have HB := Lib.hid (((Keeps.refl [] w).alloc _).trans' (Keeps.of_below hb2))
  clear hb2
  go_wp2
  go_ret
  exact ⟨rfl, HB.out.below (Nat.le_refl _) (by simp)⟩

theorem diskreads_any (size : Int) (A : Option Addr) (len c : Nat) (l : List ActD) (b0 b1 : Int) (w : World) (hl : ActsAt w A len l) (hm : len ≤ 9223372036854775807) (hb0 : i64 b0) (hb1 : i64 b1) :
    Calls Try.prog 4 #[.int .i64 size, .slice A len c, .agg #[.int .i64 b0, .int .i64 b1]] w fun e w' => e = .returned (.bool true) ∧ Below w.heap.size w w' := by
  cases hf : fewB size l with
  | false => exact diskreads_out size A len c l b0 b1 w hl hm hf
  | true =>
    obtain ⟨h1, h2, h3⟩ := fewB_true hf
    by_cases hs : size < 1
    · exact diskreads_small size A len c l b0 b1 w hl hm hs hf
    · obtain ⟨n, rfl⟩ := Int.eq_ofNat_of_zero_le (show 0 ≤ size by omega)
      exact diskreads_try n A len c l b0 b1 w (by omega) (by omega) (by have := hl.len; omega) hl h3 hb0 hb1

end Go.Proofs.Ytadpomclnhemoaa
