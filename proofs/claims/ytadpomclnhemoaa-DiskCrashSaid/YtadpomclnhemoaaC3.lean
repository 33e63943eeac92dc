/- DiskCrash: sizes that New refuses, and rows that are too long. -/
import Derived.Test.YtadpomclnhemoaaC2
import Derived.Test.YtadpomclnhemoaaD23
namespace Go.Proofs.Ytadpomclnhemoaa
open Go.RowKit
set_option linter.unusedVariables false

set_option maxRecDepth 100000 in
theorem diskcrash_out (size : Int) (A : Option Addr) (len c : Nat) (l : List ActD) (keep torn : Int) (w : World) (hl : ActsAt w A len l) (hm : len ≤ 9223372036854775807) (hf : fewB size l = false) :
    Calls Try.prog 5 #[.int .i64 size, .slice A len c, .agg #[.int .i64 keep, .int .i64 torn]] w fun e w' => e = .returned (.bool true) ∧ Below w.heap.size w w' := by
  have FW := Lib.hid (few_is size A len c l (w.alloc (.cells #[.int .i64 keep, .int .i64 torn] 38)) (hl.keep ((Keeps.refl [] w).alloc _)) hm)
  rw [hf] at FW
  clear hl hf
  go_enter Try.func5, Try.ntmps5
  go_wp2_with fail
  refine FW.out.mono ?_
  rintro e w' ⟨rfl, rfl⟩
  go_wp2_with fail
  refine (known_any _).mono ?_
  rintro e w1 ⟨rfl, hb1⟩
  have HB := Lib.hid (((Keeps.refl [] w).alloc _).trans' (Keeps.of_below hb1))
  clear hb1
  go_wp2
  go_ret
  exact ⟨rfl, HB.out.below (Nat.le_refl _) (by simp)⟩

set_option maxRecDepth 100000 in
theorem diskcrash_small (size : Int) (A : Option Addr) (len c : Nat) (l : List ActD) (keep torn : Int) (w : World) (hl : ActsAt w A len l) (hm : len ≤ 9223372036854775807) (hs : size < 1) (hf : fewB size l = true) :
    Calls Try.prog 5 #[.int .i64 size, .slice A len c, .agg #[.int .i64 keep, .int .i64 torn]] w fun e w' => e = .returned (.bool true) ∧ Below w.heap.size w w' := by
  have FW := Lib.hid (few_is size A len c l (w.alloc (.cells #[.int .i64 keep, .int .i64 torn] 38)) (hl.keep ((Keeps.refl [] w).alloc _)) hm)
  rw [hf] at FW
  have NW := Lib.hid (new_no size (w.alloc (.cells #[.int .i64 keep, .int .i64 torn] 38)) (.inl hs))
  clear hl hf hs
  go_enter Try.func5, Try.ntmps5
  go_wp2_with fail
  refine FW.out.mono ?_
  rintro e w' ⟨rfl, rfl⟩
  go_wp2_with fail
  refine NW.out.mono ?_
  rintro e w' ⟨rfl, rfl⟩
  go_wp2_with fail
  refine (known_any _).mono ?_
  rintro e w1 ⟨rfl, hb1⟩
  have HB := Lib.hid (((Keeps.refl [] w).alloc _).trans' (Keeps.of_below hb1))
  clear hb1
  go_wp2
  go_ret
  exact ⟨rfl, HB.out.below (Nat.le_refl _) (by simp)⟩

theorem diskcrash_any (size : Int) (A : Option Addr) (len c : Nat) (l : List ActD) (keep torn : Int) (w : World) (hl : ActsAt w A len l) (hm : len ≤ 9223372036854775807) (hk : i64 keep) (ht : i64 torn) :
    Calls Try.prog 5 #[.int .i64 size, .slice A len c, .agg #[.int .i64 keep, .int .i64 torn]] w fun e w' => e = .returned (.bool true) ∧ Below w.heap.size w w' := by
  cases hf : fewB size l with
  | false => exact diskcrash_out size A len c l keep torn w hl hm hf
  | true =>
    obtain ⟨h1, h2, h3⟩ := fewB_true hf
    by_cases hs : size < 1
    · exact diskcrash_small size A len c l keep torn w hl hm hs hf
    · obtain ⟨n, rfl⟩ := Int.eq_ofNat_of_zero_le (show 0 ≤ size by omega)
      exact diskcrash_try n A len c l keep torn w (by omega) (by omega) (by have := hl.len; omega) hl h3 hk ht

end Go.Proofs.Ytadpomclnhemoaa
