/- DiskArms: numbers and lengths that are out of its bounds. -/
import Derived.Test.YtadpomclnhemoaaA1
namespace Go.Proofs.Ytadpomclnhemoaa
open Go.RowKit
set_option linter.unusedVariables false

set_option maxRecDepth 100000 in
set_option maxHeartbeats 2000000 in
theorem diskarms_out (size n : Int) (As Ab : Option Addr) (ls cs lb cb : Nat) (w : World) (hl : ls ≤ 9223372036854775807) (hb : lb ≤ 9223372036854775807) (h : size < 20 ∨ 300 < size ∨ n < -5 ∨ 30 < n ∨ (40 : Int) < ls ∨ (20 : Int) < lb) :
    Calls Try.prog 8 #[.int .i64 size, .int .i64 n, .agg #[.slice As ls cs, .slice Ab lb cb]] w fun e w' => e = .returned (.bool true) ∧ Below w.heap.size w w' := by
  by_cases h1 : size < 20
  · clear h
    go_enter Try.func8, Try.ntmps8
    go_wp2
    go_region
    all_goals
      go_wp2_with fail
      refine (known_any _).mono ?_
      rintro e w1 ⟨rfl, hb1⟩
      have HB := Lib.hid ((((Keeps.refl [] w).alloc _).drew).trans' (Keeps.of_below hb1))
      clear hb1
      go_wp2
      go_ret
      exact ⟨rfl, HB.out.below (Nat.le_refl _) (by simp)⟩
  by_cases h2 : 300 < size
  · clear h
    go_enter Try.func8, Try.ntmps8
    go_wp2
    go_region
    all_goals
      go_wp2_with fail
      refine (known_any _).mono ?_
      rintro e w1 ⟨rfl, hb1⟩
      have HB := Lib.hid ((((Keeps.refl [] w).alloc _).drew).trans' (Keeps.of_below hb1))
      clear hb1
      go_wp2
      go_ret
      exact ⟨rfl, HB.out.below (Nat.le_refl _) (by simp)⟩
  by_cases h3 : n < -5
  · clear h
    go_enter Try.func8, Try.ntmps8
    go_wp2
    go_region
    all_goals
      go_wp2_with fail
      refine (known_any _).mono ?_
      rintro e w1 ⟨rfl, hb1⟩
      have HB := Lib.hid ((((Keeps.refl [] w).alloc _).drew).trans' (Keeps.of_below hb1))
      clear hb1
      go_wp2
      go_ret
      exact ⟨rfl, HB.out.below (Nat.le_refl _) (by simp)⟩
  by_cases h4 : 30 < n
  · clear h
    go_enter Try.func8, Try.ntmps8
    go_wp2
    go_region
    all_goals
      go_wp2_with fail
      refine (known_any _).mono ?_
      rintro e w1 ⟨rfl, hb1⟩
      have HB := Lib.hid ((((Keeps.refl [] w).alloc _).drew).trans' (Keeps.of_below hb1))
      clear hb1
      go_wp2
      go_ret
      exact ⟨rfl, HB.out.below (Nat.le_refl _) (by simp)⟩
  by_cases h5 : (40 : Int) < ls
  · clear h
    go_enter Try.func8, Try.ntmps8
    go_wp2
    go_region
    all_goals
      go_wp2_with fail
      refine (known_any _).mono ?_
      rintro e w1 ⟨rfl, hb1⟩
      have HB := Lib.hid ((((Keeps.refl [] w).alloc _).drew).trans' (Keeps.of_below hb1))
      clear hb1
      go_wp2
      go_ret
      exact ⟨rfl, HB.out.below (Nat.le_refl _) (by simp)⟩
  have h6 : (20 : Int) < lb := by omega
  clear h
  go_enter Try.func8, Try.ntmps8
  go_wp2
  go_region
  all_goals
    go_wp2_with fail
    refine (known_any _).mono ?_
    rintro e w1 ⟨rfl, hb1⟩
    have HB := Lib.hid ((((Keeps.refl [] w).alloc _).drew).trans' (Keeps.of_below hb1))
    clear hb1
    go_wp2
    go_ret
    exact ⟨rfl, HB.out.below (Nat.le_refl _) (by simp)⟩

end Go.Proofs.Ytadpomclnhemoaa
