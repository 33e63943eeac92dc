/- DiskNil: the walk. -/
import Derived.Test.YtadpomclnhemoaaD14
namespace Go.Proofs.Ytadpomclnhemoaa
open Go.RowKit
set_option linter.unusedVariables false

theorem new1 (w : World) : Calls Try.prog 11 #[.int .i64 1] w fun e w' => ∃ k, e = .returned (.tuple #[.pointer (some ⟨k.p, 0, none⟩), .int .i64 0]) ∧ DiskAt w' k ∧ Keeps [] w w' := by
  refine (new_yes 1 w (by omega) (by omega)).mono ?_
  rintro e w' ⟨k, he, hd, h1, h2, h3, h4, h5, h6, h7, h8⟩
  exact ⟨k, he, hd, h8⟩

theorem disknil_long (n : Int) (A : Option Addr) (m c : Nat) (w : World) (h : 100 < m) (hm : m ≤ 9223372036854775807) :
    Calls Try.prog 7 #[.int .i64 n, .slice A m c] w fun e w' => e = .returned (.bool true) ∧ Below w.heap.size w w' := by
  go_enter Try.func7, Try.ntmps7
  go_wp2_with fail
  refine (known_any w).mono ?_
  rintro e w1 ⟨rfl, hb⟩
  go_wp2
  go_ret
  exact ⟨rfl, hb⟩

set_option maxRecDepth 100000 in
set_option maxHeartbeats 1000000 in
theorem disknil_short (n : Int) (A : Option Addr) (m c : Nat) (w : World) (h : ¬ 100 < m) (hm : m ≤ 9223372036854775807) :
    Calls Try.prog 7 #[.int .i64 n, .slice A m c] w fun e w' => e = .returned (.bool true) ∧ Below w.heap.size w w' := by
  go_enter Try.func7, Try.ntmps7
  go_wp2_with fail
  refine (read_nil n n _).mono ?_
  rintro e w1 ⟨rfl, rfl⟩
  go_wp2_with fail
  have z0 : (w.alloc (.cells #[.slice none 0 0, .slice none 0 0, .slice none 0 0, .int .i64 0, .int .i64 0, .int .i64 0] 62)).cell? ⟨w.heap.size, 0, none⟩ = some (.slice none 0 0) := by rw [World.cell?_alloc_new]; rfl
  refine (crash_zero w.heap.size n 0 _ z0).mono ?_
  rintro e w1 ⟨rfl, hk1⟩
  have z1 := (hk1.cell (p := ⟨w.heap.size, 0, none⟩) (lt_of_cell z0) (by simp)).trans z0
  have K1 := Lib.hid (((Keeps.refl [] w).alloc (.cells #[.slice none 0 0, .slice none 0 0, .slice none 0 0, .int .i64 0, .int .i64 0, .int .i64 0] 62)).trans' hk1)
  clear hk1 z0
  go_wp2_with fail
  refine (new1 w1).mono ?_
  rintro e w2 ⟨k, rfl, hd2, hk2⟩
  have z2 := (hk2.cell (p := ⟨w.heap.size, 0, none⟩) (lt_of_cell z1) (by simp)).trans z1
  have K2 := Lib.hid (K1.out.trans' hk2)
  have HD2 := Lib.hid hd2
  clear hk2 hd2 z1
  go_wp2_with fail
  refine (write_nil n _ _).mono ?_
  rintro e w' ⟨rfl, rfl⟩
  go_wp2_with fail
  refine (sync_zero w.heap.size _ z2).mono ?_
  rintro e w3 ⟨rfl, hk3⟩
  have z3 := (hk3.cell (p := ⟨w.heap.size, 0, none⟩) (lt_of_cell z2) (by simp)).trans z2
  have K3 := Lib.hid (K2.out.trans' hk3)
  have HD3 := Lib.hid (HD2.out.grow hk3)
  clear hk3 z2
  go_wp2_with fail
  refine (arm_nil n _).mono ?_
  rintro e w' ⟨rfl, rfl⟩
  go_wp2_with fail
  refine (limit_zero w.heap.size n _ z3).mono ?_
  rintro e w' ⟨rfl, rfl⟩
  go_wp2_with fail
  refine (size_nil _).mono ?_
  rintro e w' ⟨rfl, rfl⟩
  go_wp2_with fail
  refine (waits_nil _).mono ?_
  rintro e w' ⟨rfl, rfl⟩
  go_wp2_with fail
  refine (steps_zero w.heap.size _ z3).mono ?_
  rintro e w' ⟨rfl, rfl⟩
  go_wp2_with fail
  refine (copy_nil _).mono ?_
  rintro e w' ⟨rfl, rfl⟩
  go_wp2_with fail
  refine (same_nil_zero w.heap.size _ z3).mono ?_
  rintro e w' ⟨rfl, rfl⟩
  go_wp2_with fail
  refine (same_nil_disk k _ HD3.out).mono ?_
  rintro e w' ⟨rfl, rfl⟩
  go_wp2_with fail
  refine (same_disk_zero k w.heap.size _ HD3.out z3).mono ?_
  rintro e w' ⟨rfl, rfl⟩
  go_wp2_with fail
  refine (known_any _).mono ?_
  rintro e w4 ⟨rfl, hb4⟩
  have K4 := Lib.hid (K3.out.trans' (Keeps.of_below hb4))
  clear hb4
  go_wp2
  go_ret
  exact ⟨rfl, K4.out.below (Nat.le_refl _) (by simp)⟩

end Go.Proofs.Ytadpomclnhemoaa
