/- A disk that is not there, and a zero one: what each call answers. -/
import Derived.Test.YtadpomclnhemoaaD13
namespace Go.Proofs.Ytadpomclnhemoaa
open Go.RowKit
set_option linter.unusedVariables false

theorem read_nil (a n : Int) (w : World) : Calls Try.prog 15 #[.pointer none, .int .i64 a, .int .i64 n] w fun e w' => e = .returned (.tuple #[.slice none 0 0, .int .i64 1]) ∧ w = w' := by
  go_enter Try.func15, Try.ntmps15
  go_wp2
  refine wp_scope_once 0 rfl ?_
  go_wp2_with (go_at_call 33; refine (missing_nil _).mono ?_; rintro e w' ⟨rfl, rfl⟩)
  go_step3
  refine ⟨rfl, ?_⟩
  go_wp2
  rw [Exit.noGoto_ret]
  go_ret2
  exact ⟨rfl, rfl⟩

theorem write_nil (a : Int) (v : Value) (w : World) : Calls Try.prog 17 #[.pointer none, .int .i64 a, v] w fun e w' => e = .returned (.int .i64 1) ∧ w = w' := by
  go_enter Try.func17, Try.ntmps17
  go_wp2
  refine wp_scope_once 0 rfl ?_
  go_wp2_with (go_at_call 33; refine (missing_nil _).mono ?_; rintro e w' ⟨rfl, rfl⟩)
  go_step3
  refine ⟨rfl, ?_⟩
  go_wp2
  rw [Exit.noGoto_ret]
  go_ret
  exact ⟨rfl, rfl⟩

theorem arm_nil (a : Int) (w : World) : Calls Try.prog 19 #[.pointer none, .int .i64 a] w fun e w' => e = .returned (.int .i64 1) ∧ w = w' := by
  go_enter Try.func19, Try.ntmps19
  go_wp2
  refine wp_scope_once 0 rfl ?_
  go_wp2_with (go_at_call 33; refine (missing_nil _).mono ?_; rintro e w' ⟨rfl, rfl⟩)
  go_step3
  refine ⟨rfl, ?_⟩
  go_wp2
  rw [Exit.noGoto_ret]
  go_ret
  exact ⟨rfl, rfl⟩

theorem limit_zero (p : Nat) (a : Int) (w : World) (hc : w.cell? ⟨p, 0, none⟩ = some (.slice none 0 0)) : Calls Try.prog 20 #[.pointer (some ⟨p, 0, none⟩), .int .i64 a] w fun e w' => e = .returned (.int .i64 1) ∧ w = w' := by
  go_enter Try.func20, Try.ntmps20
  go_wp2
  refine wp_scope_once 0 rfl ?_
  go_wp2_with (go_at_call 33; refine (missing_zero p _ hc).mono ?_; rintro e w' ⟨rfl, rfl⟩)
  go_step3
  refine ⟨rfl, ?_⟩
  go_wp2
  rw [Exit.noGoto_ret]
  go_ret
  exact ⟨rfl, rfl⟩

theorem sync_zero (p : Nat) (w : World) (hc : w.cell? ⟨p, 0, none⟩ = some (.slice none 0 0)) : Calls Try.prog 18 #[.pointer (some ⟨p, 0, none⟩)] w fun e w' => e = .returned (.int .i64 1) ∧ Keeps [] w w' := by
  have hc' := fun o : Obj => (World.cell?_alloc_lt w o ⟨p, 0, none⟩ (lt_of_cell hc)).trans hc
  go_enter Try.func18, Try.ntmps18
  go_wp2
  refine wp_scope_once 0 rfl ?_
  go_wp2_with (go_at_call 33; refine (missing_zero p _ (hc' _)).mono ?_; rintro e w' ⟨rfl, rfl⟩)
  go_step3
  refine ⟨rfl, ?_⟩
  go_wp2
  rw [Exit.noGoto_ret]
  go_ret
  exact ⟨rfl, (Keeps.refl _ _).alloc _⟩

theorem crash_zero (p : Nat) (a b : Int) (w : World) (hc : w.cell? ⟨p, 0, none⟩ = some (.slice none 0 0)) : Calls Try.prog 21 #[.pointer (some ⟨p, 0, none⟩), .agg #[.int .i64 a, .int .i64 b]] w fun e w' => e = .returned (.tuple #[.pointer none, .int .i64 1]) ∧ Keeps [] w w' := by
  have hc' := fun o : Obj => (World.cell?_alloc_lt w o ⟨p, 0, none⟩ (lt_of_cell hc)).trans hc
  go_enter Try.func21, Try.ntmps21
  go_wp2
  refine wp_scope_once 0 rfl ?_
  go_wp2_with (go_at_call 33; refine (missing_zero p _ (hc' _)).mono ?_; rintro e w' ⟨rfl, rfl⟩)
  go_step3
  refine ⟨rfl, ?_⟩
  go_wp2
  rw [Exit.noGoto_ret]
  go_ret2
  exact ⟨rfl, (Keeps.refl _ _).alloc _⟩

theorem copy_nil (w : World) : Calls Try.prog 23 #[.pointer none] w fun e w' => e = .returned (.pointer none) ∧ w = w' := by
  go_enter Try.func23, Try.ntmps23
  go_wp2_with (go_at_call 33; refine (missing_nil _).mono ?_; rintro e w' ⟨rfl, rfl⟩)
  go_ret
  exact ⟨rfl, rfl⟩

theorem same_nil_zero (p : Nat) (w : World) (hc : w.cell? ⟨p, 0, none⟩ = some (.slice none 0 0)) : Calls Try.prog 24 #[.pointer none, .pointer (some ⟨p, 0, none⟩)] w fun e w' => e = .returned (.bool true) ∧ w = w' := by
  have h1 := Lib.hid (missing_nil w)
  have h2 := Lib.hid (missing_zero p w hc)
  go_enter Try.func24, Try.ntmps24
  go_wp2_with fail
  refine h1.out.mono ?_
  rintro e w' ⟨rfl, rfl⟩
  go_wp2_with fail
  refine h1.out.mono ?_
  rintro e w' ⟨rfl, rfl⟩
  go_wp2_with fail
  refine h2.out.mono ?_
  rintro e w' ⟨rfl, rfl⟩
  go_wp2
  go_ret
  exact ⟨rfl, rfl⟩

theorem same_nil_disk (k : Dk) (w : World) (h : DiskAt w k) : Calls Try.prog 24 #[.pointer none, .pointer (some ⟨k.p, 0, none⟩)] w fun e w' => e = .returned (.bool false) ∧ w = w' := by
  have hp := h.pos
  have hb := h.big
  have h1 := Lib.hid (missing_nil w)
  have h2 := Lib.hid (missing_not _ _ _ _ w h.c0 (by omega) (by omega))
  go_enter Try.func24, Try.ntmps24
  go_wp2_with fail
  refine h1.out.mono ?_
  rintro e w' ⟨rfl, rfl⟩
  go_wp2_with fail
  refine h1.out.mono ?_
  rintro e w' ⟨rfl, rfl⟩
  go_wp2_with fail
  refine h2.out.mono ?_
  rintro e w' ⟨rfl, rfl⟩
  go_wp2
  go_ret
  exact ⟨rfl, rfl⟩

theorem same_disk_zero (k : Dk) (p : Nat) (w : World) (h : DiskAt w k) (hc : w.cell? ⟨p, 0, none⟩ = some (.slice none 0 0)) : Calls Try.prog 24 #[.pointer (some ⟨k.p, 0, none⟩), .pointer (some ⟨p, 0, none⟩)] w fun e w' => e = .returned (.bool false) ∧ w = w' := by
  have hp := h.pos
  have hb := h.big
  have h1 := Lib.hid (missing_not _ _ _ _ w h.c0 (by omega) (by omega))
  have h2 := Lib.hid (missing_zero p w hc)
  go_enter Try.func24, Try.ntmps24
  go_wp2_with fail
  refine h1.out.mono ?_
  rintro e w' ⟨rfl, rfl⟩
  go_wp2_with fail
  refine h2.out.mono ?_
  rintro e w' ⟨rfl, rfl⟩
  go_wp2_with fail
  refine h1.out.mono ?_
  rintro e w' ⟨rfl, rfl⟩
  go_wp2
  go_ret
  exact ⟨rfl, rfl⟩

end Go.Proofs.Ytadpomclnhemoaa
