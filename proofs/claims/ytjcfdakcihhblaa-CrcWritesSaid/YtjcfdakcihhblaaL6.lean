/- crc's sum under way. -/
import Derived.Test.YtjcfdakcihhblaaL5
namespace Go.Proofs.Ytjcfdakcihhblaa
open Go.RowKit
set_option linter.unusedVariables false

/-- A sum under way, in its block. -/
def Ad (w : World) (p : Nat) (xs : List UInt8) : Prop := w.heap[p]? = some (.cells #[.int .u32 (crcRun 4294967295 xs : Nat), .int .i64 (xs.length : Int)] 42 (0, 0))

theorem Ad.cells {w : World} {p : Nat} {xs : List UInt8} (h : Ad w p xs) : w.cell? ⟨p, 0, none⟩ = some (.int .u32 (crcRun 4294967295 xs : Nat)) ∧ w.cell? ⟨p, 1, none⟩ = some (.int .i64 (xs.length : Int)) ∧ w.frozen? ⟨p, 0, none⟩ = false ∧ w.frozen? ⟨p, 1, none⟩ = false :=
  ⟨cell_of_blk h 0, cell_of_blk h 1, free_of_blk h 0, free_of_blk h 1⟩

theorem not_zero (xs : List UInt8) : ¬ (crcRun 4294967295 xs = 0 ∧ xs = []) := by
  rintro ⟨h1, rfl⟩
  simp [crcRun] at h1

theorem cmissing_nil (w : World) : Calls Try.prog 21 #[.pointer none] w fun e w' => e = .returned (.bool true) ∧ w = w' := by
  go_enter Try.func21, Try.ntmps21
  go_wp2_with fail
  go_ret
  exact ⟨rfl, rfl⟩

theorem cmissing (w : World) (p : Nat) (xs : List UInt8) (h : Ad w p xs) : Calls Try.prog 21 #[.pointer (some ⟨p, 0, none⟩)] w fun e w' => e = .returned (.bool false) ∧ w = w' := by
  obtain ⟨c0, c1, f0, f1⟩ := h.cells
  have hz := not_zero xs
  go_enter Try.func21, Try.ntmps21
  go_wp2_with fail
  all_goals (first | (go_ret; exact ⟨rfl, rfl⟩) | exact (hz ⟨by assumption, by assumption⟩).elim)

theorem cmissing_zero (w : World) (p : Nat) (t : TypeId) (h : w.heap[p]? = some (.cells #[.int .u32 0, .int .i64 0] t (0, 0))) : Calls Try.prog 21 #[.pointer (some ⟨p, 0, none⟩)] w fun e w' => e = .returned (.bool true) ∧ w = w' := by
  have c0 := cell_of_blk h 0
  have c1 := cell_of_blk h 1
  simp at c0 c1
  go_enter Try.func21, Try.ntmps21
  go_wp2_with fail
  go_ret
  exact ⟨rfl, rfl⟩

theorem cnew (w : World) : Calls Try.prog 14 #[] w fun e w' => ∃ p, e = .returned (.pointer (some ⟨p, 0, none⟩)) ∧ Ad w' p [] ∧ w.heap.size ≤ p ∧ Keeps [] w w' := by
  go_enter Try.func14, Try.ntmps14
  go_wp2_with fail
  go_ret
  exact ⟨w.heap.size, rfl, heap_alloc_new' w _, Nat.le_refl _, (Keeps.refl [] w).alloc _⟩

theorem casum (w : World) (p : Nat) (xs : List UInt8) (h : Ad w p xs) : Calls Try.prog 17 #[.pointer (some ⟨p, 0, none⟩)] w fun e w' => e = .returned (.int .u32 (crcSum xs : Nat)) ∧ Keeps [] w w' := by
  have hw : WordAt w p #[.int .u32 (crcRun 4294967295 xs : Nat), .int .i64 (xs.length : Int)] 42 (crcRun 4294967295 xs) := h
  have CT := Lib.hid (cturned p _ _ _ w (by simp) hw (crcRun_lt (by decide) _))
  have CM := Lib.hid (cmissing w p xs h)
  clear hw
  go_enter Try.func17, Try.ntmps17
  go_wp2_with fail
  refine CM.out.mono ?_
  rintro e w' ⟨rfl, rfl⟩
  go_wp2_with fail
  refine CT.out.mono ?_
  rintro e w' ⟨rfl, rfl⟩
  go_wp2_with fail
  go_ret
  exact ⟨rfl, Keeps.refl _ _⟩

theorem clen (w : World) (p : Nat) (xs : List UInt8) (h : Ad w p xs) : Calls Try.prog 18 #[.pointer (some ⟨p, 0, none⟩)] w fun e w' => e = .returned (.int .i64 (xs.length : Int)) ∧ Keeps [] w w' := by
  obtain ⟨c0, c1, f0, f1⟩ := h.cells
  have CM := Lib.hid (cmissing w p xs h)
  go_enter Try.func18, Try.ntmps18
  go_wp2_with fail
  refine CM.out.mono ?_
  rintro e w' ⟨rfl, rfl⟩
  go_wp2_with fail
  go_ret
  exact ⟨rfl, Keeps.refl _ _⟩

theorem ccopy (w : World) (p : Nat) (xs : List UInt8) (h : Ad w p xs) : Calls Try.prog 15 #[.pointer (some ⟨p, 0, none⟩)] w fun e w' => ∃ q, e = .returned (.pointer (some ⟨q, 0, none⟩)) ∧ Ad w' q xs ∧ w.heap.size ≤ q ∧ Keeps [] w w' := by
  obtain ⟨c0, c1, f0, f1⟩ := h.cells
  have CM := Lib.hid (cmissing w p xs h)
  go_enter Try.func15, Try.ntmps15
  go_wp2_with fail
  refine CM.out.mono ?_
  rintro e w' ⟨rfl, rfl⟩
  go_wp2_with fail
  go_ret
  exact ⟨w.heap.size, rfl, heap_alloc_new' w _, Nat.le_refl _, (Keeps.refl [] w).alloc _⟩

end Go.Proofs.Ytjcfdakcihhblaa
