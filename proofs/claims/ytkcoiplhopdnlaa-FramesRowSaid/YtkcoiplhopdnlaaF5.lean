/- frames: numbers of four bytes, written. -/
import Derived.Test.YtkcoiplhopdnlaaF3
namespace Go.Proofs.Ytkcoiplhopdnlaa
open Go.RowKit
set_option linter.unusedVariables false

/-- The cells, j bytes of a number being written. -/
def wcs (h : Nat) : Nat → Array Value
  | 0 => #[.int .u8 0, .int .u8 0, .int .u8 0, .int .u8 0]
  | 1 => #[.int .u8 ((h : Int) % 256), .int .u8 0, .int .u8 0, .int .u8 0]
  | 2 => #[.int .u8 ((h : Int) % 256), .int .u8 ((h : Int) / 256 % 256), .int .u8 0, .int .u8 0]
  | 3 => #[.int .u8 ((h : Int) % 256), .int .u8 ((h : Int) / 256 % 256), .int .u8 ((h : Int) / 65536 % 256), .int .u8 0]
  | _ => #[.int .u8 ((h : Int) % 256), .int .u8 ((h : Int) / 256 % 256), .int .u8 ((h : Int) / 65536 % 256), .int .u8 ((h : Int) / 16777216)]

theorem wcs_four {h : Nat} (hl : h < 4294967296) : wcs h 4 = ((four h).map bv).toArray := by
  have e : ∀ k : Nat, bv (UInt8.ofNat k) = .int .u8 ((k % 256 : Nat) : Int) := fun k => by simp [bv, UInt8.toNat_ofNat']
  have e3 : h / 16777216 % 256 = h / 16777216 := by omega
  simp only [wcs, four, List.map_cons, List.map_nil, e, e3]
  simp

theorem bytes_head (h : Nat) (w : World) (hl : h < 4294967296) : Calls Try.prog 24 #[.int .u32 (h : Int)] w fun e w' => e = .returned (.slice (some ⟨w.heap.size, 0, none⟩) 4 4) ∧ w' = w.alloc (.cells ((four h).map bv).toArray 5) := by
  have hmk : ∀ w, (Instr.makeSlice 27 (.int .i64 4) (.int .i64 4)).run Try.prog w = .ok (.slice (some ⟨w.heap.size, 0, none⟩) 4 4) (w.alloc (.cells #[.int .u8 0, .int .u8 0, .int .u8 0, .int .u8 0] 5)) := fun _ => by kernel_rfl
  have e4 := Lib.hid (wcs_four hl)
  go_enter Try.func24, Try.ntmps24
  go_wp2
  go_loopw [4, 8] (fun iv i wr => ∃ j : Nat, i = .int .i64 (j : Int) ∧ j ≤ 4 ∧ wr = w.alloc (.cells (wcs h j) 5)) (fun _ i _ => 4 - (intOf i).toNat)
  case atStart => exact ⟨0, rfl, Nat.zero_le _, rfl⟩
  case round =>
    obtain ⟨j, rfl, hj, rfl⟩ := hrel
    by_cases hlt : j < 4
    · rcases (show j = 0 ∨ j = 1 ∨ j = 2 ∨ j = 3 by omega) with rfl | rfl | rfl | rfl
      · unfold wcs
        go_wp2_with fail
        go_roundw
        case rel => exact ⟨1, rfl, by omega, rfl⟩
        case measure => simp [intOf]
      · unfold wcs
        go_wp2_with fail
        go_roundw
        case rel => exact ⟨2, rfl, by omega, rfl⟩
        case measure => simp [intOf]
      · unfold wcs
        go_wp2_with fail
        go_roundw
        case rel => exact ⟨3, rfl, by omega, rfl⟩
        case measure => simp [intOf]
      · unfold wcs
        go_wp2_with fail
        go_roundw
        case rel => exact ⟨4, rfl, by omega, rfl⟩
        case measure => simp [intOf]
    · obtain rfl : j = 4 := by omega
      rw [e4.out]
      go_wp2_with fail
      go_ret
      exact ⟨rfl, rfl⟩

theorem bytes_u32 (h : Nat) (w : World) (hl : h < 4294967296) : Calls Try.prog 26 #[.int .u32 (h : Int)] w fun e w' => e = .returned (.slice (some ⟨w.heap.size, 0, none⟩) 4 4) ∧ w' = w.alloc (.cells ((four h).map bv).toArray 5) := by
  have hmk : ∀ w, (Instr.makeSlice 27 (.int .i64 4) (.int .i64 4)).run Try.prog w = .ok (.slice (some ⟨w.heap.size, 0, none⟩) 4 4) (w.alloc (.cells #[.int .u8 0, .int .u8 0, .int .u8 0, .int .u8 0] 5)) := fun _ => by kernel_rfl
  have e4 := Lib.hid (wcs_four hl)
  go_enter Try.func26, Try.ntmps26
  go_wp2
  go_loopw [4, 8] (fun iv i wr => ∃ j : Nat, i = .int .i64 (j : Int) ∧ j ≤ 4 ∧ wr = w.alloc (.cells (wcs h j) 5)) (fun _ i _ => 4 - (intOf i).toNat)
  case atStart => exact ⟨0, rfl, Nat.zero_le _, rfl⟩
  case round =>
    obtain ⟨j, rfl, hj, rfl⟩ := hrel
    by_cases hlt : j < 4
    · rcases (show j = 0 ∨ j = 1 ∨ j = 2 ∨ j = 3 by omega) with rfl | rfl | rfl | rfl
      · unfold wcs
        go_wp2_with fail
        go_roundw
        case rel => exact ⟨1, rfl, by omega, rfl⟩
        case measure => simp [intOf]
      · unfold wcs
        go_wp2_with fail
        go_roundw
        case rel => exact ⟨2, rfl, by omega, rfl⟩
        case measure => simp [intOf]
      · unfold wcs
        go_wp2_with fail
        go_roundw
        case rel => exact ⟨3, rfl, by omega, rfl⟩
        case measure => simp [intOf]
      · unfold wcs
        go_wp2_with fail
        go_roundw
        case rel => exact ⟨4, rfl, by omega, rfl⟩
        case measure => simp [intOf]
    · obtain rfl : j = 4 := by omega
      rw [e4.out]
      go_wp2_with fail
      go_ret
      exact ⟨rfl, rfl⟩

end Go.Proofs.Ytkcoiplhopdnlaa
