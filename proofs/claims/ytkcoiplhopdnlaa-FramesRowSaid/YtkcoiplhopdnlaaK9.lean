/- What crc's Sum and Step answer; bytes in a row of their own. -/
import Derived.Test.YtkcoiplhopdnlaaK8
import Derived.Lib.SlBytesConst
namespace Go.Proofs.Ytkcoiplhopdnlaa
open Go.RowKit
set_option linter.unusedVariables false

/-- What Sum answers. -/
def SumOk : Prop := ∀ (A : Option Addr) (len c : Nat) (l : List Part) (w : World), PartsAt w A len l → len ≤ 20 → True → Calls Try.prog 27 #[.slice A len c] w fun e w' => e = .returned (.int .u32 (crcSum (l.flatMap fun x => x.bs) : Nat)) ∧ Keeps [] w w'
/-- What Step answers. -/
def StepOk : Prop := ∀ (a b : Nat) (w : World), a < 4294967296 → b < 256 → Calls Try.prog 51 #[.int .u32 (a : Int), .int .u8 (b : Int)] w fun e w' => e = .returned (.int .u32 (crcStep a b : Nat)) ∧ Keeps [] w w'

theorem heap_alloc_new' (w : World) (o : Obj) : (w.alloc o).heap[w.heap.size]? = some o := by
  show (w.heap.push o)[w.heap.size]? = _
  simp

/-- Bytes in a block of their own. -/
theorem row_at (w : World) (xs : List UInt8) (fz : Nat × Nat) (h : xs.length ≤ 9223372036854775807) : BytesAt (w.alloc (.cells (xs.map bv).toArray 5 fz)) (.slice (some ⟨w.heap.size, 0, none⟩) xs.length xs.length) xs := by
  refine ⟨_, xs.length, rfl, Nat.le_refl _, by unfold maxLen; omega, fun _ => ⟨w.heap.size, 0, rfl, fun i u hu => ?_⟩⟩
  unfold World.cell?
  rw [Nat.zero_add, heap_alloc_new']
  simp [hu]

/-- One part in a row of its own. -/
theorem one_part {w : World} {A : Option Addr} {c : Nat} {bs : List UInt8} (h : BytesAt w (.slice A bs.length c) bs) (hl : bs.length ≤ 9223372036854775807) : PartsAt (w.alloc (.cells #[.slice A bs.length c] 27)) (some ⟨w.heap.size, 0, none⟩) 1 [⟨A, c, bs⟩] := by
  refine ⟨rfl, fun i x hx => ?_⟩
  have hi : i = 0 := by
    have := (List.getElem?_eq_some_iff.1 hx).1
    simp at this
    exact this
  subst hi
  have hx' : x = ⟨A, c, bs⟩ := by
    simp at hx
    exact hx.symm
  subst hx'
  refine ⟨w.heap.size, 0, rfl, ?_, h.grow ((Keeps.refl [] w).alloc _), hl⟩
  rw [World.cell?_alloc_new]
  rfl

theorem no_parts (w : World) : PartsAt w none 0 [] := ⟨rfl, fun i x h => by simp at h⟩

end Go.Proofs.Ytkcoiplhopdnlaa
