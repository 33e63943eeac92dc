/- crc's law: known, CrcSums, from what Sum and Step answer. -/
import Derived.Test.YtjcfdakcihhblaaK8
import Derived.Lib.SlBytesConst
namespace Go.Proofs.Ytjcfdakcihhblaa
open Go.RowKit
set_option linter.unusedVariables false

/-- What Sum answers. -/
def SumOk : Prop := ∀ (A : Option Addr) (len c : Nat) (l : List Part) (w : World), PartsAt w A len l → len ≤ 20 → total l ≤ 3000 → Calls Try.prog 9 #[.slice A len c] w fun e w' => e = .returned (.int .u32 (crcSum (l.flatMap fun x => x.bs) : Nat)) ∧ Keeps [] w w'
/-- What Step answers. -/
def StepOk : Prop := ∀ (a b : Nat) (w : World), a < 4294967296 → b < 256 → Calls Try.prog 12 #[.int .u32 (a : Int), .int .u8 (b : Int)] w fun e w' => e = .returned (.int .u32 (crcStep a b : Nat)) ∧ Keeps [] w w'

theorem nine : crcSum [49, 50, 51, 52, 53, 54, 55, 56, 57] = 3421780262 := by decide +kernel
theorem none_ : crcSum [] = 0 := rfl
theorem one_ : crcStep 0 1 = 1996959894 := by decide +kernel

theorem heap_alloc_new' (w : World) (o : Obj) : (w.alloc o).heap[w.heap.size]? = some o := by
  show (w.heap.push o)[w.heap.size]? = _
  simp

/-- Bytes in a block of their own. -/
theorem row_at (w : World) (xs : List UInt8) (fz : Nat × Nat) (h : xs.length ≤ 9223372036854775807) : BytesAt (w.alloc (.cells (xs.map bv).toArray 5 fz)) (.slice (some ⟨w.heap.size, 0, none⟩) xs.length xs.length) xs := by
  refine ⟨_, xs.length, rfl, Nat.le_refl _, by unfold maxLen; omega, fun _ => ⟨w.heap.size, 0, rfl, fun i u hu => ?_⟩⟩
  unfold World.cell?
  rw [Nat.zero_add, heap_alloc_new']
  simp [hu]

/-- One part in a row of its own. -/
theorem one_part {w : World} {A : Option Addr} {c : Nat} {bs : List UInt8} (h : BytesAt w (.slice A bs.length c) bs) (hl : bs.length ≤ 9223372036854775807) : PartsAt (w.alloc (.cells #[.slice A bs.length c] 28)) (some ⟨w.heap.size, 0, none⟩) 1 [⟨A, c, bs⟩] := by
  refine ⟨rfl, fun i x hx => ?_⟩
  have hi : i = 0 := by
    have := (List.getElem?_eq_some_iff.1 hx).1
    simp at this
    exact this
  subst hi
  have hx' : x = ⟨A, c, bs⟩ := by
    simp at hx
    exact hx.symm
  subst hx'
  refine ⟨w.heap.size, 0, rfl, ?_, h.grow ((Keeps.refl [] w).alloc _), hl⟩
  rw [World.cell?_alloc_new]
  rfl

theorem no_parts (w : World) : PartsAt w none 0 [] := ⟨rfl, fun i x h => by simp at h⟩

theorem known2_any (HS0 : SumOk) (HT0 : StepOk) (w : World) : Calls Try.prog 8 #[] w fun e w' => e = .returned (.bool true) ∧ Keeps [] w w' := by
  have HS := Lib.hid HS0
  have HT := Lib.hid HT0
  have cv := fun C n c => Lib.run_convert_bytes_const w 28 5 C n c Try.underlying28 Try.underlying5
  clear HS0 HT0
  have P1 : Hid (PartsAt ((w.alloc (.cells #[.int .u8 49, .int .u8 50, .int .u8 51, .int .u8 52, .int .u8 53, .int .u8 54, .int .u8 55, .int .u8 56, .int .u8 57] 5 (9, 10))).alloc (.cells #[.slice (some ⟨w.heap.size, 0, none⟩) 9 9] 28)) (some ⟨w.heap.size + 1, 0, none⟩) 1 [⟨some ⟨w.heap.size, 0, none⟩, 9, [49, 50, 51, 52, 53, 54, 55, 56, 57]⟩]) := by
    have h := one_part (row_at w [49, 50, 51, 52, 53, 54, 55, 56, 57] (9, 10) (by decide)) (by decide)
    rw [World.size_alloc] at h
    exact h
  go_enter Try.func8, Try.ntmps8
  go_wp2_with fail
  refine (HS.out _ _ _ _ _ P1.out (by decide) (by simp [total])).mono ?_
  rintro e w1 ⟨rfl, hk1⟩
  have K1 := Lib.hid ((((Keeps.refl [] w).alloc _).alloc _).trans' hk1)
  have n1 : ((crcSum (List.flatMap (fun x : Part => x.bs) [⟨some ⟨w.heap.size, 0, none⟩, 9, [49, 50, 51, 52, 53, 54, 55, 56, 57]⟩]) : Nat) : Int) = 3421780262 := by
    show ((crcSum [49, 50, 51, 52, 53, 54, 55, 56, 57] : Nat) : Int) = _
    rw [nine]
    rfl
  rw [n1]
  clear hk1 n1 P1
  go_wp2_with fail
  refine (HS.out _ _ _ _ _ (no_parts w1) (by decide) (by decide)).mono ?_
  rintro e w2 ⟨rfl, hk2⟩
  have K2 := Lib.hid (K1.out.trans' hk2)
  rw [show ((crcSum (List.flatMap (fun x : Part => x.bs) []) : Nat) : Int) = 0 from rfl]
  clear hk2
  go_wp2_with fail
  refine (HT.out 0 1 w2 (by decide) (by decide)).mono ?_
  rintro e w3 ⟨rfl, hk3⟩
  have K3 := Lib.hid (K2.out.trans' hk3)
  rw [show ((crcStep 0 1 : Nat) : Int) = 1996959894 by rw [one_]; rfl]
  clear hk3
  go_wp2_with fail
  go_ret
  exact ⟨rfl, K3.out⟩

end Go.Proofs.Ytjcfdakcihhblaa
