/- crc's Sum. -/
import Derived.Test.YtkcoiplhopdnlaaL4
namespace Go.Proofs.Ytkcoiplhopdnlaa
open Go.RowKit
set_option linter.unusedVariables false

theorem ones_xor {x : Nat} (h : x < 4294967296) : 4294967295 ^^^ x = 4294967295 - x := by
  refine Nat.eq_of_testBit_eq fun i => ?_
  rw [Nat.testBit_xor, show (4294967295 : Nat) = 2 ^ 32 - 1 from rfl, Nat.testBit_two_pow_sub_one, show 2 ^ 32 - 1 - x = 2 ^ 32 - (x + 1) by omega, Nat.testBit_two_pow_sub_succ h]
  by_cases hi : i < 32
  · simp [hi]
  · have : x.testBit i = false := Nat.testBit_lt_two_pow (Nat.lt_of_lt_of_le h (Nat.pow_le_pow_right (show 0 < 2 by decide) (by omega : 32 ≤ i)))
    simp [hi, this]

theorem ones_bits {x : Nat} (h : x < 4294967296) : bits .xor .u32 IntKind.u32.max (x : Int) = ((4294967295 - x : Nat) : Int) := by
  have := u32_xor_nat 4294967295 x (by decide) h
  rw [ones_xor h] at this
  exact this

theorem cturned (p x : Nat) (cs : Array Value) (t : TypeId) (w : World) (hs : 0 < cs.size) (hw : WordAt w p cs t x) (hx : x < 4294967296) : Calls Try.prog 37 #[.pointer (some ⟨p, 0, none⟩)] w fun e w' => e = .returned (.int .u32 ((4294967295 - x : Nat) : Int)) ∧ w = w' := by
  have c0 := hw.cell hs
  have f0 := hw.free
  have b0 := ones_bits hx
  clear hw
  go_enter Try.func37, Try.ntmps37
  go_wp2_with fail
  go_ret
  exact ⟨by rw [← b0]; rfl, rfl⟩

theorem csum : SumOk := by
  intro A len c l w hl h20 h3
  have hPI : Hid (PartsIn (w.heap.size + 1) w.heap.size (w.alloc (.cells #[.int .u32 4294967295] 59)) A len l) := by
    have h1 := (hl.keep ((Keeps.refl [] w).alloc (.cells #[.int .u32 4294967295] 59))).in (p := w.heap.size) (fun hp b o hb => ?_) (fun x hx h0 b hb => ?_)
    · rw [World.size_alloc] at h1
      exact h1
    · obtain ⟨b', o', g1, g2, _⟩ := hl.at_ 0 _ (List.getElem?_eq_getElem hp)
      rw [hb] at g1
      injection g1 with g1
      injection g1 with g1
      subst g1
      have := lt_of_cell g2
      simp at this
      omega
    · obtain ⟨i, hi⟩ := List.mem_iff_getElem?.1 hx
      obtain ⟨b', o', g1, g2, g3, _⟩ := hl.at_ i _ hi
      have := g3.lt h0 b hb
      omega
  have hW : Hid (WordAt (w.alloc (.cells #[.int .u32 4294967295] 59)) w.heap.size #[.int .u32 4294967295] 59 4294967295) := heap_alloc_new' w _
  have hk0 : Keeps [] w (w.alloc (.cells #[.int .u32 4294967295] 59)) := (Keeps.refl [] w).alloc _
  have hps : (w.alloc (.cells #[.int .u32 4294967295] 59)).heap.size = w.heap.size + 1 := World.size_alloc ..
  have PS := Lib.hid (cpass A len c w.heap.size 4294967295 l #[.int .u32 4294967295] 59 (w.alloc (.cells #[.int .u32 4294967295] 59)) (by omega) (by decide) (by decide) hW.out (by rw [hps]; exact hPI.out))
  have HK0 := Lib.hid hk0
  clear hk0 hps
  go_enter Try.func27, Try.ntmps27
  go_wp2_with fail
  refine PS.out.mono ?_
  rintro e w1 ⟨⟨v, rfl⟩, hw1, hk1⟩
  have HW1 := Lib.hid hw1
  have HK1 : Hid (Keeps [] w w1) := HK0.out.trans hk1 (fun y hy => .inr (by rw [List.mem_singleton] at hy; omega))
  clear hw1 hk1 PS
  go_wp2_with fail
  refine (cturned w.heap.size _ _ _ w1 (by decide) HW1.out (crcRun_lt (by decide) _)).mono ?_
  rintro e w' ⟨rfl, rfl⟩
  go_wp2_with fail
  go_ret
  exact ⟨rfl, HK1.out⟩

theorem cstep : StepOk := fun a b w ha hb => (cstep2 a b w ha hb).mono fun e w' ⟨h1, h2⟩ => ⟨h1, h2 ▸ Keeps.refl _ _⟩

end Go.Proofs.Ytkcoiplhopdnlaa
