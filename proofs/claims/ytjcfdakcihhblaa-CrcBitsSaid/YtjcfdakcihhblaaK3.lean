/- Bits of a text turned, one after the other. -/
import Derived.Test.YtjcfdakcihhblaaK2
namespace Go.Proofs.Ytjcfdakcihhblaa
set_option linter.unusedVariables false

theorem flip_bits {o : List UInt8} {p : Nat} {x y : UInt8} (hx : o[p / 8]? = some x) (hy : y.toNat = x.toNat ^^^ 2 ^ (p % 8)) (q : Nat) : (bitsOf (o.set (p / 8) y))[q]? = ((bitsOf o)[q]?).map fun b => b ^^ decide (q = p) := by
  have hlt : p / 8 < o.length := (List.getElem?_eq_some_iff.1 hx).1
  rw [bitsOf_get, bitsOf_get, List.getElem?_set]
  by_cases h : p / 8 = q / 8
  · rw [if_pos h, if_pos (by omega), ← h, hx]
    simp only [Option.map_some, Option.some.injEq]
    rw [hy, Nat.testBit_xor, Nat.testBit_two_pow]
    congr 1
    simp only [decide_eq_decide]
    omega
  · rw [if_neg h]
    have hq : decide (q = p) = false := by simp; omega
    rw [hq]
    cases o[q / 8]? <;> simp

/-- The first k of 32 bits are turned, from a place on. -/
structure Turned (l o : List UInt8) (at_ m k : Nat) : Prop where
  len : o.length = l.length
  bit : ∀ q, (bitsOf o)[q]? = ((bitsOf l)[q]?).map fun b => b ^^ (decide (at_ ≤ q ∧ q < at_ + k) && m.testBit (q - at_))

theorem Turned.start (l : List UInt8) (at_ m : Nat) : Turned l l at_ m 0 := by
  refine ⟨rfl, fun q => ?_⟩
  have : decide (at_ ≤ q ∧ q < at_ + 0) = false := decide_eq_false (by omega)
  rw [this]
  cases (bitsOf l)[q]? <;> simp

theorem Turned.stay {l o : List UInt8} {at_ m k : Nat} (h : Turned l o at_ m k) (hk : m.testBit k = false) : Turned l o at_ m (k + 1) := by
  refine ⟨h.len, fun q => ?_⟩
  rw [h.bit q]
  congr 1
  funext b
  congr 1
  by_cases hq : q = at_ + k
  · have e1 : q - at_ = k := by omega
    rw [e1, hk, Bool.and_false, Bool.and_false]
  · have : decide (at_ ≤ q ∧ q < at_ + k) = decide (at_ ≤ q ∧ q < at_ + (k + 1)) := by
      simp only [decide_eq_decide]
      omega
    rw [this]

theorem Turned.flip {l o : List UInt8} {at_ m k : Nat} {x y : UInt8} (h : Turned l o at_ m k) (hk : m.testBit k = true) (hx : o[(at_ + k) / 8]? = some x) (hy : y.toNat = x.toNat ^^^ 2 ^ ((at_ + k) % 8)) : Turned l (o.set ((at_ + k) / 8) y) at_ m (k + 1) := by
  refine ⟨by rw [List.length_set]; exact h.len, fun q => ?_⟩
  rw [flip_bits hx hy, h.bit q, Option.map_map]
  congr 1
  funext b
  simp only [Function.comp]
  rw [Bool.xor_assoc]
  congr 1
  by_cases hq : q = at_ + k
  · have e1 : q - at_ = k := by omega
    have e2 : decide (at_ ≤ q ∧ q < at_ + k) = false := by simp; omega
    have e3 : decide (at_ ≤ q ∧ q < at_ + (k + 1)) = true := by simp; omega
    rw [e1, hk, e2, e3, decide_eq_true hq]
    rfl
  · have e2 : decide (at_ ≤ q ∧ q < at_ + k) = decide (at_ ≤ q ∧ q < at_ + (k + 1)) := by
      simp only [decide_eq_decide]
      omega
    rw [e2, decide_eq_false hq, Bool.xor_false]

theorem Turned.differs {l o : List UInt8} {at_ m k j : Nat} (h : Turned l o at_ m k) (hk : k ≤ 32) (hj : j < k) (hb : m.testBit j = true) (hl : at_ + j < 8 * l.length) : crcSum o ≠ crcSum l := by
  refine sum_differs (at_ := at_) (p := at_ + j) h.len.symm (fun q hq => ?_) ?_
  · rw [h.bit q]
    have : decide (at_ ≤ q ∧ q < at_ + k) = false := by simp; omega
    rw [this]
    cases (bitsOf l)[q]? <;> simp
  · have hlt : at_ + j < (bitsOf l).length := by rw [bitsOf_len]; exact hl
    have e1 : at_ + j - at_ = j := by omega
    have e2 : decide (at_ ≤ at_ + j ∧ at_ + j < at_ + k) = true := by simp; omega
    rw [h.bit, e1, e2, hb, List.getElem?_eq_getElem hlt]
    cases (bitsOf l)[at_ + j] <;> simp

end Go.Proofs.Ytjcfdakcihhblaa
