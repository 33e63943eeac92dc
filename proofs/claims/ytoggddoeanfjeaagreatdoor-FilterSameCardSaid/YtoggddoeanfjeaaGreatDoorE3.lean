
/- ber: numbers off bytes. -/
import Derived.Test.YtoggddoeanfjeaaGreatDoorE2
import Derived.Laws.BitsAllLaws
namespace Go.Proofs.YtoggddoeanfjeaaGreatDoor
open Go.RowKit Go.Shelf
set_option linter.unusedVariables false
set_option linter.unusedSimpArgs false
set_option maxRecDepth 100000

theorem i64_or_low (y u : Int) (h1 : -9223372036854775808 ≤ y) (h2 : y ≤ 9223372036854775807) (h3 : y % 256 = 0) (h4 : 0 ≤ u) (h5 : u < 256) : bits .or .i64 y u = y + u := by
  obtain ⟨b, rfl⟩ := Int.eq_ofNat_of_zero_le h4
  show IntKind.i64.wrap ((BitVec.ofInt 64 y ||| BitVec.ofInt 64 (b : Int)).toNat : Int) = _
  obtain ⟨a, ha, hy⟩ : ∃ a : Nat, a < 18446744073709551616 ∧ (y = (a : Int) ∨ y = (a : Int) - 18446744073709551616) := by
    by_cases h : 0 ≤ y
    · exact ⟨y.toNat, by omega, .inl (by omega)⟩
    · exact ⟨(y + 18446744073709551616).toNat, by omega, .inr (by omega)⟩
  have e : BitVec.ofInt 64 y = BitVec.ofInt 64 (a : Int) := by
    rcases hy with hy | hy
    · rw [hy]
    · apply BitVec.eq_of_toInt_eq
      rw [BitVec.toInt_ofInt, BitVec.toInt_ofInt, hy]
      simp [Int.bmod_def]
  have hj : a ||| b = a + b := nat_join 8 a b (by omega) (by omega)
  have hlt : a ||| b < 2 ^ 64 := Nat.or_lt_two_pow (by omega) (by omega)
  rw [e, BitVec.toNat_or, ofInt_u64 a ha, ofInt_u64 b (by omega), hj]
  rw [hj] at hlt
  have hw : IntKind.i64.wrap ((a + b : Nat) : Int) = ((a : Int) + b + 9223372036854775808) % 18446744073709551616 - 9223372036854775808 := by
    simp only [IntKind.wrap, IntKind.bits, IntKind.signed]
    simp
    split <;> omega
  rw [hw]
  omega
theorem wrap64_256 (x : Int) : -9223372036854775808 ≤ wrap64 (x * 256) ∧ wrap64 (x * 256) ≤ 9223372036854775807 ∧ wrap64 (x * 256) % 256 = 0 := by
  unfold wrap64
  omega
/-- The number behind a, with more bytes. -/
def numZ : Int → List UInt8 → Int
  | a, [] => a
  | a, x :: r => numZ (wrap64 (a * 256) + (x.toNat : Int)) r

end Go.Proofs.YtoggddoeanfjeaaGreatDoor
