
/- ber: numbers off bytes. -/
import Derived.Test.YtbfebljahjmjfaaGreatDoorE2
import Derived.Laws.BitsAllLaws
namespace Go.Proofs.YtbfebljahjmjfaaGreatDoor
open Go.RowKit Go.Shelf
set_option linter.unusedVariables false
set_option linter.unusedSimpArgs false
set_option maxRecDepth 100000

theorem i64_or_low (y u : Int) (h1 : -9223372036854775808 ≤ y) (h2 : y ≤ 9223372036854775807) (h3 : y % 256 = 0) (h4 : 0 ≤ u) (h5 : u < 256) : bits .or .i64 y u = y + u := by
  obtain ⟨b, rfl⟩ := Int.eq_ofNat_of_zero_le h4
  show IntKind.i64.wrap ((BitVec.ofInt 64 y ||| BitVec.ofInt 64 (b : Int)).toNat : Int) = _
  obtain ⟨a, ha, hy⟩ : ∃ a : Nat, a < 18446744073709551616 ∧ (y = (a : Int) ∨ y = (a : Int) - 18446744073709551616) := by
    by_cases h : 0 ≤ y
    · exact ⟨y.toNat, by omega, .inl (by omega)⟩
    · exact ⟨(y + 18446744073709551616).toNat, by omega, .inr (by omega)⟩
  have e : BitVec.ofInt 64 y = BitVec.ofInt 64 (a : Int) := by
    rcases hy with hy | hy
    · rw [hy]
    · apply BitVec.eq_of_toInt_eq
      rw [BitVec.toInt_ofInt, BitVec.toInt_ofInt, hy]
      simp [Int.bmod_def]
  have hj : a ||| b = a + b := nat_join 8 a b (by omega) (by omega)
  have hlt : a ||| b < 2 ^ 64 := Nat.or_lt_two_pow (by omega) (by omega)
  rw [e, BitVec.toNat_or, ofInt_u64 a ha, ofInt_u64 b (by omega), hj]
  rw [hj] at hlt
  have hw : IntKind.i64.wrap ((a + b : Nat) : Int) = ((a : Int) + b + 9223372036854775808) % 18446744073709551616 - 9223372036854775808 := by
    simp only [IntKind.wrap, IntKind.bits, IntKind.signed]
    simp
    split <;> omega
  rw [hw]
  omega
theorem wrap64_256 (x : Int) : -9223372036854775808 ≤ wrap64 (x * 256) ∧ wrap64 (x * 256) ≤ 9223372036854775807 ∧ wrap64 (x * 256) % 256 = 0 := by
  unfold wrap64
  omega
/-- The number behind a, with more bytes. -/
def numZ : Int → List UInt8 → Int
  | a, [] => a
  | a, x :: r => numZ (wrap64 (a * 256) + (x.toNat : Int)) r

theorem num64_is (a : Int) (A : Option Addr) (n c : Nat) (xs : List UInt8) (w : World) (ha : -9223372036854775808 ≤ a ∧ a ≤ 9223372036854775807) (hl : xs.length = n) (hn : n ≤ 9223372036854775807) (hb : BytesAt w (.slice A n c) xs) :
    Calls Tryz.prog 241 #[.int .i64 a, .slice A n c] w fun e w' => e = .returned (.int .i64 (numZ a xs)) ∧ w = w' := by
  have HB := Lib.hid hb
  have HL := Lib.hid hl
  clear hb hl
  go_enter Tryz.func241, Tryz.ntmps241
  go_wp2_with fail
  go_loopw [0, 6, 9] (fun v u i wr => ∃ (j : Nat) (x : Int), v = .int .i64 x ∧ i = .int .i64 (j : Int) ∧ j ≤ n ∧ (-9223372036854775808 ≤ x ∧ x ≤ 9223372036854775807) ∧ Hid (numZ x (xs.drop j) = numZ a xs) ∧ wr = w) (fun _ _ i _ => n - (intOf i).toNat)
  case atStart => exact ⟨0, a, rfl, rfl, Nat.zero_le _, ha, rfl, rfl⟩
  case round =>
    obtain ⟨j, x, rfl, rfl, hj, hx, HI, rfl⟩ := hrel
    by_cases hlt : j < n
    · obtain ⟨b, o, rfl, hc⟩ := bytes_addr HB.out (by omega)
      obtain ⟨u, hu⟩ : ∃ u, xs[j]? = some u := ⟨_, List.getElem?_eq_getElem (by have := HL.out; omega)⟩
      have hcu := hc j u hu
      obtain ⟨z1, z2, z3⟩ := wrap64_256 x
      have hul : u.toNat < 256 := u.toNat_lt
      have hor : bits BinOp.or IntKind.i64 (wrap64 (x * 256)) (u.toNat : Int) = wrap64 (x * 256) + (u.toNat : Int) := i64_or_low _ _ z1 z2 z3 (by omega) (by omega)
      have hwu : wrap64 (u.toNat : Int) = (u.toNat : Int) := by unfold wrap64; omega
      have HN : Hid (numZ (wrap64 (x * 256) + (u.toNat : Int)) (xs.drop (j + 1)) = numZ a xs) := by
        have h := HI.out
        rw [List.drop_eq_getElem_cons (by have := HL.out; omega), show xs[j]'(by have := HL.out; omega) = u by rw [List.getElem?_eq_getElem (by have := HL.out; omega)] at hu; injection hu] at h
        exact h
      have hbound : -9223372036854775808 ≤ wrap64 (x * 256) + (u.toNat : Int) ∧ wrap64 (x * 256) + (u.toNat : Int) ≤ 9223372036854775807 := by omega
      have HB2 := Lib.hid hbound
      have HOR := Lib.hid hor
      clear hc hor hbound z1 z2 z3
      go_wp2_with fail
      first | rw [hwu, HOR.out] | rw [HOR.out]
      go_roundw
      case rel => exact ⟨j + 1, _, rfl, by go_num, by omega, HB2.out, HN, trivial⟩
      case measure => simp [intOf]; omega
    · obtain rfl : j = n := by omega
      have he := HI.out
      rw [List.drop_of_length_le (by have := HL.out; omega)] at he
      have HE := Lib.hid he
      clear he
      go_wp2_with fail
      go_ret
      exact ⟨by rw [← HE.out]; rfl, rfl⟩
end Go.Proofs.YtbfebljahjmjfaaGreatDoor
