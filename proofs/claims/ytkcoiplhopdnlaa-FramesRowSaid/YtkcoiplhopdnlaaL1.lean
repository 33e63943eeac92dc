/- crc's Step. -/
import Derived.Test.YtkcoiplhopdnlaaK9
namespace Go.Proofs.Ytkcoiplhopdnlaa
open Go.RowKit
set_option linter.unusedVariables false

theorem cstep2 (a b : Nat) (w : World) (ha : a < 4294967296) (hb : b < 256) : Calls Try.prog 51 #[.int .u32 (a : Int), .int .u8 (b : Int)] w fun e w' => e = .returned (.int .u32 (crcStep a b : Nat)) ∧ w = w' := by
  have e0 := u32_xor_nat a b ha (by omega)
  have l0 : a ^^^ b < 4294967296 := Nat.xor_lt_two_pow (n := 32) ha (by omega)
  have HI : Hid (crcZs 8 (a ^^^ b) = crcStep a b) := by show _ = _; rfl
  go_enter Try.func51, Try.ntmps51
  go_wp2
  go_loopw [0, 5, 10] (fun v lw i wr => ∃ j x : Nat, i = .int .i64 (j : Int) ∧ j ≤ 8 ∧ v = .int .u32 (x : Int) ∧ x < 4294967296 ∧ Hid (crcZs (8 - j) x = crcStep a b) ∧ wr = w) (fun _ _ i _ => 8 - (intOf i).toNat)
  case atStart => exact ⟨0, a ^^^ b, rfl, Nat.zero_le _, rfl, l0, HI, rfl⟩
  case round =>
    obtain ⟨j, x, rfl, hj, rfl, hx, HX, rfl⟩ := hrel
    by_cases hlt : j < 8
    · have HS : Hid (crcZs (8 - (j + 1)) (crcZ x) = crcStep a b) := by
        show _ = _
        rw [← HX.out, show 8 - j = 8 - (j + 1) + 1 by omega]
        rfl
      have hz := crcZ_lt hx
      have g0 : bits .and .u32 (x : Int) 1 = ((x % 2 : Nat) : Int) := by
        have := u32_and_nat x 1 hx (by decide)
        rw [Nat.and_one_is_mod] at this
        exact this
      by_cases hp : x % 2 = 1
      · have g1 : (((x % 2 : Nat) : Int) == 1) = true := by simp; omega
        have g2 : bits .xor .u32 ((x : Int) / 2) 3988292384 = ((crcZ x : Nat) : Int) := by
          have h5 := u32_xor_nat (x / 2) 3988292384 (by omega) (by decide)
          rw [show crcZ x = x / 2 ^^^ 3988292384 by simp [crcZ, hp, crcP], ← h5]
          congr 1
        clear hp HX
        go_wp2_with fail
        go_roundw
        case rel => exact ⟨j + 1, crcZ x, by go_num, by omega, rfl, hz, HS, trivial⟩
        case measure => simp [intOf]; omega
      · have g1 : (((x % 2 : Nat) : Int) == 1) = false := by simp; omega
        have g2 : (x : Int) / 2 = ((crcZ x : Nat) : Int) := by
          rw [show crcZ x = x / 2 by simp [crcZ, hp]]
          omega
        clear hp HX
        go_wp2_with fail
        go_roundw
        case rel => exact ⟨j + 1, crcZ x, by go_num, by omega, rfl, hz, HS, trivial⟩
        case measure => simp [intOf]; omega
    · have h8 : j = 8 := by omega
      subst h8
      go_wp2_with fail
      go_ret
      exact ⟨by rw [← HX.out]; rfl, rfl⟩

end Go.Proofs.Ytkcoiplhopdnlaa
