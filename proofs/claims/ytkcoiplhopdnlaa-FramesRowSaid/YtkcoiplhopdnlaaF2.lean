/- frames: numbers of four bytes, read. -/
import Derived.Test.YtkcoiplhopdnlaaF1
namespace Go.Proofs.Ytkcoiplhopdnlaa
open Go.RowKit
set_option linter.unusedVariables false

/-- The number of the first j bytes. -/
def numP (xs : List UInt8) : Nat → Nat
  | 0 => 0
  | j + 1 => numP xs j + 2 ^ (8 * j) * (xs[j]?.getD 0).toNat
theorem numP_four (xs : List UInt8) : numP xs 4 = num4 xs := by
  simp only [numP, num4]
  omega
theorem numP_lt (xs : List UInt8) : ∀ j, numP xs j < 2 ^ (8 * j)
  | 0 => by simp [numP]
  | j + 1 => by
    have h := numP_lt xs j
    have hu := (xs[j]?.getD 0).toNat_lt
    have : 2 ^ (8 * (j + 1)) = 256 * 2 ^ (8 * j) := by rw [show 8 * (j + 1) = 8 + 8 * j by omega, Nat.pow_add]
    simp only [numP]
    rw [this]
    have h2 : 2 ^ (8 * j) * (xs[j]?.getD 0).toNat ≤ 2 ^ (8 * j) * 255 := Nat.mul_le_mul_left _ (by omega)
    omega
theorem or_next {a u k : Nat} (ha : a < 2 ^ k) (hu : u < 256) (hk : k ≤ 24) : bits .or .u32 (a : Int) ((u : Int) * (2 ^ k : Nat)) = ((a + 2 ^ k * u : Nat) : Int) := by
  have hp : 2 ^ k ≤ 16777216 := by
    have := Nat.pow_le_pow_right (n := 2) (by decide) hk
    simpa using this
  have hm : 2 ^ k * u ≤ 16777216 * 255 := Nat.mul_le_mul hp (by omega)
  have h1 := u32_or_nat a (2 ^ k * u) (by omega) (by omega)
  rw [Nat.or_comm, ← Nat.two_pow_add_eq_or_of_lt ha, Nat.add_comm] at h1
  rw [← h1]
  congr 1
  rw [Int.natCast_mul, Int.mul_comm]

theorem num_head (A : Option Addr) (n c : Nat) (xs : List UInt8) (w : World) (hn : xs.length = n) (hb : BytesAt w (.slice A n c) xs) (h4 : 4 ≤ n) (hm : n ≤ 9223372036854775807) : Calls Try.prog 48 #[.slice A n c] w fun e w' => e = .returned (.int .u32 (num4 xs : Nat)) ∧ w = w' := by
  have HB := Lib.hid hb
  have HN := Lib.hid hn
  clear hb hn
  go_enter Try.func48, Try.ntmps48
  go_wp2
  go_loopw [3, 4, 5] (fun v iv i wr => ∃ j x : Nat, i = .int .i64 (j : Int) ∧ j ≤ 4 ∧ v = .int .u32 (x : Int) ∧ Hid (x = numP xs j) ∧ wr = w) (fun _ _ i _ => 4 - (intOf i).toNat)
  case atStart => exact ⟨0, 0, rfl, Nat.zero_le _, rfl, rfl, rfl⟩
  case round =>
    obtain ⟨j, x, rfl, hj, rfl, HX, rfl⟩ := hrel
    by_cases hlt : j < 4
    · have hnx := HN.out
      have hu : xs[j]? = some (xs[j]'(by omega)) := List.getElem?_eq_getElem _
      obtain ⟨b, o, rfl, hc⟩ := bytes_addr HB.out (by omega)
      have c0 := hc j _ hu
      have hx2 : x < 2 ^ (8 * j) := by rw [HX.out]; exact numP_lt xs j
      have HS : Hid (x + 2 ^ (8 * j) * (xs[j]'(by omega)).toNat = numP xs (j + 1)) := by
        show _ = _
        rw [HX.out]
        simp only [numP, hu, Option.getD_some]
      generalize xs[j]'(by omega) = u at *
      have hu8 : u.toNat < 256 := u.toNat_lt
      have ho := or_next hx2 hu8 (by omega)
      clear hc hu HB HX
      rcases (show j = 0 ∨ j = 1 ∨ j = 2 ∨ j = 3 by omega) with rfl | rfl | rfl | rfl
      · have h1 : Hid (x + 2 ^ (8 * 0) * u.toNat = numP xs 1) := HS
        replace ho : bits .or .u32 (x : Int) ((u.toNat : Int)) = ((x + 2 ^ (8 * 0) * u.toNat : Nat) : Int) := by simpa using ho
        rw [Nat.add_zero] at c0
        go_wp2_with fail
        go_roundw
        case rel => exact ⟨1, x + 2 ^ (8 * 0) * u.toNat, by go_num, by omega, by simp, h1, trivial⟩
        case measure => simp [intOf]
      · have h1 : Hid (x + 2 ^ (8 * 1) * u.toNat = numP xs 2) := HS
        replace ho : bits .or .u32 (x : Int) ((u.toNat : Int) * 256) = ((x + 2 ^ (8 * 1) * u.toNat : Nat) : Int) := by simpa using ho
        go_wp2_with fail
        go_roundw
        case rel => exact ⟨2, x + 2 ^ (8 * 1) * u.toNat, by go_num, by omega, by simp, h1, trivial⟩
        case measure => simp [intOf]
      · have h1 : Hid (x + 2 ^ (8 * 2) * u.toNat = numP xs 3) := HS
        replace ho : bits .or .u32 (x : Int) ((u.toNat : Int) * 65536) = ((x + 2 ^ (8 * 2) * u.toNat : Nat) : Int) := by simpa using ho
        go_wp2_with fail
        go_roundw
        case rel => exact ⟨3, x + 2 ^ (8 * 2) * u.toNat, by go_num, by omega, by simp, h1, trivial⟩
        case measure => simp [intOf]
      · have h1 : Hid (x + 2 ^ (8 * 3) * u.toNat = numP xs 4) := HS
        replace ho : bits .or .u32 (x : Int) ((u.toNat : Int) * 16777216) = ((x + 2 ^ (8 * 3) * u.toNat : Nat) : Int) := by simpa using ho
        go_wp2_with fail
        go_roundw
        case rel => exact ⟨4, x + 2 ^ (8 * 3) * u.toNat, by go_num, by omega, by simp, h1, trivial⟩
        case measure => simp [intOf]
    · have e4 : Hid (((x : Nat) : Int) = ((num4 xs : Nat) : Int)) := by
        show _ = _
        have : j = 4 := by omega
        rw [HX.out, this, numP_four]
      go_wp2_with fail
      go_ret
      exact ⟨by rw [e4.out]; rfl, rfl⟩

theorem num_u32 (A : Option Addr) (n c : Nat) (xs : List UInt8) (w : World) (hn : xs.length = n) (hb : BytesAt w (.slice A n c) xs) (h4 : 4 ≤ n) (hm : n ≤ 9223372036854775807) : Calls Try.prog 49 #[.slice A n c] w fun e w' => e = .returned (.int .u32 (num4 xs : Nat)) ∧ w = w' := by
  have HB := Lib.hid hb
  have HN := Lib.hid hn
  clear hb hn
  go_enter Try.func49, Try.ntmps49
  go_wp2
  go_loopw [3, 4, 5] (fun v iv i wr => ∃ j x : Nat, i = .int .i64 (j : Int) ∧ j ≤ 4 ∧ v = .int .u32 (x : Int) ∧ Hid (x = numP xs j) ∧ wr = w) (fun _ _ i _ => 4 - (intOf i).toNat)
  case atStart => exact ⟨0, 0, rfl, Nat.zero_le _, rfl, rfl, rfl⟩
  case round =>
    obtain ⟨j, x, rfl, hj, rfl, HX, rfl⟩ := hrel
    by_cases hlt : j < 4
    · have hnx := HN.out
      have hu : xs[j]? = some (xs[j]'(by omega)) := List.getElem?_eq_getElem _
      obtain ⟨b, o, rfl, hc⟩ := bytes_addr HB.out (by omega)
      have c0 := hc j _ hu
      have hx2 : x < 2 ^ (8 * j) := by rw [HX.out]; exact numP_lt xs j
      have HS : Hid (x + 2 ^ (8 * j) * (xs[j]'(by omega)).toNat = numP xs (j + 1)) := by
        show _ = _
        rw [HX.out]
        simp only [numP, hu, Option.getD_some]
      generalize xs[j]'(by omega) = u at *
      have hu8 : u.toNat < 256 := u.toNat_lt
      have ho := or_next hx2 hu8 (by omega)
      clear hc hu HB HX
      rcases (show j = 0 ∨ j = 1 ∨ j = 2 ∨ j = 3 by omega) with rfl | rfl | rfl | rfl
      · have h1 : Hid (x + 2 ^ (8 * 0) * u.toNat = numP xs 1) := HS
        replace ho : bits .or .u32 (x : Int) ((u.toNat : Int)) = ((x + 2 ^ (8 * 0) * u.toNat : Nat) : Int) := by simpa using ho
        rw [Nat.add_zero] at c0
        go_wp2_with fail
        go_roundw
        case rel => exact ⟨1, x + 2 ^ (8 * 0) * u.toNat, by go_num, by omega, by simp, h1, trivial⟩
        case measure => simp [intOf]
      · have h1 : Hid (x + 2 ^ (8 * 1) * u.toNat = numP xs 2) := HS
        replace ho : bits .or .u32 (x : Int) ((u.toNat : Int) * 256) = ((x + 2 ^ (8 * 1) * u.toNat : Nat) : Int) := by simpa using ho
        go_wp2_with fail
        go_roundw
        case rel => exact ⟨2, x + 2 ^ (8 * 1) * u.toNat, by go_num, by omega, by simp, h1, trivial⟩
        case measure => simp [intOf]
      · have h1 : Hid (x + 2 ^ (8 * 2) * u.toNat = numP xs 3) := HS
        replace ho : bits .or .u32 (x : Int) ((u.toNat : Int) * 65536) = ((x + 2 ^ (8 * 2) * u.toNat : Nat) : Int) := by simpa using ho
        go_wp2_with fail
        go_roundw
        case rel => exact ⟨3, x + 2 ^ (8 * 2) * u.toNat, by go_num, by omega, by simp, h1, trivial⟩
        case measure => simp [intOf]
      · have h1 : Hid (x + 2 ^ (8 * 3) * u.toNat = numP xs 4) := HS
        replace ho : bits .or .u32 (x : Int) ((u.toNat : Int) * 16777216) = ((x + 2 ^ (8 * 3) * u.toNat : Nat) : Int) := by simpa using ho
        go_wp2_with fail
        go_roundw
        case rel => exact ⟨4, x + 2 ^ (8 * 3) * u.toNat, by go_num, by omega, by simp, h1, trivial⟩
        case measure => simp [intOf]
    · have e4 : Hid (((x : Nat) : Int) = ((num4 xs : Nat) : Int)) := by
        show _ = _
        have : j = 4 := by omega
        rw [HX.out, this, numP_four]
      go_wp2_with fail
      go_ret
      exact ⟨by rw [e4.out]; rfl, rfl⟩

end Go.Proofs.Ytkcoiplhopdnlaa
