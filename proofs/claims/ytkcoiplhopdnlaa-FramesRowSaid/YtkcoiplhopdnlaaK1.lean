/- Sums of 32 bits, as numbers: a halving is undone by what it leaves; 32 bits of a text at once; two texts that differ within 32 bits. -/
import Derived.WalkKit
namespace Go.Proofs.Ytkcoiplhopdnlaa
set_option linter.unusedVariables false

def crcP : Nat := 3988292384
/-- One halving. -/
def crcZ (x : Nat) : Nat := x / 2 ^^^ (if x % 2 = 1 then crcP else 0)
def crcZs : Nat → Nat → Nat
  | 0, x => x
  | n + 1, x => crcZs n (crcZ x)
/-- The word behind a byte. -/
def crcStep (w b : Nat) : Nat := crcZs 8 (w ^^^ b)
def crcRun (w : Nat) (l : List UInt8) : Nat := l.foldl (fun w b => crcStep w b.toNat) w
def crcSum (l : List UInt8) : Nat := 4294967295 - crcRun 4294967295 l

theorem crcRun_append (w : Nat) (l m : List UInt8) : crcRun w (l ++ m) = crcRun (crcRun w l) m := List.foldl_append ..
theorem crcRun_snoc (w : Nat) (l : List UInt8) (b : UInt8) : crcRun w (l ++ [b]) = crcStep (crcRun w l) b.toNat := by rw [crcRun_append]; rfl

theorem crcZ_lt {x : Nat} (h : x < 4294967296) : crcZ x < 4294967296 := by
  unfold crcZ
  refine Nat.xor_lt_two_pow (n := 32) (by omega) ?_
  split
  · decide
  · decide
theorem crcZs_lt {n x : Nat} (h : x < 4294967296) : crcZs n x < 4294967296 := by
  induction n generalizing x with
  | zero => exact h
  | succ n ih => exact ih (crcZ_lt h)
theorem crcStep_lt {w b : Nat} (h : w < 4294967296) (hb : b < 256) : crcStep w b < 4294967296 := crcZs_lt (Nat.xor_lt_two_pow (n := 32) h (by omega))
theorem crcRun_lt {w : Nat} (h : w < 4294967296) (l : List UInt8) : crcRun w l < 4294967296 := by
  induction l generalizing w with
  | nil => exact h
  | cons b l ih => exact ih (crcStep_lt h b.toNat_lt)

theorem xor_drop {a b c : Nat} (h : a ^^^ c = b ^^^ c) : a = b := by
  have := congrArg (· ^^^ c) h
  simpa [Nat.xor_assoc] using this

/-- The highest bit tells whether the lowest one was let go. -/
theorem crcZ_top {x : Nat} (h : x < 4294967296) : (crcZ x).testBit 31 = decide (x % 2 = 1) := by
  have h1 : (x / 2).testBit 31 = false := Nat.testBit_lt_two_pow (by omega)
  unfold crcZ
  rw [Nat.testBit_xor, h1]
  split
  · rename_i h2
    simp [h2]
    decide
  · rename_i h2
    simp [h2]

theorem crcZ_inj {x y : Nat} (hx : x < 4294967296) (hy : y < 4294967296) (h : crcZ x = crcZ y) : x = y := by
  have h1 := crcZ_top hx
  rw [h, crcZ_top hy] at h1
  have h2 : (x % 2 = 1) ↔ (y % 2 = 1) := by
    have := h1.symm
    simpa using this
  have h3 : x / 2 = y / 2 := by
    unfold crcZ at h
    by_cases hb : x % 2 = 1
    · rw [if_pos hb, if_pos (h2.1 hb)] at h
      exact xor_drop h
    · rw [if_neg hb, if_neg (fun h' => hb (h2.2 h'))] at h
      simpa using h
  omega

theorem crcZs_inj {n x y : Nat} (hx : x < 4294967296) (hy : y < 4294967296) (h : crcZs n x = crcZs n y) : x = y := by
  induction n generalizing x y with
  | zero => exact h
  | succ n ih => exact crcZ_inj hx hy (ih (crcZ_lt hx) (crcZ_lt hy) h)

/-- Higher bits only move down. -/
theorem crcZ_even (x c : Nat) : crcZ (x ^^^ 2 * c) = crcZ x ^^^ c := by
  have h1 : (x ^^^ 2 * c) / 2 = x / 2 ^^^ c := by
    rw [Nat.xor_div_two]
    congr 1
    omega
  have h2 : (x ^^^ 2 * c) % 2 = x % 2 := by
    have h3 : (2 * c) % 2 = 0 := by omega
    have := Nat.xor_mod_two_pow (a := x) (b := 2 * c) (n := 1)
    simpa [h3] using this
  unfold crcZ
  rw [h1, h2, Nat.xor_assoc, Nat.xor_assoc, Nat.xor_comm c]

theorem crcZs_add (n m x : Nat) : crcZs (n + m) x = crcZs m (crcZs n x) := by
  induction n generalizing x with
  | zero => rw [Nat.zero_add]; rfl
  | succ n ih =>
    rw [Nat.succ_add]
    exact ih _

theorem crcZs_high (n x c : Nat) : crcZs n (x ^^^ 2 ^ n * c) = crcZs n x ^^^ c := by
  induction n generalizing x c with
  | zero => simp [crcZs]
  | succ n ih =>
    show crcZs n (crcZ (x ^^^ 2 ^ (n + 1) * c)) = crcZs n (crcZ x) ^^^ c
    rw [show 2 ^ (n + 1) * c = 2 * (2 ^ n * c) by rw [Nat.pow_succ, Nat.mul_comm (2 ^ n) 2, Nat.mul_assoc], crcZ_even, ih]

theorem low_high (u : Nat) : u = u % 256 ^^^ 2 ^ 8 * (u / 256) := by
  refine Nat.eq_of_testBit_eq fun i => ?_
  rw [show (256 : Nat) = 2 ^ 8 from rfl, Nat.testBit_xor, Nat.testBit_mod_two_pow, Nat.testBit_two_pow_mul, Nat.testBit_div_two_pow]
  by_cases hi : i < 8
  · have h5 : ¬ 8 ≤ i := by omega
    simp [hi, h5]
  · have h4 : 8 ≤ i := by omega
    simp [hi, h4, show i - 8 + 8 = i by omega]

/-- By a table of 256 words. -/
theorem crcStep_table {w b : Nat} (hb : b < 256) : crcStep w b = w / 256 ^^^ crcZs 8 ((w ^^^ b) % 256) := by
  have h1 : w ^^^ b = (w ^^^ b) % 256 ^^^ 2 ^ 8 * (w / 256) := by
    have h2 : (w ^^^ b) / 256 = w / 256 := by
      have h3 : b / 2 ^ 8 = 0 := by omega
      have := Nat.xor_div_two_pow (a := w) (b := b) (n := 8)
      rw [h3, Nat.xor_zero] at this
      exact this
    rw [← h2]
    exact low_high (w ^^^ b)
  show crcZs 8 (w ^^^ b) = _
  rw [h1, crcZs_high, ← h1, Nat.xor_comm]

end Go.Proofs.Ytkcoiplhopdnlaa
