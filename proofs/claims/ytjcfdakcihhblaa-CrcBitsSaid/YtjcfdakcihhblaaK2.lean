/- Sums of 32 bits: texts bit by bit; what differs within 32 bits has unlike sums. -/
import Derived.Test.YtjcfdakcihhblaaK1
namespace Go.Proofs.Ytjcfdakcihhblaa
set_option linter.unusedVariables false

def bitRun (w : Nat) : List Bool → Nat
  | [] => w
  | b :: bs => bitRun (crcZ (w ^^^ b.toNat)) bs
def valB : List Bool → Nat
  | [] => 0
  | b :: bs => b.toNat ^^^ 2 * valB bs

theorem bitRun_val (w : Nat) (bs : List Bool) : bitRun w bs = crcZs bs.length (w ^^^ valB bs) := by
  induction bs generalizing w with
  | nil => simp [bitRun, valB, crcZs]
  | cons b bs ih =>
    show bitRun (crcZ (w ^^^ b.toNat)) bs = crcZs bs.length (crcZ (w ^^^ (b.toNat ^^^ 2 * valB bs)))
    rw [ih, ← Nat.xor_assoc, crcZ_even]

theorem bitRun_append (w : Nat) (a b : List Bool) : bitRun w (a ++ b) = bitRun (bitRun w a) b := by
  induction a generalizing w with
  | nil => rfl
  | cons x a ih => exact ih _

theorem bool_lt (b : Bool) : b.toNat < 4294967296 := by cases b <;> decide

theorem bitRun_lt {w : Nat} (h : w < 4294967296) (bs : List Bool) : bitRun w bs < 4294967296 := by
  induction bs generalizing w with
  | nil => exact h
  | cons b bs ih => exact ih (crcZ_lt (Nat.xor_lt_two_pow (n := 32) h (bool_lt b)))

theorem bitRun_inj {x y : Nat} (hx : x < 4294967296) (hy : y < 4294967296) (bs : List Bool) (h : bitRun x bs = bitRun y bs) : x = y := by
  induction bs generalizing x y with
  | nil => exact h
  | cons b bs ih =>
    have h1 : x ^^^ b.toNat < 4294967296 := Nat.xor_lt_two_pow (n := 32) hx (bool_lt b)
    have h2 : y ^^^ b.toNat < 4294967296 := Nat.xor_lt_two_pow (n := 32) hy (bool_lt b)
    exact xor_drop (crcZ_inj h1 h2 (ih (crcZ_lt h1) (crcZ_lt h2) h))

theorem valB_cons (b : Bool) (bs : List Bool) : valB (b :: bs) % 2 = b.toNat ∧ valB (b :: bs) / 2 = valB bs := by
  have h1 : (b.toNat ^^^ 2 * valB bs) % 2 = b.toNat := by
    have h3 : (2 * valB bs) % 2 = 0 := by omega
    have h6 := Nat.xor_mod_two_pow (a := b.toNat) (b := 2 * valB bs) (n := 1)
    rw [Nat.pow_one, h3, Nat.xor_zero] at h6
    rw [h6]
    cases b <;> rfl
  have h2 : (b.toNat ^^^ 2 * valB bs) / 2 = valB bs := by
    rw [Nat.xor_div_two]
    have h4 : b.toNat / 2 = 0 := by cases b <;> rfl
    have h5 : 2 * valB bs / 2 = valB bs := by omega
    rw [h4, h5, Nat.zero_xor]
  exact ⟨h1, h2⟩

theorem valB_lt (bs : List Bool) : valB bs < 2 ^ bs.length := by
  induction bs with
  | nil => simp [valB]
  | cons b bs ih =>
    have h1 := (valB_cons b bs).2
    have h2 : (2 : Nat) ^ (b :: bs).length = 2 * 2 ^ bs.length := by rw [List.length_cons, Nat.pow_succ, Nat.mul_comm]
    omega

theorem valB_inj : ∀ {a b : List Bool}, a.length = b.length → valB a = valB b → a = b := by
  intro a
  induction a with
  | nil => intro b hl _; cases b with
    | nil => rfl
    | cons y b => simp at hl
  | cons x a ih => intro b hl h; cases b with
    | nil => simp at hl
    | cons y b =>
      have h1 := valB_cons x a
      have h2 := valB_cons y b
      rw [h] at h1
      have h3 : x.toNat = y.toNat := h1.1.symm.trans h2.1
      have h4 : x = y := by cases x <;> cases y <;> simp_all
      rw [h4, ih (by simpa using hl) (h1.2.symm.trans h2.2)]

/-- What differs within 32 bits. -/
theorem burst {w : Nat} (hw : w < 4294967296) {pre m m' post : List Bool} (hl : m.length = m'.length) (h32 : m.length ≤ 32) (hne : m ≠ m') : bitRun w (pre ++ (m ++ post)) ≠ bitRun w (pre ++ (m' ++ post)) := by
  intro h
  rw [bitRun_append, bitRun_append, bitRun_append w, bitRun_append _ m'] at h
  have h0 := bitRun_lt hw pre
  have h1 := bitRun_inj (bitRun_lt h0 m) (bitRun_lt h0 m') post h
  rw [bitRun_val _ m, bitRun_val _ m', ← hl] at h1
  have hp : (2 : Nat) ^ m.length ≤ 2 ^ 32 := Nat.pow_le_pow_right (by decide) h32
  have b1 : valB m < 2 ^ 32 := Nat.lt_of_lt_of_le (valB_lt m) hp
  have b2 : valB m' < 2 ^ 32 := Nat.lt_of_lt_of_le (valB_lt m') (by rw [← hl]; exact hp)
  have h2 := crcZs_inj (Nat.xor_lt_two_pow (n := 32) h0 b1) (Nat.xor_lt_two_pow (n := 32) h0 b2) h1
  rw [Nat.xor_comm _ (valB m), Nat.xor_comm _ (valB m')] at h2
  exact hne (valB_inj hl (xor_drop h2))

def bits8 (x : Nat) : List Bool := [x.testBit 0, x.testBit 1, x.testBit 2, x.testBit 3, x.testBit 4, x.testBit 5, x.testBit 6, x.testBit 7]
set_option maxRecDepth 100000 in
theorem val8_fin : ∀ x : Fin 256, valB (bits8 x.val) = x.val := by decide
theorem val8 {x : Nat} (h : x < 256) : valB (bits8 x) = x := val8_fin ⟨x, h⟩

theorem crcStep_bits {w b : Nat} (hb : b < 256) : crcStep w b = bitRun w (bits8 b) := by
  rw [bitRun_val, val8 hb]
  rfl

def bitsOf (l : List UInt8) : List Bool := l.flatMap fun b => bits8 b.toNat
theorem crcRun_bits (w : Nat) (l : List UInt8) : crcRun w l = bitRun w (bitsOf l) := by
  induction l generalizing w with
  | nil => rfl
  | cons b l ih =>
    show crcRun (crcStep w b.toNat) l = bitRun w (bits8 b.toNat ++ bitsOf l)
    rw [bitRun_append, ← crcStep_bits b.toNat_lt, ih]

theorem bitsOf_len (l : List UInt8) : (bitsOf l).length = 8 * l.length := by
  induction l with
  | nil => rfl
  | cons b l ih =>
    show (bits8 b.toNat ++ bitsOf l).length = _
    rw [List.length_append, ih, List.length_cons]
    show 8 + _ = _
    omega

theorem bits8_get (x i : Nat) (h : i < 8) : (bits8 x)[i]? = some (x.testBit i) := by
  match i, h with
  | 0, _ => rfl
  | 1, _ => rfl
  | 2, _ => rfl
  | 3, _ => rfl
  | 4, _ => rfl
  | 5, _ => rfl
  | 6, _ => rfl
  | 7, _ => rfl

theorem bitsOf_get (l : List UInt8) (p : Nat) : (bitsOf l)[p]? = (l[p / 8]?).map fun b => b.toNat.testBit (p % 8) := by
  induction l generalizing p with
  | nil => simp [bitsOf]
  | cons b l ih =>
    show (bits8 b.toNat ++ bitsOf l)[p]? = _
    by_cases h : p < 8
    · rw [List.getElem?_append_left (by simpa [bits8] using h), bits8_get _ _ h, show p / 8 = 0 by omega, show p % 8 = p by omega]
      rfl
    · have h8 : (bits8 b.toNat).length = 8 := rfl
      rw [List.getElem?_append_right (by omega), h8, ih, show p / 8 = (p - 8) / 8 + 1 by omega, show p % 8 = (p - 8) % 8 by omega, List.getElem?_cons_succ]

/-- Two texts of one length that are alike but for 32 bits, and differ there. -/
theorem sum_differs {l o : List UInt8} {at_ p : Nat} (hl : l.length = o.length) (h : ∀ q, (q < at_ ∨ at_ + 32 ≤ q) → (bitsOf o)[q]? = (bitsOf l)[q]?) (hp : (bitsOf o)[p]? ≠ (bitsOf l)[p]?) : crcSum o ≠ crcSum l := by
  have hlen : (bitsOf l).length = (bitsOf o).length := by rw [bitsOf_len, bitsOf_len, hl]
  have cut : ∀ x : List Bool, x = x.take at_ ++ ((x.drop at_).take 32 ++ (x.drop at_).drop 32) := fun x => by rw [List.take_append_drop, List.take_append_drop]
  have e1 : (bitsOf o).take at_ = (bitsOf l).take at_ := by
    refine List.ext_getElem? fun i => ?_
    rw [List.getElem?_take, List.getElem?_take]
    split
    · exact h i (.inl (by assumption))
    · rfl
  have e2 : ((bitsOf o).drop at_).drop 32 = ((bitsOf l).drop at_).drop 32 := by
    refine List.ext_getElem? fun i => ?_
    rw [List.getElem?_drop, List.getElem?_drop, List.getElem?_drop, List.getElem?_drop]
    exact h _ (.inr (by omega))
  have hne : ((bitsOf o).drop at_).take 32 ≠ ((bitsOf l).drop at_).take 32 := by
    intro he
    apply hp
    rw [cut (bitsOf o), cut (bitsOf l), e1, e2, he]
  have hb := burst (w := 4294967295) (by decide) (pre := (bitsOf l).take at_) (post := ((bitsOf l).drop at_).drop 32) (by simp [hlen]) (by simp; omega) hne
  intro hs
  apply hb
  have c1 := crcRun_lt (w := 4294967295) (by decide) o
  have c2 := crcRun_lt (w := 4294967295) (by decide) l
  have hr : crcRun 4294967295 o = crcRun 4294967295 l := by
    unfold crcSum at hs
    omega
  rw [crcRun_bits, crcRun_bits, cut (bitsOf o), e1, e2] at hr
  rw [hr]
  exact congrArg _ (cut (bitsOf l))

end Go.Proofs.Ytjcfdakcihhblaa
