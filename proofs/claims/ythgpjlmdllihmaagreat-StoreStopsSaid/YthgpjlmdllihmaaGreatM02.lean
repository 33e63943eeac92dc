/- Texts of one proof, laid together: K1 K6 K7 K8 K9 K12. -/
import Derived.WalkKit
import Derived.Test.YthgpjlmdllihmaaGreatProg
import Derived.Test.YthgpjlmdllihmaaGreatM01
import Derived.Laws.BitsAllLaws
import Derived.Lib.SlBytesConst
/- Sums of 32 bits, as numbers: a halving is undone by what it leaves; 32 bits of a text at once; two texts that differ within 32 bits. -/
namespace Go.Proofs.YthgpjlmdllihmaaGreat
set_option linter.unusedVariables false

def crcP : Nat := 3988292384
/-- One halving. -/
def crcZ (x : Nat) : Nat := x / 2 ^^^ (if x % 2 = 1 then crcP else 0)
def crcZs : Nat → Nat → Nat
  | 0, x => x
  | n + 1, x => crcZs n (crcZ x)
/-- The word behind a byte. -/
def crcStep (w b : Nat) : Nat := crcZs 8 (w ^^^ b)
def crcRun (w : Nat) (l : List UInt8) : Nat := l.foldl (fun w b => crcStep w b.toNat) w
def crcSum (l : List UInt8) : Nat := 4294967295 - crcRun 4294967295 l

theorem crcRun_append (w : Nat) (l m : List UInt8) : crcRun w (l ++ m) = crcRun (crcRun w l) m := List.foldl_append ..
theorem crcRun_snoc (w : Nat) (l : List UInt8) (b : UInt8) : crcRun w (l ++ [b]) = crcStep (crcRun w l) b.toNat := by rw [crcRun_append]; rfl

theorem crcZ_lt {x : Nat} (h : x < 4294967296) : crcZ x < 4294967296 := by
  unfold crcZ
  refine Nat.xor_lt_two_pow (n := 32) (by omega) ?_
  split
  · decide
  · decide
theorem crcZs_lt {n x : Nat} (h : x < 4294967296) : crcZs n x < 4294967296 := by
  induction n generalizing x with
  | zero => exact h
  | succ n ih => exact ih (crcZ_lt h)
theorem crcStep_lt {w b : Nat} (h : w < 4294967296) (hb : b < 256) : crcStep w b < 4294967296 := crcZs_lt (Nat.xor_lt_two_pow (n := 32) h (by omega))
theorem crcRun_lt {w : Nat} (h : w < 4294967296) (l : List UInt8) : crcRun w l < 4294967296 := by
  induction l generalizing w with
  | nil => exact h
  | cons b l ih => exact ih (crcStep_lt h b.toNat_lt)

theorem xor_drop {a b c : Nat} (h : a ^^^ c = b ^^^ c) : a = b := by
  have := congrArg (· ^^^ c) h
  simpa [Nat.xor_assoc] using this

/-- The highest bit tells whether the lowest one was let go. -/
theorem crcZ_top {x : Nat} (h : x < 4294967296) : (crcZ x).testBit 31 = decide (x % 2 = 1) := by
  have h1 : (x / 2).testBit 31 = false := Nat.testBit_lt_two_pow (by omega)
  unfold crcZ
  rw [Nat.testBit_xor, h1]
  split
  · rename_i h2
    simp [h2]
    decide
  · rename_i h2
    simp [h2]

theorem crcZ_inj {x y : Nat} (hx : x < 4294967296) (hy : y < 4294967296) (h : crcZ x = crcZ y) : x = y := by
  have h1 := crcZ_top hx
  rw [h, crcZ_top hy] at h1
  have h2 : (x % 2 = 1) ↔ (y % 2 = 1) := by
    have := h1.symm
    simpa using this
  have h3 : x / 2 = y / 2 := by
    unfold crcZ at h
    by_cases hb : x % 2 = 1
    · rw [if_pos hb, if_pos (h2.1 hb)] at h
      exact xor_drop h
    · rw [if_neg hb, if_neg (fun h' => hb (h2.2 h'))] at h
      simpa using h
  omega

theorem crcZs_inj {n x y : Nat} (hx : x < 4294967296) (hy : y < 4294967296) (h : crcZs n x = crcZs n y) : x = y := by
  induction n generalizing x y with
  | zero => exact h
  | succ n ih => exact crcZ_inj hx hy (ih (crcZ_lt hx) (crcZ_lt hy) h)

/-- Higher bits only move down. -/
theorem crcZ_even (x c : Nat) : crcZ (x ^^^ 2 * c) = crcZ x ^^^ c := by
  have h1 : (x ^^^ 2 * c) / 2 = x / 2 ^^^ c := by
    rw [Nat.xor_div_two]
    congr 1
    omega
  have h2 : (x ^^^ 2 * c) % 2 = x % 2 := by
    have h3 : (2 * c) % 2 = 0 := by omega
    have := Nat.xor_mod_two_pow (a := x) (b := 2 * c) (n := 1)
    simpa [h3] using this
  unfold crcZ
  rw [h1, h2, Nat.xor_assoc, Nat.xor_assoc, Nat.xor_comm c]

theorem crcZs_add (n m x : Nat) : crcZs (n + m) x = crcZs m (crcZs n x) := by
  induction n generalizing x with
  | zero => rw [Nat.zero_add]; rfl
  | succ n ih =>
    rw [Nat.succ_add]
    exact ih _

theorem crcZs_high (n x c : Nat) : crcZs n (x ^^^ 2 ^ n * c) = crcZs n x ^^^ c := by
  induction n generalizing x c with
  | zero => simp [crcZs]
  | succ n ih =>
    show crcZs n (crcZ (x ^^^ 2 ^ (n + 1) * c)) = crcZs n (crcZ x) ^^^ c
    rw [show 2 ^ (n + 1) * c = 2 * (2 ^ n * c) by rw [Nat.pow_succ, Nat.mul_comm (2 ^ n) 2, Nat.mul_assoc], crcZ_even, ih]

theorem low_high (u : Nat) : u = u % 256 ^^^ 2 ^ 8 * (u / 256) := by
  refine Nat.eq_of_testBit_eq fun i => ?_
  rw [show (256 : Nat) = 2 ^ 8 from rfl, Nat.testBit_xor, Nat.testBit_mod_two_pow, Nat.testBit_two_pow_mul, Nat.testBit_div_two_pow]
  by_cases hi : i < 8
  · have h5 : ¬ 8 ≤ i := by omega
    simp [hi, h5]
  · have h4 : 8 ≤ i := by omega
    simp [hi, h4, show i - 8 + 8 = i by omega]

/-- By a table of 256 words. -/
theorem crcStep_table {w b : Nat} (hb : b < 256) : crcStep w b = w / 256 ^^^ crcZs 8 ((w ^^^ b) % 256) := by
  have h1 : w ^^^ b = (w ^^^ b) % 256 ^^^ 2 ^ 8 * (w / 256) := by
    have h2 : (w ^^^ b) / 256 = w / 256 := by
      have h3 : b / 2 ^ 8 = 0 := by omega
      have := Nat.xor_div_two_pow (a := w) (b := b) (n := 8)
      rw [h3, Nat.xor_zero] at this
      exact this
    rw [← h2]
    exact low_high (w ^^^ b)
  show crcZs 8 (w ^^^ b) = _
  rw [h1, crcZs_high, ← h1, Nat.xor_comm]

end Go.Proofs.YthgpjlmdllihmaaGreat
/- Rows of bytes: few, joined. -/
namespace Go.Proofs.YthgpjlmdllihmaaGreat
open Go.RowKit
set_option linter.unusedVariables false

structure Part where
  A : Option Addr
  c : Nat
  bs : List UInt8

structure PartsAt (w : World) (A : Option Addr) (len : Nat) (l : List Part) : Prop where
  len : l.length = len
  at_ : ∀ i x, l[i]? = some x → ∃ b o, A = some ⟨b, o, none⟩ ∧ w.cell? ⟨b, o + i, none⟩ = some (.slice x.A x.bs.length x.c) ∧ BytesAt w (.slice x.A x.bs.length x.c) x.bs ∧ x.bs.length ≤ 9223372036854775807

theorem PartsAt.keep {w w' : World} {A : Option Addr} {len : Nat} {l : List Part} (h : PartsAt w A len l) (hk : Keeps [] w w') : PartsAt w' A len l := by
  refine ⟨h.len, fun i x hx => ?_⟩
  obtain ⟨b, o, h1, h2, h3, h4⟩ := h.at_ i x hx
  exact ⟨b, o, h1, (hk.cell (lt_of_cell h2) (by simp)).trans h2, h3.grow hk, h4⟩

def total (l : List Part) : Nat := (l.map fun x => x.bs.length).sum

theorem total_snoc (l : List Part) (x : Part) : total (l ++ [x]) = total l + x.bs.length := by simp [total]

end Go.Proofs.YthgpjlmdllihmaaGreat
/- Parts, added up. -/
namespace Go.Proofs.YthgpjlmdllihmaaGreat
open Go.RowKit
set_option linter.unusedVariables false

theorem u8_of : (Tryz.prog.info? 5).map (fun i => (i.zero, i.size, i.bytes)) = some (some (.int .u8 0), 1, 1) := by kernel_rfl

theorem total_le {l : List Part} (j : Nat) : total (l.take j) ≤ total l := by
  have : total l = total (l.take j) + total (l.drop j) := by
    unfold total
    rw [← List.sum_append, ← List.map_append, List.take_append_drop]
  omega

theorem flat_len (l : List Part) : (l.flatMap fun x => x.bs).length = total l := by
  simp [total, List.length_flatMap]

end Go.Proofs.YthgpjlmdllihmaaGreat
/- Rows of bytes that came in, opened. -/
namespace Go.Proofs.YthgpjlmdllihmaaGreat
open Go.RowKit Go.ChangeShapes Go.WideShapes Go.Deep
set_option linter.unusedVariables false

theorem kpick_lt {α : Type} {n : Nat} {p : Nat → α → Prop} [Inhabited α] (h : ∀ i, i < n → ∃ x, p i x) : ∃ X : Nat → α, ∀ i, i < n → p i (X i) :=
  ⟨fun i => if hi : i < n then (h i hi).choose else default, fun i hi => by simp only [dif_pos hi]; exact (h i hi).choose_spec⟩

instance : Inhabited Part := ⟨⟨none, 0, []⟩⟩

section
variable {H : Type} {enc : TypeId × Value → H} {W : World} {base : Nat} {sp : Nat → Bool} {hd : Bool}

theorem parts_of_trod {fuel : Nat} {v : Value} {y : DataW H × List MemPlace} (h : DataW.trod enc Tryz.prog W base sp hd fuel 135 [v] = some y) :
    ∃ (A : Option Addr) (len cap : Nat) (l : List Part), v = .slice A len cap ∧ PartsAt W A len l ∧ len ≤ cap ∧ cap ≤ 9223372036854775807 := by
  rcases open_slice1 Tryz.underlying135 (by kernel_rfl) h with ⟨hcs, _⟩ | ⟨a, len, cap, m, n, V, D, Pl, hcs, _, hl, hm, hmm, _, hx⟩
  · injection hcs with hcs _
    exact ⟨none, 0, 0, [], hcs, ⟨rfl, fun i x h => by simp at h⟩, by omega, by omega⟩
  · injection hcs with hcs _
    have hml : len ≤ m := by rw [hmm]; split <;> omega
    have hone : ∀ i, i < len → ∃ x : Part, W.cell? ⟨a.block, a.off + i, none⟩ = some (.slice x.A x.bs.length x.c) ∧ BytesAt W (.slice x.A x.bs.length x.c) x.bs ∧ x.bs.length ≤ 9223372036854775807 ∧ a = ⟨a.block, a.off, none⟩ := by
      intro i hi
      obtain ⟨hc0, ht0⟩ := hx 0 (by omega)
      obtain ⟨hc, ht⟩ := hx i (by omega)
      have ha := addr_of_cell hc0
      obtain ⟨A, ln, c, bs, hv, hb, hB, hbl⟩ := bytes_of_trod ht
      subst hb
      refine ⟨⟨A, c, bs⟩, ?_, hB, hbl, ha⟩
      rw [ha, add_at] at hc
      rw [hc, hv]
    obtain ⟨X, hX⟩ := kpick_lt (α := Part) hone
    refine ⟨some a, len, cap, (List.range len).map X, hcs, ⟨by simp, fun i x hi => ?_⟩, hl, by unfold maxLen at hm; omega⟩
    have hil : i < len := by
      have := (List.getElem?_eq_some_iff.1 hi).1
      simpa using this
    rw [List.getElem?_map, List.getElem?_range hil] at hi
    injection hi with hi
    obtain ⟨h1, h2, h3, h4⟩ := hX i hil
    rw [show X i = x from hi] at h1 h2 h3
    exact ⟨a.block, a.off, by rw [← h4], h1, h2, h3⟩
end

end Go.Proofs.YthgpjlmdllihmaaGreat
/- What crc's Sum and Step answer; bytes in a row of their own. -/
namespace Go.Proofs.YthgpjlmdllihmaaGreat
open Go.RowKit
set_option linter.unusedVariables false

/-- What Sum answers. -/
def SumOk : Prop := ∀ (A : Option Addr) (len c : Nat) (l : List Part) (w : World), PartsAt w A len l → len ≤ 20 → True → Calls Tryz.prog 123 #[.slice A len c] w fun e w' => e = .returned (.int .u32 (crcSum (l.flatMap fun x => x.bs) : Nat)) ∧ Keeps [] w w'
/-- What Step answers. -/
def StepOk : Prop := ∀ (a b : Nat) (w : World), a < 4294967296 → b < 256 → Calls Tryz.prog 133 #[.int .u32 (a : Int), .int .u8 (b : Int)] w fun e w' => e = .returned (.int .u32 (crcStep a b : Nat)) ∧ Keeps [] w w'

theorem heap_alloc_new' (w : World) (o : Obj) : (w.alloc o).heap[w.heap.size]? = some o := by
  show (w.heap.push o)[w.heap.size]? = _
  simp

/-- Bytes in a block of their own. -/
theorem row_at (w : World) (xs : List UInt8) (fz : Nat × Nat) (h : xs.length ≤ 9223372036854775807) : BytesAt (w.alloc (.cells (xs.map bv).toArray 5 fz)) (.slice (some ⟨w.heap.size, 0, none⟩) xs.length xs.length) xs := by
  refine ⟨_, xs.length, rfl, Nat.le_refl _, by unfold maxLen; omega, fun _ => ⟨w.heap.size, 0, rfl, fun i u hu => ?_⟩⟩
  unfold World.cell?
  rw [Nat.zero_add, heap_alloc_new']
  simp [hu]

/-- One part in a row of its own. -/
theorem one_part {w : World} {A : Option Addr} {c : Nat} {bs : List UInt8} (h : BytesAt w (.slice A bs.length c) bs) (hl : bs.length ≤ 9223372036854775807) : PartsAt (w.alloc (.cells #[.slice A bs.length c] 55)) (some ⟨w.heap.size, 0, none⟩) 1 [⟨A, c, bs⟩] := by
  refine ⟨rfl, fun i x hx => ?_⟩
  have hi : i = 0 := by
    have := (List.getElem?_eq_some_iff.1 hx).1
    simp at this
    exact this
  subst hi
  have hx' : x = ⟨A, c, bs⟩ := by
    simp at hx
    exact hx.symm
  subst hx'
  refine ⟨w.heap.size, 0, rfl, ?_, h.grow ((Keeps.refl [] w).alloc _), hl⟩
  rw [World.cell?_alloc_new]
  rfl

theorem no_parts (w : World) : PartsAt w none 0 [] := ⟨rfl, fun i x h => by simp at h⟩

end Go.Proofs.YthgpjlmdllihmaaGreat
/- The bytes of parts. -/
namespace Go.Proofs.YthgpjlmdllihmaaGreat
open Go.RowKit
set_option linter.unusedVariables false

abbrev flat (l : List Part) : List UInt8 := l.flatMap fun x => x.bs

theorem flat_snoc {l : List Part} {j : Nat} {x : Part} (h : l.take (j + 1) = l.take j ++ [x]) : flat (l.take (j + 1)) = flat (l.take j) ++ x.bs := by
  rw [h]
  simp [flat]

end Go.Proofs.YthgpjlmdllihmaaGreat
