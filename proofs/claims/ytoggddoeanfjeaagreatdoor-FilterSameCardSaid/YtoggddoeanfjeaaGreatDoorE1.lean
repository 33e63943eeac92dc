
/- ber: a whole number in as few bytes as there may be (two's complement); slices.Reverse of bytes. -/
import Derived.Test.YtoggddoeanfjeaaGreatDoorB1
import Derived.Test.YtoggddoeanfjeaaGreatDoorL8
import Derived.Deep.RegionHeld3
import Derived.Laws.OwnMore
import Derived.Shelf.RegionOpenPlain
namespace Go.Proofs.YtoggddoeanfjeaaGreatDoor
open Go.RowKit
set_option linter.unusedVariables false
set_option linter.unusedSimpArgs false
set_option maxRecDepth 100000

/-- The lowest byte of a number. -/
def n8 (n : Int) : UInt8 := UInt8.ofNat (n % 256).toNat
theorem n8_val (n : Int) : ((n8 n).toNat : Int) = n % 256 := by
  unfold n8
  rw [UInt8.toNat_ofNat']
  have h1 : 0 ≤ n % 256 := Int.emod_nonneg _ (by decide)
  have h2 : n % 256 < 256 := Int.emod_lt_of_pos _ (by decide)
  omega
/-- A number's bytes, the lowest ahead, at most k + 1. -/
def fewL : Nat → Int → List UInt8
  | 0, n => [n8 n]
  | k + 1, n => if -128 ≤ n ∧ n ≤ 127 then [n8 n] else n8 n :: fewL k (n / 256)
theorem fewL_len : ∀ (k : Nat) (n : Int), 1 ≤ (fewL k n).length ∧ (fewL k n).length ≤ k + 1
  | 0, n => by simp [fewL]
  | k + 1, n => by
    have := fewL_len k (n / 256)
    unfold fewL
    split <;> simp <;> omega
/-- A number's bytes, the highest ahead. -/
def fewB (n : Int) : List UInt8 := (fewL 7 n).reverse
theorem fewB_len (n : Int) : 1 ≤ (fewB n).length ∧ (fewB n).length ≤ 8 := by
  unfold fewB
  rw [List.length_reverse]
  exact fewL_len 7 n

theorem src_n8 (w : World) (x : Int) : Src (w.alloc (.cells #[.int .u8 (x % 256)] 5)) (some ⟨w.heap.size, 0, none⟩) 1 [bv (n8 x)] := by
  refine ⟨(fun h => by cases h), fun ad hA j u hu => ?_⟩
  injection hA with hA
  subst hA
  match j, hu with
  | 0, hu =>
    injection hu with hu
    subst hu
    rw [add_at, World.cell?_alloc_new]
    show _ = some (Value.int .u8 ((n8 x).toNat : Int))
    rw [n8_val]
    rfl
theorem grown_own8 {w w' : World} {v : Value} {bs : List Nat} (hg : w.grownBy w' v.ownBlock) (hb : ∀ b, v.ownBlock = some b → b ∈ bs) : Keeps bs w w' := Keeps.of_grown hg (fun x hx => .inl (hb x hx))
theorem keeps_own8 {w a b : World} {e : TypeId} {k n : Nat} {v : Value} {xs : List Value} (h : a.ownsRow w.heap.size e k v n xs) (hk : Keeps [] w a) (hg : a.grownBy b v.ownBlock) : Keeps [] w b :=
  hk.trans (Keeps.of_grown (bs := v.ownBlock.toList) hg (fun x hx => .inl (by rw [hx]; simp))) (fun x hx => .inr (by
    cases hv : v.ownBlock with
    | none => rw [hv] at hx; simp at hx
    | some y => rw [hv] at hx; simp at hx; subst hx; exact (h.lt x hv).1))

/-- Two elements change places. -/
theorem swap_at {xs ys : List UInt8} {n i j : Nat} {a b : UInt8} (hn : xs.length = n) (hy : ys.length = n) (hij : i + j + 1 = n) (hlt : i < j) (hinv : ∀ t, t < n → ys[t]? = if t < i ∨ j < t then xs[n - 1 - t]? else xs[t]?) (ha : ys[i]? = some a) (hb : ys[j]? = some b) :
    ∀ t, t < n → ((ys.set i b).set j a)[t]? = if t < i + 1 ∨ j - 1 < t then xs[n - 1 - t]? else xs[t]? := by
  intro t ht
  have hi := hinv i (by omega)
  have hj := hinv j (by omega)
  rw [if_neg (by omega)] at hi hj
  rw [List.getElem?_set, List.getElem?_set]
  by_cases h1 : j = t
  · subst h1
    rw [if_pos rfl, if_pos (by rw [List.length_set]; omega), if_pos (by omega), show n - 1 - j = i by omega, ← hi, ha]
  · rw [if_neg h1]
    by_cases h2 : i = t
    · subst h2
      rw [if_pos rfl, if_pos (by omega), if_pos (by omega), show n - 1 - i = j by omega, ← hj, hb]
    · rw [if_neg h2, hinv t ht]
      by_cases h3 : t < i ∨ j < t
      · rw [if_pos h3, if_pos (by omega)]
      · rw [if_neg h3, if_neg (by omega)]

theorem rev_of {xs ys : List UInt8} {n i : Nat} {j : Int} (hn : xs.length = n) (hy : ys.length = n) (hij : (i : Int) + j + 1 = n) (hle : j ≤ i) (hinv : ∀ t, t < n → ys[t]? = if t < i ∨ j < t then xs[n - 1 - t]? else xs[t]?) : ys = xs.reverse := by
  apply List.ext_getElem?
  intro t
  by_cases ht : t < n
  · rw [hinv t ht, List.getElem?_reverse (by omega), hn]
    by_cases h : (t : Int) < i ∨ j < t
    · rw [if_pos (by omega)]
    · rw [if_neg (by omega), show n - 1 - t = t by omega]
  · rw [List.getElem?_eq_none (by omega), List.getElem?_eq_none (by rw [List.length_reverse]; omega)]

theorem few_in {x : Int} {k : Nat} (hk : k ≤ 7) (h1 : -128 * 256 ^ k ≤ x) (h2 : x < 128 * 256 ^ k) : -9223372036854775808 ≤ x ∧ x ≤ 9223372036854775807 := by
  match k, hk with
  | 0, _ | 1, _ | 2, _ | 3, _ | 4, _ | 5, _ | 6, _ | 7, _ => simp at h1 h2; omega
theorem few_next {x : Int} {k : Nat} (hk : k ≤ 7) (h1 : -128 * 256 ^ k ≤ x) (h2 : x < 128 * 256 ^ k) (h3 : ¬ (-128 ≤ x ∧ x ≤ 127)) : ∃ j, k = j + 1 ∧ -128 * 256 ^ j ≤ x / 256 ∧ x / 256 < 128 * 256 ^ j := by
  match k, hk with
  | 0, _ => simp at h1 h2; omega
  | 1, _ => refine ⟨0, rfl, ?_, ?_⟩ <;> simp at h1 h2 ⊢ <;> omega
  | 2, _ => refine ⟨1, rfl, ?_, ?_⟩ <;> simp at h1 h2 ⊢ <;> omega
  | 3, _ => refine ⟨2, rfl, ?_, ?_⟩ <;> simp at h1 h2 ⊢ <;> omega
  | 4, _ => refine ⟨3, rfl, ?_, ?_⟩ <;> simp at h1 h2 ⊢ <;> omega
  | 5, _ => refine ⟨4, rfl, ?_, ?_⟩ <;> simp at h1 h2 ⊢ <;> omega
  | 6, _ => refine ⟨5, rfl, ?_, ?_⟩ <;> simp at h1 h2 ⊢ <;> omega
  | 7, _ => refine ⟨6, rfl, ?_, ?_⟩ <;> simp at h1 h2 ⊢ <;> omega
theorem fewL_in {x : Int} (k : Nat) (h : -128 ≤ x ∧ x ≤ 127) : fewL k x = [n8 x] := by
  cases k with
  | zero => rfl
  | succ j => unfold fewL; rw [if_pos h]
theorem fewL_out {x : Int} (j : Nat) (h : ¬ (-128 ≤ x ∧ x ≤ 127)) : fewL (j + 1) x = n8 x :: fewL j (x / 256) := by
  rw [fewL.eq_2, if_neg h]
theorem wrap8_in {x : Int} (h : -128 ≤ x ∧ x ≤ 127) : IntKind.i8.wrap x = x := by
  have e : IntKind.i8.wrap x = (x + 128) % 256 - 128 := by
    have e0 : IntKind.i8.wrap x = (if x % 256 ≥ 128 then x % 256 - 256 else x % 256) := by simp [IntKind.wrap, IntKind.bits, IntKind.signed]
    rw [e0]; split <;> omega
  rw [e]; omega
theorem wrap8_out {x : Int} (h : ¬ (-128 ≤ x ∧ x ≤ 127)) : wrap64 (IntKind.i8.wrap x) ≠ x := by
  have e : IntKind.i8.wrap x = (x + 128) % 256 - 128 := by
    have e0 : IntKind.i8.wrap x = (if x % 256 ≥ 128 then x % 256 - 256 else x % 256) := by simp [IntKind.wrap, IntKind.bits, IntKind.signed]
    rw [e0]; split <;> omega
  have e2 : -128 ≤ IntKind.i8.wrap x ∧ IntKind.i8.wrap x ≤ 127 := by rw [e]; omega
  rw [show wrap64 (IntKind.i8.wrap x) = IntKind.i8.wrap x by unfold wrap64; omega]
  omega
/-- What the loop of fewest has. -/
def FewI (w : World) (n x : Int) (k : Nat) (A : Option Addr) (c : Nat) (ys : List UInt8) (wr : World) : Prop :=
  ys.length = 7 - k ∧ -128 * 256 ^ k ≤ x ∧ x < 128 * 256 ^ k ∧ ys ++ fewL k x = fewL 7 n ∧ wr.ownsRow w.heap.size 5 1 (.slice A ys.length c) ys.length (ys.map bv) ∧ Keeps [] w wr

end Go.Proofs.YtoggddoeanfjeaaGreatDoor
