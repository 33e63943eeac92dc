/- Texts of one proof, laid together: E1 E2 E3 E4. -/
import Derived.Test.YtmgkejgmkfeccaaDoorM01
import Derived.Deep.RegionHeld3
import Derived.Laws.OwnMore
import Derived.Shelf.RegionOpenPlain
import Derived.Laws.IdiomStrings
import Derived.Laws.BitsAllLaws
/- ber: a whole number in as few bytes as there may be (two's complement); slices.Reverse of bytes. -/
namespace Go.Proofs.YtmgkejgmkfeccaaDoor
open Go.RowKit
set_option linter.unusedVariables false
set_option linter.unusedSimpArgs false
set_option maxRecDepth 100000

/-- The lowest byte of a number. -/
def n8 (n : Int) : UInt8 := UInt8.ofNat (n % 256).toNat
theorem n8_val (n : Int) : ((n8 n).toNat : Int) = n % 256 := by
  unfold n8
  rw [UInt8.toNat_ofNat']
  have h1 : 0 ≤ n % 256 := Int.emod_nonneg _ (by decide)
  have h2 : n % 256 < 256 := Int.emod_lt_of_pos _ (by decide)
  omega
/-- A number's bytes, the lowest ahead, at most k + 1. -/
def fewL : Nat → Int → List UInt8
  | 0, n => [n8 n]
  | k + 1, n => if -128 ≤ n ∧ n ≤ 127 then [n8 n] else n8 n :: fewL k (n / 256)
theorem fewL_len : ∀ (k : Nat) (n : Int), 1 ≤ (fewL k n).length ∧ (fewL k n).length ≤ k + 1
  | 0, n => by simp [fewL]
  | k + 1, n => by
    have := fewL_len k (n / 256)
    unfold fewL
    split <;> simp <;> omega
/-- A number's bytes, the highest ahead. -/
def fewB (n : Int) : List UInt8 := (fewL 7 n).reverse
theorem fewB_len (n : Int) : 1 ≤ (fewB n).length ∧ (fewB n).length ≤ 8 := by
  unfold fewB
  rw [List.length_reverse]
  exact fewL_len 7 n

theorem src_n8 (w : World) (x : Int) : Src (w.alloc (.cells #[.int .u8 (x % 256)] 5)) (some ⟨w.heap.size, 0, none⟩) 1 [bv (n8 x)] := by
  refine ⟨(fun h => by cases h), fun ad hA j u hu => ?_⟩
  injection hA with hA
  subst hA
  match j, hu with
  | 0, hu =>
    injection hu with hu
    subst hu
    rw [add_at, World.cell?_alloc_new]
    show _ = some (Value.int .u8 ((n8 x).toNat : Int))
    rw [n8_val]
    rfl
theorem grown_own8 {w w' : World} {v : Value} {bs : List Nat} (hg : w.grownBy w' v.ownBlock) (hb : ∀ b, v.ownBlock = some b → b ∈ bs) : Keeps bs w w' := Keeps.of_grown hg (fun x hx => .inl (hb x hx))
theorem keeps_own8 {w a b : World} {e : TypeId} {k n : Nat} {v : Value} {xs : List Value} (h : a.ownsRow w.heap.size e k v n xs) (hk : Keeps [] w a) (hg : a.grownBy b v.ownBlock) : Keeps [] w b :=
  hk.trans (Keeps.of_grown (bs := v.ownBlock.toList) hg (fun x hx => .inl (by rw [hx]; simp))) (fun x hx => .inr (by
    cases hv : v.ownBlock with
    | none => rw [hv] at hx; simp at hx
    | some y => rw [hv] at hx; simp at hx; subst hx; exact (h.lt x hv).1))

/-- Two elements change places. -/
theorem swap_at {xs ys : List UInt8} {n i j : Nat} {a b : UInt8} (hn : xs.length = n) (hy : ys.length = n) (hij : i + j + 1 = n) (hlt : i < j) (hinv : ∀ t, t < n → ys[t]? = if t < i ∨ j < t then xs[n - 1 - t]? else xs[t]?) (ha : ys[i]? = some a) (hb : ys[j]? = some b) :
    ∀ t, t < n → ((ys.set i b).set j a)[t]? = if t < i + 1 ∨ j - 1 < t then xs[n - 1 - t]? else xs[t]? := by
  intro t ht
  have hi := hinv i (by omega)
  have hj := hinv j (by omega)
  rw [if_neg (by omega)] at hi hj
  rw [List.getElem?_set, List.getElem?_set]
  by_cases h1 : j = t
  · subst h1
    rw [if_pos rfl, if_pos (by rw [List.length_set]; omega), if_pos (by omega), show n - 1 - j = i by omega, ← hi, ha]
  · rw [if_neg h1]
    by_cases h2 : i = t
    · subst h2
      rw [if_pos rfl, if_pos (by omega), if_pos (by omega), show n - 1 - i = j by omega, ← hj, hb]
    · rw [if_neg h2, hinv t ht]
      by_cases h3 : t < i ∨ j < t
      · rw [if_pos h3, if_pos (by omega)]
      · rw [if_neg h3, if_neg (by omega)]

theorem rev_of {xs ys : List UInt8} {n i : Nat} {j : Int} (hn : xs.length = n) (hy : ys.length = n) (hij : (i : Int) + j + 1 = n) (hle : j ≤ i) (hinv : ∀ t, t < n → ys[t]? = if t < i ∨ j < t then xs[n - 1 - t]? else xs[t]?) : ys = xs.reverse := by
  apply List.ext_getElem?
  intro t
  by_cases ht : t < n
  · rw [hinv t ht, List.getElem?_reverse (by omega), hn]
    by_cases h : (t : Int) < i ∨ j < t
    · rw [if_pos (by omega)]
    · rw [if_neg (by omega), show n - 1 - t = t by omega]
  · rw [List.getElem?_eq_none (by omega), List.getElem?_eq_none (by rw [List.length_reverse]; omega)]

theorem few_in {x : Int} {k : Nat} (hk : k ≤ 7) (h1 : -128 * 256 ^ k ≤ x) (h2 : x < 128 * 256 ^ k) : -9223372036854775808 ≤ x ∧ x ≤ 9223372036854775807 := by
  match k, hk with
  | 0, _ | 1, _ | 2, _ | 3, _ | 4, _ | 5, _ | 6, _ | 7, _ => simp at h1 h2; omega
theorem few_next {x : Int} {k : Nat} (hk : k ≤ 7) (h1 : -128 * 256 ^ k ≤ x) (h2 : x < 128 * 256 ^ k) (h3 : ¬ (-128 ≤ x ∧ x ≤ 127)) : ∃ j, k = j + 1 ∧ -128 * 256 ^ j ≤ x / 256 ∧ x / 256 < 128 * 256 ^ j := by
  match k, hk with
  | 0, _ => simp at h1 h2; omega
  | 1, _ => refine ⟨0, rfl, ?_, ?_⟩ <;> simp at h1 h2 ⊢ <;> omega
  | 2, _ => refine ⟨1, rfl, ?_, ?_⟩ <;> simp at h1 h2 ⊢ <;> omega
  | 3, _ => refine ⟨2, rfl, ?_, ?_⟩ <;> simp at h1 h2 ⊢ <;> omega
  | 4, _ => refine ⟨3, rfl, ?_, ?_⟩ <;> simp at h1 h2 ⊢ <;> omega
  | 5, _ => refine ⟨4, rfl, ?_, ?_⟩ <;> simp at h1 h2 ⊢ <;> omega
  | 6, _ => refine ⟨5, rfl, ?_, ?_⟩ <;> simp at h1 h2 ⊢ <;> omega
  | 7, _ => refine ⟨6, rfl, ?_, ?_⟩ <;> simp at h1 h2 ⊢ <;> omega
theorem fewL_in {x : Int} (k : Nat) (h : -128 ≤ x ∧ x ≤ 127) : fewL k x = [n8 x] := by
  cases k with
  | zero => rfl
  | succ j => unfold fewL; rw [if_pos h]
theorem fewL_out {x : Int} (j : Nat) (h : ¬ (-128 ≤ x ∧ x ≤ 127)) : fewL (j + 1) x = n8 x :: fewL j (x / 256) := by
  rw [fewL.eq_2, if_neg h]
theorem wrap8_in {x : Int} (h : -128 ≤ x ∧ x ≤ 127) : IntKind.i8.wrap x = x := by
  have e : IntKind.i8.wrap x = (x + 128) % 256 - 128 := by
    have e0 : IntKind.i8.wrap x = (if x % 256 ≥ 128 then x % 256 - 256 else x % 256) := by simp [IntKind.wrap, IntKind.bits, IntKind.signed]
    rw [e0]; split <;> omega
  rw [e]; omega
theorem wrap8_out {x : Int} (h : ¬ (-128 ≤ x ∧ x ≤ 127)) : wrap64 (IntKind.i8.wrap x) ≠ x := by
  have e : IntKind.i8.wrap x = (x + 128) % 256 - 128 := by
    have e0 : IntKind.i8.wrap x = (if x % 256 ≥ 128 then x % 256 - 256 else x % 256) := by simp [IntKind.wrap, IntKind.bits, IntKind.signed]
    rw [e0]; split <;> omega
  have e2 : -128 ≤ IntKind.i8.wrap x ∧ IntKind.i8.wrap x ≤ 127 := by rw [e]; omega
  rw [show wrap64 (IntKind.i8.wrap x) = IntKind.i8.wrap x by unfold wrap64; omega]
  omega
/-- What the loop of fewest has. -/
def FewI (w : World) (n x : Int) (k : Nat) (A : Option Addr) (c : Nat) (ys : List UInt8) (wr : World) : Prop :=
  ys.length = 7 - k ∧ -128 * 256 ^ k ≤ x ∧ x < 128 * 256 ^ k ∧ ys ++ fewL k x = fewL 7 n ∧ wr.ownsRow w.heap.size 5 1 (.slice A ys.length c) ys.length (ys.map bv) ∧ Keeps [] w wr

end Go.Proofs.YtmgkejgmkfeccaaDoor
/- ber: common values that hold bytes. -/
namespace Go.Proofs.YtmgkejgmkfeccaaDoor
open Go.RowKit Go.Shelf
set_option linter.unusedVariables false
set_option linter.unusedSimpArgs false
set_option maxRecDepth 100000

theorem u8int_small (num : Nat) (h : num < 256) : IntKind.wrap .u8 (num : Int) = (num : Int) := by
  have e : IntKind.wrap .u8 (num : Int) = (num : Int) % 256 := by simp [IntKind.wrap, IntKind.bits, IntKind.signed]
  rw [e]
  omega
theorem own_info8 {w : World} {base : Nat} {A : Option Addr} {c : Nat} {xs : List UInt8} (h : w.ownsRow base 5 1 (.slice A xs.length c) xs.length (xs.map bv)) : BytesAt w (.slice A xs.length c) xs := BytesAt.of_own h

theorem heap_new8 (w : World) (o : Obj) : (w.alloc o).heap[w.heap.size]? = some o := by
  show (w.heap.push o)[w.heap.size]? = _
  simp
/-- A text as bytes: room and cells left open. -/
theorem conv8 (k : List UInt8) (hk : k.length ≤ 9223372036854775807) : ∃ (C : World → Nat) (O : World → Obj), (∀ W, (convert 9 83 (.string ⟨k.toArray⟩)).run Tryd.prog W = .ok (.slice (some ⟨W.heap.size, 0, none⟩) k.length (C W)) (W.drew.alloc (O W))) ∧ ∀ (W : World), BytesAt (W.drew.alloc (O W)) (.slice (some ⟨W.heap.size, 0, none⟩) k.length (C W)) k := by
  refine ⟨fun W => grownCap W k.length 0 5, fun W => .cells (bytesRow ⟨k.toArray⟩ (grownCap W k.length 0 5)) 5 ((bytesRow ⟨k.toArray⟩ (grownCap W k.length 0 5)).size, (bytesRow ⟨k.toArray⟩ (grownCap W k.length 0 5)).size + 1), fun W => ?_, fun W => ?_⟩
  · exact run_bytes_of_string W 9 83 5 ⟨k.toArray⟩ Tryd.underlying9 Tryd.underlying83 Tryd.underlying5
  · refine ⟨_, grownCap W k.length 0 5, rfl, grownCap_ge W _ _ _, grownCap_le_maxLen W _ _ _ (by unfold maxLen; omega), fun _ => ⟨W.heap.size, 0, rfl, fun i u hu => ?_⟩⟩
    have hi : i < k.length := (List.getElem?_eq_some_iff.1 hu).1
    rw [Nat.zero_add]
    unfold World.cell?
    have e := heap_new8 W.drew (.cells (bytesRow ⟨k.toArray⟩ (grownCap W k.length 0 5)) 5 ((bytesRow ⟨k.toArray⟩ (grownCap W k.length 0 5)).size, (bytesRow ⟨k.toArray⟩ (grownCap W k.length 0 5)).size + 1))
    rw [show W.drew.heap.size = W.heap.size from rfl] at e
    rw [e]
    simp only [bytesRow, List.map_toArray]
    rw [Array.getElem?_append_left (by simpa using hi)]
    simp [hu, bv]

theorem five_set {w : World} {g : Nat} {a b c d e v0 v1 v2 v3 v4 : Value} {t : TypeId} (h : w.heap[g]? = some (.cells #[a, b, c, d, e] t (0, 0))) :
    (((((w.setCell ⟨g, 0, none⟩ v0).setCell ⟨g, 1, none⟩ v1).setCell ⟨g, 2, none⟩ v2).setCell ⟨g, 3, none⟩ v3).setCell ⟨g, 4, none⟩ v4).heap[g]? = some (.cells #[v0, v1, v2, v3, v4] t (0, 0)) :=
  heap_setCell_same _ g 4 _ t v4 (heap_setCell_same _ g 3 _ t v3 (heap_setCell_same _ g 2 _ t v2 (heap_setCell_same _ g 1 _ t v1 (heap_setCell_same w g 0 _ t v0 h))))
theorem five_keep {w w2 : World} {bs : List Nat} {g : Nat} {v0 v1 v2 v3 v4 : Value} (h : Keeps bs w w2) (hg : g ∈ bs ∨ w.heap.size ≤ g) :
    Keeps bs w (((((w2.setCell ⟨g, 0, none⟩ v0).setCell ⟨g, 1, none⟩ v1).setCell ⟨g, 2, none⟩ v2).setCell ⟨g, 3, none⟩ v3).setCell ⟨g, 4, none⟩ v4) :=
  ((((h.setCell hg v0).setCell hg v1).setCell hg v2).setCell hg v3).setCell hg v4
theorem five_bytes {w2 : World} {A : Option Addr} {n c : Nat} {xs : List UInt8} {g : Nat} {v0 v1 v2 v3 v4 : Value} (h : BytesAt w2 (.slice A n c) xs) (hg : ∀ b, (Value.slice A n c).ownBlock = some b → b ≠ g) :
    BytesAt (((((w2.setCell ⟨g, 0, none⟩ v0).setCell ⟨g, 1, none⟩ v1).setCell ⟨g, 2, none⟩ v2).setCell ⟨g, 3, none⟩ v3).setCell ⟨g, 4, none⟩ v4) (.slice A n c) xs :=
  h.keep (five_keep (bs := [g]) (Keeps.refl _ _) (.inl (by simp))) (fun b hb hm => hg b hb (List.mem_singleton.1 hm))

end Go.Proofs.YtmgkejgmkfeccaaDoor
/- ber: numbers off bytes. -/
namespace Go.Proofs.YtmgkejgmkfeccaaDoor
open Go.RowKit Go.Shelf
set_option linter.unusedVariables false
set_option linter.unusedSimpArgs false
set_option maxRecDepth 100000

theorem i64_or_low (y u : Int) (h1 : -9223372036854775808 ≤ y) (h2 : y ≤ 9223372036854775807) (h3 : y % 256 = 0) (h4 : 0 ≤ u) (h5 : u < 256) : bits .or .i64 y u = y + u := by
  obtain ⟨b, rfl⟩ := Int.eq_ofNat_of_zero_le h4
  show IntKind.i64.wrap ((BitVec.ofInt 64 y ||| BitVec.ofInt 64 (b : Int)).toNat : Int) = _
  obtain ⟨a, ha, hy⟩ : ∃ a : Nat, a < 18446744073709551616 ∧ (y = (a : Int) ∨ y = (a : Int) - 18446744073709551616) := by
    by_cases h : 0 ≤ y
    · exact ⟨y.toNat, by omega, .inl (by omega)⟩
    · exact ⟨(y + 18446744073709551616).toNat, by omega, .inr (by omega)⟩
  have e : BitVec.ofInt 64 y = BitVec.ofInt 64 (a : Int) := by
    rcases hy with hy | hy
    · rw [hy]
    · apply BitVec.eq_of_toInt_eq
      rw [BitVec.toInt_ofInt, BitVec.toInt_ofInt, hy]
      simp [Int.bmod_def]
  have hj : a ||| b = a + b := nat_join 8 a b (by omega) (by omega)
  have hlt : a ||| b < 2 ^ 64 := Nat.or_lt_two_pow (by omega) (by omega)
  rw [e, BitVec.toNat_or, ofInt_u64 a ha, ofInt_u64 b (by omega), hj]
  rw [hj] at hlt
  have hw : IntKind.i64.wrap ((a + b : Nat) : Int) = ((a : Int) + b + 9223372036854775808) % 18446744073709551616 - 9223372036854775808 := by
    simp only [IntKind.wrap, IntKind.bits, IntKind.signed]
    simp
    split <;> omega
  rw [hw]
  omega
theorem wrap64_256 (x : Int) : -9223372036854775808 ≤ wrap64 (x * 256) ∧ wrap64 (x * 256) ≤ 9223372036854775807 ∧ wrap64 (x * 256) % 256 = 0 := by
  unfold wrap64
  omega
/-- The number behind a, with more bytes. -/
def numZ : Int → List UInt8 → Int
  | a, [] => a
  | a, x :: r => numZ (wrap64 (a * 256) + (x.toNat : Int)) r

end Go.Proofs.YtmgkejgmkfeccaaDoor
/- ber: IntOf, TruthOf. -/
namespace Go.Proofs.YtmgkejgmkfeccaaDoor
open Go.RowKit Go.Shelf
set_option linter.unusedVariables false
set_option linter.unusedSimpArgs false
set_option maxRecDepth 100000

theorem conv_bytes {w : World} {v : Value} {xs : List UInt8} (h : BytesAt w v xs) : (convert 83 9 v).run Tryd.prog w = .ok (.string ⟨xs.toArray⟩) w := by
  have h0 := h
  obtain ⟨A, c, rfl, h1, h2, h3⟩ := h
  rcases A with _ | a
  · have hx : xs = [] := by
      rcases Nat.eq_zero_or_pos xs.length with h | h
      · exact List.eq_nil_of_length_eq_zero h
      · obtain ⟨_, _, h, _⟩ := h3 h; cases h
    subst hx
    exact run_convert_bytes_nil w 83 5 Tryd.underlying83 Tryd.underlying5 _ _ 9 Tryd.underlying9
  · refine run_convert_bytes_back w 83 9 5 a c xs Tryd.underlying83 Tryd.underlying5 Tryd.underlying9 fun j hj => ?_
    exact h0.cells j _ (by simp [List.getElem?_eq_getElem hj, bv])

theorem slice_from (A : Option Addr) (n c at_ : Nat) (xs : List UInt8) (hn : xs.length = n) (hnc : n ≤ c) (hcm : c ≤ 9223372036854775807) (ha : at_ ≤ n) (hA : 0 < n → ∃ b o, A = some ⟨b, o, none⟩) :
    ∃ B d, (∀ W, (Instr.slice 83 (.slice A n c) (some (.int .i64 (at_ : Int))) none none).run Tryd.prog W = .ok (.slice B (n - at_) d) W) ∧ ∀ W, BytesAt W (.slice A n c) xs → BytesAt W (.slice B (n - at_) d) (xs.drop at_) := by
  have hr : ∀ W, (Instr.slice 83 (.slice A n c) (some (.int .i64 (at_ : Int))) none none).run Tryd.prog W = .ok (.slice (if c = at_ then A else A.map (·.add at_)) (n - at_) (c - at_)) W := by
    intro W
    rw [run_slice_l W 83 A n c (by simp [Program.elem, Tryd.underlying83]) .i64 _ (by omega) (by omega)]
    rw [show Tryd.prog.elem 83 = 5 by simp [Program.elem, Tryd.underlying83], Tryd.sizeOf5]
    simp [Result.andThen, sliced]
  refine ⟨_, _, hr, fun W hb => ?_⟩
  obtain ⟨A', c', he, h1, h2, h3⟩ := hb
  injection he with e1 e2 e3
  subst e1 e3
  refine ⟨_, _, by rw [List.length_drop, hn], by rw [List.length_drop]; omega, by omega, fun hp => ?_⟩
  rw [List.length_drop] at hp
  obtain ⟨b, o, rfl, hc⟩ := h3 (by omega)
  refine ⟨b, o + at_, ?_, fun i u hu => ?_⟩
  · rw [if_neg (by omega)]
    simp [add_at]
  · rw [List.getElem?_drop] at hu
    have := hc (at_ + i) u hu
    rwa [← Nat.add_assoc] at this

theorem BytesAt.from {w : World} {b o n c : Nat} {xs : List UInt8} (h : BytesAt w (.slice (some ⟨b, o, none⟩) n c) xs) {k : Nat} (hk : k ≤ n) : BytesAt w (.slice (some ⟨b, o + k, none⟩) (n - k) (c - k)) (xs.drop k) := by
  obtain ⟨A', c', he, h1, h2, h3⟩ := h
  injection he with he1 he2 he3
  subst he1 he3
  refine ⟨some ⟨b, o + k, none⟩, c - k, by rw [List.length_drop, he2], by rw [List.length_drop]; omega, by omega, fun hp => ?_⟩
  rw [List.length_drop] at hp
  obtain ⟨b', o', hb, hc⟩ := h3 (by omega)
  injection hb with hb
  injection hb with hb1 hb2
  subst hb1 hb2
  refine ⟨b, o + k, rfl, fun i u hu => ?_⟩
  rw [List.getElem?_drop] at hu
  have := hc (k + i) u hu
  rwa [← Nat.add_assoc] at this

theorem BytesAt.part {w : World} {b o n c : Nat} {xs : List UInt8} (h : BytesAt w (.slice (some ⟨b, o, none⟩) n c) xs) {i m : Nat} (hk : i + m ≤ n) (hn : xs.length = n) : BytesAt w (.slice (some ⟨b, o + i, none⟩) m (c - i)) ((xs.drop i).take m) := by
  obtain ⟨A', c', he, h1, h2, h3⟩ := h
  injection he with he1 he2 he3
  subst he1 he3
  have hl : ((xs.drop i).take m).length = m := by rw [List.length_take, List.length_drop]; omega
  refine ⟨some ⟨b, o + i, none⟩, c - i, by rw [hl], by omega, by omega, fun hp => ?_⟩
  obtain ⟨b', o', hb, hc⟩ := h3 (by omega)
  injection hb with hb
  injection hb with hb1 hb2
  subst hb1 hb2
  refine ⟨b, o + i, rfl, fun j u hu => ?_⟩
  rw [List.getElem?_take] at hu
  split at hu
  · rw [List.getElem?_drop] at hu
    have := hc (i + j) u hu
    rwa [← Nat.add_assoc] at this
  · cases hu

/-- The number of bytes, two's complement. -/
def sgnB : List UInt8 → Int
  | [] => 0
  | x :: r => numZ (if x.toNat < 128 then (x.toNat : Int) else (x.toNat : Int) - 256) r
def isFew (xs : List UInt8) : Bool := decide (1 ≤ xs.length ∧ xs.length ≤ 8) && (xs == fewB (sgnB xs))

theorem eq255 (x : UInt8) : ((x.toNat : Int) == 255) = (x == 255) := by
  rw [Bool.eq_iff_iff, beq_iff_eq, beq_iff_eq]
  constructor
  · intro h; apply UInt8.toNat_inj.1; show x.toNat = 255; omega
  · intro h; subst h; rfl
theorem eq0 (x : UInt8) : ((x.toNat : Int) == 0) = (x == 0) := by
  rw [Bool.eq_iff_iff, beq_iff_eq, beq_iff_eq]
  constructor
  · intro h; apply UInt8.toNat_inj.1; show x.toNat = 0; omega
  · intro h; subst h; rfl
/-- What TruthOf answers. -/
def truthR (k : Bool) (xs : List UInt8) : Value := .tuple #[.bool (!k && (xs == [255])), .bool (!k && (xs == [255] || xs == [0]))]
theorem truthR_len {xs : List UInt8} (h : xs.length ≠ 1) : truthR false xs = .tuple #[.bool false, .bool false] := by
  have h1 : (xs == [255]) = false := by
    rw [beq_eq_false_iff_ne]; rintro rfl; exact h rfl
  have h2 : (xs == [0]) = false := by
    rw [beq_eq_false_iff_ne]; rintro rfl; exact h rfl
  unfold truthR
  rw [h1, h2]
  rfl
theorem truthR_one (x : UInt8) : truthR false [x] = .tuple #[.bool ((x.toNat : Int) == 255), .bool ((x.toNat : Int) == 255 || (x.toNat : Int) == 0)] := by
  rw [eq255, eq0]
  unfold truthR
  simp

/-- What IntOf answers. -/
def intR (k : Bool) (xs : List UInt8) : Value := if !k && isFew xs then .tuple #[.int .i64 (sgnB xs), .bool true] else .tuple #[.int .i64 0, .bool false]

theorem sgn_head (x : UInt8) : IntKind.i64.wrap (IntKind.i8.wrap (x.toNat : Int)) = if x.toNat < 128 then (x.toNat : Int) else (x.toNat : Int) - 256 := by
  have hx : x.toNat < 256 := x.toNat_lt
  have e0 : IntKind.i8.wrap (x.toNat : Int) = (if (x.toNat : Int) % 256 ≥ 128 then (x.toNat : Int) % 256 - 256 else (x.toNat : Int) % 256) := by simp [IntKind.wrap, IntKind.bits, IntKind.signed]
  rw [IntWalk.i64_in _ (by rw [e0]; split <;> omega), e0]
  split <;> split <;> omega
theorem numZ_in : ∀ (xs : List UInt8) (a : Int), -9223372036854775808 ≤ a ∧ a ≤ 9223372036854775807 → -9223372036854775808 ≤ numZ a xs ∧ numZ a xs ≤ 9223372036854775807
  | [], a, h => h
  | x :: r, a, h => by
    obtain ⟨z1, z2, z3⟩ := wrap64_256 a
    have hul : x.toNat < 256 := x.toNat_lt
    exact numZ_in r _ (by omega)

end Go.Proofs.YtmgkejgmkfeccaaDoor
