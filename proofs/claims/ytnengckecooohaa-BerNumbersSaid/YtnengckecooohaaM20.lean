/- Texts of one proof, laid together: E48 T1 T2 T3 T4 T5. -/
import Derived.Test.YtnengckecooohaaM19
import Derived.Test.YtnengckecooohaaM14
import Derived.Test.YtnengckecooohaaM01
import Derived.ProofKit
import Derived.Deep.Slices
import Derived.OpenShut
/- ber: a number's few bytes are that number's. -/
namespace Go.Proofs.Ytnengckecooohaa
open Go.RowKit Go.Shelf
set_option linter.unusedVariables false
set_option linter.unusedSimpArgs false
set_option maxRecDepth 100000

theorem numZ_snoc : ∀ (xs : List UInt8) (a : Int) (x : UInt8), numZ a (xs ++ [x]) = wrap64 (numZ a xs * 256) + (x.toNat : Int)
  | [], a, x => rfl
  | y :: r, a, x => by
    show numZ (wrap64 (a * 256) + (y.toNat : Int)) (r ++ [x]) = wrap64 (numZ (wrap64 (a * 256) + (y.toNat : Int)) r * 256) + (x.toNat : Int)
    exact numZ_snoc r _ x
theorem sgnB_snoc (xs : List UInt8) (x : UInt8) (h : xs ≠ []) : sgnB (xs ++ [x]) = wrap64 (sgnB xs * 256) + (x.toNat : Int) := by
  cases xs with
  | nil => exact absurd rfl h
  | cons y r => exact numZ_snoc r _ x
theorem sgnB_one (n : Int) (h : -128 ≤ n ∧ n ≤ 127) : sgnB [n8 n] = n := by
  have h1 := n8_val n
  show (if (n8 n).toNat < 128 then ((n8 n).toNat : Int) else ((n8 n).toNat : Int) - 256) = n
  split <;> omega
theorem sgnB_few : ∀ (k : Nat) (n : Int), k ≤ 7 → -9223372036854775808 ≤ n ∧ n ≤ 9223372036854775807 → -(128 * 256 ^ k : Nat) ≤ n ∧ n < (128 * 256 ^ k : Nat) → sgnB (fewL k n).reverse = n
  | 0, n, _, _, h => by
    have h9 : -128 ≤ n ∧ n ≤ 127 := by simp at h; omega
    exact sgnB_one n h9
  | k + 1, n, hk, hr, h => by
    unfold fewL
    split
    · rename_i h9
      exact sgnB_one n h9
    · have hp : 128 * 256 ^ (k + 1) = 256 * (128 * 256 ^ k) := by rw [Nat.pow_succ]; omega
      rw [hp] at h
      have ih := sgnB_few k (n / 256) (by omega) (by omega)
      generalize 128 * 256 ^ k = q at h ih
      have ih := ih (by omega)
      have hne : (fewL k (n / 256)).reverse ≠ [] := fun e => by
        have h8 := (fewL_len k (n / 256)).1
        have h9 := congrArg List.length e
        rw [List.length_reverse] at h9
        simp at h9
        rw [h9] at h8
        simp at h8
      rw [List.reverse_cons, sgnB_snoc _ _ hne, ih]
      have h1 := n8_val n
      have h2 : wrap64 (n / 256 * 256) = n / 256 * 256 := by unfold wrap64; omega
      rw [h2]
      omega

theorem few_sgn (n : Int) (h : -9223372036854775808 ≤ n ∧ n ≤ 9223372036854775807) : sgnB (fewB n) = n := sgnB_few 7 n (Nat.le_refl _) h (by simp; omega)
theorem few_is (n : Int) (h : -9223372036854775808 ≤ n ∧ n ≤ 9223372036854775807) : isFew (fewB n) = true := by
  unfold isFew
  rw [few_sgn n h]
  have := fewB_len n
  simp
  omega
theorem few_int (n : Int) (h : -9223372036854775808 ≤ n ∧ n ≤ 9223372036854775807) : intR false (fewB n) = .tuple #[.int .i64 n, .bool true] := by
  unfold intR
  rw [few_is n h, few_sgn n h]
  rfl

end Go.Proofs.Ytnengckecooohaa
/- ber: values that came in, opened as trees. -/
namespace Go.Proofs.Ytnengckecooohaa
open Go.RowKit Go.Shelf Go.ChangeShapes Go.WideShapes Go.Deep
set_option linter.unusedVariables false
set_option linter.unusedSimpArgs false
set_option maxRecDepth 100000

theorem cellsBer : Try.prog.cellsOf 25 = 5 := by kernel_rfl
theorem cellsU8b : Try.prog.cellsOf 5 = 1 := by kernel_rfl
theorem cellsBoolb : Try.prog.cellsOf 4 = 1 := by kernel_rfl
theorem cellsBytesb : Try.prog.cellsOf 22 = 1 := by kernel_rfl
theorem cellsBersb : Try.prog.cellsOf 23 = 1 := by kernel_rfl
theorem l5b {α : Type} {l : List α} (h : l.length = 5) : ∃ a b c d e, l = [a, b, c, d, e] := by
  match l, h with
  | [a, b, c, d, e], _ => exact ⟨a, b, c, d, e, rfl⟩

section
variable {H : Type} {enc : TypeId × Value → H} {W : World} {base : Nat} {sp : Nat → Bool} {hd : Bool}

/-- A row of values that came in, each opened. -/
theorem bers_of {fuel : Nat} (ih : ∀ f, f < fuel → ∀ (cs : List Value) (y : DataW H × List MemPlace), DataW.trod enc Try.prog W base sp hd f 25 cs = some y → ∃ (t : BV) (h : BH), cs = h.list ∧ BerAt W t h)
    {v : Value} {y : DataW H × List MemPlace} (h : DataW.trod enc Try.prog W base sp hd fuel 23 [v] = some y) :
    ∃ (B : Option Addr) (lb cb : Nat) (l : List BV), v = .slice B lb cb ∧ l.length = lb ∧ lb ≤ cb ∧ cb ≤ 9223372036854775807 ∧ ItemsAt W B 0 l := by
  rcases DataW.trod_slice Try.underlying23 h with ⟨hcs, _⟩ | ⟨a, len, cap, elems, rest, n, rfl, hcs, _, hb, hl, hm, hlen, hel, _⟩
  · injection hcs with hcs _
    exact ⟨none, 0, 0, [], hcs, rfl, Nat.le_refl _, Nat.zero_le _, trivial⟩
  · injection hcs with hcs _
    have hone : ∀ i, ∃ th : BV × BH, i < len → (∀ j, j < 5 → W.cell? ((a.add (i * 5)).add j) = th.2.list[j]?) ∧ BerAt W th.1 th.2 := by
      intro i
      by_cases hi : i < len
      · have h1 := hel i hi
        rw [cellsBer] at h1
        rcases hc : W.cells? base (a.add (i * 5)) 5 with _ | cs'
        · rw [hc] at h1
          have : elems[i]? = some (elems[i]'(by omega)) := List.getElem?_eq_getElem _
          rw [this] at h1
          cases h1
        · rw [hc] at h1
          have h2 : elems[i]? = some (elems[i]'(by omega)) := List.getElem?_eq_getElem _
          rw [h2] at h1
          obtain ⟨t, hh, rfl, ht⟩ := ih n (by omega) cs' _ h1
          obtain ⟨_, _, h3⟩ := World.cells?_some hc
          exact ⟨(t, hh), fun _ => ⟨h3, ht⟩⟩
      · exact ⟨(.mk 0 0 false [] [], ⟨0, 0, false, none, 0, 0, none, 0, 0⟩), fun h => absurd h hi⟩
    obtain ⟨F, hF⟩ := Classical.axiomOfChoice hone
    have hll : ((List.range len).map fun i => (F i).1).length = len := by simp
    refine ⟨some a, len, cap, (List.range len).map fun i => (F i).1, hcs, hll, hl, by unfold maxLen at hm; omega, items_of fun j t ht => ?_⟩
    have hj : j < len := by
      have := (List.getElem?_eq_some_iff.1 ht).1
      simpa using this
    rw [List.getElem?_map, List.getElem?_range hj] at ht
    injection ht with ht
    obtain ⟨h1, h2⟩ := hF j hj
    have hsp : a = ⟨a.block, a.off, none⟩ := by
      obtain ⟨h3, _⟩ := hF 0 (by omega)
      have h4 := h3 0 (by omega)
      have h5 : (F 0).2.list[0]? = some (.int .u8 ((F 0).2.c : Int)) := rfl
      rw [h5, show (a.add (0 * 5)).add 0 = a from by unfold Addr.add; simp] at h4
      exact addr_of_cell (by rw [show a.add 0 = a from by unfold Addr.add; simp]; exact h4)
    refine ⟨a.block, a.off, (F j).2, by rw [← hsp], fun q u hu => ?_, by rw [← show (F j).1 = t from ht]; exact h2⟩
    have hq : q < 5 := (List.getElem?_eq_some_iff.1 hu).1
    have h3 := h1 q hq
    rw [hsp, add_at, add_at] at h3
    rw [Nat.zero_add, h3]
    exact hu

/-- A value that came in is a tree. -/
theorem ber_of_trod : ∀ (fuel : Nat) (cs : List Value) (y : DataW H × List MemPlace), DataW.trod enc Try.prog W base sp hd fuel 25 cs = some y → ∃ (t : BV) (h : BH), cs = h.list ∧ BerAt W t h := by
  intro fuel
  induction fuel using Nat.strongRecOn with
  | ind fuel ih =>
    intro cs y h
    obtain ⟨xs, m, rfl, _, hlen, hxl, hf⟩ := DataW.trod_struct Try.underlying25 h
    have hxl5 : xs.length = 5 := hxl
    rw [cellsBer] at hlen
    obtain ⟨v0, v1, v2, v3, v4, rfl⟩ := l5b hlen
    have hx : ∀ j, j < 5 → ∃ z, xs[j]? = some z := fun j hj => ⟨_, List.getElem?_eq_getElem (by omega)⟩
    have f0 : DataW.trod enc Try.prog W base sp hd m 5 (([v0, v1, v2, v3, v4].drop 0).take (Try.prog.cellsOf 5)) = xs[0]? := hf 0 _ rfl
    have f1 : DataW.trod enc Try.prog W base sp hd m 5 (([v0, v1, v2, v3, v4].drop 1).take (Try.prog.cellsOf 5)) = xs[1]? := hf 1 _ rfl
    have f2 : DataW.trod enc Try.prog W base sp hd m 4 (([v0, v1, v2, v3, v4].drop 2).take (Try.prog.cellsOf 4)) = xs[2]? := hf 2 _ rfl
    have f3 : DataW.trod enc Try.prog W base sp hd m 22 (([v0, v1, v2, v3, v4].drop 3).take (Try.prog.cellsOf 22)) = xs[3]? := hf 3 _ rfl
    have f4 : DataW.trod enc Try.prog W base sp hd m 23 (([v0, v1, v2, v3, v4].drop 4).take (Try.prog.cellsOf 23)) = xs[4]? := hf 4 _ rfl
    rw [cellsU8b] at f0 f1
    rw [cellsBoolb] at f2
    rw [cellsBytesb] at f3
    rw [cellsBersb] at f4
    simp only [List.drop_zero, List.drop_succ_cons, List.take_succ_cons, List.take_zero] at f0 f1 f2 f3 f4
    obtain ⟨z0, e0⟩ := hx 0 (by omega)
    obtain ⟨z1, e1⟩ := hx 1 (by omega)
    obtain ⟨z2, e2⟩ := hx 2 (by omega)
    obtain ⟨z3, e3⟩ := hx 3 (by omega)
    obtain ⟨z4, e4⟩ := hx 4 (by omega)
    rw [e0] at f0
    rw [e1] at f1
    rw [e2] at f2
    rw [e3] at f3
    rw [e4] at f4
    obtain ⟨a0, h0, _, w0⟩ := DataW.trod_int Try.underlying5 f0
    obtain ⟨a1, h1, _, w1⟩ := DataW.trod_int Try.underlying5 f1
    obtain ⟨k, h2, _⟩ := DataW.trod_bool Try.underlying4 f2
    obtain ⟨A, la, ca, bs, rfl, hbl, hbb, _⟩ := bytes_of_trod f3
    obtain ⟨B, lb, cb, l, rfl, hl1, hl2, hl3, hl4⟩ := bers_of (fun f hf => ih f (by omega)) f4
    injection h0 with h0 _
    injection h1 with h1 _
    injection h2 with h2 _
    subst h0 h1 h2
    obtain ⟨c, rfl, hc⟩ := u8_wf w0
    obtain ⟨n, rfl, hn⟩ := u8_wf w1
    exact ⟨.mk c n k bs l, ⟨c, n, k, A, la, ca, B, lb, cb⟩, rfl, rfl, rfl, rfl, hc, hn, hbl, hbb, hl1, hl2, hl3, hl4⟩
/-- A value as an argument. -/
theorem open_ber {b0 : Nat} {r : Reach} {v : Value} {d : DataW H} {p : List MemPlace} (hv : Value.okWide Try.prog W r b0 25 v) (h : DataW.Trod enc Try.prog W base sp hd 25 v d p) : ∃ (t : BV) (h : BH), v = h.val ∧ BerAt W t h := by
  obtain ⟨cs, rfl, hsz⟩ := okWide_struct Try.underlying25 hv
  rw [cellsBer] at hsz
  obtain ⟨c0, c1, c2, c3, c4, rfl⟩ : ∃ a b c d e, cs = #[a, b, c, d, e] := by
    match cs, hsz with
    | ⟨[a, b, c, d, e]⟩, _ => exact ⟨a, b, c, d, e, rfl⟩
  obtain ⟨fuel, hf⟩ := h
  obtain ⟨t, hh, hx, hin⟩ := ber_of_trod fuel [c0, c1, c2, c3, c4] _ hf
  refine ⟨t, hh, ?_, hin⟩
  simp only [BH.list, List.cons.injEq, and_true] at hx
  obtain ⟨rfl, rfl, rfl, rfl, rfl⟩ := hx
  rfl
end

end Go.Proofs.Ytnengckecooohaa
/- ber: what is laid is read again; no beginning of it is. -/
namespace Go.Proofs.Ytnengckecooohaa
open Go.RowKit Go.Shelf
set_option linter.unusedVariables false
set_option linter.unusedSimpArgs false
set_option maxRecDepth 100000

theorem numZ_natL : ∀ (k n : Nat), n < 256 ^ k → n ≤ 9223372036854775807 → numZ 0 (natL n).reverse = (n : Int)
  | 0, n, h, _ => by
    have h0 : n = 0 := by simpa using h
    subst h0
    rw [natL_zero]
    rfl
  | k + 1, n, h, hm => by
    rcases Nat.eq_zero_or_pos n with rfl | hp
    · rw [natL_zero]; rfl
    · have hlt : n / 256 < 256 ^ k := by
        rw [Nat.pow_succ] at h
        exact Nat.div_lt_of_lt_mul (by rw [Nat.mul_comm]; exact h)
      rw [natL_pos hp, List.reverse_cons, numZ_snoc, numZ_natL k (n / 256) hlt (by omega)]
      have h1 := n8_val (n : Int)
      have h2 : wrap64 (((n / 256 : Nat) : Int) * 256) = ((n / 256 : Nat) : Int) * 256 := by unfold wrap64; omega
      rw [h2]
      omega

/-- A length is read again. -/
theorem lenR_lenB (n : Nat) (hn : n ≤ 1000000) (r : List UInt8) : lenR (lenB n ++ r) = some (n, r) := by
  rcases Nat.lt_or_ge n 128 with h | h
  · rw [lenB_small h]
    have h1 := n8_val (n : Int)
    have h2 : (n8 (n : Int)).toNat = n := by omega
    show (if (n8 (n : Int)).toNat < 128 then some ((n8 (n : Int)).toNat, r) else _) = _
    rw [h2, if_pos h]
  · have hk : (natL n).length ≤ 8 := natL_len8 (by omega)
    have hz := numZ_natL 8 n (by simp; omega) (by omega)
    have hb := lenB_big h (by omega)
    have h1 := n8_val ((128 + (natL n).length : Nat) : Int)
    have h2 : (n8 ((128 + (natL n).length : Nat) : Int)).toNat = 128 + (natL n).length := by omega
    rw [hb, List.cons_append]
    have ht : ((natL n).reverse ++ r).take (natL n).length = (natL n).reverse := by
      rw [List.take_append_of_le_length (by simp), List.take_of_length_le (by simp)]
    have hdr : ((natL n).reverse ++ r).drop (natL n).length = r := by
      rw [List.drop_append_of_le_length (by simp), List.drop_of_length_le (by simp)]
      rfl
    show (if (n8 ((128 + (natL n).length : Nat) : Int)).toNat < 128 then _ else if ((natL n).reverse ++ r).length < (n8 ((128 + (natL n).length : Nat) : Int)).toNat - 128 then none
      else if numZ 0 (((natL n).reverse ++ r).take ((n8 ((128 + (natL n).length : Nat) : Int)).toNat - 128)) < 128 ∨ (((natL n).reverse ++ r).take ((n8 ((128 + (natL n).length : Nat) : Int)).toNat - 128) == (lenB (numZ 0 (((natL n).reverse ++ r).take ((n8 ((128 + (natL n).length : Nat) : Int)).toNat - 128))).toNat).drop 1) = false then none
      else some ((numZ 0 (((natL n).reverse ++ r).take ((n8 ((128 + (natL n).length : Nat) : Int)).toNat - 128))).toNat, ((natL n).reverse ++ r).drop ((n8 ((128 + (natL n).length : Nat) : Int)).toNat - 128))) = _
    rw [h2, show 128 + (natL n).length - 128 = (natL n).length by omega, ht, hdr, hz, if_neg (by omega), if_neg (by simp), Int.toNat_natCast, hb, List.drop_succ_cons, List.drop_zero, if_neg ?_]
    rintro (h | h)
    · omega
    · simp at h

/-- A tag is read again. -/
theorem tag_back (c n : Nat) (k : Bool) (hc : c ≤ 3) (hn : n < 31) : (n8 ((c * 64 + n + (if k then 32 else 0) : Nat) : Int)).toNat = c * 64 + n + (if k then 32 else 0) := by
  have h1 := n8_val ((c * 64 + n + (if k then 32 else 0) : Nat) : Int)
  cases k <;> simp at h1 ⊢ <;> omega

end Go.Proofs.Ytnengckecooohaa
/- ber: Decode of Encode is the value; no beginning of its bytes is a value's. -/
namespace Go.Proofs.Ytnengckecooohaa
open Go.RowKit Go.Shelf
set_option linter.unusedVariables false
set_option linter.unusedSimpArgs false
set_option maxRecDepth 100000

theorem layB_some {c n : Nat} {k : Bool} {b : List UInt8} {l : List BV} {xs : List UInt8} (h : layB (.mk c n k b l) = some xs) : ∃ its, layL [] l = some its ∧ (lenB (b.length + its.length)).length + 1 + (b.length + its.length) ≤ 65536 ∧ xs = n8 ((c * 64 + n + (if k then 32 else 0) : Nat) : Int) :: lenB (b.length + its.length) ++ b ++ its := by
  unfold layB at h
  split at h
  · cases h
  · rename_i its hl
    split at h
    · cases h
    · injection h with h
      exact ⟨its, hl, by omega, h.symm⟩

theorem layL_round (f : Nat) : ∀ (l : List BV) (acc its : List UInt8), (∀ t ∈ l, ∀ xs rest, layB t = some xs → nextD f (xs ++ rest) = .inr (t, rest) ∧ xs ≠ []) → layL acc l = some its →
    ∃ ys, its = acc ++ ys ∧ ∀ (kf : Nat) (a : List BV), ys.length ≤ kf → itemsW (nextD f) kf ys a = .inr (a ++ l)
  | [], acc, its, _, h => by
    have h' : some acc = some its := h
    injection h' with h'
    exact ⟨[], by simp [h'], fun kf a _ => by cases kf <;> simp [itemsW]⟩
  | t :: r, acc, its, hh, h => by
    have h' : (match layB t with
      | none => none
      | some x => if 65536 < acc.length + x.length then none else layL (acc ++ x) r) = some its := h
    rcases hx : layB t with _ | x
    · rw [hx] at h'; cases h'
    · rw [hx] at h'
      simp only at h'
      split at h'
      · cases h'
      · obtain ⟨ys, h1, h2⟩ := layL_round f r (acc ++ x) its (fun t' ht => hh t' (by simp [ht])) h'
        refine ⟨x ++ ys, by rw [h1, List.append_assoc], fun kf a hk => ?_⟩
        obtain ⟨h3, h4⟩ := hh t (by simp) x ys hx
        obtain ⟨y, x', rfl⟩ : ∃ y x', x = y :: x' := by
          cases x with
          | nil => exact absurd rfl h4
          | cons y x' => exact ⟨y, x', rfl⟩
        obtain ⟨kf, rfl⟩ : ∃ k', kf = k' + 1 := ⟨kf - 1, by simp at hk; omega⟩
        rw [List.cons_append] at h3 ⊢
        simp only [itemsW]
        rw [h3]
        simp only
        rw [h2 kf (a ++ [t]) (by simp at hk; omega)]
        simp

theorem deepL_mem_no (d : Nat) (l : List BV) (h : deepL d l = false) (t : BV) (ht : t ∈ l) : deepB d t = false := by
  cases hd : deepB d t with
  | false => rfl
  | true => rw [deepL_mem d l t ht hd] at h; cases h
theorem badL_mem_no : ∀ (l : List BV), badL l = false → ∀ t ∈ l, badB t = false
  | x :: r, h, t, ht => by
    simp only [badL, Bool.or_eq_false_iff] at h
    rcases List.mem_cons.1 ht with ht | ht
    · rw [ht]; exact h.1
    · exact badL_mem_no r h.2 t ht

/-- The reading of what stands behind a tag and a length. -/
theorem nextD_head (f c n : Nat) (k : Bool) (hc : c ≤ 3) (hn : n < 31) (len : Nat) (hl : len ≤ 1000000) (r : List UInt8) :
    nextD (f + 1) (n8 ((c * 64 + n + (if k then 32 else 0) : Nat) : Int) :: lenB len ++ r) = if r.length < len then .inl 151 else
      if k then match itemsW (nextD f) len (r.take len) [] with
        | .inl e => .inl e
        | .inr l => .inr (.mk c n true [] l, r.drop len)
      else .inr (.mk c n false (r.take len) [], r.drop len) := by
  have ht := tag_back c n k hc hn
  have h1 : (n8 ((c * 64 + n + (if k then 32 else 0) : Nat) : Int)).toNat % 32 = n := by rw [ht]; cases k <;> simp <;> omega
  have h2 : (n8 ((c * 64 + n + (if k then 32 else 0) : Nat) : Int)).toNat / 64 = c := by rw [ht]; cases k <;> simp <;> omega
  have h3 : (n8 ((c * 64 + n + (if k then 32 else 0) : Nat) : Int)).toNat / 32 % 2 = if k then 1 else 0 := by rw [ht]; cases k <;> simp <;> omega
  rw [List.cons_append]
  unfold nextD
  simp only [lenR_lenB len hl r]
  rw [h1, h2, h3, if_neg (by omega)]
  cases k
  · simp
  · simp only [if_true, reduceIte]
    rcases itemsW (nextD f) len (r.take len) [] with e | l <;> rfl

theorem round_is : ∀ (t : BV) (f d : Nat) (xs rest : List UInt8), d + f = 17 → badB t = false → deepB d t = false → layB t = some xs → nextD f (xs ++ rest) = .inr (t, rest) ∧ xs ≠ [] := by
  intro t
  induction t using BV.ind with
  | h c n k b l ih =>
    intro f d xs rest hdf hb hd hx
    obtain ⟨its, hl, hsz, rfl⟩ := layB_some hx
    have hb' : (!stands (.mk c n k b l) || badL l) = false := hb
    simp only [Bool.or_eq_false_iff, Bool.not_eq_false'] at hb'
    have hst : (decide (c ≤ 3) && (decide (n < 31) && decide ((if k then b.length else l.length) = 0))) = true := hb'.1
    simp only [Bool.and_eq_true, decide_eq_true_eq] at hst
    have hd' : (decide (16 < d) || deepL (d + 1) l) = false := hd
    simp only [Bool.or_eq_false_iff, decide_eq_false_iff_not] at hd'
    obtain ⟨f, rfl⟩ : ∃ f', f = f' + 1 := ⟨f - 1, by omega⟩
    refine ⟨?_, by simp⟩
    have hh := nextD_head f c n k hst.1 hst.2.1 (b.length + its.length) (by omega) (b ++ its ++ rest)
    rw [show n8 ((c * 64 + n + (if k then 32 else 0) : Nat) : Int) :: lenB (b.length + its.length) ++ b ++ its ++ rest = n8 ((c * 64 + n + (if k then 32 else 0) : Nat) : Int) :: lenB (b.length + its.length) ++ (b ++ its ++ rest) by simp, hh, if_neg (by simp)]
    have htk : (b ++ its ++ rest).take (b.length + its.length) = b ++ its := by
      rw [List.take_append_of_le_length (by simp), List.take_of_length_le (by simp)]
    have hdr : (b ++ its ++ rest).drop (b.length + its.length) = rest := by
      rw [List.drop_append_of_le_length (by simp), List.drop_of_length_le (by simp)]
      rfl
    rw [htk, hdr]
    cases k with
    | true =>
      have hb0 : b = [] := by have := hst.2.2; simpa using this
      subst hb0
      obtain ⟨ys, h1, h2⟩ := layL_round f l [] its (fun t ht xs rest hx => ih t ht f (d + 1) xs rest (by omega) (badL_mem_no l hb'.2 t ht) (deepL_mem_no (d + 1) l hd'.2 t ht) hx) hl
      rw [List.nil_append] at h1
      subst h1
      rw [if_pos rfl]
      simp only [List.nil_append, List.length_nil, Nat.zero_add]
      rw [h2 _ [] (Nat.le_refl _)]
      simp
    | false =>
      have hl0 : l = [] := by have := hst.2.2; simpa using this
      subst hl0
      have hi : its = [] := by
        have h9 : some ([] : List UInt8) = some its := hl
        injection h9 with h9
        exact h9.symm
      subst hi
      simp

/-- A length is not told by what is less. -/
theorem lenR_cut (n : Nat) (hn : n ≤ 1000000) (at_ : Nat) (h : at_ < (lenB n).length) : lenR ((lenB n).take at_) = none := by
  rcases at_ with _ | at_
  · rfl
  · rcases Nat.lt_or_ge n 128 with h1 | h1
    · rw [lenB_small h1] at h; simp at h
    · have hk : (natL n).length ≤ 8 := natL_len8 (by omega)
      have hb := lenB_big h1 (by omega)
      have h2 := n8_val ((128 + (natL n).length : Nat) : Int)
      have h3 : (n8 ((128 + (natL n).length : Nat) : Int)).toNat = 128 + (natL n).length := by omega
      rw [hb] at h ⊢
      rw [List.take_succ_cons]
      simp at h
      unfold lenR
      simp only [h3]
      rw [if_neg (by omega), if_pos (by simp; omega)]

/-- No beginning of a value's bytes is a value's. -/
theorem cut_is (t : BV) (xs : List UInt8) (hb : badB t = false) (hx : layB t = some xs) (at_ : Nat) (h : at_ < xs.length) : valD (xs.take at_) = .inl 151 := by
  have hnx : nextD 16 (xs.take at_) = .inl 151 := by
    obtain ⟨c, n, k, b, l⟩ := t
    obtain ⟨its, hl, hsz, rfl⟩ := layB_some hx
    have hb' : (!stands (.mk c n k b l) || badL l) = false := hb
    simp only [Bool.or_eq_false_iff, Bool.not_eq_false'] at hb'
    have hst : (decide (c ≤ 3) && (decide (n < 31) && decide ((if k then b.length else l.length) = 0))) = true := hb'.1
    simp only [Bool.and_eq_true, decide_eq_true_eq] at hst
    rcases at_ with _ | at_
    · rfl
    · rw [List.append_assoc, List.cons_append, List.take_succ_cons]
      rcases Nat.lt_or_ge at_ (lenB (b.length + its.length)).length with h1 | h1
      · rw [List.take_append_of_le_length (by omega)]
        have hh := lenR_cut (b.length + its.length) (by omega) at_ h1
        have ht := tag_back c n k hst.1 hst.2.1
        have h2 : (n8 ((c * 64 + n + (if k then 32 else 0) : Nat) : Int)).toNat % 32 = n := by rw [ht]; cases k <;> simp <;> omega
        unfold nextD
        simp only [hh]
        rw [if_neg (by omega)]
      · have hr : (lenB (b.length + its.length) ++ (b ++ its)).take at_ = lenB (b.length + its.length) ++ (b ++ its).take (at_ - (lenB (b.length + its.length)).length) := by
          rw [List.take_append, List.take_of_length_le h1]
        have hh := nextD_head 15 c n k hst.1 hst.2.1 (b.length + its.length) (by omega) ((b ++ its).take (at_ - (lenB (b.length + its.length)).length))
        rw [hr, ← List.cons_append, hh, if_pos ?_]
        simp at h
        rw [List.length_take]
        simp
        omega
  unfold valD
  rw [hnx]

end Go.Proofs.Ytnengckecooohaa
/- ber: what is light has few values in it. -/
namespace Go.Proofs.Ytnengckecooohaa
open Go.RowKit Go.Shelf
set_option linter.unusedVariables false
set_option linter.unusedSimpArgs false
set_option maxRecDepth 100000

theorem leftL_nodes (d : Nat) : ∀ (l : List BV) (r : Int), -1 ≤ r → (∀ t ∈ l, ∀ q, 0 ≤ q → 0 ≤ leftB d q t → (nodesB t : Int) + leftB d q t ≤ q) → 0 ≤ leftL d r l → (nodesL l : Int) + leftL d r l ≤ r
  | [], r, _, _, h => by
    have h9 : leftL d r [] = r := by simp [leftL]
    rw [h9]
    simp [nodesL]
  | t :: rest, r, hr, ht, h => by
    have h9 : leftL d r (t :: rest) = if 0 ≤ r then leftL d (leftB d r t) rest else r := by simp [leftL]
    rw [h9] at h ⊢
    split at h
    · rename_i h0
      rw [if_pos h0]
      have h1 := leftB_in t d r h0
      have h2 := leftL_in d rest (leftB d r t) h1.1 (fun y _ q hq => leftB_in y d q hq)
      have h3 := leftL_nodes d rest (leftB d r t) h1.1 (fun y hy => ht y (by simp [hy])) h
      have h4 := ht t (by simp) r h0 (by omega)
      simp only [nodesL]
      omega
    · rename_i h0
      omega
theorem leftB_nodes : ∀ (t : BV) (d : Nat) (r : Int), 0 ≤ r → 0 ≤ leftB d r t → (nodesB t : Int) + leftB d r t ≤ r := by
  intro t
  induction t using BV.ind with
  | h c n k b l ih =>
    intro d r hr h
    have h9 : leftB d r (.mk c n k b l) = if 40 < d ∨ r < (b.length : Int) ∨ r < (l.length : Int) then -1 else leftL (d + 1) (r - 1 - (b.length : Int)) l := by simp [leftB]
    rw [h9] at h ⊢
    split at h
    · omega
    · rename_i h0
      rw [if_neg h0]
      have h1 := leftL_nodes (d + 1) l (r - 1 - (b.length : Int)) (by omega) (fun t ht q hq hz => ih t ht (d + 1) q hq hz) h
      have h2 := nodesB_mk (.mk c n k b l)
      have h3 : (BV.mk c n k b l).l = l := rfl
      rw [h3] at h2
      omega
/-- What a light value bears. -/
theorem light_fits (t : BV) (r : Int) (hr : 0 ≤ r ∧ r ≤ 2000) (h : 0 ≤ leftB 1 r t) : nodesB t ≤ 1000000000 ∧ maxB t ≤ 1000000000 := by
  have h1 := leftB_nodes t 1 r hr.1 h
  have h2 := (light_bounds t 1 r hr.1 hr.2 (by omega) h).2
  omega
theorem encB_no {t : BV} {no : Int} (h : encB t = .inl no) : no = 2 ∨ no = 150 ∨ no = 3 := by
  unfold encB at h
  split at h
  · injection h with h; exact .inl h.symm
  · split at h
    · injection h with h; exact .inr (.inl h.symm)
    · split at h
      · injection h with h; exact .inr (.inr h.symm)
      · cases h
theorem encB_yes {t : BV} {xs : List UInt8} (h : encB t = .inr xs) : badB t = false ∧ deepB 1 t = false ∧ layB t = some xs ∧ xs.length ≤ 65536 := by
  unfold encB at h
  split at h
  · cases h
  · rename_i h1
    split at h
    · cases h
    · rename_i h2
      split at h
      · cases h
      · rename_i ys h3
        injection h with h
        subst h
        exact ⟨by simpa using h1, by simpa using h2, h3, layB_len h3⟩
theorem dec_cut {t : BV} {xs : List UInt8} (h : encB t = .inr xs) (k : Nat) (hk : k < xs.length) : decD (xs.take k) = .inl 151 := by
  obtain ⟨h1, h2, h3, h4⟩ := encB_yes h
  unfold decD
  rw [if_neg (by rw [List.length_take]; omega)]
  exact cut_is t xs h1 h3 k hk
theorem dec_more {t : BV} {xs : List UInt8} (h : encB t = .inr xs) (y : UInt8) : decD (xs ++ [y]) = .inl 151 ∨ decD (xs ++ [y]) = .inl 3 ∧ xs.length = 65536 := by
  obtain ⟨h1, h2, h3, h4⟩ := encB_yes h
  unfold decD
  by_cases hl : 65536 < (xs ++ [y]).length
  · rw [if_pos hl]
    exact .inr ⟨rfl, by simp at hl; omega⟩
  · rw [if_neg hl]
    unfold valD
    rw [(round_is t 16 1 xs [y] rfl h1 h2 h3).1]
    exact .inl (by simp)
theorem dec_back {t : BV} {xs : List UInt8} (h : encB t = .inr xs) : decD xs = .inr t := by
  obtain ⟨h1, h2, h3, h4⟩ := encB_yes h
  unfold decD
  rw [if_neg (by omega)]
  unfold valD
  have h5 := (round_is t 16 1 xs [] rfl h1 h2 h3).1
  rw [List.append_nil] at h5
  rw [h5]
  simp

end Go.Proofs.Ytnengckecooohaa
/- ber: no beginning of a value's bytes is a value's, nor are they with a byte behind. -/
namespace Go.Proofs.Ytnengckecooohaa
open Go.RowKit Go.Shelf
set_option linter.unusedVariables false
set_option linter.unusedSimpArgs false
set_option maxRecDepth 100000

theorem slice_toR (b o n c k : Nat) (hk : k ≤ c) (hnc : n ≤ c) : ∀ W, (Instr.slice 22 (.slice (some ⟨b, o, none⟩) n c) none (some (.int .i64 (k : Int))) none).run Try.prog W = .ok (.slice (some ⟨b, o, none⟩) k c) W := by
  intro W
  rw [run_slice_h W 22 (some ⟨b, o, none⟩) n c (by simp [Program.elem, Try.underlying22]) .i64 _ (by omega) (by omega)]
  rw [show Try.prog.elem 22 = 5 by simp [Program.elem, Try.underlying22], Try.sizeOf5]
  simp [Result.andThen, sliced, add_at]
theorem BytesAt.take {w : World} {A : Option Addr} {n c : Nat} {xs : List UInt8} (h : BytesAt w (.slice A n c) xs) (k : Nat) (hk : k ≤ n) : BytesAt w (.slice A k c) (xs.take k) := by
  obtain ⟨A', c', he, h1, h2, h3⟩ := h
  injection he with e1 e2 e3
  subst e1 e2 e3
  have hl : (xs.take k).length = k := by rw [List.length_take]; omega
  refine ⟨A, c, by rw [hl], by omega, h2, fun hp => ?_⟩
  obtain ⟨b, o, rfl, hc⟩ := h3 (by omega)
  refine ⟨b, o, rfl, fun i u hu => ?_⟩
  rw [List.getElem?_take] at hu
  split at hu
  · exact hc i u hu
  · cases hu

set_option maxHeartbeats 4000000 in
theorem bercuts_any (t : BV) (h : BH) (at_ : Int) (hat : -9223372036854775808 ≤ at_ ∧ at_ ≤ 9223372036854775807) (x : Nat) (hx : x < 256) (w : World) (ht : BerAt w t h) :
    Calls Try.prog 9 #[h.val, .int .i64 at_, .int .u8 (x : Int)] w fun e w' => e = .returned (.bool true) ∧ Below w.heap.size w w' := by
  have HT := Lib.hid ht
  have HAT := Lib.hid hat
  obtain ⟨y, rfl⟩ : ∃ y : UInt8, x = y.toNat := ⟨UInt8.ofNat x, by rw [UInt8.toNat_ofNat']; omega⟩
  obtain ⟨iu, hiu, hzu0, hzu1, hzu2⟩ := info_parts u8_info
  obtain ⟨c, n, k, A, la, ca, B, lb, cb⟩ := h
  clear ht hat
  obtain ⟨W0, hW0⟩ : ∃ W0, w.alloc (.cells #[.int .u8 (c : Int), .int .u8 (n : Int), .bool k, .slice A la ca, .slice B lb cb] 25) = W0 := ⟨_, rfl⟩
  have hk0 : Keeps [] w W0 := by rw [← hW0]; exact (Keeps.refl [] w).alloc _
  have hr0 : W0.heap[w.heap.size]? = some (.cells #[.int .u8 (c : Int), .int .u8 (n : Int), .bool k, .slice A la ca, .slice B lb cb] 25 (0, 0)) := by rw [← hW0]; exact heap_new8 w _
  have HK0 := Lib.hid hk0
  have HR0 := Lib.hid (fun X (hk : Keeps [] W0 X) => (five_facts (blk_keep hr0 hk (by simp))).1)
  obtain ⟨y0, y1, y2, y3, y4⟩ := HR0.out W0 (Keeps.refl _ _)
  have hlf := left_is t 1 1000 ⟨c, n, k, A, la, ca, B, lb, cb⟩ W0 (by decide) (by decide) (by decide) (BerAt.grow hk0 t _ HT.out)
  have hbn := fun hz => light_fits t 1000 (by decide) hz
  obtain ⟨z, hz⟩ : ∃ z, leftB 1 1000 t = z := ⟨_, rfl⟩
  rw [hz] at hlf hbn
  have HLF := Lib.hid hlf
  have HBN := Lib.hid hbn
  have HEN := Lib.hid (fun X (hk : Keeps [] W0 X) (hz : 0 ≤ z) => encode_is t ⟨c, n, k, A, la, ca, B, lb, cb⟩ X (BerAt.grow (hk0.trans' hk) t _ HT.out) (hbn hz).1 (hbn hz).2)
  clear hk0 hr0 hlf hbn hz
  unfold BH.val at *
  rcases Int.lt_or_le z 0 with h0 | h0
  · go_enter Try.func9, Try.ntmps9
    go_wp2_with fail
    refine HLF.out.mono ?_
    rintro e w1 ⟨rfl, hk1⟩
    have HK1 := Lib.hid (HK0.out.trans' hk1)
    clear hk1
    go_wp2_with fail
    refine (known5_any _).mono ?_
    rintro e w2 ⟨rfl, hk2⟩
    have HK2 := Lib.hid (HK1.out.trans' hk2)
    clear hk2
    go_wp2_with fail
    go_ret
    exact ⟨rfl, below_keeps HK2.out⟩
  have hz0 : ¬ z < 0 := by omega
  have HZ := Lib.hid h0
  clear h0
  go_enter Try.func9, Try.ntmps9
  go_wp2_with fail
  refine HLF.out.mono ?_
  rintro e w1 ⟨rfl, hk1⟩
  obtain ⟨y0, y1, y2, y3, y4⟩ := HR0.out w1 hk1
  have HK1 := Lib.hid (HK0.out.trans' hk1)
  have HE1 := Lib.hid (HEN.out w1 hk1 HZ.out)
  clear hk1
  go_wp2_with fail
  refine HE1.out.mono ?_
  rintro e w2 ⟨⟨xs, D, bd, he, rfl, hb2⟩ | ⟨no, he, rfl⟩, hk2⟩
  · have HK2 := Lib.hid (HK1.out.trans' hk2)
    have HE := Lib.hid he
    have HB2 := Lib.hid hb2
    have hxl := (encB_yes he).2.2.2
    obtain ⟨bl, hbl⟩ : ∃ bl, xs.length = bl := ⟨_, rfl⟩
    rw [hbl] at hxl HB2
    rw [hbl]
    have HBL := Lib.hid hbl
    clear he hb2 hk2 hbl y0 y1 y2 y3 y4
    by_cases hin : 0 ≤ at_ ∧ at_ < (bl : Int)
    · obtain ⟨a, rfl⟩ := Int.eq_ofNat_of_zero_le hin.1
      have hal : a < bl := by omega
      obtain ⟨b, o, rfl, _⟩ := bytes_addr HB2.out (by omega)
      have hcap : bl ≤ bd ∧ bd ≤ 9223372036854775807 := by obtain ⟨A', c', he, h2, h3⟩ := HB2.out; injection he with _ h4 h5; unfold maxLen at h3; have := HBL.out; omega
      have hsl := slice_toR b o bl bd a (by omega) hcap.1
      have ha0 : ¬ (a : Int) < 0 := by omega
      have hab : ¬ (bl : Int) ≤ (a : Int) := by omega
      have HDE := Lib.hid (decode_is (some ⟨b, o, none⟩) a bd (xs.take a) w2 (by rw [List.length_take, HBL.out]; omega) (HB2.out.take a (by omega)) (by omega))
      have HDC := Lib.hid (dec_cut HE.out a (by rw [HBL.out]; exact hal))
      have HDM := Lib.hid (dec_more HE.out y)
      clear HLF HEN HE1 HT HAT hin
      go_wp2_with fail
      refine HDE.out.mono ?_
      rintro e w3 ⟨⟨t', h', hd, _⟩ | ⟨no, hd, rfl⟩, hk3⟩
      · rw [HDC.out] at hd; cases hd
      rw [HDC.out] at hd
      injection hd with hd
      subst hd
      have HK3 := Lib.hid (HK2.out.trans' hk3)
      have HB3 := Lib.hid (HB2.out.grow hk3)
      have HSRC : Hid (Src (w3.alloc ber0) (some ⟨b, o, none⟩) bl (xs.map bv)) := Src.of_bytes (HB3.out.grow ((Keeps.refl [] w3).alloc _))
      clear hk3 hsl HDE
      go_wp2_with (first
        | (at_builtin; refine wpList_append_opt rfl (.const (.slice none 0 0)) (.tmp 43) 22 rfl (w3.heap.size + 1) 5 iu _ 1 1 Try.underlying22 hiu hzu0 hzu1 hzu2 rfl (by decide) (.slice none 0 0) 0 [] rfl (World.ownsRow_nil _ _ _ _) (some ⟨b, o, none⟩) bl bd (xs.map bv) rfl (by simp [HBL.out]) HSRC.out bvs_one (by unfold maxLen; omega) (by omega) (by simp) ?_; intro v5 w5 ho5 hg5 hs5; obtain ⟨V5, c5, hv5⟩ := own_slice ho5; subst hv5; rw [Nat.zero_add, List.nil_append] at ho5; have HO5 := Lib.hid ho5; have HK5 : Hid (Keeps [] w w5) := (HK3.out.alloc ber0).trans' (Keeps.of_grown hg5 (by simp [Value.ownBlock])); have HZ5 : Hid (w3.heap.size + 1 ≤ w5.heap.size) := (by have h9 := hg5.size; simp at h9; exact h9); clear ho5 hg5 hs5)
        | (at_builtin; refine wpList_append_opt rfl (.tmp 44) (.tmp 46) 22 rfl (w3.heap.size + 1) 5 iu _ 1 1 Try.underlying22 hiu hzu0 hzu1 hzu2 rfl (by decide) (.slice V5 (0 + bl) c5) bl (xs.map bv) (by rw [Nat.zero_add]; rfl) (own_keep (by have h9 := HO5.out; rw [Nat.zero_add]; exact h9) ((Keeps.refl [] w5).alloc _) (by simp)) (some ⟨w5.heap.size, 0, none⟩) 1 1 [bv y] rfl rfl ⟨(fun h => by cases h), fun ad hA j u hu => by cases hA; rw [add_at, Nat.zero_add, World.cell?_alloc_new]; simpa [bv] using hu⟩ (by simp [bv, Value.oneCell']) (by unfold maxLen; omega) (by omega) (by have h9 := HZ5.out; simp; omega) ?_; intro v7 w7 ho7 hg7 hs7; obtain ⟨V7, c7, hv7⟩ := own_slice ho7; subst hv7; have HO7 := Lib.hid ho7; have HG7 := Lib.hid hg7; clear ho7 hg7 hs7))
      have hb7 : BytesAt w7 (.slice V7 (bl + 1) c7) (xs ++ [y]) := by
        have hl : (xs ++ [y]).length = bl + 1 := by rw [List.length_append, HBL.out]; rfl
        have h9 : w7.ownsRow (w3.heap.size + 1) 5 1 (.slice V7 (bl + 1) c7) (xs ++ [y]).length ((xs ++ [y]).map bv) := by
          rw [hl, List.map_append]
          exact HO7.out
        have h11 := BytesAt.of_own h9
        exact h11
      have hk7 : Keeps [] w w7 := (HK5.out.alloc (.cells #[.int .u8 (y.toNat : Int)] 5)).trans (Keeps.of_grown (bs := (Value.ownBlock (.slice V5 (0 + bl) c5)).toList) HG7.out (fun q hq => .inl (by rw [hq]; simp))) (fun q hq => .inr (by
        have h9 := HO5.out
        have h10 := (h9.lt q (by rw [Nat.zero_add] at hq; simpa using hq)).1
        have h11 := HK3.out.size
        omega))
      have HD2 := Lib.hid (decode_is V7 (bl + 1) c7 (xs ++ [y]) w7 (by rw [List.length_append, HBL.out]; rfl) hb7 (by omega))
      have HK7 := Lib.hid hk7
      clear hb7 hk7
      refine HD2.out.mono ?_
      rintro e w8 ⟨⟨t', h', hd, _⟩ | ⟨no, hd, rfl⟩, hk8⟩
      · rcases HDM.out with h9 | ⟨h9, _⟩
        · rw [h9] at hd; cases hd
        · rw [h9] at hd; cases hd
      have HK8 := Lib.hid (HK7.out.trans' hk8)
      clear hk8
      rcases HDM.out with h9 | ⟨h9, h10⟩
      · rw [h9] at hd
        injection hd with hd
        subst hd
        clear h9
        go_wp2_with fail
        refine (known5_any _).mono ?_
        rintro e w9 ⟨rfl, hk9⟩
        have HK9 := Lib.hid (HK8.out.trans' ((Keeps.refl [] w8).alloc ber0 |>.trans' hk9))
        clear hk9
        go_wp2_with fail
        go_ret
        exact ⟨rfl, below_keeps HK9.out⟩
      · rw [h9] at hd
        injection hd with hd
        subst hd
        have hbl6 : bl = 65536 := HBL.out.symm.trans h10
        have hbi : ((bl : Int) == 65536) = true := by rw [hbl6]; rfl
        have hbe : (bl : Int) = 65536 := by rw [hbl6]; rfl
        clear h9 h10 hbl6 hxl hal hab hcap
        go_wp2_with fail
        refine (known5_any _).mono ?_
        rintro e w9 ⟨rfl, hk9⟩
        have HK9 := Lib.hid (HK8.out.trans' ((Keeps.refl [] w8).alloc ber0 |>.trans' hk9))
        clear hk9
        go_wp2_with fail
        go_ret
        exact ⟨rfl, below_keeps HK9.out⟩
    · rcases Int.lt_or_le at_ 0 with hneg | hneg
      · go_wp2_with fail
        refine (known5_any _).mono ?_
        rintro e w3 ⟨rfl, hk3⟩
        have HK3 := Lib.hid (HK2.out.trans' hk3)
        clear hk3
        go_wp2_with fail
        go_ret
        exact ⟨rfl, below_keeps HK3.out⟩
      · have hge : (bl : Int) ≤ at_ := by omega
        have hn0 : ¬ at_ < 0 := by omega
        clear hin hneg
        go_wp2_with fail
        refine (known5_any _).mono ?_
        rintro e w3 ⟨rfl, hk3⟩
        have HK3 := Lib.hid (HK2.out.trans' hk3)
        clear hk3
        go_wp2_with fail
        go_ret
        exact ⟨rfl, below_keeps HK3.out⟩
  · have HK2 := Lib.hid (HK1.out.trans' hk2)
    have hno := encB_no he
    clear he hk2 y0 y1 y2 y3 y4
    rcases hno with rfl | rfl | rfl
    all_goals
      go_wp2_with fail
      refine (known5_any _).mono ?_
      rintro e w3 ⟨rfl, hk3⟩
      have HK3 := Lib.hid (HK2.out.trans' hk3)
      clear hk3
      go_wp2_with fail
      go_ret
      exact ⟨rfl, below_keeps HK3.out⟩

end Go.Proofs.Ytnengckecooohaa
