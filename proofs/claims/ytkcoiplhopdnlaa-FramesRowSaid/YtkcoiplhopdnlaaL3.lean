/- The bytes of some parts, gone over one by one. -/
import Derived.RangeFuncNested
import Derived.RangeFuncBound
import Derived.RangeFuncCalls
import Derived.RangeFuncLeaves
import Derived.Shelf.Abstract
import Derived.Shelf.RegionOpen
import Derived.OwnWalkIn
import Derived.TacticsInMore
import Derived.LoopNIn
import Derived.LoopIn
import Derived.Test.YtkcoiplhopdnlaaK12
import Derived.Test.YtkcoiplhopdnlaaL2
namespace Go.Proofs.Ytkcoiplhopdnlaa
open Go.RowKit Go.Shelf
set_option linter.unusedVariables false
attribute [local go_sem] Oper.semAt_some

/-- What lay below n lies as it lay, one block apart. -/
structure KBut (n p : Nat) (w w' : World) : Prop where
  os : w'.os = w.os
  tape : w'.tape = w.tape
  output : w'.output = w.output
  size : w.heap.size ≤ w'.heap.size
  block : ∀ k, k < n → k ≠ p → w'.heap[k]? = w.heap[k]?

theorem KBut.refl (n p : Nat) (w : World) : KBut n p w w := ⟨rfl, rfl, rfl, Nat.le_refl _, fun _ _ _ => rfl⟩
theorem KBut.trans {n p : Nat} {a b c : World} (h : KBut n p a b) (k : KBut n p b c) : KBut n p a c :=
  ⟨k.os.trans h.os, k.tape.trans h.tape, k.output.trans h.output, Nat.le_trans h.size k.size, fun i hi hn => (k.block i hi hn).trans (h.block i hi hn)⟩
theorem KBut.of_keeps {n p : Nat} {bs : List Nat} {a b : World} (h : Keeps bs a b) (hn : n ≤ a.heap.size) (hb : ∀ x ∈ bs, x = p ∨ n ≤ x) : KBut n p a b :=
  ⟨h.os, h.tape, h.output, h.size, fun i hi hp => h.block i (by omega) (fun hm => by rcases hb i hm with h | h <;> omega)⟩
theorem KBut.keeps {p : Nat} {a b : World} (h : KBut a.heap.size p a b) : Keeps [p] a b :=
  ⟨h.os, h.tape, h.output, h.size, fun i hi hp => h.block i hi (by simpa using hp)⟩
theorem KBut.putObj {n p : Nat} {w : World} (hn : n ≤ w.heap.size) (W : World) (l : Nat) (o o' : Obj) (hl : w.heap.size ≤ l) (h : W.heap[l]? = some o) (_ : o.isCells = false) (_ : o.isWalk = false) : KBut n p W (W.putObj l o') := by
  have hb := belowK_b hn W l o o' hl h (by assumption) (by assumption)
  exact ⟨hb.os, hb.tape, hb.output, hb.size, fun k hk _ => hb.block k hk⟩
theorem KBut.cell {n p : Nat} {w w' : World} (h : KBut n p w w') {x : Addr} (hl : x.block < n) (hp : x.block ≠ p) : w'.cell? x = w.cell? x := World.cell?_of_block (h.block _ hl hp)

/-- Parts that lie below n, apart from one block. -/
structure PartsIn (n p : Nat) (w : World) (A : Option Addr) (len : Nat) (l : List Part) : Prop where
  len : l.length = len
  at_ : ∀ i x, l[i]? = some x → ∃ b o, A = some ⟨b, o, none⟩ ∧ b < n ∧ b ≠ p ∧ w.cell? ⟨b, o + i, none⟩ = some (.slice x.A x.bs.length x.c) ∧ x.bs.length ≤ 9223372036854775807 ∧
    ∀ j u, x.bs[j]? = some u → ∃ b' o', x.A = some ⟨b', o', none⟩ ∧ b' < n ∧ b' ≠ p ∧ w.cell? ⟨b', o' + j, none⟩ = some (bv u)

theorem PartsIn.kbut {n p : Nat} {w w' : World} {A : Option Addr} {len : Nat} {l : List Part} (h : PartsIn n p w A len l) (hk : KBut n p w w') : PartsIn n p w' A len l := by
  refine ⟨h.len, fun i x hx => ?_⟩
  obtain ⟨b, o, h1, h2, h3, h4, h5, h6⟩ := h.at_ i x hx
  refine ⟨b, o, h1, h2, h3, (hk.cell h2 h3).trans h4, h5, fun j u hu => ?_⟩
  obtain ⟨b', o', g1, g2, g3, g4⟩ := h6 j u hu
  exact ⟨b', o', g1, g2, g3, (hk.cell g2 g3).trans g4⟩

theorem PartsAt.in {w : World} {A : Option Addr} {len p : Nat} {l : List Part} (h : PartsAt w A len l) (hA : 0 < l.length → ∀ b o, A = some ⟨b, o, none⟩ → b ≠ p) (hl : ∀ x ∈ l, 0 < x.bs.length → ∀ b, (Value.slice x.A x.bs.length x.c).ownBlock = some b → b ≠ p) : PartsIn w.heap.size p w A len l := by
  refine ⟨h.len, fun i x hx => ?_⟩
  obtain ⟨b, o, h1, h2, h3, h4⟩ := h.at_ i x hx
  have hp : 0 < l.length := by have := (List.getElem?_eq_some_iff.1 hx).1; omega
  refine ⟨b, o, h1, lt_of_cell h2, hA hp b o h1, h2, h4, fun j u hu => ?_⟩
  have hj : j < x.bs.length := (List.getElem?_eq_some_iff.1 hu).1
  obtain ⟨A', c', he, _, _, hc⟩ := h3
  injection he with he _ _
  obtain ⟨b', o', g1, g2⟩ := hc (by omega)
  rw [← he] at g1
  have g3 := g2 j u hu
  exact ⟨b', o', g1, lt_of_cell g3, hl x (List.mem_of_getElem? hx) (by omega) b' (by rw [g1]; rfl), g3⟩

set_option maxRecDepth 100000 in
set_option maxHeartbeats 2000000 in
theorem citer_in (F : Fence) (n : Nat) (hf : F.fn 52) (hro : F.round = none) (hn : 1 ≤ n) (lp Bs n₀ p len c : Nat) (A : Option Addr) (l : List Part) (hm : len ≤ 9223372036854775807) (J Jx : List UInt8 → World → Prop)
    (hY : ∀ pre x W, J pre W → pre.length < (flat l).length → YieldAt F (n - 1) Try.prog lp #[.int .u8 (x.toNat : Int)] W fun e W' =>
      (e = .returned (.bool true) ∧ J (pre ++ [x]) W' ∧ KBut n₀ p W W') ∨ (e = .returned (.bool false) ∧ Jx (pre ++ [x]) W'))
    (W : World) (hBs : W.cell? ⟨Bs, 0, none⟩ = some (.slice A len c)) (hP : PartsIn n₀ p W A len l) (h0 : J [] W) :
    CallsIn F n Try.prog 52 #[.func (.yield lp) #[] #[], .pointer (some ⟨Bs, 0, none⟩)] W fun e W' => (∃ v, e = .returned v) ∧
      ((∃ ys, ys = flat l ∧ J ys W') ∨ (∃ pre, True ∧ Jx pre W')) := by
  have HP := Lib.hid hP
  clear hP
  refine callsIn_of_wp Try.func52 rfl hf ?_ hro
  simp only [Try.ntmps52, List.size_toArray, List.length_cons, List.length_nil, Nat.reduceAdd, Nat.reduceSub, Array.replicate_succ, Array.replicate_zero, List.push_toArray, List.append_toArray, List.nil_append, List.cons_append]
  gi_wp2
  gi_loopw [4, 6, 9] (fun pv bv' i wr => ∃ j : Nat, j ≤ len ∧ i = .int .i64 (j : Int) ∧ J (flat (l.take j)) wr ∧ Hid (KBut n₀ p W wr)) (fun _ _ i _ => len - (intOf i).toNat)
  case atStart => exact ⟨0, Nat.zero_le _, rfl, by simpa [flat] using h0, KBut.refl _ _ _⟩
  case round =>
    obtain ⟨j, hj, rfl, hJ, HK⟩ := hrel
    by_cases hlt : j < len
    · have hll := HP.out.len
      have hx : l[j]? = some (l[j]'(by omega)) := List.getElem?_eq_getElem (by omega)
      have htk : l.take (j + 1) = l.take j ++ [l[j]'(by omega)] := List.take_succ_eq_append_getElem (by omega)
      obtain ⟨b, o, rfl, hb1, hb2, c0, hm2, hbs⟩ := (HP.out.kbut HK.out).at_ j _ hx
      have hfl : (flat (l.take j)).length + (l[j]'(by omega)).bs.length ≤ (flat l).length := by
        have h1 : (flat (l.take (j + 1))).length ≤ (flat l).length := by
          rw [flat, flat, flat_len, flat_len]
          exact total_le _
        rw [flat_snoc htk, List.length_append] at h1
        exact h1
      generalize l[j]'(by omega) = x at *
      have HB := Lib.hid hbs
      have HT := Lib.hid (flat_snoc htk)
      clear hx htk hbs
      gi_wp2
      gi_loopw [6, 15] (fun bv' i w2 => ∃ k : Nat, k ≤ x.bs.length ∧ i = .int .i64 (k : Int) ∧ J (flat (l.take j) ++ x.bs.take k) w2 ∧ Hid (KBut n₀ p wr w2)) (fun _ i _ => x.bs.length - (intOf i).toNat)
      case atStart => exact ⟨0, Nat.zero_le _, rfl, by simpa using hJ, KBut.refl _ _ _⟩
      case round =>
        obtain ⟨k, hk, rfl, hJk, HK2⟩ := hrel
        by_cases hlk : k < x.bs.length
        · have hu : x.bs[k]? = some (x.bs[k]'(by omega)) := List.getElem?_eq_getElem (by omega)
          have hs : x.bs.take (k + 1) = x.bs.take k ++ [x.bs[k]'(by omega)] := List.take_succ_eq_append_getElem (by omega)
          obtain ⟨b', o', hA, hb3, hb4, c1⟩ := HB.out k _ hu
          have c2 : wr.cell? ⟨b', o' + k, none⟩ = some (.int .u8 ((x.bs[k]'(by omega)).toNat : Int)) := (HK2.out.cell (x := ⟨b', o' + k, none⟩) hb3 hb4).trans c1
          have hJlen : (flat (l.take j) ++ x.bs.take k).length < (flat l).length := by
            rw [List.length_append, List.length_take]
            omega
          obtain ⟨fn, tmps, assign, body, hy, hR⟩ := hY (flat (l.take j) ++ x.bs.take k) (x.bs[k]'(by omega)) wr hJk hJlen
          generalize x.bs[k]'(by omega) = u at *
          have HS := Lib.hid hs
          rw [hA]
          clear c1 hu hs HB hJlen
          gi_wp2
          refine hR.mono ?_
          rintro e W3 (⟨rfl, hJ3, hk3⟩ | ⟨rfl, hJx3⟩)
          · have hJ4 : J (flat (l.take j) ++ x.bs.take (k + 1)) W3 := by
              rw [HS.out, ← List.append_assoc]
              exact hJ3
            have HK3 := Lib.hid (HK2.out.trans hk3)
            gi_wp2
            go_roundw
            case rel => exact ⟨k + 1, by omega, by simp, hJ4, HK3⟩
            case measure => simp [intOf]; omega
          · gi_wp2
            refine bodyPost_ret (results_none rfl _ _ _) rfl ?_
            exact ⟨⟨_, rfl⟩, .inr ⟨_, trivial, hJx3⟩⟩
        · obtain rfl : k = x.bs.length := by omega
          have hJ4 : J (flat (l.take (j + 1))) wr := by
            rw [HT.out]
            rw [List.take_of_length_le (Nat.le_refl _)] at hJk
            exact hJk
          have HK3 := Lib.hid (HK.out.trans HK2.out)
          gi_wp2
          go_roundw
          case rel => exact ⟨j + 1, by omega, by simp, hJ4, HK3⟩
          case measure => simp [intOf]; omega
    · obtain rfl : j = len := by omega
      have hJ4 : J (flat l) wr := by
        rw [List.take_of_length_le (by have := HP.out.len; omega)] at hJ
        exact hJ
      gi_wp2
      go_end0
      exact ⟨⟨_, rfl⟩, .inl ⟨_, rfl, hJ4⟩⟩

end Go.Proofs.Ytkcoiplhopdnlaa
