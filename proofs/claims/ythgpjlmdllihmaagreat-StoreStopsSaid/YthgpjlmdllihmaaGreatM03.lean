/- Texts of one proof, laid together: L1 L2 L3 L4 L5. -/
import Derived.Test.YthgpjlmdllihmaaGreatM02
import Derived.RangeFuncNested
import Derived.RangeFuncBound
import Derived.RangeFuncCalls
import Derived.RangeFuncLeaves
import Derived.Shelf.Abstract
import Derived.Shelf.RegionOpen
import Derived.OwnWalkIn
import Derived.TacticsInMore
import Derived.LoopNIn
import Derived.LoopIn
import Derived.Laws.EntriesVeiled
import Derived.Test.YthgpjlmdllihmaaGreatM01
/- crc's Step. -/
namespace Go.Proofs.YthgpjlmdllihmaaGreat
open Go.RowKit
set_option linter.unusedVariables false

theorem cstep2 (a b : Nat) (w : World) (ha : a < 4294967296) (hb : b < 256) : Calls Tryz.prog 133 #[.int .u32 (a : Int), .int .u8 (b : Int)] w fun e w' => e = .returned (.int .u32 (crcStep a b : Nat)) ∧ w = w' := by
  have e0 := u32_xor_nat a b ha (by omega)
  have l0 : a ^^^ b < 4294967296 := Nat.xor_lt_two_pow (n := 32) ha (by omega)
  have HI : Hid (crcZs 8 (a ^^^ b) = crcStep a b) := by show _ = _; rfl
  go_enter Tryz.func133, Tryz.ntmps133
  go_wp2
  go_loopw [0, 5, 10] (fun v lw i wr => ∃ j x : Nat, i = .int .i64 (j : Int) ∧ j ≤ 8 ∧ v = .int .u32 (x : Int) ∧ x < 4294967296 ∧ Hid (crcZs (8 - j) x = crcStep a b) ∧ wr = w) (fun _ _ i _ => 8 - (intOf i).toNat)
  case atStart => exact ⟨0, a ^^^ b, rfl, Nat.zero_le _, rfl, l0, HI, rfl⟩
  case round =>
    obtain ⟨j, x, rfl, hj, rfl, hx, HX, rfl⟩ := hrel
    by_cases hlt : j < 8
    · have HS : Hid (crcZs (8 - (j + 1)) (crcZ x) = crcStep a b) := by
        show _ = _
        rw [← HX.out, show 8 - j = 8 - (j + 1) + 1 by omega]
        rfl
      have hz := crcZ_lt hx
      have g0 : bits .and .u32 (x : Int) 1 = ((x % 2 : Nat) : Int) := by
        have := u32_and_nat x 1 hx (by decide)
        rw [Nat.and_one_is_mod] at this
        exact this
      by_cases hp : x % 2 = 1
      · have g1 : (((x % 2 : Nat) : Int) == 1) = true := by simp; omega
        have g2 : bits .xor .u32 ((x : Int) / 2) 3988292384 = ((crcZ x : Nat) : Int) := by
          have h5 := u32_xor_nat (x / 2) 3988292384 (by omega) (by decide)
          rw [show crcZ x = x / 2 ^^^ 3988292384 by simp [crcZ, hp, crcP], ← h5]
          congr 1
        clear hp HX
        go_wp2_with fail
        go_roundw
        case rel => exact ⟨j + 1, crcZ x, by go_num, by omega, rfl, hz, HS, trivial⟩
        case measure => simp [intOf]; omega
      · have g1 : (((x % 2 : Nat) : Int) == 1) = false := by simp; omega
        have g2 : (x : Int) / 2 = ((crcZ x : Nat) : Int) := by
          rw [show crcZ x = x / 2 by simp [crcZ, hp]]
          omega
        clear hp HX
        go_wp2_with fail
        go_roundw
        case rel => exact ⟨j + 1, crcZ x, by go_num, by omega, rfl, hz, HS, trivial⟩
        case measure => simp [intOf]; omega
    · have h8 : j = 8 := by omega
      subst h8
      go_wp2_with fail
      go_ret
      exact ⟨by rw [← HX.out]; rfl, rfl⟩

end Go.Proofs.YthgpjlmdllihmaaGreat
/- The words behind bytes that a closure remembers. -/
namespace Go.Proofs.YthgpjlmdllihmaaGreat
open Go.RowKit
set_option linter.unusedVariables false

/-- A table of 256 words, each one a nought or the word behind its byte. -/
def TabAt (w : World) (T : Nat) : Prop := ∃ (cs : Array Value) (t : TypeId), w.heap[T]? = some (.cells cs t (0, 0)) ∧ cs.size = 256 ∧ ∀ i, i < 256 → ∃ x : Nat, cs[i]? = some (.int .u32 (x : Int)) ∧ (x = 0 ∨ x = crcZs 8 i)

theorem TabAt.lt {w : World} {T : Nat} (h : TabAt w T) : T < w.heap.size := by
  obtain ⟨cs, t, h1, _⟩ := h
  exact lt_of_heap h1
theorem TabAt.keep {w w' : World} {T : Nat} {bs : List Nat} (h : TabAt w T) (hk : Keeps bs w w') (hT : T ∉ bs) : TabAt w' T := by
  obtain ⟨cs, t, h1, h2⟩ := h
  exact ⟨cs, t, blk_keep h1 hk hT, h2⟩
theorem TabAt.cell {w : World} {T : Nat} (h : TabAt w T) {i : Nat} (hi : i < 256) : ∃ x : Nat, w.cell? ⟨T, i, none⟩ = some (.int .u32 (x : Int)) ∧ (x = 0 ∨ x = crcZs 8 i) := by
  obtain ⟨cs, t, h1, h2, h3⟩ := h
  obtain ⟨x, hx, ho⟩ := h3 i hi
  exact ⟨x, (cell_of_blk h1 i).trans hx, ho⟩
theorem TabAt.free {w : World} {T : Nat} (h : TabAt w T) (i : Nat) : w.frozen? ⟨T, i, none⟩ = false := by
  obtain ⟨cs, t, h1, h2, h3⟩ := h
  exact free_of_blk h1 i
theorem TabAt.set {w : World} {T : Nat} (h : TabAt w T) {i : Nat} (hi : i < 256) : TabAt (w.setCell ⟨T, i, none⟩ (.int .u32 (crcZs 8 i : Nat))) T := by
  obtain ⟨cs, t, h1, h2, h3⟩ := h
  refine ⟨cs.setIfInBounds i (.int .u32 (crcZs 8 i : Nat)), t, ?_, by simpa using h2, fun j hj => ?_⟩
  · have hlt := lt_of_heap h1
    have h1' : w.heap[T] = .cells cs t (0, 0) := by
      rw [Array.getElem?_eq_getElem hlt] at h1
      exact Option.some.inj h1
    simp [World.setCell, Array.getElem?_modify, h1]
  · by_cases hij : i = j
    · subst hij
      exact ⟨crcZs 8 i, by rw [Array.getElem?_setIfInBounds_self_of_lt (by omega)], .inr rfl⟩
    · obtain ⟨x, hx, ho⟩ := h3 j hj
      exact ⟨x, by rw [Array.getElem?_setIfInBounds_ne hij]; exact hx, ho⟩

theorem crem (a b T : Nat) (w : World) (ha : a < 4294967296) (hb : b < 256) (hT : TabAt w T) : Calls Tryz.prog 132 #[.int .u32 (a : Int), .int .u8 (b : Int), .pointer (some ⟨T, 0, none⟩)] w fun e w' => e = .returned (.int .u32 (crcStep a b : Nat)) ∧ TabAt w' T ∧ Keeps [T] w w' := by
  have hl : (a % 256) ^^^ b < 256 := Nat.xor_lt_two_pow (n := 8) (by omega) hb
  have e1 : bits .xor .u8 ((a : Int) % 256) (b : Int) = ((a % 256 ^^^ b : Nat) : Int) := by
    have := u8_xor_nat (a % 256) b (by omega) hb
    rw [← this]
    congr 1
  have e3 : crcStep a b = crcZs 8 (a % 256 ^^^ b) ^^^ a / 256 := by
    rw [crcStep_table hb, Nat.xor_comm]
    congr 2
    have := Nat.xor_mod_two_pow (a := a) (b := b) (n := 8)
    rw [show (2 : Nat) ^ 8 = 256 from rfl, Nat.mod_eq_of_lt hb] at this
    exact this
  have hz : crcZs 8 (a % 256 ^^^ b) < 4294967296 := crcZs_lt (by omega)
  have hst : crcStep 0 (a % 256 ^^^ b) = crcZs 8 (a % 256 ^^^ b) := by simp [crcStep]
  have e4 : bits .xor .u32 ((crcZs 8 (a % 256 ^^^ b) : Nat) : Int) ((a : Int) / 256) = ((crcZs 8 (a % 256 ^^^ b) ^^^ a / 256 : Nat) : Int) := by
    have := u32_xor_nat (crcZs 8 (a % 256 ^^^ b)) (a / 256) hz (by omega)
    rw [← this]
    congr 1
  rw [e3]
  generalize a % 256 ^^^ b = low at *
  have HT := Lib.hid hT
  obtain ⟨x, hx, ho⟩ := hT.cell hl
  have hf := hT.free low
  by_cases h0 : x = 0
  · subst h0
    have c2 : Hid (TabAt (w.setCell ⟨T, low, none⟩ (.int .u32 (crcZs 8 low : Nat))) T) := hT.set hl
    have KP : Hid (Keeps [T] w (w.setCell ⟨T, low, none⟩ (.int .u32 (crcZs 8 low : Nat)))) := (Keeps.refl [T] w).setCell (.inl (by simp)) _
    generalize crcZs 8 low = z at *
    clear ho hT e3 HT
    go_enter Tryz.func132, Tryz.ntmps132
    go_wp2_with fail
    refine (cstep2 0 low w (by decide) hl).mono ?_
    rintro e w' ⟨rfl, rfl⟩
    rw [hst]
    go_wp2_with fail
    go_ret
    exact ⟨rfl, c2.out, KP.out⟩
  · have hx2 : x = crcZs 8 low := ho.resolve_left h0
    subst hx2
    have g0 : (((crcZs 8 low : Nat) : Int) == 0) = false := by simpa using h0
    generalize crcZs 8 low = z at *
    clear ho hT e3 h0
    go_enter Tryz.func132, Tryz.ntmps132
    go_wp2_with fail
    go_ret
    exact ⟨rfl, HT.out, Keeps.refl _ _⟩

theorem zero_tab (w : World) : (zeroValue 184).run Tryz.prog w = .ok (.agg (Array.replicate 256 (.int .u32 0))) w := by kernel_rfl

/-- The closure, made: its table has noughts alone. -/
theorem crem_new (w : World) : Calls Tryz.prog 130 #[] w fun e w' => e = .returned (.func (.func 132) #[] #[.pointer (some ⟨w.heap.size, 0, none⟩)]) ∧ TabAt w' w.heap.size ∧ Keeps [] w w' := by
  have zv := zero_tab w
  have HT : Hid (TabAt (w.alloc (.cells (Array.replicate 256 (.int .u32 0)) 184)) w.heap.size) := ⟨_, _, heap_alloc_new' w _, by simp, fun i hi => ⟨0, by simp [hi], .inl rfl⟩⟩
  have HK : Hid (Keeps [] w (w.alloc (.cells (Array.replicate 256 (.int .u32 0)) 184))) := (Keeps.refl [] w).alloc _
  generalize Array.replicate 256 (Value.int .u32 0) = cs at *
  go_enter Tryz.func130, Tryz.ntmps130
  go_wp2_with fail
  go_ret
  exact ⟨rfl, HT.out, HK.out⟩

end Go.Proofs.YthgpjlmdllihmaaGreat
/- The bytes of some parts, gone over one by one. -/
namespace Go.Proofs.YthgpjlmdllihmaaGreat
open Go.RowKit Go.Shelf
set_option linter.unusedVariables false
attribute [local go_sem] Oper.semAt_some

/-- What lay below n lies as it lay, one block apart. -/
structure KBut (n p : Nat) (w w' : World) : Prop where
  os : w'.os = w.os
  tape : w'.tape = w.tape
  output : w'.output = w.output
  size : w.heap.size ≤ w'.heap.size
  block : ∀ k, k < n → k ≠ p → w'.heap[k]? = w.heap[k]?

theorem KBut.refl (n p : Nat) (w : World) : KBut n p w w := ⟨rfl, rfl, rfl, Nat.le_refl _, fun _ _ _ => rfl⟩
theorem KBut.trans {n p : Nat} {a b c : World} (h : KBut n p a b) (k : KBut n p b c) : KBut n p a c :=
  ⟨k.os.trans h.os, k.tape.trans h.tape, k.output.trans h.output, Nat.le_trans h.size k.size, fun i hi hn => (k.block i hi hn).trans (h.block i hi hn)⟩
theorem KBut.of_keeps {n p : Nat} {bs : List Nat} {a b : World} (h : Keeps bs a b) (hn : n ≤ a.heap.size) (hb : ∀ x ∈ bs, x = p ∨ n ≤ x) : KBut n p a b :=
  ⟨h.os, h.tape, h.output, h.size, fun i hi hp => h.block i (by omega) (fun hm => by rcases hb i hm with h | h <;> omega)⟩
theorem KBut.keeps {p : Nat} {a b : World} (h : KBut a.heap.size p a b) : Keeps [p] a b :=
  ⟨h.os, h.tape, h.output, h.size, fun i hi hp => h.block i hi (by simpa using hp)⟩
theorem KBut.putObj {n p : Nat} {w : World} (hn : n ≤ w.heap.size) (W : World) (l : Nat) (o o' : Obj) (hl : w.heap.size ≤ l) (h : W.heap[l]? = some o) (_ : o.isCells = false) (_ : o.isWalk = false) : KBut n p W (W.putObj l o') := by
  have hb := belowK_b hn W l o o' hl h (by assumption) (by assumption)
  exact ⟨hb.os, hb.tape, hb.output, hb.size, fun k hk _ => hb.block k hk⟩
theorem KBut.cell {n p : Nat} {w w' : World} (h : KBut n p w w') {x : Addr} (hl : x.block < n) (hp : x.block ≠ p) : w'.cell? x = w.cell? x := World.cell?_of_block (h.block _ hl hp)

/-- Parts that lie below n, apart from one block. -/
structure PartsIn (n p : Nat) (w : World) (A : Option Addr) (len : Nat) (l : List Part) : Prop where
  len : l.length = len
  at_ : ∀ i x, l[i]? = some x → ∃ b o, A = some ⟨b, o, none⟩ ∧ b < n ∧ b ≠ p ∧ w.cell? ⟨b, o + i, none⟩ = some (.slice x.A x.bs.length x.c) ∧ x.bs.length ≤ 9223372036854775807 ∧
    ∀ j u, x.bs[j]? = some u → ∃ b' o', x.A = some ⟨b', o', none⟩ ∧ b' < n ∧ b' ≠ p ∧ w.cell? ⟨b', o' + j, none⟩ = some (bv u)

theorem PartsIn.kbut {n p : Nat} {w w' : World} {A : Option Addr} {len : Nat} {l : List Part} (h : PartsIn n p w A len l) (hk : KBut n p w w') : PartsIn n p w' A len l := by
  refine ⟨h.len, fun i x hx => ?_⟩
  obtain ⟨b, o, h1, h2, h3, h4, h5, h6⟩ := h.at_ i x hx
  refine ⟨b, o, h1, h2, h3, (hk.cell h2 h3).trans h4, h5, fun j u hu => ?_⟩
  obtain ⟨b', o', g1, g2, g3, g4⟩ := h6 j u hu
  exact ⟨b', o', g1, g2, g3, (hk.cell g2 g3).trans g4⟩

theorem PartsAt.in {w : World} {A : Option Addr} {len p : Nat} {l : List Part} (h : PartsAt w A len l) (hA : 0 < l.length → ∀ b o, A = some ⟨b, o, none⟩ → b ≠ p) (hl : ∀ x ∈ l, 0 < x.bs.length → ∀ b, (Value.slice x.A x.bs.length x.c).ownBlock = some b → b ≠ p) : PartsIn w.heap.size p w A len l := by
  refine ⟨h.len, fun i x hx => ?_⟩
  obtain ⟨b, o, h1, h2, h3, h4⟩ := h.at_ i x hx
  have hp : 0 < l.length := by have := (List.getElem?_eq_some_iff.1 hx).1; omega
  refine ⟨b, o, h1, lt_of_cell h2, hA hp b o h1, h2, h4, fun j u hu => ?_⟩
  have hj : j < x.bs.length := (List.getElem?_eq_some_iff.1 hu).1
  obtain ⟨A', c', he, _, _, hc⟩ := h3
  injection he with he _ _
  obtain ⟨b', o', g1, g2⟩ := hc (by omega)
  rw [← he] at g1
  have g3 := g2 j u hu
  exact ⟨b', o', g1, lt_of_cell g3, hl x (List.mem_of_getElem? hx) (by omega) b' (by rw [g1]; rfl), g3⟩

set_option maxRecDepth 100000 in
set_option maxHeartbeats 2000000 in
theorem citer_in (F : Fence) (n : Nat) (hf : F.fn 134) (hro : F.round = none) (hn : 1 ≤ n) (lp Bs n₀ p len c : Nat) (A : Option Addr) (l : List Part) (hm : len ≤ 9223372036854775807) (J Jx : List UInt8 → World → Prop)
    (hY : ∀ pre x W, J pre W → pre.length < (flat l).length → YieldAt F (n - 1) Tryz.prog lp #[.int .u8 (x.toNat : Int)] W fun e W' =>
      (e = .returned (.bool true) ∧ J (pre ++ [x]) W' ∧ KBut n₀ p W W') ∨ (e = .returned (.bool false) ∧ Jx (pre ++ [x]) W'))
    (W : World) (hBs : W.cell? ⟨Bs, 0, none⟩ = some (.slice A len c)) (hP : PartsIn n₀ p W A len l) (h0 : J [] W) :
    CallsIn F n Tryz.prog 134 #[.func (.yield lp) #[] #[], .pointer (some ⟨Bs, 0, none⟩)] W fun e W' => (∃ v, e = .returned v) ∧
      ((∃ ys, ys = flat l ∧ J ys W') ∨ (∃ pre, True ∧ Jx pre W')) := by
  have HP := Lib.hid hP
  clear hP
  refine callsIn_of_wp Tryz.func134 rfl hf ?_ hro
  simp only [Tryz.ntmps134, List.size_toArray, List.length_cons, List.length_nil, Nat.reduceAdd, Nat.reduceSub, Array.replicate_succ, Array.replicate_zero, List.push_toArray, List.append_toArray, List.nil_append, List.cons_append]
  gi_wp2
  gi_loopw [4, 6, 9] (fun pv bv' i wr => ∃ j : Nat, j ≤ len ∧ i = .int .i64 (j : Int) ∧ J (flat (l.take j)) wr ∧ Hid (KBut n₀ p W wr)) (fun _ _ i _ => len - (intOf i).toNat)
  case atStart => exact ⟨0, Nat.zero_le _, rfl, by simpa [flat] using h0, KBut.refl _ _ _⟩
  case round =>
    obtain ⟨j, hj, rfl, hJ, HK⟩ := hrel
    by_cases hlt : j < len
    · have hll := HP.out.len
      have hx : l[j]? = some (l[j]'(by omega)) := List.getElem?_eq_getElem (by omega)
      have htk : l.take (j + 1) = l.take j ++ [l[j]'(by omega)] := List.take_succ_eq_append_getElem (by omega)
      obtain ⟨b, o, rfl, hb1, hb2, c0, hm2, hbs⟩ := (HP.out.kbut HK.out).at_ j _ hx
      have hfl : (flat (l.take j)).length + (l[j]'(by omega)).bs.length ≤ (flat l).length := by
        have h1 : (flat (l.take (j + 1))).length ≤ (flat l).length := by
          rw [flat, flat, flat_len, flat_len]
          exact total_le _
        rw [flat_snoc htk, List.length_append] at h1
        exact h1
      generalize l[j]'(by omega) = x at *
      have HB := Lib.hid hbs
      have HT := Lib.hid (flat_snoc htk)
      clear hx htk hbs
      gi_wp2
      gi_loopw [6, 15] (fun bv' i w2 => ∃ k : Nat, k ≤ x.bs.length ∧ i = .int .i64 (k : Int) ∧ J (flat (l.take j) ++ x.bs.take k) w2 ∧ Hid (KBut n₀ p wr w2)) (fun _ i _ => x.bs.length - (intOf i).toNat)
      case atStart => exact ⟨0, Nat.zero_le _, rfl, by simpa using hJ, KBut.refl _ _ _⟩
      case round =>
        obtain ⟨k, hk, rfl, hJk, HK2⟩ := hrel
        by_cases hlk : k < x.bs.length
        · have hu : x.bs[k]? = some (x.bs[k]'(by omega)) := List.getElem?_eq_getElem (by omega)
          have hs : x.bs.take (k + 1) = x.bs.take k ++ [x.bs[k]'(by omega)] := List.take_succ_eq_append_getElem (by omega)
          obtain ⟨b', o', hA, hb3, hb4, c1⟩ := HB.out k _ hu
          have c2 : wr.cell? ⟨b', o' + k, none⟩ = some (.int .u8 ((x.bs[k]'(by omega)).toNat : Int)) := (HK2.out.cell (x := ⟨b', o' + k, none⟩) hb3 hb4).trans c1
          have hJlen : (flat (l.take j) ++ x.bs.take k).length < (flat l).length := by
            rw [List.length_append, List.length_take]
            omega
          obtain ⟨fn, tmps, assign, body, hy, hR⟩ := hY (flat (l.take j) ++ x.bs.take k) (x.bs[k]'(by omega)) wr hJk hJlen
          generalize x.bs[k]'(by omega) = u at *
          have HS := Lib.hid hs
          rw [hA]
          clear c1 hu hs HB hJlen
          gi_wp2
          refine hR.mono ?_
          rintro e W3 (⟨rfl, hJ3, hk3⟩ | ⟨rfl, hJx3⟩)
          · have hJ4 : J (flat (l.take j) ++ x.bs.take (k + 1)) W3 := by
              rw [HS.out, ← List.append_assoc]
              exact hJ3
            have HK3 := Lib.hid (HK2.out.trans hk3)
            gi_wp2
            go_roundw
            case rel => exact ⟨k + 1, by omega, by simp, hJ4, HK3⟩
            case measure => simp [intOf]; omega
          · gi_wp2
            refine bodyPost_ret (results_none rfl _ _ _) rfl ?_
            exact ⟨⟨_, rfl⟩, .inr ⟨_, trivial, hJx3⟩⟩
        · obtain rfl : k = x.bs.length := by omega
          have hJ4 : J (flat (l.take (j + 1))) wr := by
            rw [HT.out]
            rw [List.take_of_length_le (Nat.le_refl _)] at hJk
            exact hJk
          have HK3 := Lib.hid (HK.out.trans HK2.out)
          gi_wp2
          go_roundw
          case rel => exact ⟨j + 1, by omega, by simp, hJ4, HK3⟩
          case measure => simp [intOf]; omega
    · obtain rfl : j = len := by omega
      have hJ4 : J (flat l) wr := by
        rw [List.take_of_length_le (by have := HP.out.len; omega)] at hJ
        exact hJ
      gi_wp2
      go_end0
      exact ⟨⟨_, rfl⟩, .inl ⟨_, rfl, hJ4⟩⟩

end Go.Proofs.YthgpjlmdllihmaaGreat
/- crc's pass: the word behind the bytes of some parts. -/
namespace Go.Proofs.YthgpjlmdllihmaaGreat
open Go.RowKit Go.Shelf
set_option linter.unusedVariables false
attribute [local go_sem] Oper.semAt_some

theorem cbytesof (A : Option Addr) (len c : Nat) (w : World) : Calls Tryz.prog 131 #[.slice A len c] w fun e w' => e = .returned (.func (.func 134) #[] #[.pointer (some ⟨w.heap.size, 0, none⟩)]) ∧ w.alloc (.cells #[.slice A len c] 135) = w' := by
  go_enter Tryz.func131, Tryz.ntmps131
  go_wp2_with fail
  go_ret
  exact ⟨rfl, rfl⟩

theorem citer_stops (F : Fence) (n : Nat) (hf : F.fn 134) (hro : F.round = none) (hn : 1 ≤ n) (Bs n₀ p len c : Nat) (A : Option Addr) (l : List Part) (hm : len ≤ 9223372036854775807) (w : World) (hBs : Bs < w.heap.size) (hn₀ : n₀ ≤ w.heap.size)
    (hc : w.cell? ⟨Bs, 0, none⟩ = some (.slice A len c)) (hP : PartsIn n₀ p w A len l) :
    SeqStopsK F n Tryz.prog 134 #[.pointer (some ⟨Bs, 0, none⟩)] (fun x : UInt8 => #[Value.int .u8 (x.toNat : Int)]) (KBut n₀ p) (fun ys => ys = flat l) (fun _ => True) (flat l).length w := fun lp J Jx W hW _ _ hY h0 => by
  have hk : KBut n₀ p w W := ⟨hW.os, hW.tape, hW.output, hW.size, fun k hk _ => hW.block k (by omega)⟩
  exact citer_in F n hf hro hn lp Bs n₀ p len c A l hm J Jx hY W ((hW.cell (p := ⟨Bs, 0, none⟩) hBs).trans hc) (hP.kbut hk) h0

/-- A word at the head of a block. -/
def WordAt (w : World) (p : Nat) (cs : Array Value) (t : TypeId) (y : Nat) : Prop := w.heap[p]? = some (.cells (cs.setIfInBounds 0 (.int .u32 (y : Int))) t (0, 0))

theorem WordAt.lt {w : World} {p : Nat} {cs : Array Value} {t : TypeId} {y : Nat} (h : WordAt w p cs t y) : p < w.heap.size := lt_of_heap h
theorem WordAt.cell {w : World} {p : Nat} {cs : Array Value} {t : TypeId} {y : Nat} (h : WordAt w p cs t y) (hs : 0 < cs.size) : w.cell? ⟨p, 0, none⟩ = some (.int .u32 (y : Int)) := by
  rw [cell_of_blk h 0, Array.getElem?_setIfInBounds_self_of_lt hs]
theorem WordAt.free {w : World} {p : Nat} {cs : Array Value} {t : TypeId} {y : Nat} (h : WordAt w p cs t y) : w.frozen? ⟨p, 0, none⟩ = false := free_of_blk h 0
theorem WordAt.set {w : World} {p : Nat} {cs : Array Value} {t : TypeId} {y : Nat} (h : WordAt w p cs t y) (z : Nat) : WordAt (w.setCell ⟨p, 0, none⟩ (.int .u32 (z : Int))) p cs t z := by
  have hlt := h.lt
  unfold WordAt at h ⊢
  simp [World.setCell, Array.getElem?_modify, h]
theorem WordAt.keep {w w' : World} {p : Nat} {cs : Array Value} {t : TypeId} {y : Nat} {bs : List Nat} (h : WordAt w p cs t y) (hk : Keeps bs w w') (hp : p ∉ bs) : WordAt w' p cs t y := blk_keep h hk hp

theorem KeepsOthers.of_keeps {T : Nat} {w w' : World} (h : Keeps [T] w w') (hT : TabAt w T) : KeepsOthers w w' := by
  refine ⟨h.size, fun k o hk ho => ?_⟩
  obtain ⟨cs, t, h1, _⟩ := hT
  refine (h.block k (lt_of_heap hk) (fun hm => ?_)).trans hk
  rw [List.mem_singleton] at hm
  subst hm
  rw [h1] at hk
  cases hk
  simp [Obj.isCells] at ho

theorem grown_block {B : Nat} {w w' : World} {row : Option Nat} (hg : w.grownBy w' row) (hr : ∀ r, row = some r → B ≤ r) : ∀ k, k < B → k < w.heap.size → w'.heap[k]? = w.heap[k]? :=
  fun k hk hl => hg.block k hl (fun e => by have := hr k e.symm; omega)

/-- What a round finds. -/
structure PI (w W : World) (p s T B : Nat) (cs : Array Value) (t : TypeId) (y : Nat) : Prop where
  word : WordAt W p cs t y
  ptr : W.cell? ⟨s, 0, none⟩ = some (.pointer (some ⟨p, 0, none⟩))
  fn : W.cell? ⟨B, 0, none⟩ = some (.func (.func 132) #[] #[.pointer (some ⟨T, 0, none⟩)])
  tab : TabAt W T
  but : KBut w.heap.size p w W

set_option maxRecDepth 100000 in
set_option maxHeartbeats 4000000 in
theorem cpass (A : Option Addr) (len c p x : Nat) (l : List Part) (cs : Array Value) (t : TypeId) (w : World) (hm : len ≤ 9223372036854775807) (hx : x < 4294967296) (hs : 0 < cs.size) (hw : WordAt w p cs t x) (hP : PartsIn w.heap.size p w A len l) :
    Calls Tryz.prog 128 #[.pointer (some ⟨p, 0, none⟩), .slice A len c] w fun e w' => (∃ v, e = .returned v) ∧ WordAt w' p cs t (crcRun x (flat l)) ∧ Keeps [p] w w' := by
  refine (callsIn_wide (n := 3)).1 ?_
  refine callsIn_of_wp_marks Tryz.func128 rfl trivial ?_ rfl
  simp only [Tryz.ntmps128, List.size_toArray, List.length_cons, List.length_nil, Nat.reduceAdd, Nat.reduceSub, Array.replicate_succ, Array.replicate_zero, List.push_toArray, List.append_toArray, List.nil_append, List.cons_append]
  have HP := Lib.hid hP
  have HW := Lib.hid hw
  clear hP hw
  gi_wp2_with (first | (refine ⟨trivial, ?_⟩; gi_at_call 130; refine (callsIn_wide.2 (crem_new _)).mono ?_; rintro e w1 ⟨rfl, ht1, hk1⟩) | (refine ⟨trivial, ?_⟩; gi_at_call 131; refine (callsIn_wide.2 (cbytesof _ _ _ _)).mono ?_; rintro e w2 ⟨rfl, rfl⟩))
  rw [World.size_alloc] at ht1
  have hz0 := ht1.lt
  have k1 : Keeps [] w w1 := ((Keeps.refl [] w).alloc _).trans' hk1
  have cs0 : w1.cell? ⟨w.heap.size, 0, none⟩ = some (.pointer (some ⟨p, 0, none⟩)) := (hk1.cell (p := ⟨w.heap.size, 0, none⟩) (by simp) (by simp)).trans (by rw [World.cell?_alloc_new]; rfl)
  have hF : 132 = 132 := rfl
  obtain ⟨W0, hW0⟩ : ∃ W0, (w1.alloc (.cells #[.func (.func 132) #[] #[.pointer (some ⟨w.heap.size + 1, 0, none⟩)]] 179)).alloc (.cells #[.slice A len c] 135) = W0 := ⟨_, rfl⟩
  have k2 : Keeps [] w1 W0 := by rw [← hW0]; exact ((Keeps.refl [] w1).alloc _).alloc _
  have c4 : W0.cell? ⟨w1.heap.size, 0, none⟩ = some (.func (.func 132) #[] #[.pointer (some ⟨w.heap.size + 1, 0, none⟩)]) := by
    rw [← hW0, World.cell?_alloc_lt _ _ _ (by simp), World.cell?_alloc_new]
    rfl
  have c5 : W0.cell? ⟨w1.heap.size + 1, 0, none⟩ = some (.slice A len c) := by
    have := World.cell?_alloc_new (w1.alloc (.cells #[.func (.func 132) #[] #[.pointer (some ⟨w.heap.size + 1, 0, none⟩)]] 179)) #[.slice A len c] 135 0
    rw [World.size_alloc] at this
    rw [← hW0, this]
    rfl
  have hz : W0.heap.size = w1.heap.size + 1 + 1 := by rw [← hW0]; simp
  rw [hW0]
  have K0 := k1.trans' k2
  have KB0 : KBut w.heap.size p w W0 := KBut.of_keeps K0 (Nat.le_refl _) (by simp)
  have I0 : PI w W0 p w.heap.size (w.heap.size + 1) w1.heap.size cs t x := ⟨HW.out.keep K0 (by simp), (k2.cell (p := ⟨w.heap.size, 0, none⟩) (by show w.heap.size < _; omega) (by simp)).trans cs0, c4, ht1.keep k2 (by simp), KB0⟩
  have hpw := HW.out.lt
  have HI0 := Lib.hid I0
  have HP0 := Lib.hid (HP.out.kbut KB0)
  clear hk1 hW0 k2 c4 cs0 I0 KB0
  refine wpIn_rangeFunc_ownF rfl (by omega) (gf := 134) (lb := #[.pointer (some ⟨w1.heap.size + 1, 0, none⟩)]) rfl trivial (enters_of Tryz.func134 (by kernel_rfl) rfl)
    (citer_stops Fence.wide (3 - 1) trivial rfl (by omega) (w1.heap.size + 1) w.heap.size p len c A l hm W0 (by omega) (by omega) c5 HP0.out) (fun h k => h.trans k) (KBut.putObj (by omega)) (Below.refl _ _) (fun _ => rfl)
    (fun pre W => PI w W p w.heap.size (w.heap.size + 1) w1.heap.size cs t (crcRun x pre))
    (fun _ _ _ => False)
    (fun pre X Y row h hg hr => by
      have hb := grown_block hg (fun r e => (hr r e).1)
      have hx0 := h.word.lt
      have hx1 : w.heap.size < X.heap.size := lt_of_cell h.ptr
      have hx2 : w1.heap.size < X.heap.size := lt_of_cell h.fn
      have hx3 := h.tab.lt
      refine ⟨(hb p (by omega) hx0).trans h.word, (World.cell?_of_block (a := ⟨w.heap.size, 0, none⟩) (hb w.heap.size (by omega) hx1)).trans h.ptr, (World.cell?_of_block (a := ⟨w1.heap.size, 0, none⟩) (hb w1.heap.size (by omega) hx2)).trans h.fn, ?_, h.but.trans ⟨hg.os, hg.tape, hg.output, hg.size, fun k hk _ => hb k (by omega) (by have := h.but.size; omega)⟩⟩
      obtain ⟨a, b, c, d⟩ := h.tab
      exact ⟨a, b, (hb _ (by omega) hx3).trans c, d⟩)
    (fun _ _ _ _ _ hs _ _ => hs)
    HI0.out
    (fun x => { tmps := #[.pointer (some ⟨p, 0, none⟩), .slice A len c, .pointer (some ⟨w.heap.size, 0, none⟩), undef, .pointer (some ⟨w1.heap.size, 0, none⟩), .int .u8 (x.toNat : Int), .func (.func 132) #[] #[.pointer (some ⟨w.heap.size + 1, 0, none⟩)], .slice A len c, .func (.func 134) #[] #[.pointer (some ⟨w1.heap.size + 1, 0, none⟩)], .int .u8 (x.toNat : Int), undef, undef, undef, undef, undef, undef, undef, undef], defers := [] }) ?assign ?body ?done ?stop
  case assign =>
    intro l x W K hK
    gi_wp2
    exact hK
  case body =>
    rintro lp pre u W h _
    have hmx : Tryz.prog.follows .mixedOrders = true := by kernel_rfl
    have c1 := h.word.cell hs
    have f1 := h.word.free
    have c2 := h.ptr
    have c3 := h.fn
    have hy := crcRun_lt hx pre
    have H := Lib.hid h
    clear h c5 hF
    have n1 : p ∉ [w.heap.size + 1] := by rw [List.mem_singleton]; omega
    have n2 : w.heap.size ∉ [w.heap.size + 1] := by rw [List.mem_singleton]; omega
    have z1 : w.heap.size < W.heap.size := lt_of_cell c2
    gi_wp2
    refine region_in_round (fun X => X.cell? ⟨w.heap.size, 0, none⟩ = some (.pointer (some ⟨p, 0, none⟩)) ∧ X.cell? ⟨w1.heap.size, 0, none⟩ = some (.func (.func 132) #[] #[.pointer (some ⟨w.heap.size + 1, 0, none⟩)])) hmx (by kernel_rfl) (fun ⟨_, _, h⟩ => h) ⟨c2, c3⟩ ?_
    intro HS
    refine wpAnyH_take (i := 0) (v := .pointer (some ⟨p, 0, none⟩)) rfl (by kernel_rfl) (by kernel_rfl) (by kernel_rfl) (fun _ _ _ h => h) (Or.inl ⟨by rfl, ?_⟩) HS ?_
    · intro w5 hw5
      obtain ⟨d1, d2⟩ := hw5
      go_simp
    refine wpAnyH_take (i := 1) (v := .func (.func 132) #[] #[.pointer (some ⟨w.heap.size + 1, 0, none⟩)]) rfl (by kernel_rfl) (by kernel_rfl) (by kernel_rfl) (fun _ _ _ h => h) (Or.inl ⟨by rfl, ?_⟩) HS ?_
    · intro w5 hw5
      obtain ⟨d1, d2⟩ := hw5
      go_simp
    refine wpAnyH_take (i := 2) (v := .pointer (some ⟨p, 0, none⟩)) rfl (by kernel_rfl) (by kernel_rfl) (by kernel_rfl) (fun _ _ _ h => h) (Or.inl ⟨by rfl, ?_⟩) HS ?_
    · intro w5 hw5
      obtain ⟨d1, d2⟩ := hw5
      go_simp
    refine wpAnyH_take (i := 3) (v := .pointer (some ⟨p, 0, none⟩)) rfl (by kernel_rfl) (by kernel_rfl) (by kernel_rfl) (fun _ _ _ h => h) (Or.inl ⟨by rfl, ?_⟩) HS ?_
    · intro w5 hw5
      obtain ⟨d1, d2⟩ := hw5
      go_simp
    refine wpAnyH_take (i := 5) (v := .int .u8 (u.toNat : Int)) rfl (by kernel_rfl) (by kernel_rfl) (by kernel_rfl) (fun _ _ _ h => h) (Or.inl ⟨by rfl, ?_⟩) HS ?_
    · intro w5 hw5
      obtain ⟨d1, d2⟩ := hw5
      go_simp
    refine wpAnyH_ready (rs := [4]) (by kernel_rfl) (by simp) (AllReadyH.cons rfl (fun K hK => ?_) AllReadyH.nil)
    go_simp
    refine hK.out _ _ HS (fun _ => ?_)
    clear hK K
    refine wpAnyH_ready (rs := [6]) (by kernel_rfl) (by simp) (AllReadyH.cons rfl (fun K hK => ?_) AllReadyH.nil)
    go_simp
    refine (crem (crcRun x pre) u.toNat (w.heap.size + 1) W.drew hy u.toNat_lt H.out.tab).mono ?_
    rintro e w3 ⟨rfl, ht3, hk3⟩
    have n3 : w1.heap.size ∉ [w.heap.size + 1] := by rw [List.mem_singleton]; omega
    have z2 : w1.heap.size < W.heap.size := lt_of_cell c3
    have wd3 := WordAt.keep (w := W.drew) H.out.word hk3 n1
    have c6 := wd3.cell hs
    have f6 := wd3.free
    have c7 := (hk3.cell (p := ⟨w.heap.size, 0, none⟩) z1 n2).trans c2
    have c8 := (hk3.cell (p := ⟨w1.heap.size, 0, none⟩) z2 n3).trans c3
    refine hK.out _ _ ⟨c7, c8⟩ (fun HS3 => ?_)
    clear hK K
    refine wpAnyH_ready (rs := [7]) (by kernel_rfl) (by simp) (AllReadyH.cons rfl (fun K hK => ?_) AllReadyH.nil)
    go_simp
    refine hK.out _ _ HS3 (fun _ => ?_)
    clear hK K
    refine wpAnyH_ready (rs := [8]) (by kernel_rfl) (by simp) (AllReadyH.cons rfl (fun K hK => ?_) AllReadyH.nil)
    go_simp
    refine hK.out _ _ ⟨(World.cell?_setCell_far w3 ⟨p, 0, none⟩ ⟨w.heap.size, 0, none⟩ _ (by show p ≠ w.heap.size; omega)).trans c7, (World.cell?_setCell_far w3 ⟨p, 0, none⟩ ⟨w1.heap.size, 0, none⟩ _ (by show p ≠ w1.heap.size; omega)).trans c8⟩ (fun HS4 => ?_)
    clear hK K
    refine wpAnyH_done (by kernel_rfl) ?_ _
    have hk4 : KBut w.heap.size p W w3 := ⟨hk3.os, hk3.tape, hk3.output, hk3.size, fun k hk _ => hk3.block k (show k < W.heap.size by omega) (by rw [List.mem_singleton]; omega)⟩
    have hk5 : KBut w.heap.size p w3 (w3.setCell ⟨p, 0, none⟩ (.int .u32 (crcStep (crcRun x pre) u.toNat : Nat))) := KBut.of_keeps (n := w.heap.size) (p := p) ((Keeps.refl [p] w3).setCell (.inl (by simp)) _) (by have := hk4.size; omega) (by simp)
    show KeepsOthers W (w3.setCell ⟨p, 0, none⟩ (.int .u32 (crcStep (crcRun x pre) u.toNat : Nat))) ∧ KBut w.heap.size p W (w3.setCell ⟨p, 0, none⟩ (.int .u32 (crcStep (crcRun x pre) u.toNat : Nat))) ∧ PI w (w3.setCell ⟨p, 0, none⟩ (.int .u32 (crcStep (crcRun x pre) u.toNat : Nat))) p w.heap.size (w.heap.size + 1) w1.heap.size cs t (crcRun x (pre ++ [u]))
    refine ⟨?_, hk4.trans hk5, ?_⟩
    · exact (KeepsOthers.of_keeps (w := W) ⟨hk3.os, hk3.tape, hk3.output, hk3.size, hk3.block⟩ H.out.tab).trans (KeepsOthers.setCell _ _ _)
    · rw [crcRun_snoc]
      exact ⟨wd3.set _, HS4.1, HS4.2, ht3.keep ((Keeps.refl [p] w3).setCell (.inl (by simp)) _) (by rw [List.mem_singleton]; omega), H.out.but.trans (hk4.trans hk5)⟩
  case done =>
    rintro D ys W hD rfl h hK
    gi_wp2
    refine ⟨by simp, .inl ⟨_, _, rfl, run_takeDeferred hK, ?_⟩⟩
    refine ⟨_, results_none rfl _ _ _, ⟨_, rfl⟩, ?_, ?_⟩
    · have : p ≠ D := by omega
      exact (World.putObj_heap_other this).trans h.word
    · exact (h.but.trans (KBut.putObj (w := w) (Nat.le_refl _) W D _ _ (by omega) hK rfl rfl)).keeps
  case stop =>
    rintro D c pre W _ _ h _
    exact h.elim

end Go.Proofs.YthgpjlmdllihmaaGreat
/- crc's Sum. -/
namespace Go.Proofs.YthgpjlmdllihmaaGreat
open Go.RowKit
set_option linter.unusedVariables false

theorem ones_xor {x : Nat} (h : x < 4294967296) : 4294967295 ^^^ x = 4294967295 - x := by
  refine Nat.eq_of_testBit_eq fun i => ?_
  rw [Nat.testBit_xor, show (4294967295 : Nat) = 2 ^ 32 - 1 from rfl, Nat.testBit_two_pow_sub_one, show 2 ^ 32 - 1 - x = 2 ^ 32 - (x + 1) by omega, Nat.testBit_two_pow_sub_succ h]
  by_cases hi : i < 32
  · simp [hi]
  · have : x.testBit i = false := Nat.testBit_lt_two_pow (Nat.lt_of_lt_of_le h (Nat.pow_le_pow_right (show 0 < 2 by decide) (by omega : 32 ≤ i)))
    simp [hi, this]

theorem ones_bits {x : Nat} (h : x < 4294967296) : bits .xor .u32 IntKind.u32.max (x : Int) = ((4294967295 - x : Nat) : Int) := by
  have := u32_xor_nat 4294967295 x (by decide) h
  rw [ones_xor h] at this
  exact this

theorem cturned (p x : Nat) (cs : Array Value) (t : TypeId) (w : World) (hs : 0 < cs.size) (hw : WordAt w p cs t x) (hx : x < 4294967296) : Calls Tryz.prog 129 #[.pointer (some ⟨p, 0, none⟩)] w fun e w' => e = .returned (.int .u32 ((4294967295 - x : Nat) : Int)) ∧ w = w' := by
  have c0 := hw.cell hs
  have f0 := hw.free
  have b0 := ones_bits hx
  clear hw
  go_enter Tryz.func129, Tryz.ntmps129
  go_wp2_with fail
  go_ret
  exact ⟨by rw [← b0]; rfl, rfl⟩

theorem csum : SumOk := by
  intro A len c l w hl h20 h3
  have hPI : Hid (PartsIn (w.heap.size + 1) w.heap.size (w.alloc (.cells #[.int .u32 4294967295] 176)) A len l) := by
    have h1 := (hl.keep ((Keeps.refl [] w).alloc (.cells #[.int .u32 4294967295] 176))).in (p := w.heap.size) (fun hp b o hb => ?_) (fun x hx h0 b hb => ?_)
    · rw [World.size_alloc] at h1
      exact h1
    · obtain ⟨b', o', g1, g2, _⟩ := hl.at_ 0 _ (List.getElem?_eq_getElem hp)
      rw [hb] at g1
      injection g1 with g1
      injection g1 with g1
      subst g1
      have := lt_of_cell g2
      simp at this
      omega
    · obtain ⟨i, hi⟩ := List.mem_iff_getElem?.1 hx
      obtain ⟨b', o', g1, g2, g3, _⟩ := hl.at_ i _ hi
      have := g3.lt h0 b hb
      omega
  have hW : Hid (WordAt (w.alloc (.cells #[.int .u32 4294967295] 176)) w.heap.size #[.int .u32 4294967295] 176 4294967295) := heap_alloc_new' w _
  have hk0 : Keeps [] w (w.alloc (.cells #[.int .u32 4294967295] 176)) := (Keeps.refl [] w).alloc _
  have hps : (w.alloc (.cells #[.int .u32 4294967295] 176)).heap.size = w.heap.size + 1 := World.size_alloc ..
  have PS := Lib.hid (cpass A len c w.heap.size 4294967295 l #[.int .u32 4294967295] 176 (w.alloc (.cells #[.int .u32 4294967295] 176)) (by omega) (by decide) (by decide) hW.out (by rw [hps]; exact hPI.out))
  have HK0 := Lib.hid hk0
  clear hk0 hps
  go_enter Tryz.func123, Tryz.ntmps123
  go_wp2_with fail
  refine PS.out.mono ?_
  rintro e w1 ⟨⟨v, rfl⟩, hw1, hk1⟩
  have HW1 := Lib.hid hw1
  have HK1 : Hid (Keeps [] w w1) := HK0.out.trans hk1 (fun y hy => .inr (by rw [List.mem_singleton] at hy; omega))
  clear hw1 hk1 PS
  go_wp2_with fail
  refine (cturned w.heap.size _ _ _ w1 (by decide) HW1.out (crcRun_lt (by decide) _)).mono ?_
  rintro e w' ⟨rfl, rfl⟩
  go_wp2_with fail
  go_ret
  exact ⟨rfl, HK1.out⟩

theorem cstep : StepOk := fun a b w ha hb => (cstep2 a b w ha hb).mono fun e w' ⟨h1, h2⟩ => ⟨h1, h2 ▸ Keeps.refl _ _⟩

end Go.Proofs.YthgpjlmdllihmaaGreat
