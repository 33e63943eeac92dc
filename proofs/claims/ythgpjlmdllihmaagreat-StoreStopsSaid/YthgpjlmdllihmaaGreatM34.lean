/- Texts of one proof, laid together: U44. -/
import Derived.Test.YthgpjlmdllihmaaGreatM29
import Derived.Test.YthgpjlmdllihmaaGreatM01
import Derived.ProofKit
import Derived.Deep.Grids
import Derived.Deep.Slices
import Derived.Lib.SmallJoins
import Derived.OpenShut
/- The statements' acts, opened: changes, acts, as the walks take them. -/
namespace Go.Proofs.YthgpjlmdllihmaaGreat
open Go.RowKit Go.ChangeShapes Go.WideShapes Go.Deep
set_option linter.unusedVariables false
set_option maxRecDepth 100000

instance : Inhabited Chg := ⟨⟨[], [], false⟩⟩

theorem cellsChange : Tryz.prog.cellsOf 50 = 3 := by kernel_rfl
theorem cellsAct4 : Tryz.prog.cellsOf 27 = 5 := by kernel_rfl
theorem cellsInt4 : Tryz.prog.cellsOf 3 = 1 := by kernel_rfl
theorem cellsStr4 : Tryz.prog.cellsOf 9 = 1 := by kernel_rfl
theorem cellsBool4 : Tryz.prog.cellsOf 4 = 1 := by kernel_rfl
theorem cellsChanges4 : Tryz.prog.cellsOf 23 = 1 := by kernel_rfl
theorem cellsCrash4 : Tryz.prog.cellsOf 25 = 2 := by kernel_rfl

theorem l3 {α : Type} {l : List α} (h : l.length = 3) : ∃ a b c, l = [a, b, c] := by
  match l, h with
  | [a, b, c], _ => exact ⟨a, b, c, rfl⟩
theorem l5 {α : Type} {l : List α} (h : l.length = 5) : ∃ a b c d e, l = [a, b, c, d, e] := by
  match l, h with
  | [a, b, c, d, e], _ => exact ⟨a, b, c, d, e, rfl⟩

abbrev I64 (x : Int) : Prop := -9223372036854775808 ≤ x ∧ x ≤ 9223372036854775807
theorem I64.of_wf {x : Int} (h : (Lit.int .i64 x).wf = true) : I64 x := by
  unfold I64
  simpa [Lit.wf, IntKind.min, IntKind.max, IntKind.signed, IntKind.bits] using h

/-- An act. -/
structure Act4 where
  kind : Int
  n : Int
  A : Option Addr
  c : Nat
  l : List Chg
  keep : Int
  torn : Int
instance : Inhabited Act4 := ⟨⟨0, 0, none, 0, [], 0, 0⟩⟩
def Act4.val (x : Act4) : Value := .agg #[.int .i64 x.kind, .int .i64 x.n, .slice x.A x.l.length x.c, .int .i64 x.keep, .int .i64 x.torn]

/-- What an act's own parts are. -/
structure Act4In (w : World) (x : Act4) : Prop where
  chgs : ChgsAt w x.A x.l.length x.l
  len : x.l.length ≤ 9223372036854775807
  i0 : I64 x.kind
  i1 : I64 x.n
  i3 : I64 x.keep
  i4 : I64 x.torn

structure Act4Ok (w : World) (b o : Nat) (x : Act4) : Prop where
  c0 : w.cell? ⟨b, o, none⟩ = some (.int .i64 x.kind)
  c1 : w.cell? ⟨b, o + 1, none⟩ = some (.int .i64 x.n)
  c2 : w.cell? ⟨b, o + 2, none⟩ = some (.slice x.A x.l.length x.c)
  c3 : w.cell? ⟨b, o + 3, none⟩ = some (.int .i64 x.keep)
  c4 : w.cell? ⟨b, o + 4, none⟩ = some (.int .i64 x.torn)
  in_ : Act4In w x

structure Acts4 (w : World) (A : Option Addr) (len : Nat) (l : List Act4) : Prop where
  len : l.length = len
  at_ : ∀ i x, l[i]? = some x → ∃ b o, A = some ⟨b, o, none⟩ ∧ Act4Ok w b (o + i * 5) x

theorem Act4In.grow {w w' : World} {x : Act4} (h : Act4In w x) (hk : Keeps [] w w') : Act4In w' x := ⟨h.chgs.grow hk, h.len, h.i0, h.i1, h.i3, h.i4⟩
theorem Act4Ok.grow {w w' : World} {b o : Nat} {x : Act4} (h : Act4Ok w b o x) (hk : Keeps [] w w') : Act4Ok w' b o x := by
  have hc : ∀ {i : Nat} {v : Value}, w.cell? ⟨b, i, none⟩ = some v → w'.cell? ⟨b, i, none⟩ = some v := fun hp => (hk.cell (lt_of_cell hp) (by simp)).trans hp
  exact ⟨hc h.c0, hc h.c1, hc h.c2, hc h.c3, hc h.c4, h.in_.grow hk⟩
theorem Acts4.grow {w w' : World} {A : Option Addr} {len : Nat} {l : List Act4} (h : Acts4 w A len l) (hk : Keeps [] w w') : Acts4 w' A len l := by
  refine ⟨h.len, fun i x hx => ?_⟩
  obtain ⟨b, o, h1, h2⟩ := h.at_ i x hx
  exact ⟨b, o, h1, h2.grow hk⟩

section
variable {H : Type} {enc : TypeId × Value → H} {W : World} {base : Nat} {sp : Nat → Bool} {hd : Bool}

theorem str_of_trod {m : Nat} {v : Value} {z : DataW H × List MemPlace} (h : DataW.trod enc Tryz.prog W base sp hd m 9 [v] = some z) : ∃ k : List UInt8, v = sv k ∧ k.length ≤ 9223372036854775807 := by
  obtain ⟨s, h1, _, h2⟩ := DataW.trod_string Tryz.underlying9 h
  injection h1 with h1 _
  subst h1
  refine ⟨s.data.toList, ?_, ?_⟩
  · obtain ⟨⟨_⟩⟩ := s
    rfl
  · rw [Array.length_toList]
    exact h2

theorem chg_of_trod {fuel : Nat} {cs : List Value} {y : DataW H × List MemPlace} (h : DataW.trod enc Tryz.prog W base sp hd fuel 50 cs = some y) :
    ∃ x : Chg, cs = [sv x.k, sv x.v, .bool x.g] ∧ x.k.length ≤ 9223372036854775807 ∧ x.v.length ≤ 9223372036854775807 := by
  obtain ⟨xs, m, _, _, hlen, hxl, hf⟩ := DataW.trod_struct Tryz.underlying50 h
  have hxl3 : xs.length = 3 := hxl
  rw [cellsChange] at hlen
  obtain ⟨v0, v1, v2, rfl⟩ := l3 hlen
  have hx : ∀ j, j < 3 → ∃ z, xs[j]? = some z := fun j hj => ⟨_, List.getElem?_eq_getElem (by omega)⟩
  have f0 : DataW.trod enc Tryz.prog W base sp hd m 9 (([v0, v1, v2].drop 0).take (Tryz.prog.cellsOf 9)) = xs[0]? := hf 0 _ rfl
  have f1 : DataW.trod enc Tryz.prog W base sp hd m 9 (([v0, v1, v2].drop 1).take (Tryz.prog.cellsOf 9)) = xs[1]? := hf 1 _ rfl
  have f2 : DataW.trod enc Tryz.prog W base sp hd m 4 (([v0, v1, v2].drop 2).take (Tryz.prog.cellsOf 4)) = xs[2]? := hf 2 _ rfl
  rw [cellsStr4] at f0 f1
  rw [cellsBool4] at f2
  simp only [List.drop_zero, List.drop_succ_cons, List.take_succ_cons, List.take_zero] at f0 f1 f2
  obtain ⟨z0, e0⟩ := hx 0 (by omega)
  obtain ⟨z1, e1⟩ := hx 1 (by omega)
  obtain ⟨z2, e2⟩ := hx 2 (by omega)
  rw [e0] at f0
  rw [e1] at f1
  rw [e2] at f2
  obtain ⟨k, rfl, hk⟩ := str_of_trod f0
  obtain ⟨v, rfl, hv⟩ := str_of_trod f1
  obtain ⟨g, hg, _⟩ := DataW.trod_bool Tryz.underlying4 f2
  injection hg with hg _
  subst hg
  exact ⟨⟨k, v, g⟩, rfl, hk, hv⟩

theorem chgs_of_trod {fuel : Nat} {v : Value} {y : DataW H × List MemPlace} (h : DataW.trod enc Tryz.prog W base sp hd fuel 23 [v] = some y) :
    ∃ (A : Option Addr) (cap : Nat) (l : List Chg), v = .slice A l.length cap ∧ ChgsAt W A l.length l ∧ l.length ≤ 9223372036854775807 := by
  rcases open_slice Tryz.underlying23 h with ⟨hcs, _⟩ | ⟨a, len, cap, m, n, D, Pl, hcs, _, hl, hm, hmm, _, hx⟩
  · injection hcs with hcs _
    exact ⟨none, 0, [], hcs, ⟨rfl, fun i x h => by simp at h⟩, by simp⟩
  · injection hcs with hcs _
    have hml : len ≤ m := by rw [hmm]; split <;> omega
    have hone0 : ∀ i, i < len → ∃ x : Chg, (∀ j, j < 3 → W.cell? ((a.add (i * 3)).add j) = [sv x.k, sv x.v, .bool x.g][j]?) ∧ x.k.length ≤ 9223372036854775807 ∧ x.v.length ≤ 9223372036854775807 := by
      intro i hi
      obtain ⟨cs', hc, ht⟩ := hx i (by omega)
      rw [cellsChange] at hc
      obtain ⟨x, rfl, h1, h2⟩ := chg_of_trod ht
      obtain ⟨_, _, hcell⟩ := World.cells?_some hc
      exact ⟨x, fun j hj => hcell j hj, h1, h2⟩
    have hsp0 : 0 < len → a = ⟨a.block, a.off, none⟩ := by
      intro h0
      obtain ⟨x, hcell, _⟩ := hone0 0 h0
      have h1 := hcell 0 (by omega)
      rw [show (a.add (0 * 3)).add 0 = a from by unfold Addr.add; simp] at h1
      exact addr_of_cell h1
    have hone : ∀ i, i < len → ∃ x : Chg, ChgOk W a.block (a.off + i * 3) x ∧ a = ⟨a.block, a.off, none⟩ := by
      intro i hi
      obtain ⟨x, hcell, h1, h2⟩ := hone0 i hi
      have hsp := hsp0 (by omega)
      have hadd : ∀ j, (a.add (i * 3)).add j = ⟨a.block, a.off + i * 3 + j, none⟩ := by
        intro j
        rw [hsp, add_at, add_at]
      have hc' : ∀ j, j < 3 → W.cell? ⟨a.block, a.off + i * 3 + j, none⟩ = [sv x.k, sv x.v, .bool x.g][j]? := by
        intro j hj
        rw [← hadd j]
        exact hcell j hj
      exact ⟨x, ⟨hc' 0 (by omega), hc' 1 (by omega), hc' 2 (by omega), h1, h2⟩, hsp⟩
    obtain ⟨X, hX⟩ := choose_lt (α := Chg) (p := fun i x => ChgOk W a.block (a.off + i * 3) x ∧ a = ⟨a.block, a.off, none⟩) hone
    have hll : ((List.range len).map X).length = len := by simp
    refine ⟨some a, cap, (List.range len).map X, by rw [hll]; exact hcs, ⟨rfl, fun i x hi => ?_⟩, by rw [hll]; unfold maxLen at hm; omega⟩
    have hil : i < len := by
      have := (List.getElem?_eq_some_iff.1 hi).1
      simpa using this
    rw [List.getElem?_map, List.getElem?_range hil] at hi
    injection hi with hi
    obtain ⟨h1, h2⟩ := hX i hil
    have h1' : ChgOk W a.block (a.off + i * 3) (X i) := h1
    rw [show X i = x from hi] at h1'
    exact ⟨a.block, a.off, by rw [← h2], h1'⟩

theorem act4_of_trod {fuel : Nat} {cs : List Value} {y : DataW H × List MemPlace} (h : DataW.trod enc Tryz.prog W base sp hd fuel 27 cs = some y) :
    ∃ x : Act4, cs = [.int .i64 x.kind, .int .i64 x.n, .slice x.A x.l.length x.c, .int .i64 x.keep, .int .i64 x.torn] ∧ Act4In W x := by
  obtain ⟨xs, m, _, _, hlen, hxl, hf⟩ := DataW.trod_struct Tryz.underlying27 h
  have hxl4 : xs.length = 4 := hxl
  rw [cellsAct4] at hlen
  obtain ⟨v0, v1, v2, v3, v4, rfl⟩ := l5 hlen
  have hint : ∀ {m : Nat} {v : Value} {z : DataW H × List MemPlace}, DataW.trod enc Tryz.prog W base sp hd m 3 [v] = some z → ∃ a : Int, v = .int .i64 a ∧ I64 a := by
    intro m v z ht
    obtain ⟨a, ha, _, hw⟩ := DataW.trod_int Tryz.underlying3 ht
    injection ha with ha _
    exact ⟨a, ha, I64.of_wf hw⟩
  have hx : ∀ j, j < 4 → ∃ z, xs[j]? = some z := fun j hj => ⟨_, List.getElem?_eq_getElem (by omega)⟩
  have f0 : DataW.trod enc Tryz.prog W base sp hd m 3 (([v0, v1, v2, v3, v4].drop 0).take (Tryz.prog.cellsOf 3)) = xs[0]? := hf 0 _ rfl
  have f1 : DataW.trod enc Tryz.prog W base sp hd m 3 (([v0, v1, v2, v3, v4].drop 1).take (Tryz.prog.cellsOf 3)) = xs[1]? := hf 1 _ rfl
  have f2 : DataW.trod enc Tryz.prog W base sp hd m 23 (([v0, v1, v2, v3, v4].drop 2).take (Tryz.prog.cellsOf 23)) = xs[2]? := hf 2 _ rfl
  have f3 : DataW.trod enc Tryz.prog W base sp hd m 25 (([v0, v1, v2, v3, v4].drop 3).take (Tryz.prog.cellsOf 25)) = xs[3]? := hf 3 _ rfl
  rw [cellsInt4] at f0 f1
  rw [cellsChanges4] at f2
  rw [cellsCrash4] at f3
  simp only [List.drop_zero, List.drop_succ_cons, List.take_succ_cons, List.take_zero] at f0 f1 f2 f3
  obtain ⟨z0, e0⟩ := hx 0 (by omega)
  obtain ⟨z1, e1⟩ := hx 1 (by omega)
  obtain ⟨z2, e2⟩ := hx 2 (by omega)
  obtain ⟨z3, e3⟩ := hx 3 (by omega)
  rw [e0] at f0
  rw [e1] at f1
  rw [e2] at f2
  rw [e3] at f3
  obtain ⟨a0, rfl, i0⟩ := hint f0
  obtain ⟨a1, rfl, i1⟩ := hint f1
  obtain ⟨A, c, l, rfl, hl, hb⟩ := chgs_of_trod f2
  obtain ⟨zs, m', _, _, hlen4, hzl, hf4⟩ := DataW.trod_struct Tryz.underlying25 f3
  have hzl2 : zs.length = 2 := hzl
  have g0 : DataW.trod enc Tryz.prog W base sp hd m' 3 (([v3, v4].drop 0).take (Tryz.prog.cellsOf 3)) = zs[0]? := hf4 0 _ rfl
  have g1 : DataW.trod enc Tryz.prog W base sp hd m' 3 (([v3, v4].drop 1).take (Tryz.prog.cellsOf 3)) = zs[1]? := hf4 1 _ rfl
  rw [cellsInt4] at g0 g1
  simp only [List.drop_zero, List.drop_succ_cons, List.take_succ_cons, List.take_zero] at g0 g1
  have hzx : ∀ j, j < 2 → ∃ z, zs[j]? = some z := fun j hj => ⟨_, List.getElem?_eq_getElem (by omega)⟩
  obtain ⟨y0, hy0⟩ := hzx 0 (by omega)
  obtain ⟨y1, hy1⟩ := hzx 1 (by omega)
  rw [hy0] at g0
  rw [hy1] at g1
  obtain ⟨a3, rfl, i3⟩ := hint g0
  obtain ⟨a4, rfl, i4⟩ := hint g1
  exact ⟨⟨a0, a1, A, c, l, a3, a4⟩, rfl, ⟨hl, hb, i0, i1, i3, i4⟩⟩

theorem acts4_of_trod {fuel : Nat} {v : Value} {y : DataW H × List MemPlace} (h : DataW.trod enc Tryz.prog W base sp hd fuel 22 [v] = some y) :
    ∃ (A : Option Addr) (cap : Nat) (l : List Act4), v = .slice A l.length cap ∧ Acts4 W A l.length l ∧ l.length ≤ 9223372036854775807 := by
  rcases open_slice Tryz.underlying22 h with ⟨hcs, _⟩ | ⟨a, len, cap, m, n, D, Pl, hcs, _, hl, hm, hmm, _, hx⟩
  · injection hcs with hcs _
    exact ⟨none, 0, [], hcs, ⟨rfl, fun i x h => by simp at h⟩, by simp⟩
  · injection hcs with hcs _
    have hml : len ≤ m := by rw [hmm]; split <;> omega
    have hone0 : ∀ i, i < len → ∃ x : Act4, (∀ j, j < 5 → W.cell? ((a.add (i * 5)).add j) = [Value.int .i64 x.kind, .int .i64 x.n, .slice x.A x.l.length x.c, .int .i64 x.keep, .int .i64 x.torn][j]?) ∧ Act4In W x := by
      intro i hi
      obtain ⟨cs', hc, ht⟩ := hx i (by omega)
      rw [cellsAct4] at hc
      obtain ⟨x, rfl, h1⟩ := act4_of_trod ht
      obtain ⟨_, _, hcell⟩ := World.cells?_some hc
      exact ⟨x, fun j hj => hcell j hj, h1⟩
    have hsp0 : 0 < len → a = ⟨a.block, a.off, none⟩ := by
      intro h0
      obtain ⟨x, hcell, _⟩ := hone0 0 h0
      have h1 := hcell 0 (by omega)
      rw [show (a.add (0 * 5)).add 0 = a from by unfold Addr.add; simp] at h1
      exact addr_of_cell h1
    have hone : ∀ i, i < len → ∃ x : Act4, Act4Ok W a.block (a.off + i * 5) x ∧ a = ⟨a.block, a.off, none⟩ := by
      intro i hi
      obtain ⟨x, hcell, h1⟩ := hone0 i hi
      have hsp := hsp0 (by omega)
      have hadd : ∀ j, (a.add (i * 5)).add j = ⟨a.block, a.off + i * 5 + j, none⟩ := by
        intro j
        rw [hsp, add_at, add_at]
      have hc' : ∀ j, j < 5 → W.cell? ⟨a.block, a.off + i * 5 + j, none⟩ = [Value.int .i64 x.kind, .int .i64 x.n, .slice x.A x.l.length x.c, .int .i64 x.keep, .int .i64 x.torn][j]? := by
        intro j hj
        rw [← hadd j]
        exact hcell j hj
      exact ⟨x, ⟨hc' 0 (by omega), hc' 1 (by omega), hc' 2 (by omega), hc' 3 (by omega), hc' 4 (by omega), h1⟩, hsp⟩
    obtain ⟨X, hX⟩ := choose_lt (α := Act4) (p := fun i x => Act4Ok W a.block (a.off + i * 5) x ∧ a = ⟨a.block, a.off, none⟩) hone
    have hll : ((List.range len).map X).length = len := by simp
    refine ⟨some a, cap, (List.range len).map X, by rw [hll]; exact hcs, ⟨rfl, fun i x hi => ?_⟩, by rw [hll]; unfold maxLen at hm; omega⟩
    have hil : i < len := by
      have := (List.getElem?_eq_some_iff.1 hi).1
      simpa using this
    rw [List.getElem?_map, List.getElem?_range hil] at hi
    injection hi with hi
    obtain ⟨h1, h2⟩ := hX i hil
    have h1' : Act4Ok W a.block (a.off + i * 5) (X i) := h1
    rw [show X i = x from hi] at h1'
    exact ⟨a.block, a.off, by rw [← h2], h1'⟩
end

end Go.Proofs.YthgpjlmdllihmaaGreat
