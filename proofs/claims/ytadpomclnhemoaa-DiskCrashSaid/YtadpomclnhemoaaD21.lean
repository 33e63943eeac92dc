/- A row of calls that came in, opened. -/
import Derived.Test.YtadpomclnhemoaaD20
namespace Go.Proofs.Ytadpomclnhemoaa
open Go.RowKit Go.ChangeShapes Go.WideShapes Go.Deep
set_option linter.unusedVariables false

theorem cellsAct : Try.prog.cellsOf 40 = 6 := by kernel_rfl
theorem cellsInt : Try.prog.cellsOf 3 = 1 := by kernel_rfl
theorem cellsBytes : Try.prog.cellsOf 29 = 1 := by kernel_rfl
theorem cellsCrash : Try.prog.cellsOf 38 = 2 := by kernel_rfl

theorem six {α : Type} {l : List α} (h : l.length = 6) : ∃ a b c d e f, l = [a, b, c, d, e, f] := by
  match l, h with
  | [a, b, c, d, e, f], _ => exact ⟨a, b, c, d, e, f, rfl⟩

theorem i64_of_wf {x : Int} (h : (Lit.int .i64 x).wf = true) : i64 x := by
  unfold i64
  simpa [Lit.wf, IntKind.min, IntKind.max, IntKind.signed, IntKind.bits] using h

section
variable {H : Type} {enc : TypeId × Value → H} {W : World} {base : Nat} {sp : Nat → Bool} {hd : Bool}

theorem act_of_trod {fuel : Nat} {cs : List Value} {y : DataW H × List MemPlace} (h : DataW.trod enc Try.prog W base sp hd fuel 40 cs = some y) :
    ∃ x : ActD, cs = [.int .i64 x.kind, .int .i64 x.at_, .int .i64 x.n, .slice x.A x.bs.length x.c, .int .i64 x.keep, .int .i64 x.torn] ∧ BytesAt W (.slice x.A x.bs.length x.c) x.bs ∧ x.bs.length ≤ 9223372036854775807 ∧ i64 x.kind ∧ i64 x.at_ ∧ i64 x.n ∧ i64 x.keep ∧ i64 x.torn := by
  obtain ⟨xs, m, _, _, hlen, hxl, hf⟩ := DataW.trod_struct Try.underlying40 h
  have hxl5 : xs.length = 5 := hxl
  rw [cellsAct] at hlen
  obtain ⟨v0, v1, v2, v3, v4, v5, rfl⟩ := six hlen
  have hint : ∀ {v : Value} {z : Option (DataW H × List MemPlace)} (hz : z ≠ none), DataW.trod enc Try.prog W base sp hd m 3 [v] = z → ∃ a : Int, v = .int .i64 a ∧ i64 a := by
    intro v z hz ht
    cases z with
    | none => exact absurd rfl hz
    | some z =>
      obtain ⟨a, ha, _, hw⟩ := DataW.trod_int Try.underlying3 ht
      injection ha with ha _
      exact ⟨a, ha, i64_of_wf hw⟩
  have hx : ∀ j, j < 5 → xs[j]? ≠ none := by
    intro j hj
    rw [List.getElem?_eq_getElem (by omega)]
    simp
  have f0 : DataW.trod enc Try.prog W base sp hd m 3 (([v0, v1, v2, v3, v4, v5].drop 0).take (Try.prog.cellsOf 3)) = xs[0]? := hf 0 _ rfl
  have f1 : DataW.trod enc Try.prog W base sp hd m 3 (([v0, v1, v2, v3, v4, v5].drop 1).take (Try.prog.cellsOf 3)) = xs[1]? := hf 1 _ rfl
  have f2 : DataW.trod enc Try.prog W base sp hd m 3 (([v0, v1, v2, v3, v4, v5].drop 2).take (Try.prog.cellsOf 3)) = xs[2]? := hf 2 _ rfl
  have f3 : DataW.trod enc Try.prog W base sp hd m 29 (([v0, v1, v2, v3, v4, v5].drop 3).take (Try.prog.cellsOf 29)) = xs[3]? := hf 3 _ rfl
  have f4 : DataW.trod enc Try.prog W base sp hd m 38 (([v0, v1, v2, v3, v4, v5].drop 4).take (Try.prog.cellsOf 38)) = xs[4]? := hf 4 _ rfl
  rw [cellsInt] at f0 f1 f2
  rw [cellsBytes] at f3
  rw [cellsCrash] at f4
  simp only [List.drop_zero, List.drop_succ_cons, List.take_succ_cons, List.take_zero] at f0 f1 f2 f3 f4
  obtain ⟨a0, rfl, i0⟩ := hint (hx 0 (by omega)) f0
  obtain ⟨a1, rfl, i1⟩ := hint (hx 1 (by omega)) f1
  obtain ⟨a2, rfl, i2⟩ := hint (hx 2 (by omega)) f2
  have h3 : ∃ y3, xs[3]? = some y3 := Option.isSome_iff_exists.1 (Option.isSome_iff_ne_none.2 (hx 3 (by omega)))
  obtain ⟨y3, hy3⟩ := h3
  rw [hy3] at f3
  obtain ⟨A, len, c, bs, hv, hb, hB, hl⟩ := bytes_of_trod f3
  subst hb
  have hv' : v3 = .slice A bs.length c := hv
  subst hv'
  have h4 : ∃ y4, xs[4]? = some y4 := Option.isSome_iff_exists.1 (Option.isSome_iff_ne_none.2 (hx 4 (by omega)))
  obtain ⟨y4, hy4⟩ := h4
  rw [hy4] at f4
  obtain ⟨zs, m', _, _, hlen4, hzl, hf4⟩ := DataW.trod_struct Try.underlying38 f4
  have hzl2 : zs.length = 2 := hzl
  have g0 : DataW.trod enc Try.prog W base sp hd m' 3 (([v4, v5].drop 0).take (Try.prog.cellsOf 3)) = zs[0]? := hf4 0 _ rfl
  have g1 : DataW.trod enc Try.prog W base sp hd m' 3 (([v4, v5].drop 1).take (Try.prog.cellsOf 3)) = zs[1]? := hf4 1 _ rfl
  rw [cellsInt] at g0 g1
  simp only [List.drop_zero, List.drop_succ_cons, List.take_succ_cons, List.take_zero] at g0 g1
  have hzx : ∀ j, j < 2 → ∃ z, zs[j]? = some z := by
    intro j hj
    exact ⟨zs[j]'(by omega), List.getElem?_eq_getElem (by omega)⟩
  obtain ⟨z0, hz0⟩ := hzx 0 (by omega)
  obtain ⟨z1, hz1⟩ := hzx 1 (by omega)
  rw [hz0] at g0
  rw [hz1] at g1
  obtain ⟨a4, e4, _, w4⟩ := DataW.trod_int Try.underlying3 g0
  obtain ⟨a5, e5, _, w5⟩ := DataW.trod_int Try.underlying3 g1
  have e4' : v4 = .int .i64 a4 := by simpa using e4
  have e5' : v5 = .int .i64 a5 := by simpa using e5
  subst e4'
  subst e5'
  exact ⟨⟨a0, a1, a2, A, c, bs, a4, a5⟩, rfl, hB, hl, i0, i1, i2, i64_of_wf w4, i64_of_wf w5⟩

theorem acts_of_trod {fuel : Nat} {v : Value} {y : DataW H × List MemPlace} (h : DataW.trod enc Try.prog W base sp hd fuel 22 [v] = some y) :
    ∃ (A : Option Addr) (len cap : Nat) (l : List ActD), v = .slice A len cap ∧ ActsAt W A len l ∧ len ≤ 9223372036854775807 := by
  rcases open_slice Try.underlying22 h with ⟨hcs, _⟩ | ⟨a, len, cap, m, n, D, Pl, hcs, _, hl, hm, hmm, _, hx⟩
  · injection hcs with hcs _
    exact ⟨none, 0, 0, [], hcs, ⟨rfl, fun i x h => by simp at h⟩, by omega⟩
  · injection hcs with hcs _
    have hml : len ≤ m := by rw [hmm]; split <;> omega
    have hsp0 : 0 < len → a = ⟨a.block, a.off, none⟩ := by
      intro h0
      obtain ⟨cs', hc, ht⟩ := hx 0 (by omega)
      rw [cellsAct, Nat.zero_mul] at hc
      obtain ⟨x, rfl, _⟩ := act_of_trod ht
      obtain ⟨_, _, hcell⟩ := World.cells?_some hc
      have h1 := hcell 0 (by omega)
      rw [show a.add 0 = a from by unfold Addr.add; simp] at h1
      exact addr_of_cell h1
    have hone : ∀ i, i < len → ∃ x : ActD, ActOk W a.block (a.off + i * 6) x ∧ a = ⟨a.block, a.off, none⟩ := by
      intro i hi
      obtain ⟨cs', hc, ht⟩ := hx i (by omega)
      rw [cellsAct] at hc
      obtain ⟨x, rfl, hB, hbl, i0, i1, i2, i4, i5⟩ := act_of_trod ht
      obtain ⟨_, _, hcell⟩ := World.cells?_some hc
      have hsp := hsp0 (by omega)
      have hadd : ∀ j, (a.add (i * 6)).add j = ⟨a.block, a.off + i * 6 + j, none⟩ := by
        intro j
        rw [hsp, add_at, add_at]
      have hc' : ∀ j, j < 6 → W.cell? ⟨a.block, a.off + i * 6 + j, none⟩ = [Value.int .i64 x.kind, .int .i64 x.at_, .int .i64 x.n, .slice x.A x.bs.length x.c, .int .i64 x.keep, .int .i64 x.torn][j]? := by
        intro j hj
        rw [← hadd j]
        exact hcell j hj
      exact ⟨x, ⟨hc' 0 (by omega), hc' 1 (by omega), hc' 2 (by omega), hc' 3 (by omega), hc' 4 (by omega), hc' 5 (by omega), hB, hbl, i0, i1, i2, i4, i5⟩, hsp⟩
    obtain ⟨X, hX⟩ := choose_lt (α := ActD) (p := fun i x => ActOk W a.block (a.off + i * 6) x ∧ a = ⟨a.block, a.off, none⟩) hone
    refine ⟨some a, len, cap, (List.range len).map X, hcs, ⟨by simp, fun i x hi => ?_⟩, by unfold maxLen at hm; omega⟩
    have hil : i < len := by
      have := (List.getElem?_eq_some_iff.1 hi).1
      simpa using this
    rw [List.getElem?_map, List.getElem?_range hil] at hi
    injection hi with hi
    obtain ⟨h1, h2⟩ := hX i hil
    have h1' : ActOk W a.block (a.off + i * 6) (X i) := h1
    rw [show X i = x from hi] at h1'
    exact ⟨a.block, a.off, by rw [← h2], h1'⟩
end

end Go.Proofs.Ytadpomclnhemoaa
