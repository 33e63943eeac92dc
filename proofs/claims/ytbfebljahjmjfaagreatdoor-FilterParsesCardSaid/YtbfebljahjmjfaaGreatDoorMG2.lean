/- Texts of one proof, laid together: F2. -/
import Derived.Test.YtbfebljahjmjfaaGreatDoorME2
import Derived.Test.YtbfebljahjmjfaaGreatDoorME1
import Derived.Test.YtbfebljahjmjfaaGreatDoorO1
import Derived.Test.YtbfebljahjmjfaaGreatDoorL8
import Derived.ProofKit
import Derived.Deep.Slices
import Derived.OpenShut
/- filter: filters that came in, opened as trees. -/
namespace Go.Proofs.YtbfebljahjmjfaaGreatDoor
open Go.RowKit Go.Shelf Go.ChangeShapes Go.WideShapes Go.Deep
set_option linter.unusedVariables false
set_option linter.unusedSimpArgs false
set_option maxRecDepth 100000

theorem cellsFil : Tryz.prog.cellsOf 26 = 4 := by kernel_rfl
theorem cellsKindF : Tryz.prog.cellsOf 23 = 1 := by kernel_rfl
theorem cellsStrF : Tryz.prog.cellsOf 9 = 1 := by kernel_rfl
theorem cellsFilsF : Tryz.prog.cellsOf 24 = 1 := by kernel_rfl
theorem l4f {α : Type} {l : List α} (h : l.length = 4) : ∃ a b c d, l = [a, b, c, d] := by
  match l, h with
  | [a, b, c, d], _ => exact ⟨a, b, c, d, rfl⟩

section
variable {H : Type} {enc : TypeId × Value → H} {W : World} {base : Nat} {sp : Nat → Bool} {hd : Bool}

/-- A row of filters that came in, each opened. -/
theorem filsrow_of {fuel : Nat} (ih : ∀ f, f < fuel → ∀ (cs : List Value) (y : DataW H × List MemPlace), DataW.trod enc Tryz.prog W base sp hd f 26 cs = some y → ∃ (t : FV) (h : FH), cs = h.list ∧ FilAt W t h)
    {v : Value} {y : DataW H × List MemPlace} (h : DataW.trod enc Tryz.prog W base sp hd fuel 24 [v] = some y) :
    ∃ (B : Option Addr) (lb cb : Nat) (l : List FV), v = .slice B lb cb ∧ l.length = lb ∧ lb ≤ cb ∧ cb ≤ 9223372036854775807 ∧ FilsAt W B 0 l := by
  rcases DataW.trod_slice Tryz.underlying24 h with ⟨hcs, _⟩ | ⟨a, len, cap, elems, rest, n, rfl, hcs, _, hb, hl, hm, hlen, hel, _⟩
  · injection hcs with hcs _
    exact ⟨none, 0, 0, [], hcs, rfl, Nat.le_refl _, Nat.zero_le _, trivial⟩
  · injection hcs with hcs _
    have hone : ∀ i, ∃ th : FV × FH, i < len → (∀ j, j < 4 → W.cell? ((a.add (i * 4)).add j) = th.2.list[j]?) ∧ FilAt W th.1 th.2 := by
      intro i
      by_cases hi : i < len
      · have h1 := hel i hi
        rw [cellsFil] at h1
        rcases hc : W.cells? base (a.add (i * 4)) 4 with _ | cs'
        · rw [hc] at h1
          have : elems[i]? = some (elems[i]'(by omega)) := List.getElem?_eq_getElem _
          rw [this] at h1
          cases h1
        · rw [hc] at h1
          have h2 : elems[i]? = some (elems[i]'(by omega)) := List.getElem?_eq_getElem _
          rw [h2] at h1
          obtain ⟨t, hh, rfl, ht⟩ := ih n (by omega) cs' _ h1
          obtain ⟨_, _, h3⟩ := World.cells?_some hc
          exact ⟨(t, hh), fun _ => ⟨h3, ht⟩⟩
      · exact ⟨(.mk 0 [] [] [], ⟨0, none, 0, 0, [], []⟩), fun h => absurd h hi⟩
    obtain ⟨F, hF⟩ := Classical.axiomOfChoice hone
    have hll : ((List.range len).map fun i => (F i).1).length = len := by simp
    refine ⟨some a, len, cap, (List.range len).map fun i => (F i).1, hcs, hll, hl, by unfold maxLen at hm; omega, fils_of fun j t ht => ?_⟩
    have hj : j < len := by
      have := (List.getElem?_eq_some_iff.1 ht).1
      simpa using this
    rw [List.getElem?_map, List.getElem?_range hj] at ht
    injection ht with ht
    obtain ⟨h1, h2⟩ := hF j hj
    have hsp : a = ⟨a.block, a.off, none⟩ := by
      obtain ⟨h3, _⟩ := hF 0 (by omega)
      have h4 := h3 0 (by omega)
      have h5 : (F 0).2.list[0]? = some (.int .i64 (F 0).2.k) := rfl
      rw [h5, show (a.add (0 * 4)).add 0 = a from by unfold Addr.add; simp] at h4
      exact addr_of_cell (by rw [show a.add 0 = a from by unfold Addr.add; simp]; exact h4)
    refine ⟨a.block, a.off, (F j).2, by rw [← hsp], fun q u hu => ?_, by rw [← show (F j).1 = t from ht]; exact h2⟩
    have hq : q < 4 := (List.getElem?_eq_some_iff.1 hu).1
    have h3 := h1 q hq
    rw [hsp, add_at, add_at] at h3
    rw [Nat.zero_add, h3]
    exact hu

/-- A filter that came in is a tree. -/
theorem fil_of_trod : ∀ (fuel : Nat) (cs : List Value) (y : DataW H × List MemPlace), DataW.trod enc Tryz.prog W base sp hd fuel 26 cs = some y → ∃ (t : FV) (h : FH), cs = h.list ∧ FilAt W t h := by
  intro fuel
  induction fuel using Nat.strongRecOn with
  | ind fuel ih =>
    intro cs y h
    obtain ⟨xs, m, rfl, _, hlen, hxl, hf⟩ := DataW.trod_struct Tryz.underlying26 h
    have hxl4 : xs.length = 4 := hxl
    rw [cellsFil] at hlen
    obtain ⟨v0, v1, v2, v3, rfl⟩ := l4f hlen
    have hx : ∀ j, j < 4 → ∃ z, xs[j]? = some z := fun j hj => ⟨_, List.getElem?_eq_getElem (by omega)⟩
    have f0 : DataW.trod enc Tryz.prog W base sp hd m 23 (([v0, v1, v2, v3].drop 0).take (Tryz.prog.cellsOf 23)) = xs[0]? := hf 0 _ rfl
    have f1 : DataW.trod enc Tryz.prog W base sp hd m 24 (([v0, v1, v2, v3].drop 1).take (Tryz.prog.cellsOf 24)) = xs[1]? := hf 1 _ rfl
    have f2 : DataW.trod enc Tryz.prog W base sp hd m 9 (([v0, v1, v2, v3].drop 2).take (Tryz.prog.cellsOf 9)) = xs[2]? := hf 2 _ rfl
    have f3 : DataW.trod enc Tryz.prog W base sp hd m 9 (([v0, v1, v2, v3].drop 3).take (Tryz.prog.cellsOf 9)) = xs[3]? := hf 3 _ rfl
    rw [cellsKindF] at f0
    rw [cellsFilsF] at f1
    rw [cellsStrF] at f2 f3
    simp only [List.drop_zero, List.drop_succ_cons, List.take_succ_cons, List.take_zero] at f0 f1 f2 f3
    obtain ⟨z0, e0⟩ := hx 0 (by omega)
    obtain ⟨z1, e1⟩ := hx 1 (by omega)
    obtain ⟨z2, e2⟩ := hx 2 (by omega)
    obtain ⟨z3, e3⟩ := hx 3 (by omega)
    rw [e0] at f0
    rw [e1] at f1
    rw [e2] at f2
    rw [e3] at f3
    obtain ⟨a0, h0, _, w0⟩ := DataW.trod_int Tryz.underlying23 f0
    obtain ⟨B, lb, cb, l, rfl, hl1, hl2, hl3, hl4⟩ := filsrow_of (fun f hf => ih f (by omega)) f1
    obtain ⟨s1, h2, _, x2⟩ := DataW.trod_string Tryz.underlying9 f2
    obtain ⟨s2, h3, _, x3⟩ := DataW.trod_string Tryz.underlying9 f3
    injection h0 with h0 _
    injection h2 with h2 _
    injection h3 with h3 _
    subst h0 h2 h3
    have wk := i64_wf w0
    have y2 : s1.data.toList.length ≤ 9223372036854775807 := by rw [Array.length_toList]; exact x2
    have y3 : s2.data.toList.length ≤ 9223372036854775807 := by rw [Array.length_toList]; exact x3
    refine ⟨.mk a0 l s1.data.toList s2.data.toList, ⟨a0, B, lb, cb, s1.data.toList, s2.data.toList⟩, ?_, rfl, rfl, rfl, wk.1, wk.2, y2, y3, hl1, hl2, hl3, hl4⟩
    obtain ⟨⟨_⟩⟩ := s1
    obtain ⟨⟨_⟩⟩ := s2
    rfl
/-- A filter as an argument. -/
theorem open_fil {b0 : Nat} {r : Reach} {v : Value} {d : DataW H} {p : List MemPlace} (hv : Value.okWide Tryz.prog W r b0 26 v) (h : DataW.Trod enc Tryz.prog W base sp hd 26 v d p) : ∃ (t : FV) (h : FH), v = h.val ∧ FilAt W t h := by
  obtain ⟨cs, rfl, hsz⟩ := okWide_struct Tryz.underlying26 hv
  rw [cellsFil] at hsz
  obtain ⟨c0, c1, c2, c3, rfl⟩ : ∃ a b c d, cs = #[a, b, c, d] := by
    match cs, hsz with
    | ⟨[a, b, c, d]⟩, _ => exact ⟨a, b, c, d, rfl⟩
  obtain ⟨fuel, hf⟩ := h
  obtain ⟨t, hh, hx, hin⟩ := fil_of_trod fuel [c0, c1, c2, c3] _ hf
  refine ⟨t, hh, ?_, hin⟩
  simp only [FH.list, List.cons.injEq, and_true] at hx
  obtain ⟨rfl, rfl, rfl, rfl⟩ := hx
  rfl
end

end Go.Proofs.YtbfebljahjmjfaaGreatDoor
