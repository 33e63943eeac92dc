/- Texts of one proof, laid together: W36. -/
import Derived.Test.YtoggddoeanfjeaaGreatDoorM72
import Derived.Test.YtoggddoeanfjeaaGreatDoorO1
import Derived.ProofKit
import Derived.Deep.Grids
import Derived.Deep.Slices
import Derived.Lib.SmallJoins
import Derived.OpenShut
/- entry: entries among a law's arguments, opened. -/
namespace Go.Proofs.YtoggddoeanfjeaaGreatDoor
open Go.RowKit Go.ChangeShapes Go.WideShapes Go.Deep
set_option linter.unusedVariables false
set_option maxRecDepth 100000

theorem cellsAttr7 : Tryz.prog.cellsOf 55 = 3 - 1 := by kernel_rfl
theorem cellsStr7 : Tryz.prog.cellsOf 9 = 1 := by kernel_rfl
theorem cellsStrs7 : Tryz.prog.cellsOf 53 = 1 := by kernel_rfl
instance : Inhabited At7 := ⟨⟨[], none, 0, 0, []⟩⟩

section
variable {H : Type} {enc : TypeId × Value → H} {W : World} {base : Nat} {sp : Nat → Bool} {hd : Bool}

theorem str7_of_trod {m : Nat} {v : Value} {z : DataW H × List MemPlace} (h : DataW.trod enc Tryz.prog W base sp hd m 9 [v] = some z) : ∃ k : Txt, v = tv k ∧ k.length ≤ 9223372036854775807 := by
  obtain ⟨s, h1, _, h2⟩ := DataW.trod_string Tryz.underlying9 h
  injection h1 with h1 _
  subst h1
  refine ⟨s.data.toList, ?_, ?_⟩
  · obtain ⟨⟨_⟩⟩ := s
    rfl
  · rw [Array.length_toList]
    exact h2
theorem strs_of_trod {fuel : Nat} {v : Value} {y : DataW H × List MemPlace} (h : DataW.trod enc Tryz.prog W base sp hd fuel 53 [v] = some y) :
    ∃ (A : Option Addr) (len cap : Nat) (l : List Txt), v = .slice A len cap ∧ StrsIn W A len l ∧ len ≤ cap ∧ cap ≤ 9223372036854775807 := by
  rcases open_slice Tryz.underlying53 h with ⟨hcs, _⟩ | ⟨a, len, cap, m, n, D, Pl, hcs, _, hl, hm, hmm, _, hx⟩
  · injection hcs with hcs _
    exact ⟨none, 0, 0, [], hcs, StrsIn.nil _ _, by simp⟩
  · injection hcs with hcs _
    have hml : len ≤ m := by rw [hmm]; split <;> omega
    have hone0 : ∀ i, i < len → ∃ x : Txt, W.cell? (a.add (i * 1)) = some (tv x) ∧ x.length ≤ 9223372036854775807 := by
      intro i hi
      obtain ⟨cs', hc, ht⟩ := hx i (by omega)
      rw [cellsStr7] at hc
      obtain ⟨hl9, _, hcell⟩ := World.cells?_some hc
      obtain ⟨v0, rfl⟩ : ∃ v0, cs' = [v0] := by
        match cs', hl9 with
        | [a], _ => exact ⟨a, rfl⟩
      obtain ⟨x, rfl, h1⟩ := str7_of_trod ht
      have h9 := hcell 0 (by omega)
      rw [show (a.add (i * 1)).add 0 = a.add (i * 1) from by unfold Addr.add; split <;> simp_all] at h9
      exact ⟨x, h9, h1⟩
    have hsp0 : 0 < len → a = ⟨a.block, a.off, none⟩ := by
      intro h0
      obtain ⟨x, hcell, _⟩ := hone0 0 h0
      rw [show a.add (0 * 1) = a from by unfold Addr.add; simp] at hcell
      exact addr_of_cell hcell
    have hone : ∀ i, i < len → ∃ x : Txt, W.cell? ⟨a.block, a.off + i, none⟩ = some (tv x) ∧ x.length ≤ 9223372036854775807 := by
      intro i hi
      obtain ⟨x, hcell, h1⟩ := hone0 i hi
      rw [hsp0 (by omega), add_at, Nat.mul_one] at hcell
      exact ⟨x, hcell, h1⟩
    obtain ⟨X, hX⟩ := choose_lt (α := Txt) (p := fun i x => W.cell? ⟨a.block, a.off + i, none⟩ = some (tv x) ∧ x.length ≤ 9223372036854775807) hone
    unfold maxLen at hm
    refine ⟨some a, len, cap, (List.range len).map X, hcs, ⟨by simp, fun p hp => ?_, fun h0 => ⟨a.block, a.off, by rw [← hsp0 h0], fun i p hi => ?_⟩⟩, hl, by omega⟩
    · obtain ⟨i, hi, rfl⟩ := List.mem_map.1 hp
      exact (hX i (by simpa using hi)).2
    · have hil : i < len := by
        have := (List.getElem?_eq_some_iff.1 hi).1
        simpa using this
      rw [List.getElem?_map, List.getElem?_range hil] at hi
      injection hi with hi
      subst hi
      exact (hX i hil).1
theorem attr_of_trod {fuel : Nat} {cs : List Value} {y : DataW H × List MemPlace} (h : DataW.trod enc Tryz.prog W base sp hd fuel 55 cs = some y) :
    ∃ x : At7, cs = [tv x.name, .slice x.A x.n x.c] ∧ x.fits W := by
  obtain ⟨xs, m, _, _, hlen, hxl, hf⟩ := DataW.trod_struct Tryz.underlying55 h
  have hxl3 : xs.length = 2 := hxl
  rw [cellsAttr7] at hlen
  obtain ⟨v0, v1, rfl⟩ : ∃ a b, cs = [a, b] := by
    match cs, hlen with
    | [a, b], _ => exact ⟨a, b, rfl⟩
  have hx : ∀ j, j < 2 → ∃ z, xs[j]? = some z := fun j hj => ⟨_, List.getElem?_eq_getElem (by omega)⟩
  have f0 : DataW.trod enc Tryz.prog W base sp hd m 9 (([v0, v1].drop 0).take (Tryz.prog.cellsOf 9)) = xs[0]? := hf 0 _ rfl
  have f1 : DataW.trod enc Tryz.prog W base sp hd m 53 (([v0, v1].drop 1).take (Tryz.prog.cellsOf 53)) = xs[1]? := hf 1 _ rfl
  rw [cellsStr7] at f0
  rw [cellsStrs7] at f1
  simp only [List.drop_zero, List.drop_succ_cons, List.take_succ_cons, List.take_zero] at f0 f1
  obtain ⟨z0, e0⟩ := hx 0 (by omega)
  obtain ⟨z1, e1⟩ := hx 1 (by omega)
  rw [e0] at f0
  rw [e1] at f1
  obtain ⟨k, rfl, hk⟩ := str7_of_trod f0
  obtain ⟨A, n, c, l, rfl, h1, h2, h3⟩ := strs_of_trod f1
  exact ⟨⟨k, A, n, c, l⟩, rfl, hk, h2, h3, h1⟩
theorem entry_of_trod {t : TypeId} (hT : Tryz.prog.underlying t = some (.slice 55)) {fuel : Nat} {v : Value} {y : DataW H × List MemPlace} (h : DataW.trod enc Tryz.prog W base sp hd fuel t [v] = some y) :
    ∃ (A : Option Addr) (len cap : Nat) (l : List At7), v = .slice A len cap ∧ EntIn W A len l ∧ len ≤ cap ∧ cap ≤ 9223372036854775807 := by
  rcases open_slice hT h with ⟨hcs, _⟩ | ⟨a, len, cap, m, n, D, Pl, hcs, _, hl, hm, hmm, _, hx⟩
  · injection hcs with hcs _
    exact ⟨none, 0, 0, [], hcs, ⟨rfl, (fun p hp => by cases hp), fun h => by omega⟩, by simp⟩
  · injection hcs with hcs _
    have hml : len ≤ m := by rw [hmm]; split <;> omega
    have hone0 : ∀ i, i < len → ∃ x : At7, (∀ j, j < 2 → W.cell? ((a.add (i * 2)).add j) = [tv x.name, .slice x.A x.n x.c][j]?) ∧ x.fits W := by
      intro i hi
      obtain ⟨cs', hc, ht⟩ := hx i (by omega)
      rw [cellsAttr7] at hc
      obtain ⟨x, rfl, h1⟩ := attr_of_trod ht
      obtain ⟨_, _, hcell⟩ := World.cells?_some hc
      exact ⟨x, fun j hj => hcell j hj, h1⟩
    have hsp0 : 0 < len → a = ⟨a.block, a.off, none⟩ := by
      intro h0
      obtain ⟨x, hcell, _⟩ := hone0 0 h0
      have h1 := hcell 0 (by omega)
      rw [show (a.add (0 * 2)).add 0 = a from by unfold Addr.add; simp] at h1
      exact addr_of_cell h1
    have hone : ∀ i, i < len → ∃ x : At7, W.cell? ⟨a.block, a.off + i * 2, none⟩ = some (tv x.name) ∧ W.cell? ⟨a.block, a.off + i * 2 + 1, none⟩ = some (.slice x.A x.n x.c) ∧ x.fits W := by
      intro i hi
      obtain ⟨x, hcell, h1⟩ := hone0 i hi
      have hsp := hsp0 (by omega)
      have hadd : ∀ j, (a.add (i * 2)).add j = ⟨a.block, a.off + i * 2 + j, none⟩ := by
        intro j
        rw [hsp, add_at, add_at]
      have hc' : ∀ j, j < 2 → W.cell? ⟨a.block, a.off + i * 2 + j, none⟩ = [tv x.name, .slice x.A x.n x.c][j]? := by
        intro j hj
        rw [← hadd j]
        exact hcell j hj
      exact ⟨x, hc' 0 (by omega), hc' 1 (by omega), h1⟩
    obtain ⟨X, hX⟩ := choose_lt (α := At7) (p := fun i x => W.cell? ⟨a.block, a.off + i * 2, none⟩ = some (tv x.name) ∧ W.cell? ⟨a.block, a.off + i * 2 + 1, none⟩ = some (.slice x.A x.n x.c) ∧ x.fits W) hone
    unfold maxLen at hm
    refine ⟨some a, len, cap, (List.range len).map X, hcs, ⟨by simp, fun p hp => ?_, fun h0 => ⟨a.block, a.off, by rw [← hsp0 h0], fun i p hi => ?_⟩⟩, hl, by omega⟩
    · obtain ⟨i, hi, rfl⟩ := List.mem_map.1 hp
      exact (hX i (by simpa using hi)).2.2
    · have hil : i < len := by
        have := (List.getElem?_eq_some_iff.1 hi).1
        simpa using this
      rw [List.getElem?_map, List.getElem?_range hil] at hi
      injection hi with hi
      subst hi
      exact ⟨(hX i hil).1, (hX i hil).2.1⟩
theorem open_entry {t : TypeId} (hT : Tryz.prog.underlying t = some (.slice 55)) {A0 : Option Addr} {n0 c0 : Nat} {d : DataW H} {p : List MemPlace} (h : DataW.Trod enc Tryz.prog W base sp hd t (.slice A0 n0 c0) d p) : ∃ l : List At7, EntIn W A0 n0 l ∧ n0 ≤ c0 ∧ c0 ≤ 9223372036854775807 := by
  obtain ⟨fuel, hf⟩ := h
  have hf' : DataW.trod enc Tryz.prog W base sp hd fuel t [.slice A0 n0 c0] = some (d, p) := hf
  obtain ⟨B, lb, cb, l, he, h1, h2, h3⟩ := entry_of_trod hT hf'
  injection he with e1 e2 e3
  subst e1 e2 e3
  exact ⟨l, h1, h2, h3⟩
end
end Go.Proofs.YtoggddoeanfjeaaGreatDoor
