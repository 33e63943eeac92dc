/- Rows of bytes that came in, opened. -/
import Derived.Test.YtkcoiplhopdnlaaK7
import Derived.Test.YtkcoiplhopdnlaaO1
namespace Go.Proofs.Ytkcoiplhopdnlaa
open Go.RowKit Go.ChangeShapes Go.WideShapes Go.Deep
set_option linter.unusedVariables false

theorem pick_lt {α : Type} {n : Nat} {p : Nat → α → Prop} [Inhabited α] (h : ∀ i, i < n → ∃ x, p i x) : ∃ X : Nat → α, ∀ i, i < n → p i (X i) :=
  ⟨fun i => if hi : i < n then (h i hi).choose else default, fun i hi => by simp only [dif_pos hi]; exact (h i hi).choose_spec⟩

instance : Inhabited Part := ⟨⟨none, 0, []⟩⟩

section
variable {H : Type} {enc : TypeId × Value → H} {W : World} {base : Nat} {sp : Nat → Bool} {hd : Bool}

theorem parts_of_trod {fuel : Nat} {v : Value} {y : DataW H × List MemPlace} (h : DataW.trod enc Try.prog W base sp hd fuel 22 [v] = some y) :
    ∃ (A : Option Addr) (len cap : Nat) (l : List Part), v = .slice A len cap ∧ PartsAt W A len l ∧ len ≤ cap ∧ cap ≤ 9223372036854775807 := by
  rcases open_slice1 Try.underlying22 (by kernel_rfl) h with ⟨hcs, _⟩ | ⟨a, len, cap, m, n, V, D, Pl, hcs, _, hl, hm, hmm, _, hx⟩
  · injection hcs with hcs _
    exact ⟨none, 0, 0, [], hcs, ⟨rfl, fun i x h => by simp at h⟩, by omega, by omega⟩
  · injection hcs with hcs _
    have hml : len ≤ m := by rw [hmm]; split <;> omega
    have hone : ∀ i, i < len → ∃ x : Part, W.cell? ⟨a.block, a.off + i, none⟩ = some (.slice x.A x.bs.length x.c) ∧ BytesAt W (.slice x.A x.bs.length x.c) x.bs ∧ x.bs.length ≤ 9223372036854775807 ∧ a = ⟨a.block, a.off, none⟩ := by
      intro i hi
      obtain ⟨hc0, ht0⟩ := hx 0 (by omega)
      obtain ⟨hc, ht⟩ := hx i (by omega)
      have ha := addr_of_cell hc0
      obtain ⟨A, ln, c, bs, hv, hb, hB, hbl⟩ := bytes_of_trod ht
      subst hb
      refine ⟨⟨A, c, bs⟩, ?_, hB, hbl, ha⟩
      rw [ha, add_at] at hc
      rw [hc, hv]
    obtain ⟨X, hX⟩ := pick_lt (α := Part) hone
    refine ⟨some a, len, cap, (List.range len).map X, hcs, ⟨by simp, fun i x hi => ?_⟩, hl, by unfold maxLen at hm; omega⟩
    have hil : i < len := by
      have := (List.getElem?_eq_some_iff.1 hi).1
      simpa using this
    rw [List.getElem?_map, List.getElem?_range hil] at hi
    injection hi with hi
    obtain ⟨h1, h2, h3, h4⟩ := hX i hil
    rw [show X i = x from hi] at h1 h2 h3
    exact ⟨a.block, a.off, by rw [← h4], h1, h2, h3⟩
end

end Go.Proofs.Ytkcoiplhopdnlaa
