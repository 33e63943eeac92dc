/- Texts of one proof, laid together: W24 W25. -/
import Derived.Test.YtfjlcfbomlfpfaaDoorM83
/- entry: Same; walked. -/
namespace Go.Proofs.YtfjlcfbomlfpfaaDoor
open Go.RowKit Go.Shelf
set_option linter.unusedVariables false
set_option linter.unusedSimpArgs false
set_option maxRecDepth 100000

theorem ents_take_eq {l m : List Att} {j : Nat} {x y : Att} (hx : l[j]? = some x) (hy : m[j]? = some y) (h : l.take j = m.take j) (he : (x == y) = true) : l.take (j + 1) = m.take (j + 1) := by
  rw [List.take_add_one, List.take_add_one, hx, hy, h]
  have : x = y := by simpa using he
  rw [this]
theorem ents_ne {l m : List Att} {j : Nat} {x y : Att} (hx : l[j]? = some x) (hy : m[j]? = some y) (he : (x == y) = false) : (l == m) = false := by
  rw [beq_eq_false_iff_ne]
  intro h
  rw [h, hy] at hx
  injection hx with hx
  rw [hx] at he
  simp at he

end Go.Proofs.YtfjlcfbomlfpfaaDoor
/- entry: Copy; walked. -/
namespace Go.Proofs.YtfjlcfbomlfpfaaDoor
open Go.RowKit Go.Shelf
set_option linter.unusedVariables false
set_option linter.unusedSimpArgs false
set_option maxRecDepth 100000

theorem atCells_app (l m : List At7) : atCells (l ++ m) = atCells l ++ atCells m := by simp [atCells]
theorem EntIn.src {w : World} {A : Option Addr} {n : Nat} {l : List At7} (h : EntIn w A n l) : Src w A n (atCells l) := by
  refine ⟨fun hA => ?_, fun ad hA j u hu => ?_⟩
  · rcases Nat.eq_zero_or_pos n with h0 | h0
    · exact h0
    · obtain ⟨b, o, e, _⟩ := h.2.2 h0
      rw [hA] at e
      cases e
  · have hj : j < l.length * 2 := by
      rw [← atCells_len]
      exact (List.getElem?_eq_some_iff.1 hu).1
    have hp : 0 < n := by rw [← h.1]; omega
    obtain ⟨b, o, e, hc⟩ := h.2.2 hp
    rw [hA] at e
    injection e with e
    obtain ⟨x, hx⟩ : ∃ x, l[j / 2]? = some x := ⟨_, List.getElem?_eq_getElem (by omega)⟩
    obtain ⟨c0, c1⟩ := hc (j / 2) x hx
    obtain ⟨d0, d1⟩ := atCells_at l (j / 2) x hx
    rw [e, add_at]
    rcases Nat.mod_two_eq_zero_or_one j with h2 | h2
    · rw [show j / 2 * 2 = j by omega] at c0 d0
      rw [d0] at hu
      injection hu with hu
      rw [← hu]
      exact c0
    · rw [Nat.add_assoc, show j / 2 * 2 + 1 = j by omega] at c1
      rw [show j / 2 * 2 + 1 = j by omega] at d1
      rw [d1] at hu
      injection hu with hu
      rw [← hu]
      exact c1
theorem atCells_one (l : List At7) : ∀ u ∈ atCells l, u.oneCell' = true := by
  intro u hu
  unfold atCells at hu
  obtain ⟨a, _, ha⟩ := List.mem_flatMap.1 hu
  simp at ha
  rcases ha with rfl | rfl <;> rfl
/-- What a round of Copy's loop finds: so many have Values of their own. -/
structure CopS (w wr : World) (A : Option Addr) (n c : Nat) (l N : List At7) (j : Nat) : Prop where
  row : wr.ownsRow w.heap.size 27 2 (.slice A n c) n (atCells (N ++ l.drop j))
  len : N.length = j
  ents : ents N = ents (l.take j)
  rows : ∀ a ∈ N, RowOk wr w.heap.size a
  keep : Keeps [] w wr
theorem set_val (N r : List At7) (x : At7) (v : At7) (hv : v.name = x.name) : (atCells (N ++ x :: r)).set (N.length * 2 + 1) v.val = atCells (N ++ v :: r) := by
  rw [atCells_app, atCells_app, List.set_append_right _ _ (by rw [atCells_len]; omega), atCells_len]
  rw [show N.length * 2 + 1 - N.length * 2 = 1 by omega]
  show _ = atCells N ++ (tv v.name :: v.val :: atCells r)
  rw [hv]
  rfl
theorem set_other_row {w : World} {base g off : Nat} {a : At7} {cs : Array Value} (h : RowOk w base a) (hg : w.heap[g]? = some (.cells cs 27 (0, 0))) (u : Value) : RowOk (w.setCell ⟨g, off, none⟩ u) base a := by
  refine h.keep (bs := [g]) ((Keeps.refl [g] w).setCell (p := ⟨g, off, none⟩) (.inl (by simp)) u) (fun b hb hm => ?_)
  obtain ⟨cs', h4⟩ := own_cells h.row b hb
  rw [List.mem_singleton.1 hm, hg] at h4
  injection h4 with h4
  injection h4 with _ h4 _
  exact absurd h4 (by decide)
def CopQ (l : List At7) (w : World) (e : Ending) (w' : World) : Prop :=
  ∃ A n c L, e = .returned (.slice A n c) ∧ ents L = ents l ∧ L.length = n ∧ w'.ownsRow w.heap.size 27 2 (.slice A n c) n (atCells L) ∧ (∀ a ∈ L, RowOk w' w.heap.size a) ∧ Keeps [] w w'

end Go.Proofs.YtfjlcfbomlfpfaaDoor
