/- FramesLeft: every input. -/
import Derived.Test.YtaifchikjnnppaaQ13
namespace Go.Proofs.Ytaifchikjnnppaa
open Go.RowKit Go.Shelf
set_option linter.unusedVariables false

theorem left_row (A : Option Addr) (len c : Nat) (l : List Part) (nn : Int) (w : World) (hl : PartsAt w A len l) (h1 : len ≤ c) (h2 : c ≤ 9223372036854775807) : Calls Try.prog 7 #[.slice A len c, .int .i64 nn] w fun e w' => e = .returned (.bool true) ∧ Below w.heap.size w w' := by
  have out : (fewR l = false ∨ (fewR l = true ∧ nn < 0)) → Calls Try.prog 7 #[.slice A len c, .int .i64 nn] w fun e w' => e = .returned (.bool true) ∧ Below w.heap.size w w' := fun h =>
    (left_out A len c nn l w hl (by omega) h).mono fun e w' ⟨h1, h2⟩ => ⟨h1, h2.below (Nat.le_refl _) (by simp)⟩
  cases hf : fewR l
  · exact out (.inl hf)
  · by_cases h5 : nn < 0
    · exact out (.inr ⟨hf, h5⟩)
    · exact left_in A len c nn l w hl (by omega) hf (by omega)

end Go.Proofs.Ytaifchikjnnppaa
