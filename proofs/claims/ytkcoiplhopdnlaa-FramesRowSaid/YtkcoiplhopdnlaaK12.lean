/- The bytes of parts. -/
import Derived.Test.YtkcoiplhopdnlaaK9
namespace Go.Proofs.Ytkcoiplhopdnlaa
open Go.RowKit
set_option linter.unusedVariables false

abbrev flat (l : List Part) : List UInt8 := l.flatMap fun x => x.bs

theorem flat_snoc {l : List Part} {j : Nat} {x : Part} (h : l.take (j + 1) = l.take j ++ [x]) : flat (l.take (j + 1)) = flat (l.take j) ++ x.bs := by
  rw [h]
  simp [flat]

end Go.Proofs.Ytkcoiplhopdnlaa
