/- Parts, added up. -/
import Derived.Test.YtkcoiplhopdnlaaK6
namespace Go.Proofs.Ytkcoiplhopdnlaa
open Go.RowKit
set_option linter.unusedVariables false

theorem u8_of : (Try.prog.info? 5).map (fun i => (i.zero, i.size, i.bytes)) = some (some (.int .u8 0), 1, 1) := by kernel_rfl

theorem total_le {l : List Part} (j : Nat) : total (l.take j) ≤ total l := by
  have : total l = total (l.take j) + total (l.drop j) := by
    unfold total
    rw [← List.sum_append, ← List.map_append, List.take_append_drop]
  omega

theorem flat_len (l : List Part) : (l.flatMap fun x => x.bs).length = total l := by
  simp [total, List.length_flatMap]

end Go.Proofs.Ytkcoiplhopdnlaa
