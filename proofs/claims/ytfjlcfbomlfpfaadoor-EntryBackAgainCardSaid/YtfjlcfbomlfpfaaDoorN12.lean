
/- dn: the document's letter; walked (where there is no more of dn's reference). -/
import Derived.Test.YtfjlcfbomlfpfaaDoorN3
namespace Go.Proofs.YtfjlcfbomlfpfaaDoor
open Go.RowKit Go.Shelf
set_option linter.unusedVariables false
set_option linter.unusedSimpArgs false
set_option maxRecDepth 100000

/-- A plain letter, small or great. -/
def letr1 (c : UInt8) : Bool := (decide (65 ≤ c.toNat) && decide (c.toNat ≤ 90)) || (decide (97 ≤ c.toNat) && decide (c.toNat ≤ 122))
end Go.Proofs.YtfjlcfbomlfpfaaDoor
