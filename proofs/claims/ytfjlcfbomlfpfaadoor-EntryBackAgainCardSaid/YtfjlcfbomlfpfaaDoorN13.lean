
/- dn: the document's Name; walked. -/
import Derived.Test.YtfjlcfbomlfpfaaDoorN12
import Derived.Test.YtfjlcfbomlfpfaaDoorN6
namespace Go.Proofs.YtfjlcfbomlfpfaaDoor
open Go.RowKit Go.Shelf
set_option linter.unusedVariables false
set_option linter.unusedSimpArgs false
set_option maxRecDepth 100000

/-- What may stand in a name, in whatever letters. -/
def nam1 (c : UInt8) : Bool := letr1 c || (decide (48 ≤ c.toNat) && decide (c.toNat ≤ 57)) || decide (c.toNat = 45)
def nameT (s : List UInt8) : Bool := decide (1 ≤ s.length) && (decide (s.length ≤ 64) && ((s.head?.map letr1).getD false && s.all nam1))

end Go.Proofs.YtfjlcfbomlfpfaaDoor
