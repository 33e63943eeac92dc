
/- bytes.Clone (the disk's D2, for a seat that has no disk). -/
import Derived.Test.YtebocagkpkpghaaGreatDoorProg
import Derived.Test.YtebocagkpkpghaaGreatDoorG1
import Derived.Deep.RegionLaw
import Derived.Lib.SlBytesRow
namespace Go.Proofs.YtebocagkpkpghaaGreatDoor
open Go.RowKit
set_option linter.unusedVariables false

theorem u8_info : (Tryz.prog.info? 5).map (fun i => (i.zero, i.size, i.bytes)) = some (some (.int .u8 0), 1, 1) := by kernel_rfl

end Go.Proofs.YtebocagkpkpghaaGreatDoor
