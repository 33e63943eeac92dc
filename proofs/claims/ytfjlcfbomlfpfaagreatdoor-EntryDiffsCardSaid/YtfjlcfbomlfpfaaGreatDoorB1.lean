
/- bytes.Clone (the disk's D2, for a seat that has no disk). -/
import Derived.Test.YtfjlcfbomlfpfaaGreatDoorProg
import Derived.Test.YtfjlcfbomlfpfaaGreatDoorG1
import Derived.Deep.RegionLaw
import Derived.Lib.SlBytesRow
namespace Go.Proofs.YtfjlcfbomlfpfaaGreatDoor
open Go.RowKit
set_option linter.unusedVariables false

theorem u8_info : (Tryz.prog.info? 5).map (fun i => (i.zero, i.size, i.bytes)) = some (some (.int .u8 0), 1, 1) := by kernel_rfl

end Go.Proofs.YtfjlcfbomlfpfaaGreatDoor
