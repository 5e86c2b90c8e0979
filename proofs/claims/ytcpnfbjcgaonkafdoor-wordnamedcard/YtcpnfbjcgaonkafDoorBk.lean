/- The reference's Shrunk: its rounds. -/
import Derived.Test.YtcpnfbjcgaonkafDoorAc
import Derived.Test.YtcpnfbjcgaonkafDoorAm
import Derived.Deep.AppendLies
import Derived.Deep.LoopGhost
import Derived.Deep.RegionLaw
namespace Go.Proofs.YtcpnfbjcgaonkafDoor
open Go.RowKit

theorem infoS2 : (Tryd.prog.info? 23).map (fun i => (i.zero, i.size, i.bytes)) = some (some (.slice none 0 0), 1, 24) := by kernel_rfl
end Go.Proofs.YtcpnfbjcgaonkafDoor
