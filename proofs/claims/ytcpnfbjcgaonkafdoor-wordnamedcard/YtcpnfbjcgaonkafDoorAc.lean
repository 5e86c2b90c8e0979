/- The contract of auto.Check. -/
import Derived.Test.YtcpnfbjcgaonkafDoorAm
import Derived.Test.YtcpnfbjcgaonkafDoorNx
namespace Go.Proofs.YtcpnfbjcgaonkafDoor
open Go.RowKit

theorem errV_no {c : Int} (h : c ≠ 0) : errV c = .iface 26 (.int .i64 c) := by unfold errV; rw [if_neg h]
end Go.Proofs.YtcpnfbjcgaonkafDoor
