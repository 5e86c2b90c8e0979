/- letter.apart, whatever is handed in; letter.Right and letter.Nums by it. -/
import Derived.Test.YtcpnfbjcgaonkafDoorNx
namespace Go.Proofs.YtcpnfbjcgaonkafDoor
open Go.RowKit

theorem errV_ne {c : Int} (h : c ≠ 0) : errV c = .iface 26 (.int .i64 c) := by unfold errV; rw [if_neg h]
theorem errV_zero : errV 0 = .nilIface := rfl

end Go.Proofs.YtcpnfbjcgaonkafDoor
