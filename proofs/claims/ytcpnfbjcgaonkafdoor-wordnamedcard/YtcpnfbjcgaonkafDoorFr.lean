/- What the frames of all laws share: a slice of integers that came in; the handle of the type error, out of the row's condition on errors.errorType. -/
import Derived.Test.YtcpnfbjcgaonkafDoorA
import Derived.OpenShut
import Derived.ProofKit
namespace Go.Proofs.YtcpnfbjcgaonkafDoor
open Go.ChangeShapes Go.WideShapes Go.ChangeAt Go.RowKit

theorem own : ownKnob Tryd.prog.godebug = none := by kernel_rfl
end Go.Proofs.YtcpnfbjcgaonkafDoor
