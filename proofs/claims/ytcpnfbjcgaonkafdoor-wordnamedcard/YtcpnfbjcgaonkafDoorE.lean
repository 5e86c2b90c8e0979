/- The contracts of digit.Right and digit.Less. -/
import Derived.Test.YtcpnfbjcgaonkafDoorD
namespace Go.Proofs.YtcpnfbjcgaonkafDoor
open Go.RowKit

def rightB (b : Int) (l : List Int) : Bool := b != 1 || !onesB l

end Go.Proofs.YtcpnfbjcgaonkafDoor
