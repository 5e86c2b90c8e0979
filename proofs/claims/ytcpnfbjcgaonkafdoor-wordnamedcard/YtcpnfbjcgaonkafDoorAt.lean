/- The iterator of auto.met: a queue of its own, and which states were seen; its word. -/
import Derived.Test.YtcpnfbjcgaonkafDoorAc
import Derived.ArgAppend
import Derived.LoopIn
import Derived.LoopNIn
import Derived.OwnWalkIn
import Derived.RangeFuncBound
import Derived.RangeFuncCalls
import Derived.RangeFuncLeaves
import Derived.RangeFuncNested
import Derived.Shelf.Abstract
import Derived.Shelf.RegionOpen
import Derived.Sort.LoopGhostIn
import Derived.TacticsInMore
import Derived.WalkKit
namespace Go.Proofs.YtcpnfbjcgaonkafDoor
open Go.RowKit Go.Shelf
attribute [local go_sem] Oper.semAt_some

def X3 (Bn S b : Nat) (r : Nat) : Prop := r = Bn ∨ r = S ∨ r = b

end Go.Proofs.YtcpnfbjcgaonkafDoor
