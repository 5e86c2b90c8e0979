/- Package digit's contracts, whatever is handed in: one a function. -/
import Derived.Test.YtihhlddbppljpabDoorA
import Derived.Test.YtihhlddbppljpabDoorU
import Derived.Deep.LoopGhost
import Derived.Deep.WholeRow
import Derived.OwnWalk
import Derived.RegionTactic
import Derived.WalkKit
import Derived.WalkSmall
namespace Go.Proofs.YtihhlddbppljpabDoor
open Go.RowKit

def errV (c : Int) : Value := if c = 0 then .nilIface else .iface 27 (.int .i64 c)
end Go.Proofs.YtihhlddbppljpabDoor
