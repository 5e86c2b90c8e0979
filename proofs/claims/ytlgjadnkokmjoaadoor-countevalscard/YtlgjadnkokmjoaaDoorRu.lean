/- Package digit's contracts, whatever is handed in: one a function. -/
import Derived.Test.YtlgjadnkokmjoaaDoorA
import Derived.Test.YtlgjadnkokmjoaaDoorF
import Derived.Test.YtlgjadnkokmjoaaDoorM
import Derived.Test.YtlgjadnkokmjoaaDoorN
import Derived.Test.YtlgjadnkokmjoaaDoorU
import Derived.Deep.LoopGhost
import Derived.Deep.WholeRow
import Derived.RegionTactic
import Derived.WalkKit
import Derived.WalkSmall
namespace Go.Proofs.YtlgjadnkokmjoaaDoor
open Go.RowKit

def errV (c : Int) : Value := if c = 0 then .nilIface else .iface 26 (.int .i64 c)
end Go.Proofs.YtlgjadnkokmjoaaDoor
