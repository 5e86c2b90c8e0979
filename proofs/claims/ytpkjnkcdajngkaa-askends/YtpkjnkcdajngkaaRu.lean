/- Package digit's contracts, whatever is handed in: one a function. -/
import Derived.Test.YtpkjnkcdajngkaaA
import Derived.Test.YtpkjnkcdajngkaaF
import Derived.Test.YtpkjnkcdajngkaaU
import Derived.Deep.LoopGhost
import Derived.Deep.WholeRow
import Derived.RegionTactic
import Derived.WalkKit
import Derived.WalkSmall
namespace Go.Proofs.Ytpkjnkcdajngkaa
open Go.RowKit

def errV (c : Int) : Value := if c = 0 then .nilIface else .iface 39 (.int .i64 c)
end Go.Proofs.Ytpkjnkcdajngkaa
