/- The contract of digit.withoutZeros. -/
import Derived.Test.YtpkjnkcdajngkaaA
import Derived.Deep.LoopGhost
import Derived.Deep.WholeRow
import Derived.OwnWalk
import Derived.WalkKit
import Derived.WalkSmall
namespace Go.Proofs.Ytpkjnkcdajngkaa
open Go.RowKit

theorem info3 : (Try.prog.info? 3).map (fun i => (i.zero, i.size, i.bytes)) = some (some (.int .i64 0), 1, 8) := by kernel_rfl

end Go.Proofs.Ytpkjnkcdajngkaa
