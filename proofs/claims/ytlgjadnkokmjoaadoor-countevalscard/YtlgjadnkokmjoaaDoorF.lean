/- The contract of digit.withoutZeros. -/
import Derived.Test.YtlgjadnkokmjoaaDoorA
import Derived.Test.YtlgjadnkokmjoaaDoorM
import Derived.Test.YtlgjadnkokmjoaaDoorN
import Derived.Deep.LoopGhost
import Derived.Deep.WholeRow
import Derived.OwnWalk
import Derived.WalkKit
import Derived.WalkSmall
namespace Go.Proofs.YtlgjadnkokmjoaaDoor
open Go.RowKit

theorem info3 : (Tryd.prog.info? 3).map (fun i => (i.zero, i.size, i.bytes)) = some (some (.int .i64 0), 1, 8) := by kernel_rfl

end Go.Proofs.YtlgjadnkokmjoaaDoor
