import Derived.Test.YtfiknidoihlkfaaGreatZNx
import Derived.Deep.RegionLaw
open Go.Proofs.Tryz
namespace Go.Proofs.YtfiknidoihlkfaaGreat
open Go.RowKit
set_option maxHeartbeats 0
set_option maxRecDepth 100000
set_option linter.all false
theorem Io:(prog.info? 24).map (λi=>(i.zero,i.size,i.bytes))=some (some (.slice none 0 0),1,24):=by kernel_rfl
theorem DC:(prog.info? 4).map (λi=>(i.zero,i.size,i.bytes))=some (some (.bool false),1,1):=by kernel_rfl
end Go.Proofs.YtfiknidoihlkfaaGreat
