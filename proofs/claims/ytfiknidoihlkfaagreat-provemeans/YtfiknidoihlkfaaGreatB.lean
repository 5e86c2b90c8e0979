import Derived.Test.YtfiknidoihlkfaaGreatZA
import Derived.WalkSmall
open Go.Proofs.Tryz
namespace Go.Proofs.YtfiknidoihlkfaaGreat
open Go.RowKit
set_option maxHeartbeats 0
set_option maxRecDepth 100000
set_option linter.all false
theorem Bu{l m:zI}(h:l.length=m.length)(z: ∀j,j<l.length->l.getD j 0=m.getD j 0):l=m:=by apply List.ext_getElem h;intro i h1 h2;have:=z i h1;simpa[List.getD,h1,h2]using this
end Go.Proofs.YtfiknidoihlkfaaGreat
