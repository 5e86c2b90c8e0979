import Derived.Test.YtceojneljnnooaaGreatZLp
import Derived.Test.YtceojneljnnooaaGreatBk
open Go.Proofs.Tryz
namespace Go.Proofs.YtceojneljnnooaaGreat
open Go.RowKit
set_option maxHeartbeats 0
set_option maxRecDepth 100000
set_option linter.all false
def uG(w:zW)(b t:Int)(N:zL)(E:zB)(e:Ending)(w':zW):Prop:=
 ∃a c a' c',e=.returned (.agg #[.int .i64 b,.int .i64 t,.slice a N.length c,.slice a' N.length c'])/\dS w a N.length N a' E w'/\Below w.heap.size w w'
end Go.Proofs.YtceojneljnnooaaGreat
