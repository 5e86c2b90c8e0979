/- What package some answers: the words of its contracts. -/
import Derived.Test.YtleebojibobgaaaDoorDd
import Derived.Test.YtleebojibobgaaaDoorZGb
namespace Go.Proofs.YtleebojibobgaaaDoor
open Go.RowKit

/-- What some.Close and some.Closed answer, at whatever they are given. -/
def CloseSays : Prop := ∀ (b t : Int) (a : Option Addr) (n cap : Nat) (a' : Option Addr) (k cap' : Nat) (N : List (List Int)) (E : List Bool) (W : World), Sl2 W a n N → SlB W a' k E → Calls Tryd.prog 5 #[.agg #[.int .i64 b, .int .i64 t, .slice a n cap, .slice a' k cap']] W (PairR W (okI (ccC b t N E k) b) (okI (ccC b t N E k) t) (ccN b t N E k) (ccE b t N E k) (ccC b t N E k))
def ClosedSays : Prop := ∀ (b t : Int) (a : Option Addr) (n cap : Nat) (a' : Option Addr) (k cap' : Nat) (N : List (List Int)) (E : List Bool) (W : World), Sl2 W a n N → SlB W a' k E → Calls Tryd.prog 10 #[.agg #[.int .i64 b, .int .i64 t, .slice a n cap, .slice a' k cap']] W fun e W' => e = .returned (.tuple #[.bool (closedB b t N E k), errV (autoC b t N k)]) ∧ Below W.heap.size W W'
end Go.Proofs.YtleebojibobgaaaDoor
