/- What package some answers: the words of its contracts. -/
import Derived.Test.YtleebojibobgaaaGreatDoorDd
import Derived.Test.YtleebojibobgaaaGreatDoorZEg
namespace Go.Proofs.YtleebojibobgaaaGreatDoor
open Go.RowKit

/-- What some.Some and some.Sets answer, at whatever they are given. -/
def SomeSays : Prop := ∀ (b t : Int) (a : Option Addr) (n cap : Nat) (a' : Option Addr) (k cap' : Nat) (N : List (List Int)) (E : List Bool) (tk : Int) (W : World), Sl2 W a n N → SlB W a' k E → Calls Tryz.prog 5 #[.agg #[.int .i64 b, .int .i64 t, .slice a n cap, .slice a' k cap'], .int .i64 tk] W (PairR W (okI (smC b t N E k tk) b) (okI (smC b t N E k tk) (t - 1)) (smN b t N E k tk) (smE b t N E k tk) (smC b t N E k tk))
def SetsSays : Prop := ∀ (b t : Int) (a : Option Addr) (n cap : Nat) (a' : Option Addr) (k cap' : Nat) (N : List (List Int)) (E : List Bool) (tk : Int) (W : World), Sl2 W a n N → SlB W a' k E → Calls Tryz.prog 8 #[.agg #[.int .i64 b, .int .i64 t, .slice a n cap, .slice a' k cap'], .int .i64 tk] W fun e W' => e = .returned (.tuple #[.int .i64 (smM b t N E k tk), errV (smS b t N E k tk)]) ∧ Below W.heap.size W W'
end Go.Proofs.YtleebojibobgaaaGreatDoor
