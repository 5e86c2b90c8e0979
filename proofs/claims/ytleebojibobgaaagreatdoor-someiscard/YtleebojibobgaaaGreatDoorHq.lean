/- The laws SomeIs and SomeOrder: their walks. -/
import Derived.Test.YtleebojibobgaaaGreatDoorGm
import Derived.Test.YtleebojibobgaaaGreatDoorZHn
namespace Go.Proofs.YtleebojibobgaaaGreatDoor
open Go.RowKit

theorem someis_any (b t : Int) (a : Option Addr) (n cap : Nat) (a' : Option Addr) (k cap' : Nat) (N : List (List Int)) (E : List Bool) (tk : Int) (w : World) (hs : Sl2 w a n N) (he : SlB w a' k E) (hg : Handle w) :
    Calls Tryz.prog 3 #[.agg #[.int .i64 b, .int .i64 t, .slice a n cap, .slice a' k cap'], .int .i64 tk] w fun e w' => e = .returned (.bool true) ∧ Below w.heap.size w w' :=
  someis_of b t a n cap a' k cap' N E tk w hs he hg some_saysH sets_saysH
end Go.Proofs.YtleebojibobgaaaGreatDoor
