/- The law SomeCloses: its walk. -/
import Derived.Test.YtleebojibobgaaaDoorZGm
import Derived.Test.YtleebojibobgaaaDoorZHw
namespace Go.Proofs.YtleebojibobgaaaDoor
open Go.RowKit

theorem somecloses_any (b t : Int) (a : Option Addr) (n cap : Nat) (a' : Option Addr) (k cap' : Nat) (N : List (List Int)) (E : List Bool) (w : World) (hs : Sl2 w a n N) (he : SlB w a' k E) (hg : Handle w) :
    Calls Tryd.prog 3 #[.agg #[.int .i64 b, .int .i64 t, .slice a n cap, .slice a' k cap']] w fun e w' => e = .returned (.bool true) ∧ Below w.heap.size w w' :=
  somecloses_of b t a n cap a' k cap' N E w hs he hg close_saysH closed_saysH
end Go.Proofs.YtleebojibobgaaaDoor
