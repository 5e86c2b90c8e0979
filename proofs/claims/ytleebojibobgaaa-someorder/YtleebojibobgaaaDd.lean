/- The walk of the law PairBoth, from what package pair's functions answer. -/
import Derived.Test.YtleebojibobgaaaRows
import Derived.Below
import Derived.BigRegion
import Derived.Deep.RegionHeldLaw
import Derived.LaidEql
import Derived.OwnWalk
import Derived.RowKitTokens
import Derived.Stop.Asserts
import Derived.WalkKit
import Derived.Test.YtleebojibobgaaaMa
import Derived.Test.YtleebojibobgaaaAx
import Derived.Test.YtleebojibobgaaaB
import Derived.Test.YtleebojibobgaaaBk
import Derived.Test.YtleebojibobgaaaZLp
import Derived.Test.YtleebojibobgaaaZCd
import Derived.Test.YtleebojibobgaaaCf
import Derived.Test.YtleebojibobgaaaCh
import Derived.Test.YtleebojibobgaaaDb
import Derived.Test.YtleebojibobgaaaZMp
import Derived.Test.YtleebojibobgaaaZG
import Derived.Test.YtleebojibobgaaaZF
namespace Go.Proofs.Ytleebojibobgaaa
open Go.RowKit

/-- An automaton and an error are handed back. -/
def PairR (w : World) (b t : Int) (N : List (List Int)) (E : List Bool) (c : Int) (e : Ending) (w' : World) : Prop :=
  ∃ a ca a' ca', e = .returned (.tuple #[.agg #[.int .i64 b, .int .i64 t, .slice a N.length ca, .slice a' N.length ca'], errV c]) ∧ AutoNew w a N.length N a' E w' ∧ Below w.heap.size w w'
end Go.Proofs.Ytleebojibobgaaa
