/- The walk of the law PairBoth, from what package pair's functions answer. -/
import Derived.BigRegion
import Derived.Deep.RegionHeldLaw
import Derived.Shelf.Abstract
import Derived.Test.YtleebojibobgaaaGreatDoorAx
import Derived.Test.YtleebojibobgaaaGreatDoorBk
import Derived.Test.YtleebojibobgaaaGreatDoorZLp
import Derived.Test.YtleebojibobgaaaGreatDoorZCd
import Derived.Test.YtleebojibobgaaaGreatDoorZCf
import Derived.Test.YtleebojibobgaaaGreatDoorZMp
import Derived.Test.YtleebojibobgaaaGreatDoorDb
import Derived.Test.YtleebojibobgaaaGreatDoorRe
namespace Go.Proofs.YtleebojibobgaaaGreatDoor
open Go.RowKit

/-- An automaton and an error are handed back. -/
def PairR (w : World) (b t : Int) (N : List (List Int)) (E : List Bool) (c : Int) (e : Ending) (w' : World) : Prop :=
  ∃ a ca a' ca', e = .returned (.tuple #[.agg #[.int .i64 b, .int .i64 t, .slice a N.length ca, .slice a' N.length ca'], errV c]) ∧ AutoNew w a N.length N a' E w' ∧ Below w.heap.size w w'
end Go.Proofs.YtleebojibobgaaaGreatDoor
