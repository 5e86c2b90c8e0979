/- The walk of the law PairBoth, from what package pair's functions answer. -/
import Derived.Test.YtebbjmcjgjecmaaRows
import Derived.Below
import Derived.BigRegion
import Derived.Deep.RegionHeldLaw
import Derived.LaidEql
import Derived.OwnWalk
import Derived.RowKitTokens
import Derived.Stop.Asserts
import Derived.WalkKit
import Derived.Test.YtebbjmcjgjecmaaMa
import Derived.Test.YtebbjmcjgjecmaaAx
import Derived.Test.YtebbjmcjgjecmaaB
import Derived.Test.YtebbjmcjgjecmaaBk
import Derived.Test.YtebbjmcjgjecmaaZLp
import Derived.Test.YtebbjmcjgjecmaaZCd
import Derived.Test.YtebbjmcjgjecmaaCf
import Derived.Test.YtebbjmcjgjecmaaCh
import Derived.Test.YtebbjmcjgjecmaaDb
import Derived.Test.YtebbjmcjgjecmaaZMp
import Derived.Test.YtebbjmcjgjecmaaZG
import Derived.Test.YtebbjmcjgjecmaaZF
namespace Go.Proofs.Ytebbjmcjgjecmaa
open Go.RowKit

/-- An automaton and an error are handed back. -/
def PairR (w : World) (b t : Int) (N : List (List Int)) (E : List Bool) (c : Int) (e : Ending) (w' : World) : Prop :=
  ∃ a ca a' ca', e = .returned (.tuple #[.agg #[.int .i64 b, .int .i64 t, .slice a N.length ca, .slice a' N.length ca'], errV c]) ∧ AutoNew w a N.length N a' E w' ∧ Below w.heap.size w w'
end Go.Proofs.Ytebbjmcjgjecmaa
