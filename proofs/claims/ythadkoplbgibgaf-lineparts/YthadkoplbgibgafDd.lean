/- The walk of the law PairBoth, from what package pair's functions answer. -/
import Derived.Test.YthadkoplbgibgafRows
import Derived.Below
import Derived.BigRegion
import Derived.Deep.RegionHeldLaw
import Derived.LaidEql
import Derived.Laws.AppendOwnNone
import Derived.OwnWalk
import Derived.RowKitTokens
import Derived.Stop.Asserts
import Derived.WalkKit
import Derived.Test.YthadkoplbgibgafZNx
import Derived.Test.YthadkoplbgibgafBk
import Derived.Test.YthadkoplbgibgafZLp
import Derived.Test.YthadkoplbgibgafZCd
import Derived.Test.YthadkoplbgibgafZCf
import Derived.Test.YthadkoplbgibgafCh
import Derived.Test.YthadkoplbgibgafDb
import Derived.Test.YthadkoplbgibgafZMp
import Derived.Test.YthadkoplbgibgafE
import Derived.Test.YthadkoplbgibgafZRu
import Derived.Test.YthadkoplbgibgafZF
namespace Go.Proofs.Ythadkoplbgibgaf
open Go.RowKit

/-- An automaton and an error are handed back. -/
def PairR (w : World) (b t : Int) (N : List (List Int)) (E : List Bool) (c : Int) (e : Ending) (w' : World) : Prop :=
  ∃ a ca a' ca', e = .returned (.tuple #[.agg #[.int .i64 b, .int .i64 t, .slice a N.length ca, .slice a' N.length ca'], errV c]) ∧ AutoNew w a N.length N a' E w' ∧ Below w.heap.size w w'
end Go.Proofs.Ythadkoplbgibgaf
