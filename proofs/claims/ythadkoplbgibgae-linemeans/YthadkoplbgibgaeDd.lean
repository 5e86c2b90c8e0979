/- The walk of the law PairBoth, from what package pair's functions answer. -/
import Derived.Test.YthadkoplbgibgaeRows
import Derived.Below
import Derived.BigRegion
import Derived.Deep.RegionHeldLaw
import Derived.LaidEql
import Derived.Laws.AppendOwnNone
import Derived.OwnWalk
import Derived.RowKitTokens
import Derived.Shelf.Abstract
import Derived.Stop.Asserts
import Derived.WalkKit
import Derived.Test.YthadkoplbgibgaeZNx
import Derived.Test.YthadkoplbgibgaeZAt
import Derived.Test.YthadkoplbgibgaeBk
import Derived.Test.YthadkoplbgibgaeZLp
import Derived.Test.YthadkoplbgibgaeBt
import Derived.Test.YthadkoplbgibgaeZMp
import Derived.Test.YthadkoplbgibgaeZCf
import Derived.Test.YthadkoplbgibgaeDb
import Derived.Test.YthadkoplbgibgaeZC
import Derived.Test.YthadkoplbgibgaeZG
import Derived.Test.YthadkoplbgibgaeZF
namespace Go.Proofs.Ythadkoplbgibgae
open Go.RowKit

/-- An automaton and an error are handed back. -/
def PairR (w : World) (b t : Int) (N : List (List Int)) (E : List Bool) (c : Int) (e : Ending) (w' : World) : Prop :=
  ∃ a ca a' ca', e = .returned (.tuple #[.agg #[.int .i64 b, .int .i64 t, .slice a N.length ca, .slice a' N.length ca'], errV c]) ∧ AutoNew w a N.length N a' E w' ∧ Below w.heap.size w w'
end Go.Proofs.Ythadkoplbgibgae
