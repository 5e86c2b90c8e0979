/- The walk of the law PairBoth, from what package pair's functions answer. -/
import Derived.Test.YtokcejakjaimlaeRows
import Derived.Below
import Derived.BigRegion
import Derived.Deep.RegionHeldLaw
import Derived.LaidEql
import Derived.Laws.AppendOwnNone
import Derived.OwnWalk
import Derived.RowKitTokens
import Derived.Shelf.Abstract
import Derived.Stop.Asserts
import Derived.WalkKit
import Derived.Test.YtokcejakjaimlaeMa
import Derived.Test.YtokcejakjaimlaeZNx
import Derived.Test.YtokcejakjaimlaeB
import Derived.Test.YtokcejakjaimlaeBk
import Derived.Test.YtokcejakjaimlaeBs
import Derived.Test.YtokcejakjaimlaeZCd
import Derived.Test.YtokcejakjaimlaeZCf
import Derived.Test.YtokcejakjaimlaeDb
import Derived.Test.YtokcejakjaimlaeZMp
import Derived.Test.YtokcejakjaimlaeZG
import Derived.Test.YtokcejakjaimlaeZF
namespace Go.Proofs.Ytokcejakjaimlae
open Go.RowKit

/-- An automaton and an error are handed back. -/
def PairR (w : World) (b t : Int) (N : List (List Int)) (E : List Bool) (c : Int) (e : Ending) (w' : World) : Prop :=
  ∃ a ca a' ca', e = .returned (.tuple #[.agg #[.int .i64 b, .int .i64 t, .slice a N.length ca, .slice a' N.length ca'], errV c]) ∧ AutoNew w a N.length N a' E w' ∧ Below w.heap.size w w'
end Go.Proofs.Ytokcejakjaimlae
