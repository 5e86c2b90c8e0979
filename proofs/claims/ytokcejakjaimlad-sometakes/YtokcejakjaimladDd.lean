/- The walk of the law PairBoth, from what package pair's functions answer. -/
import Derived.Test.YtokcejakjaimladRows
import Derived.Below
import Derived.BigRegion
import Derived.Deep.RegionHeldLaw
import Derived.LaidEql
import Derived.OwnWalk
import Derived.RowKitTokens
import Derived.Shelf.Abstract
import Derived.Stop.Asserts
import Derived.WalkKit
import Derived.Test.YtokcejakjaimladZAt
import Derived.Test.YtokcejakjaimladAx
import Derived.Test.YtokcejakjaimladBk
import Derived.Test.YtokcejakjaimladZLp
import Derived.Test.YtokcejakjaimladBt
import Derived.Test.YtokcejakjaimladZMp
import Derived.Test.YtokcejakjaimladZCf
import Derived.Test.YtokcejakjaimladDb
import Derived.Test.YtokcejakjaimladRa
import Derived.Test.YtokcejakjaimladZG
import Derived.Test.YtokcejakjaimladZF
namespace Go.Proofs.Ytokcejakjaimlad
open Go.RowKit

/-- An automaton and an error are handed back. -/
def PairR (w : World) (b t : Int) (N : List (List Int)) (E : List Bool) (c : Int) (e : Ending) (w' : World) : Prop :=
  ∃ a ca a' ca', e = .returned (.tuple #[.agg #[.int .i64 b, .int .i64 t, .slice a N.length ca, .slice a' N.length ca'], errV c]) ∧ AutoNew w a N.length N a' E w' ∧ Below w.heap.size w w'
end Go.Proofs.Ytokcejakjaimlad
