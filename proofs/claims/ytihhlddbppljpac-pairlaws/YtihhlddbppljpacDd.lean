/- The walk of the law PairBoth, from what package pair's functions answer. -/
import Derived.Test.YtihhlddbppljpacRows
import Derived.Below
import Derived.BigRegion
import Derived.Deep.RegionHeldLaw
import Derived.LaidEql
import Derived.OwnWalk
import Derived.RowKitTokens
import Derived.Stop.Asserts
import Derived.WalkKit
import Derived.Test.YtihhlddbppljpacMa
import Derived.Test.YtihhlddbppljpacAx
import Derived.Test.YtihhlddbppljpacB
import Derived.Test.YtihhlddbppljpacBk
import Derived.Test.YtihhlddbppljpacBs
import Derived.Test.YtihhlddbppljpacZCd
import Derived.Test.YtihhlddbppljpacCf
import Derived.Test.YtihhlddbppljpacCh
import Derived.Test.YtihhlddbppljpacZDb
import Derived.Test.YtihhlddbppljpacZMp
import Derived.Test.YtihhlddbppljpacZG
import Derived.Test.YtihhlddbppljpacZF
namespace Go.Proofs.Ytihhlddbppljpac
open Go.RowKit

/-- An automaton and an error are handed back. -/
def PairR (w : World) (b t : Int) (N : List (List Int)) (E : List Bool) (c : Int) (e : Ending) (w' : World) : Prop :=
  ∃ a ca a' ca', e = .returned (.tuple #[.agg #[.int .i64 b, .int .i64 t, .slice a N.length ca, .slice a' N.length ca'], errV c]) ∧ AutoNew w a N.length N a' E w' ∧ Below w.heap.size w w'
/-- What Not hands back. -/
def notN (b t : Int) (N : List (List Int)) (E : List Bool) (k : Nat) : List (List Int) := if autoC b t N k = 0 then leastN N (notL E) (manyU b t).toNat else []
def notE (b t : Int) (N : List (List Int)) (E : List Bool) (k : Nat) : List Bool := if autoC b t N k = 0 then leastE N (notL E) (manyU b t).toNat else []

end Go.Proofs.Ytihhlddbppljpac
