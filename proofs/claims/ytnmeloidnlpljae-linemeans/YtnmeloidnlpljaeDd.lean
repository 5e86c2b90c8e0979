/- The walk of the law PairBoth, from what package pair's functions answer. -/
import Derived.Test.YtnmeloidnlpljaeRows
import Derived.Below
import Derived.BigRegion
import Derived.Deep.RegionHeldLaw
import Derived.LaidEql
import Derived.Laws.AppendOwnNone
import Derived.OwnWalk
import Derived.RowKitTokens
import Derived.Shelf.Abstract
import Derived.Stop.Asserts
import Derived.WalkKit
import Derived.Test.YtnmeloidnlpljaeZNx
import Derived.Test.YtnmeloidnlpljaeZAt
import Derived.Test.YtnmeloidnlpljaeBk
import Derived.Test.YtnmeloidnlpljaeZLp
import Derived.Test.YtnmeloidnlpljaeBt
import Derived.Test.YtnmeloidnlpljaeZMp
import Derived.Test.YtnmeloidnlpljaeZCf
import Derived.Test.YtnmeloidnlpljaeDb
import Derived.Test.YtnmeloidnlpljaeZC
import Derived.Test.YtnmeloidnlpljaeZG
import Derived.Test.YtnmeloidnlpljaeZF
namespace Go.Proofs.Ytnmeloidnlpljae
open Go.RowKit

/-- An automaton and an error are handed back. -/
def PairR (w : World) (b t : Int) (N : List (List Int)) (E : List Bool) (c : Int) (e : Ending) (w' : World) : Prop :=
  ∃ a ca a' ca', e = .returned (.tuple #[.agg #[.int .i64 b, .int .i64 t, .slice a N.length ca, .slice a' N.length ca'], errV c]) ∧ AutoNew w a N.length N a' E w' ∧ Below w.heap.size w w'
end Go.Proofs.Ytnmeloidnlpljae
