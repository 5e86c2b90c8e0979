/- The walk of the law PairBoth, from what package pair's functions answer. -/
import Derived.Test.YtnmeloidnlpljafRows
import Derived.Below
import Derived.BigRegion
import Derived.Deep.RegionHeldLaw
import Derived.LaidEql
import Derived.Laws.AppendOwnNone
import Derived.OwnWalk
import Derived.RowKitTokens
import Derived.Stop.Asserts
import Derived.WalkKit
import Derived.Test.YtnmeloidnlpljafZNx
import Derived.Test.YtnmeloidnlpljafBk
import Derived.Test.YtnmeloidnlpljafZLp
import Derived.Test.YtnmeloidnlpljafZCd
import Derived.Test.YtnmeloidnlpljafZCf
import Derived.Test.YtnmeloidnlpljafCh
import Derived.Test.YtnmeloidnlpljafDb
import Derived.Test.YtnmeloidnlpljafZMp
import Derived.Test.YtnmeloidnlpljafE
import Derived.Test.YtnmeloidnlpljafZRu
import Derived.Test.YtnmeloidnlpljafZF
namespace Go.Proofs.Ytnmeloidnlpljaf
open Go.RowKit

/-- An automaton and an error are handed back. -/
def PairR (w : World) (b t : Int) (N : List (List Int)) (E : List Bool) (c : Int) (e : Ending) (w' : World) : Prop :=
  ∃ a ca a' ca', e = .returned (.tuple #[.agg #[.int .i64 b, .int .i64 t, .slice a N.length ca, .slice a' N.length ca'], errV c]) ∧ AutoNew w a N.length N a' E w' ∧ Below w.heap.size w w'
end Go.Proofs.Ytnmeloidnlpljaf
