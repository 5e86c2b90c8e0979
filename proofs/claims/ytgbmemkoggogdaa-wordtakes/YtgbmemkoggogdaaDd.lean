/- The walk of the law PairBoth, from what package pair's functions answer. -/
import Derived.Test.YtgbmemkoggogdaaRows
import Derived.Below
import Derived.BigRegion
import Derived.LaidEql
import Derived.OwnWalk
import Derived.RowKitTokens
import Derived.Shelf.Abstract
import Derived.Stop.Asserts
import Derived.WalkKit
import Derived.Test.YtgbmemkoggogdaaZAx
import Derived.Test.YtgbmemkoggogdaaBs
import Derived.Test.YtgbmemkoggogdaaZDg
import Derived.Test.YtgbmemkoggogdaaZCf
import Derived.Test.YtgbmemkoggogdaaCi
import Derived.Test.YtgbmemkoggogdaaZDb
import Derived.Test.YtgbmemkoggogdaaZMp
import Derived.Test.YtgbmemkoggogdaaZC
import Derived.Test.YtgbmemkoggogdaaZG
import Derived.Test.YtgbmemkoggogdaaZF
namespace Go.Proofs.Ytgbmemkoggogdaa
open Go.RowKit

/-- An automaton and an error are handed back. -/
def PairR (w : World) (b t : Int) (N : List (List Int)) (E : List Bool) (c : Int) (e : Ending) (w' : World) : Prop :=
  ∃ a ca a' ca', e = .returned (.tuple #[.agg #[.int .i64 b, .int .i64 t, .slice a N.length ca, .slice a' N.length ca'], errV c]) ∧ AutoNew w a N.length N a' E w' ∧ Below w.heap.size w w'
end Go.Proofs.Ytgbmemkoggogdaa
