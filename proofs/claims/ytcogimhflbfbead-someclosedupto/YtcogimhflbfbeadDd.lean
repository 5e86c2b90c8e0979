/- The walk of the law PairBoth, from what package pair's functions answer. -/
import Derived.Test.YtcogimhflbfbeadRows
import Derived.Below
import Derived.BigRegion
import Derived.Deep.RegionHeldLaw
import Derived.LaidEql
import Derived.OwnWalk
import Derived.RowKitTokens
import Derived.Shelf.Abstract
import Derived.Stop.Asserts
import Derived.WalkKit
import Derived.Test.YtcogimhflbfbeadMa
import Derived.Test.YtcogimhflbfbeadZAt
import Derived.Test.YtcogimhflbfbeadAx
import Derived.Test.YtcogimhflbfbeadB
import Derived.Test.YtcogimhflbfbeadBk
import Derived.Test.YtcogimhflbfbeadZLp
import Derived.Test.YtcogimhflbfbeadBt
import Derived.Test.YtcogimhflbfbeadZMp
import Derived.Test.YtcogimhflbfbeadCf
import Derived.Test.YtcogimhflbfbeadDb
import Derived.Test.YtcogimhflbfbeadZG
import Derived.Test.YtcogimhflbfbeadZF
namespace Go.Proofs.Ytcogimhflbfbead
open Go.RowKit

/-- An automaton and an error are handed back. -/
def PairR (w : World) (b t : Int) (N : List (List Int)) (E : List Bool) (c : Int) (e : Ending) (w' : World) : Prop :=
  ∃ a ca a' ca', e = .returned (.tuple #[.agg #[.int .i64 b, .int .i64 t, .slice a N.length ca, .slice a' N.length ca'], errV c]) ∧ AutoNew w a N.length N a' E w' ∧ Below w.heap.size w w'
end Go.Proofs.Ytcogimhflbfbead
