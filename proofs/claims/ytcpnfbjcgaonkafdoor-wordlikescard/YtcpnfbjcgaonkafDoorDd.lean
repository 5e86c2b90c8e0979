/- The walk of the law PairBoth, from what package pair's functions answer. -/
import Derived.BigRegion
import Derived.Laws.AppendOwnNone
import Derived.Shelf.Abstract
import Derived.Test.YtcpnfbjcgaonkafDoorZNx
import Derived.Test.YtcpnfbjcgaonkafDoorZLp
import Derived.Test.YtcpnfbjcgaonkafDoorZDg
import Derived.Test.YtcpnfbjcgaonkafDoorZCf
import Derived.Test.YtcpnfbjcgaonkafDoorCi
import Derived.Test.YtcpnfbjcgaonkafDoorDb
import Derived.Test.YtcpnfbjcgaonkafDoorZMp
import Derived.Test.YtcpnfbjcgaonkafDoorRe
namespace Go.Proofs.YtcpnfbjcgaonkafDoor
open Go.RowKit

/-- An automaton and an error are handed back. -/
def PairR (w : World) (b t : Int) (N : List (List Int)) (E : List Bool) (c : Int) (e : Ending) (w' : World) : Prop :=
  ∃ a ca a' ca', e = .returned (.tuple #[.agg #[.int .i64 b, .int .i64 t, .slice a N.length ca, .slice a' N.length ca'], errV c]) ∧ AutoNew w a N.length N a' E w' ∧ Below w.heap.size w w'
end Go.Proofs.YtcpnfbjcgaonkafDoor
