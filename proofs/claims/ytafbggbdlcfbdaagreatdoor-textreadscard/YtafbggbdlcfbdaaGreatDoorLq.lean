/- The reference's words: TrackOf, WordFault, RightWord: contracts. -/
import Derived.Test.YtafbggbdlcfbdaaGreatDoorLb
import Derived.Test.YtafbggbdlcfbdaaGreatDoorNx
import Derived.Test.YtafbggbdlcfbdaaGreatDoorZG
import Derived.Test.YtafbggbdlcfbdaaGreatDoorRe
namespace Go.Proofs.YtafbggbdlcfbdaaGreatDoor
open Go.RowKit

/-- A row that the call appends to, and what it has. -/
def Grow (w : World) (xs : List Int) (v : Value) (wr : World) : Prop := wr.ownsRow w.heap.size 3 1 v xs.length (xs.map (Value.int .i64)) ∧ Below w.heap.size w wr

end Go.Proofs.YtafbggbdlcfbdaaGreatDoor
