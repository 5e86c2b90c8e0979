/- 2 texts in one. -/
import Derived.Deep.RegionWith
import Derived.OwnWalk
import Derived.Test.YtafbggbdlcfbdaaDoorZNx
import Derived.Test.YtafbggbdlcfbdaaDoorZMa
import Derived.Test.YtafbggbdlcfbdaaDoorB
import Derived.Test.YtafbggbdlcfbdaaDoorZG
import Derived.Test.YtafbggbdlcfbdaaDoorZF
/- The contract of letter.sideBySide: a word of the digits of its tracks. -/
namespace Go.Proofs.YtafbggbdlcfbdaaDoor
open Go.RowKit

theorem wrap_i64_id {x : Int} (h : 0 ≤ x ∧ x ≤ 1000000000000000) : IntKind.i64.wrap x = x := by rw [IntKind.wrap_i64]; omega

end Go.Proofs.YtafbggbdlcfbdaaDoor

/- The reference's words: TrackOf, WordFault, RightWord: contracts. -/
namespace Go.Proofs.YtafbggbdlcfbdaaDoor
open Go.RowKit

/-- A row that the call appends to, and what it has. -/
def Grow (w : World) (xs : List Int) (v : Value) (wr : World) : Prop := wr.ownsRow w.heap.size 3 1 v xs.length (xs.map (Value.int .i64)) ∧ Below w.heap.size w wr

end Go.Proofs.YtafbggbdlcfbdaaDoor
