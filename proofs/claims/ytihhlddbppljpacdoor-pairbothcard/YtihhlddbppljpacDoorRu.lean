/- Package digit's contracts, whatever is handed in: one a function. -/
import Derived.Test.YtihhlddbppljpacDoorMa
import Derived.Test.YtihhlddbppljpacDoorB
import Derived.Test.YtihhlddbppljpacDoorG
import Derived.Test.YtihhlddbppljpacDoorU
namespace Go.Proofs.YtihhlddbppljpacDoor
open Go.RowKit

def errV (c : Int) : Value := if c = 0 then .nilIface else .iface 26 (.int .i64 c)
def OfU (w : World) (l : List Int) (er : Value) (e : Ending) (w' : World) : Prop := ∃ a cap, e = .returned (.tuple #[.slice a l.length cap, er]) ∧ SlN w.heap.size w' a l.length l ∧ Below w.heap.size w w'
end Go.Proofs.YtihhlddbppljpacDoor
