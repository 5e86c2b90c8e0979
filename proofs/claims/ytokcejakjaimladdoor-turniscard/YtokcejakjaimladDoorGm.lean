/- The walk of the law SomeIs, from what package some answers. -/
import Derived.Test.YtokcejakjaimladDoorDd
import Derived.Test.YtokcejakjaimladDoorZGf
import Derived.Test.YtokcejakjaimladDoorZGi
namespace Go.Proofs.YtokcejakjaimladDoor
open Go.RowKit

/-- What stands between two calls. -/
def SiAt (w W : World) (b t : Int) (a : Option Addr) (n cap : Nat) (a' : Option Addr) (k cap' : Nat) (N : List (List Int)) (E : List Bool) : Prop := Below w.heap.size w W ∧ AutoAt W w.heap.size b t a n cap a' k cap' N E ∧ Handle W
theorem siAt_step {w W W' : World} {b t : Int} {a : Option Addr} {n cap : Nat} {a' : Option Addr} {k cap' : Nat} {N : List (List Int)} {E : List Bool} (h : SiAt w W b t a n cap a' k cap' N E) (hb : Below W.heap.size W W') : SiAt w W' b t a n cap a' k cap' N E := ⟨below_step h.1 hb, autoAt_below h.2.1 hb, h.2.2.below hb⟩

end Go.Proofs.YtokcejakjaimladDoor
