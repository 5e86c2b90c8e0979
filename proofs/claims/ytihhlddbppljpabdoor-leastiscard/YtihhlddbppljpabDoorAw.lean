/- The walk of the law AutoReaches. -/
import Derived.Test.YtihhlddbppljpabDoorAe
import Derived.Test.YtihhlddbppljpabDoorAv
namespace Go.Proofs.YtihhlddbppljpabDoor
open Go.RowKit

def ReachAt (w W : World) (b t : Int) (a : Option Addr) (len cap : Nat) (a' : Option Addr) (len' cap' : Nat) (N : List (List Int)) (E : List Bool) : Prop :=
  Below w.heap.size w W ∧ AutoAt W w.heap.size b t a len cap a' len' cap' N E ∧ Handle W
theorem reachAt_step {w W W' : World} {b t : Int} {a : Option Addr} {len cap : Nat} {a' : Option Addr} {len' cap' : Nat} {N : List (List Int)} {E : List Bool} (h : ReachAt w W b t a len cap a' len' cap' N E) (hb : Below W.heap.size W W') : ReachAt w W' b t a len cap a' len' cap' N E :=
  ⟨below_step h.1 hb, autoAt_below h.2.1 hb, h.2.2.below hb⟩

end Go.Proofs.YtihhlddbppljpabDoor
