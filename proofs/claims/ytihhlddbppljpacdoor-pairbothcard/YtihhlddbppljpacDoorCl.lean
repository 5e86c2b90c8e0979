/- The walk of the law LeastAsks. -/
import Derived.Test.YtihhlddbppljpacDoorAd
import Derived.Test.YtihhlddbppljpacDoorCe
import Derived.Test.YtihhlddbppljpacDoorCh
import Derived.Test.YtihhlddbppljpacDoorCi
import Derived.BigRegion
import Derived.Laws.AppendOwnNone
namespace Go.Proofs.YtihhlddbppljpacDoor
open Go.RowKit

/-- Both automata in their boxes. -/
def TwoAt (w W : World) (b t : Int) (a : Option Addr) (n cap : Nat) (a' : Option Addr) (k cap' : Nat) (N : List (List Int)) (E : List Bool) (b2 t2 : Int) (a2 : Option Addr) (n2 cap2 : Nat) (a2' : Option Addr) (k2 cap2' : Nat) (N2 : List (List Int)) (E2 : List Bool) : Prop :=
  Below w.heap.size w W ∧ AutoAt W w.heap.size b t a n cap a' k cap' N E ∧ AutoAt W (w.heap.size + 1) b2 t2 a2 n2 cap2 a2' k2 cap2' N2 E2 ∧ Handle W
theorem twoAt_step {w W W' : World} {b t : Int} {a : Option Addr} {n cap : Nat} {a' : Option Addr} {k cap' : Nat} {N : List (List Int)} {E : List Bool} {b2 t2 : Int} {a2 : Option Addr} {n2 cap2 : Nat} {a2' : Option Addr} {k2 cap2' : Nat} {N2 : List (List Int)} {E2 : List Bool} (h : TwoAt w W b t a n cap a' k cap' N E b2 t2 a2 n2 cap2 a2' k2 cap2' N2 E2) (hb : Below W.heap.size W W') : TwoAt w W' b t a n cap a' k cap' N E b2 t2 a2 n2 cap2 a2' k2 cap2' N2 E2 :=
  ⟨below_step h.1 hb, autoAt_below h.2.1 hb, autoAt_below h.2.2.1 hb, h.2.2.2.below hb⟩

end Go.Proofs.YtihhlddbppljpacDoor
