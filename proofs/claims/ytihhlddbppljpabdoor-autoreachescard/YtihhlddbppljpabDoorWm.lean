/- Plain mathematics: the places' counts as the document has them (not cut off), held against those of the program. -/
import Derived.Test.YtihhlddbppljpabDoorB
import Derived.Test.YtihhlddbppljpabDoorG
import Derived.Test.YtihhlddbppljpabDoorM
import Derived.Deep.LoopGhost
import Derived.Deep.WholeRow
import Derived.WalkKit
namespace Go.Proofs.YtihhlddbppljpabDoor

/-- The digits that are written behind k places. -/
def pre (b n : Int) (k : Nat) : List Int := dropZ ((dList b n 60).take k)
end Go.Proofs.YtihhlddbppljpabDoor
