/- Plain mathematics: the places' counts as the document has them (not cut off), held against those of the program. -/
import Derived.Test.YtihhlddbppljpacDoorMa
import Derived.Test.YtihhlddbppljpacDoorB
import Derived.Test.YtihhlddbppljpacDoorG
namespace Go.Proofs.YtihhlddbppljpacDoor

/-- The digits that are written behind k places. -/
def pre (b n : Int) (k : Nat) : List Int := dropZ ((dList b n 60).take k)
end Go.Proofs.YtihhlddbppljpacDoor
