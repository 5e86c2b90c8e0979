/- Plain mathematics: the places' counts as the document has them (not cut off), held against those of the program. -/
import Derived.Test.YtimfhndejgdjeabDoorB
import Derived.Test.YtimfhndejgdjeabDoorG
import Derived.Test.YtimfhndejgdjeabDoorL
import Derived.Test.YtimfhndejgdjeabDoorM
import Derived.Test.YtimfhndejgdjeabDoorN
namespace Go.Proofs.YtimfhndejgdjeabDoor

/-- The digits that are written behind k places. -/
def pre (b n : Int) (k : Nat) : List Int := dropZ ((dList b n 60).take k)
end Go.Proofs.YtimfhndejgdjeabDoor
