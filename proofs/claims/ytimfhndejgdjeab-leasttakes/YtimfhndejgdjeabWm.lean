/- Plain mathematics: the places' counts as the document has them (not cut off), held against those of the program. -/
import Derived.Test.YtimfhndejgdjeabMa
import Derived.Test.YtimfhndejgdjeabB
import Derived.Test.YtimfhndejgdjeabG
namespace Go.Proofs.Ytimfhndejgdjeab

/-- The digits that are written behind k places. -/
def pre (b n : Int) (k : Nat) : List Int := dropZ ((dList b n 60).take k)
end Go.Proofs.Ytimfhndejgdjeab
