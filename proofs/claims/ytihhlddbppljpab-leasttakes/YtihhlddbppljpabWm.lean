/- Plain mathematics: the places' counts as the document has them (not cut off), held against those of the program. -/
import Derived.Test.YtihhlddbppljpabMa
import Derived.Test.YtihhlddbppljpabB
import Derived.Test.YtihhlddbppljpabG
namespace Go.Proofs.Ytihhlddbppljpab

/-- The digits that are written behind k places. -/
def pre (b n : Int) (k : Nat) : List Int := dropZ ((dList b n 60).take k)
end Go.Proofs.Ytihhlddbppljpab
