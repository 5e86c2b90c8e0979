/- The contracts of digit.Right and digit.Less. -/
import Derived.Test.YtnmeloidnlpljafMa
import Derived.Test.YtnmeloidnlpljafB
namespace Go.Proofs.Ytnmeloidnlpljaf
open Go.RowKit

def rightB (b : Int) (l : List Int) : Bool := b != 1 || !onesB l

end Go.Proofs.Ytnmeloidnlpljaf
