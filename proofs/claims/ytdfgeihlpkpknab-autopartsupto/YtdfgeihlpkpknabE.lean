/- The contracts of digit.Right and digit.Less. -/
import Derived.Test.YtdfgeihlpkpknabD
namespace Go.Proofs.Ytdfgeihlpkpknab
open Go.RowKit

def rightB (b : Int) (l : List Int) : Bool := b != 1 || !onesB l

end Go.Proofs.Ytdfgeihlpkpknab
