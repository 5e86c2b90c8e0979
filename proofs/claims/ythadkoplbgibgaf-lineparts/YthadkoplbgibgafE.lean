/- The contracts of digit.Right and digit.Less. -/
import Derived.Test.YthadkoplbgibgafMa
import Derived.Test.YthadkoplbgibgafB
namespace Go.Proofs.Ythadkoplbgibgaf
open Go.RowKit

def rightB (b : Int) (l : List Int) : Bool := b != 1 || !onesB l

end Go.Proofs.Ythadkoplbgibgaf
