/- Of two one, and not one: mathematics. -/
import Derived.Test.YtpkjnkcdajngkaaAd
import Derived.Test.YtpkjnkcdajngkaaBm
import Derived.Test.YtpkjnkcdajngkaaNx
import Derived.DeepKeys4
import Derived.Maps.OwnSet
namespace Go.Proofs.Ytpkjnkcdajngkaa
open Go.RowKit

/-- Is the word taken? -/
def tkB (N : List (List Int)) (E : List Bool) (w : List Int) : Bool := E.getD (runL N w) false
end Go.Proofs.Ytpkjnkcdajngkaa
