/- Plain mathematics: what digits count together. -/
import Derived.Test.YtimfhndejgdjeabDoorM
namespace Go.Proofs.YtimfhndejgdjeabDoor

def val (b : Int) : List Int → Int
  | [] => 0
  | x :: r => x * cnt b r.length + val b r

end Go.Proofs.YtimfhndejgdjeabDoor
