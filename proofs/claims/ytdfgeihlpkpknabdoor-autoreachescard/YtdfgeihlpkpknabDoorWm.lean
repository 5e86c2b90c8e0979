/- Plain mathematics: the places' counts as the document has them (not cut off), held against those of the program. -/
import Derived.Test.YtdfgeihlpkpknabDoorB
import Derived.Test.YtdfgeihlpkpknabDoorG
import Derived.Test.YtdfgeihlpkpknabDoorM
import Derived.Deep.LoopGhost
import Derived.Deep.WholeRow
import Derived.WalkKit
namespace Go.Proofs.YtdfgeihlpkpknabDoor

/-- The digits that are written behind k places. -/
def pre (b n : Int) (k : Nat) : List Int := dropZ ((dList b n 60).take k)
end Go.Proofs.YtdfgeihlpkpknabDoor
