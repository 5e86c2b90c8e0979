/- The reference's likes: contract. -/
import Derived.Test.YtihhlddbppljpabDoorAd
import Derived.Test.YtihhlddbppljpabDoorBm
namespace Go.Proofs.YtihhlddbppljpabDoor
open Go.RowKit

theorem nxt_cell {m n : Nat} {N : List (List Int)} (hG : GoodN m n N) {s j : Nat} (hs : s < n) (hj : j < m) : nxt N s j < n ∧ (N.getD s []).getD j 0 = ((nxt N s j : Nat) : Int) := by
  have := (hG.2.2.2.2.2 s hs).2 j hj
  unfold nxt; omega

end Go.Proofs.YtihhlddbppljpabDoor
