/- The states that are met, each with the word by which it is met; the first word: mathematics. -/
import Derived.Test.YtcpnfbjcgaonkafDoorAm
namespace Go.Proofs.YtcpnfbjcgaonkafDoor
open Go.RowKit

theorem runL_snoc (N : List (List Int)) (w : List Int) (x : Int) : runL N (w ++ [x]) = stepL N (runL N w) x := by simp [runL, List.foldl_append]

end Go.Proofs.YtcpnfbjcgaonkafDoor
