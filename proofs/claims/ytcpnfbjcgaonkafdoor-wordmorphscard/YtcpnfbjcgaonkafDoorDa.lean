/- What takes the same words has one least automaton: mathematics. -/
import Derived.Test.YtcpnfbjcgaonkafDoorAc
import Derived.Test.YtcpnfbjcgaonkafDoorBf
import Derived.Test.YtcpnfbjcgaonkafDoorBm
import Derived.Test.YtcpnfbjcgaonkafDoorNx
import Derived.DeepKeys4
import Derived.Maps.OwnSet
namespace Go.Proofs.YtcpnfbjcgaonkafDoor
open Go.RowKit

theorem run_lt {m n : Nat} {N : List (List Int)} (h : GoodN m n N) (w : List Int) (hw : okW m w) : runL N w < n := by
  have := runL_lt h w w.length (Nat.le_refl _) (fun j hj => hw _ (by rw [getD_at _ j hj]; exact List.getElem_mem hj))
  rwa [List.take_length] at this

end Go.Proofs.YtcpnfbjcgaonkafDoor
