/- word.ofAllWords: contract. -/
import Derived.Test.YtcpnfbjcgaonkafDoorMa
import Derived.Test.YtcpnfbjcgaonkafDoorAc
import Derived.Test.YtcpnfbjcgaonkafDoorAm
import Derived.Test.YtcpnfbjcgaonkafDoorAt
import Derived.Test.YtcpnfbjcgaonkafDoorBf
import Derived.Test.YtcpnfbjcgaonkafDoorHm
import Derived.Test.YtcpnfbjcgaonkafDoorLc2
import Derived.Test.YtcpnfbjcgaonkafDoorNx
import Derived.Test.YtcpnfbjcgaonkafDoorPe
import Derived.Test.YtcpnfbjcgaonkafDoorRe
import Derived.Test.YtcpnfbjcgaonkafDoorSe
import Derived.Test.YtcpnfbjcgaonkafDoorVc
import Derived.Test.YtcpnfbjcgaonkafDoorVf
import Derived.BigQuiet
import Derived.BigRegion
import Derived.Deep.AppendLies
import Derived.Deep.DeepCutAuto
import Derived.Deep.MidRow
import Derived.Deep.RegionLaw
import Derived.DeepKeys4
import Derived.Maps.OwnSet
import Derived.Shelf.Abstract
namespace Go.Proofs.YtcpnfbjcgaonkafDoor
open Go.RowKit

/-- What is handed back lies in new memory. -/
def OutNew (w : World) (n : Nat) (RN : List (List Int)) (RO : List Int) (aN aO : Option Addr) (w' : World) : Prop := ∀ W' : World, (∀ x, w.heap.size ≤ x → x < w'.heap.size → W'.heap[x]? = w'.heap[x]?) → Sl2 W' aN n RN ∧ Sl W' aO n RO
end Go.Proofs.YtcpnfbjcgaonkafDoor
