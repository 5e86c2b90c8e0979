/- word.ofAllWords: contract. -/
import Derived.Test.YtcpnfbjcgaonkafDoorPe
import Derived.Test.YtcpnfbjcgaonkafDoorSf
import Derived.Test.YtcpnfbjcgaonkafDoorVc
namespace Go.Proofs.YtcpnfbjcgaonkafDoor
open Go.RowKit

/-- What is handed back lies in new memory. -/
def OutNew (w : World) (n : Nat) (RN : List (List Int)) (RO : List Int) (aN aO : Option Addr) (w' : World) : Prop := ∀ W' : World, (∀ x, w.heap.size ≤ x → x < w'.heap.size → W'.heap[x]? = w'.heap[x]?) → Sl2 W' aN n RN ∧ Sl W' aO n RO
end Go.Proofs.YtcpnfbjcgaonkafDoor
