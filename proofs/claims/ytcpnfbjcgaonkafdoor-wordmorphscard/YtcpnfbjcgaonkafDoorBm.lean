/- Classes of states, and the least automaton: mathematics (Moore's rounds; Myhill and Nerode). -/
import Derived.Test.YtcpnfbjcgaonkafDoorAm
namespace Go.Proofs.YtcpnfbjcgaonkafDoor
open Go.RowKit

def okW (m : Nat) (w : List Int) : Prop := ∀ x ∈ w, 0 ≤ x ∧ x < (m : Int)
section
variable {m n : Nat} {N : List (List Int)} {E : List Bool} {R : Nat → Nat → Bool}

end
end Go.Proofs.YtcpnfbjcgaonkafDoor
