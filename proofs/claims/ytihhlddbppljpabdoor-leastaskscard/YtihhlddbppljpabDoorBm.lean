/- Classes of states, and the least automaton: mathematics (Moore's rounds; Myhill and Nerode). -/
import Derived.Test.YtihhlddbppljpabDoorAm
namespace Go.Proofs.YtihhlddbppljpabDoor
open Go.RowKit

/-- Alike for words of fewer than k letters. -/
def nxt (N : List (List Int)) (s j : Nat) : Nat := ((N.getD s []).getD j 0).toNat
def okW (m : Nat) (w : List Int) : Prop := ∀ x ∈ w, 0 ≤ x ∧ x < (m : Int)
section
variable {m n : Nat} {N : List (List Int)} {E : List Bool} {R : Nat → Nat → Bool}

end
end Go.Proofs.YtihhlddbppljpabDoor
