/- Of two one, and not one: mathematics. -/
import Derived.Test.YtihhlddbppljpacDoorDa
namespace Go.Proofs.YtihhlddbppljpacDoor
open Go.RowKit

/-- Is the word taken? -/
def tkB (N : List (List Int)) (E : List Bool) (w : List Int) : Bool := E.getD (runL N w) false
def notL (E : List Bool) : List Bool := E.map (fun e => !e)
theorem notL_len (E : List Bool) : (notL E).length = E.length := by simp [notL]
theorem least_tk {m n n' : Nat} {N N' : List (List Int)} (hG : GoodN m n N) (hG' : GoodN m n' N') (E E' : List Bool) (h : ∀ w, okW m w → tkB N E w = tkB N' E' w) : leastN N E m = leastN N' E' m ∧ leastE N E m = leastE N' E' m ∧ leastK N E m = leastK N' E' m := by
  obtain ⟨h1, h2⟩ := least_same hG hG' E E' h
  exact ⟨h1, h2, by rw [← leastN_len, h1, leastN_len]⟩
end Go.Proofs.YtihhlddbppljpacDoor
