/- Classes of states, and the least automaton: mathematics (Moore's rounds; Myhill and Nerode). -/
import Derived.Test.YtpkjnkcdajngkaaAm
namespace Go.Proofs.Ytpkjnkcdajngkaa
open Go.RowKit

/-- Alike for words of fewer than k letters. -/
def nxt (N : List (List Int)) (s j : Nat) : Nat := ((N.getD s []).getD j 0).toNat
/-- Words, from a state on; states at which the same words are taken. -/
def runF (N : List (List Int)) (s : Nat) (w : List Int) : Nat := w.foldl (stepL N) s
def okW (m : Nat) (w : List Int) : Prop := ∀ x ∈ w, 0 ≤ x ∧ x < (m : Int)
theorem step_nxt (N : List (List Int)) (s : Nat) (x : Int) : stepL N s x = nxt N s x.toNat := rfl
section
variable {m n : Nat} {N : List (List Int)} {E : List Bool} {R : Nat → Nat → Bool}

end
end Go.Proofs.Ytpkjnkcdajngkaa
