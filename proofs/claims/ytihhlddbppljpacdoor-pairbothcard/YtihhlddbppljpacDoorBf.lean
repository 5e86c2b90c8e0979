/- The states that are met, each with the word by which it is met; the first word: mathematics. -/
import Derived.Test.YtihhlddbppljpacDoorBm
namespace Go.Proofs.YtihhlddbppljpacDoor
open Go.RowKit

theorem okW_snoc {m : Nat} {w : List Int} {x : Int} : okW m (w ++ [x]) ↔ okW m w ∧ 0 ≤ x ∧ x < (m : Int) := by
  unfold okW
  constructor
  · intro h; exact ⟨fun y hy => h y (by simp [hy]), h x (by simp)⟩
  · rintro ⟨h1, h2⟩ y hy
    rcases List.mem_append.1 hy with h | h
    · exact h1 y h
    · rw [List.mem_singleton] at h; subst h; exact h2
theorem runL_snoc (N : List (List Int)) (w : List Int) (x : Int) : runL N (w ++ [x]) = stepL N (runL N w) x := by simp [runL, List.foldl_append]

end Go.Proofs.YtihhlddbppljpacDoor
