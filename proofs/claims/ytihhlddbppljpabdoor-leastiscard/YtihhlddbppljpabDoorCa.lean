/- First words: how long they are, the way back to the beginning; of two automata one: mathematics. -/
import Derived.Test.YtihhlddbppljpabDoorBq
namespace Go.Proofs.YtihhlddbppljpabDoor
open Go.RowKit

theorem leastK_80 {m n : Nat} {N : List (List Int)} (hG : GoodN m n N) (E : List Bool) (hn : n ≤ 80) : leastK N E m ≤ 80 := by
  unfold leastK
  exact Nat.le_trans (reps_count _ _) (Nat.le_trans (met_len hG) hn)
theorem autoC_80 {b t : Int} {N : List (List Int)} {e : Nat} (h : autoC b t N e = 0) : N.length ≤ 80 := by
  unfold autoC at h
  split at h
  · split at h
    · cases h
    · split at h
      · cases h
      · omega
  · contradiction
end Go.Proofs.YtihhlddbppljpabDoor
