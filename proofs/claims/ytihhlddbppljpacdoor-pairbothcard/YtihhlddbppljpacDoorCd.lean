/- A queue of spots. -/
import Derived.Test.YtihhlddbppljpacDoorAt
import Derived.Test.YtihhlddbppljpacDoorBt
namespace Go.Proofs.YtihhlddbppljpacDoor
open Go.RowKit

/-- Cell q of a row of spots. -/
def spotC (M : Nat) (l : List Int) (q : Nat) : Value := .int .i64 (if q % 2 = 0 then (hiI M ((l.getD (q / 2) 0).toNat)) else (loI M ((l.getD (q / 2) 0).toNat)))
theorem spotC_fst (M : Nat) (l : List Int) (j : Nat) : spotC M l (2 * j) = .int .i64 (hiI M ((l.getD j 0).toNat)) := by unfold spotC; rw [if_pos (by omega), show 2 * j / 2 = j by omega]
theorem spotC_snd (M : Nat) (l : List Int) (j : Nat) : spotC M l (2 * j + 1) = .int .i64 (loI M ((l.getD j 0).toNat)) := by unfold spotC; rw [if_neg (by omega), show (2 * j + 1) / 2 = j by omega]
theorem spotC_old (M : Nat) (l : List Int) (x : Int) (q : Nat) (hq : q < 2 * l.length) : spotC M (l ++ [x]) q = spotC M l q := by
  unfold spotC
  rw [pre_getD (List.prefix_append _ _) (q / 2) (by omega)]
theorem spotC_new (M : Nat) (l : List Int) (x : Int) : spotC M (l ++ [x]) (2 * l.length) = .int .i64 (hiI M (x.toNat)) ∧ spotC M (l ++ [x]) (2 * l.length + 1) = .int .i64 (loI M (x.toNat)) := by
  rw [spotC_fst, spotC_snd]
  simp [List.getD]

end Go.Proofs.YtihhlddbppljpacDoor
