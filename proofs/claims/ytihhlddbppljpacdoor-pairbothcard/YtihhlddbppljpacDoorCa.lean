/- First words: how long they are, the way back to the beginning; of two automata one: mathematics. -/
import Derived.Test.YtihhlddbppljpacDoorBq
namespace Go.Proofs.YtihhlddbppljpacDoor
open Go.RowKit

/-- OF TWO ONE: state x of the one and y of the other, of n', is x times n' and y. -/
def prodN (N N' : List (List Int)) (m : Nat) : List (List Int) := (List.range (N.length * N'.length)).map fun s => (List.range m).map fun l => (N.getD (s / N'.length) []).getD l 0 * (N'.length : Int) + (N'.getD (s % N'.length) []).getD l 0
/-- What how says of whether both take it. -/
def howB (how : Int) : Bool → Bool → Bool
  | false, false => how % 2 == 1
  | true, false => how / 2 % 2 == 1
  | false, true => how / 4 % 2 == 1
  | true, true => how / 8 % 2 == 1
def prodE (how : Int) (n n' : Nat) (E E' : List Bool) : List Bool := (List.range (n * n')).map fun s => howB how (E.getD (s / n') false) (E'.getD (s % n') false)
theorem pair_lt {n n' x y : Nat} (hx : x < n) (hy : y < n') : x * n' + y < n * n' := by
  have := Nat.mul_le_mul_right n' (show x + 1 ≤ n from hx)
  rw [Nat.add_mul] at this
  omega
theorem pair_parts {n n' x y : Nat} (_hx : x < n) (hy : y < n') : (x * n' + y) / n' = x ∧ (x * n' + y) % n' = y := by
  constructor
  · rw [Nat.mul_comm, Nat.mul_add_div (by omega), Nat.div_eq_of_lt hy]; omega
  · rw [Nat.mul_comm, Nat.mul_add_mod, Nat.mod_eq_of_lt hy]
theorem parts_lt {n n' s : Nat} (h : s < n * n') : s / n' < n ∧ s % n' < n' := by
  have h0 : 0 < n' := by
    rcases Nat.eq_zero_or_pos n' with e | e
    · rw [e, Nat.mul_zero] at h; omega
    · exact e
  exact ⟨Nat.div_lt_of_lt_mul (by rw [Nat.mul_comm]; exact h), Nat.mod_lt _ h0⟩
theorem prodN_get {N N' : List (List Int)} {m s : Nat} (h : s < N.length * N'.length) : (prodN N N' m).getD s [] = (List.range m).map fun l => (N.getD (s / N'.length) []).getD l 0 * (N'.length : Int) + (N'.getD (s % N'.length) []).getD l 0 := by simp [prodN, List.getD, h]
theorem prodE_get {how : Int} {n n' : Nat} {E E' : List Bool} {s : Nat} (h : s < n * n') : (prodE how n n' E E').getD s false = howB how (E.getD (s / n') false) (E'.getD (s % n') false) := by simp [prodE, List.getD, h]
theorem prod_cell {m n n' : Nat} {N N' : List (List Int)} (hG : GoodN m n N) (hG' : GoodN m n' N') {s l : Nat} (hs : s < n * n') (hl : l < m) : ((prodN N N' m).getD s []).getD l 0 = ((nxt N (s / n') l * n' + nxt N' (s % n') l : Nat) : Int) := by
  obtain ⟨h1, h2⟩ := parts_lt hs
  rw [prodN_get (by rw [hG.1, hG'.1]; exact hs), hG'.1]
  rw [show ((List.range m).map fun l => (N.getD (s / n') []).getD l 0 * (n' : Int) + (N'.getD (s % n') []).getD l 0).getD l 0 = (N.getD (s / n') []).getD l 0 * (n' : Int) + (N'.getD (s % n') []).getD l 0 by simp [List.getD, hl]]
  have e1 := (nxt_cell hG h1 hl).2
  have e2 := (nxt_cell hG' h2 hl).2
  rw [e1, e2]
  simp
theorem prod_nxt {m n n' : Nat} {N N' : List (List Int)} (hG : GoodN m n N) (hG' : GoodN m n' N') {s l : Nat} (hs : s < n * n') (hl : l < m) : nxt (prodN N N' m) s l = nxt N (s / n') l * n' + nxt N' (s % n') l := by
  unfold nxt
  have := prod_cell hG hG' hs hl
  unfold nxt at this
  rw [this, Int.toNat_natCast]
theorem prod_good {m n n' : Nat} {N N' : List (List Int)} (hG : GoodN m n N) (hG' : GoodN m n' N') (hn : n * n' ≤ 6400) : GoodN m (n * n') (prodN N N' m) := by
  refine ⟨by simp [prodN, hG.1, hG'.1], Nat.mul_pos hG.2.1 hG'.2.1, hn, hG.2.2.2.1, hG.2.2.2.2.1, fun s hs => ⟨?_, fun j hj => ?_⟩⟩
  · rw [prodN_get (by rw [hG.1, hG'.1]; exact hs)]; simp
  · rw [prod_cell hG hG' hs hj]
    obtain ⟨h1, h2⟩ := parts_lt hs
    have := pair_lt (nxt_cell hG h1 hj).1 (nxt_cell hG' h2 hj).1
    omega
theorem leastK_80 {m n : Nat} {N : List (List Int)} (hG : GoodN m n N) (E : List Bool) (hn : n ≤ 80) : leastK N E m ≤ 80 := by
  unfold leastK
  exact Nat.le_trans (reps_count _ _) (Nat.le_trans (met_len hG) hn)
theorem autoC_80 {b t : Int} {N : List (List Int)} {e : Nat} (h : autoC b t N e = 0) : N.length ≤ 80 := by
  unfold autoC at h
  split at h
  · split at h
    · cases h
    · split at h
      · cases h
      · omega
  · contradiction
end Go.Proofs.YtihhlddbppljpacDoor
