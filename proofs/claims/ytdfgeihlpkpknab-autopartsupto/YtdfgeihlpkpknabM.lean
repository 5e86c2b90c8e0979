/- Plain mathematics: what the places count, and digits. -/
import Derived.WalkKit
namespace Go.Proofs.Ytdfgeihlpkpknab

/-- What the last place, and the one behind it, count, behind k places. -/
def cntP (b : Int) : Nat → Int × Int
  | 0 => (1, 1)
  | k + 1 => (min (if b = 1 then (cntP b k).1 + (cntP b k).2 else (cntP b k).1 * b) 1099511627777, (cntP b k).1)
def cnt (b : Int) (k : Nat) : Int := (cntP b k).1
def ahd (b : Int) (k : Nat) : Int := (cntP b k).2
theorem cnt_zero (b : Int) : cnt b 0 = 1 := rfl
theorem ahd_zero (b : Int) : ahd b 0 = 1 := rfl
theorem ahd_succ (b : Int) (k : Nat) : ahd b (k + 1) = cnt b k := rfl
theorem cnt_succ (b : Int) (k : Nat) : cnt b (k + 1) = min (if b = 1 then cnt b k + ahd b k else cnt b k * b) 1099511627777 := rfl

theorem cnt_bd (b : Int) (h1 : 1 ≤ b) (_h2 : b ≤ 6) (k : Nat) : (1 ≤ cnt b k ∧ cnt b k ≤ 1099511627777) ∧ (1 ≤ ahd b k ∧ ahd b k ≤ 1099511627777) := by
  induction k with
  | zero => simp [cnt_zero, ahd_zero]
  | succ k ih =>
    obtain ⟨⟨h3, h4⟩, h5, h6⟩ := ih
    rw [ahd_succ, cnt_succ]
    refine ⟨⟨?_, ?_⟩, h3, h4⟩
    · have : 1 ≤ if b = 1 then cnt b k + ahd b k else cnt b k * b := by
        split
        · omega
        · have := Int.mul_le_mul h3 h1 (by omega) (by omega)
          omega
      omega
    · exact Int.min_le_right _ _

/-- The cells of the places, k of them laid. -/
def cArr (b : Int) (k : Nat) : Array Value := ((List.range 60).map fun j => Value.int .i64 (if 60 ≤ j + k then cnt b (59 - j) else 0)).toArray
theorem cArr_size (b : Int) (k : Nat) : (cArr b k).size = 60 := by simp [cArr]
theorem cArr_get (b : Int) (k j : Nat) (h : j < 60) : (cArr b k)[j]? = some (.int .i64 (if 60 ≤ j + k then cnt b (59 - j) else 0)) := by simp [cArr, h]
theorem cArr_zero (b : Int) : cArr b 0 = Array.replicate 60 (.int .i64 0) := by
  apply Array.ext_getElem?
  intro j
  by_cases h : j < 60
  · rw [cArr_get b 0 j h, if_neg (by omega)]; simp [h]
  · simp [cArr, h]
theorem cArr_set (b : Int) (k : Nat) (h : k < 60) : (cArr b k).setIfInBounds (59 - k) (.int .i64 (cnt b k)) = cArr b (k + 1) := by
  apply Array.ext_getElem?
  intro j
  by_cases hj : j < 60
  · rw [cArr_get b (k + 1) j hj, Array.getElem?_setIfInBounds]
    by_cases e : 59 - k = j
    · subst e
      rw [if_pos rfl, if_pos (by rw [cArr_size]; omega), if_pos (by omega)]
      congr 3; omega
    · rw [if_neg e, cArr_get b k j hj]
      by_cases h1 : 60 ≤ j + k
      · rw [if_pos h1, if_pos (by omega)]
      · rw [if_neg h1, if_neg (by omega)]
  · have h1 : (cArr b (k + 1))[j]? = none := by rw [Array.getElem?_eq_none]; rw [cArr_size]; omega
    have h2 : ((cArr b k).setIfInBounds (59 - k) (.int .i64 (cnt b k)))[j]? = none := by rw [Array.getElem?_eq_none]; simp [cArr_size]; omega
    rw [h1, h2]
theorem cArr_one (b : Int) (k : Nat) : (cArr b k).all (·.oneCell') = true := by
  simp [cArr, Value.oneCell']
end Go.Proofs.Ytdfgeihlpkpknab
