/- The contract of digit.Of. -/
import Derived.Test.YtdfgeihlpkpknabF
import Derived.RegionTactic
namespace Go.Proofs.Ytdfgeihlpkpknab
open Go.RowKit

/-- What is left of n behind k places. -/
def remN (b n : Int) : Nat → Int
  | 0 => n
  | k + 1 => remN b n k % cnt b (59 - k)
def dgt (b n : Int) (k : Nat) : Int := remN b n k / cnt b (59 - k)
/-- The digits of n, k of them laid. -/
def dList (b n : Int) (k : Nat) : List Int := (List.range 60).map fun j => if j < k then dgt b n j else 0

theorem dList_length (b n : Int) (k : Nat) : (dList b n k).length = 60 := by simp [dList]
theorem dList_get (b n : Int) (k j : Nat) (h : j < 60) : (dList b n k).getD j 0 = if j < k then dgt b n j else 0 := by simp [dList, List.getD, h]
theorem dList_zero (b n : Int) : dList b n 0 = List.replicate 60 0 := by
  rfl
theorem iArr_zero (b n : Int) : iArr (dList b n 0) = (#[.int .i64 0, .int .i64 0, .int .i64 0, .int .i64 0, .int .i64 0, .int .i64 0, .int .i64 0, .int .i64 0, .int .i64 0, .int .i64 0, .int .i64 0, .int .i64 0, .int .i64 0, .int .i64 0, .int .i64 0, .int .i64 0, .int .i64 0, .int .i64 0, .int .i64 0, .int .i64 0, .int .i64 0, .int .i64 0, .int .i64 0, .int .i64 0, .int .i64 0, .int .i64 0, .int .i64 0, .int .i64 0, .int .i64 0, .int .i64 0, .int .i64 0, .int .i64 0, .int .i64 0, .int .i64 0, .int .i64 0, .int .i64 0, .int .i64 0, .int .i64 0, .int .i64 0, .int .i64 0, .int .i64 0, .int .i64 0, .int .i64 0, .int .i64 0, .int .i64 0, .int .i64 0, .int .i64 0, .int .i64 0, .int .i64 0, .int .i64 0, .int .i64 0, .int .i64 0, .int .i64 0, .int .i64 0, .int .i64 0, .int .i64 0, .int .i64 0, .int .i64 0, .int .i64 0, .int .i64 0] : Array Value) := by
  rw [dList_zero]; rfl
theorem dList_set (b n : Int) (k : Nat) (h : k < 60) : (iArr (dList b n k)).setIfInBounds k (.int .i64 (dgt b n k)) = iArr (dList b n (k + 1)) := by
  apply Array.ext_getElem?
  intro j
  rw [Array.getElem?_setIfInBounds]
  by_cases hj : j < 60
  · rw [iArr_get _ _ (by rw [dList_length]; exact hj), iArr_get _ _ (by rw [dList_length]; exact hj), dList_get _ _ _ _ hj, dList_get _ _ _ _ hj]
    by_cases e : k = j
    · subst e
      rw [if_pos rfl, if_pos (by rw [iArr_size, dList_length]; exact hj), if_pos (by omega)]
    · rw [if_neg e]
      by_cases h1 : j < k
      · rw [if_pos h1, if_pos (by omega)]
      · rw [if_neg h1, if_neg (by omega)]
  · rw [if_neg (by omega), Array.getElem?_eq_none (by rw [iArr_size, dList_length]; omega), Array.getElem?_eq_none (by rw [iArr_size, dList_length]; omega)]

theorem remN_bd (b n : Int) (h1 : 1 ≤ b) (h2 : b ≤ 6) (hn : 0 ≤ n) (k : Nat) : 0 ≤ remN b n k ∧ remN b n k ≤ n := by
  induction k with
  | zero => exact ⟨hn, Int.le_refl _⟩
  | succ k ih =>
    have hc := (cnt_bd b h1 h2 (59 - k)).1
    simp only [remN]
    have e1 := Int.emod_nonneg (remN b n k) (b := cnt b (59 - k)) (by omega)
    have e2 : remN b n k % cnt b (59 - k) ≤ remN b n k := by
      have := Int.emod_add_mul_ediv (remN b n k) (cnt b (59 - k))
      have := Int.ediv_nonneg ih.1 (b := cnt b (59 - k)) (by omega)
      have := Int.mul_nonneg (a := cnt b (59 - k)) (b := remN b n k / cnt b (59 - k)) (by omega) this
      omega
    omega

theorem dgt_bd (b n : Int) (h1 : 1 ≤ b) (h2 : b ≤ 6) (hn : 0 ≤ n) (k : Nat) : 0 ≤ dgt b n k ∧ dgt b n k ≤ n := by
  have hc := (cnt_bd b h1 h2 (59 - k)).1
  have hr := remN_bd b n h1 h2 hn k
  unfold dgt
  have e1 := Int.ediv_nonneg hr.1 (b := cnt b (59 - k)) (by omega)
  have e2 := Int.ediv_le_self (cnt b (59 - k)) hr.1
  omega

def OfGives (w : World) (l : List Int) (e : Ending) (w' : World) : Prop := ∃ a cap, e = .returned (.tuple #[.slice a l.length cap, .nilIface]) ∧ SlN w.heap.size w' a l.length l ∧ Below w.heap.size w w'


theorem heap_alloc3_fst (w : World) (o o' o'' : Obj) : (((w.alloc o).alloc o').alloc o'').heap[w.heap.size]? = some o := by
  rw [Below.heap_alloc _ _ _ (by simp; omega), heap_alloc2_fst]

theorem heap_setCell_at {w : World} {g k : Nat} {cs : Array Value} {t : TypeId} {v : Value} (h : w.heap[g]? = some (.cells cs t (0, 0))) : (w.setCell ⟨g, k, none⟩ v).heap[g]? = some (.cells (cs.setIfInBounds k v) t (0, 0)) := by
  simp only [World.setCell, Array.getElem?_modify]
  simp [h]

end Go.Proofs.Ytdfgeihlpkpknab
