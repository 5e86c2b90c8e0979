/- Letters by what is left of them without a track; the sets' automata of package some: mathematics. -/
import Derived.Lib.SlicesCompact
import Derived.Test.YtlgjadnkokmjoaaDoorZEg
namespace Go.Proofs.YtlgjadnkokmjoaaDoor
open Go.RowKit

/-- The letters below x of which l is left. -/
def leftL (b : Int) (tr tk x : Nat) (l : Nat) : List Int := ((List.range x).filter fun y : Nat => decide (delT b tr tk (y : Int) = (l : Int))).map fun y : Nat => (y : Int)
def leftR (b : Int) (tr tk m mu : Nat) : List (List Int) := (List.range mu).map fun l => leftL b tr tk m l
theorem leftR_len (b : Int) (tr tk m mu : Nat) : (leftR b tr tk m mu).length = mu := by simp [leftR]
theorem leftR_get {b : Int} {tr tk m mu l : Nat} (hl : l < mu) : (leftR b tr tk m mu).getD l [] = leftL b tr tk m l := by simp [leftR, List.getD, hl]
theorem leftL_zero (b : Int) (tr tk l : Nat) : leftL b tr tk 0 l = [] := by simp [leftL]
theorem leftL_step (b : Int) (tr tk x l : Nat) : leftL b tr tk (x + 1) l = if delT b tr tk (x : Int) = (l : Int) then leftL b tr tk x l ++ [(x : Int)] else leftL b tr tk x l := by
  unfold leftL
  rw [List.range_succ, List.filter_append, List.map_append]
  by_cases h : delT b tr tk (x : Int) = (l : Int)
  · rw [if_pos h]; simp [h]
  · rw [if_neg h]; simp [h]
theorem leftL_len (b : Int) (tr tk x l : Nat) : (leftL b tr tk x l).length ≤ x := by
  have h := List.length_filter_le (fun y : Nat => decide (delT b tr tk (y : Int) = (l : Int))) (List.range x)
  simpa [leftL] using h
theorem mem_leftL {b : Int} {tr tk x l : Nat} {y : Int} : y ∈ leftL b tr tk x l ↔ (0 ≤ y ∧ y < (x : Int)) ∧ delT b tr tk y = (l : Int) := by
  simp only [leftL, List.mem_map, List.mem_filter, List.mem_range, decide_eq_true_eq]
  constructor
  · rintro ⟨s, ⟨h1, h2⟩, rfl⟩
    exact ⟨by omega, h2⟩
  · rintro ⟨h1, h2⟩
    exact ⟨y.toNat, ⟨by omega, by rw [Int.toNat_of_nonneg h1.1]; exact h2⟩, by omega⟩
/-- The same letters as in the document's words. -/
theorem leftL_with {b : Int} (h2 : b ≤ 6) {tr tk m mu : Nat} (ht : tk ≤ tr) (hm : pw (kindsI b) (tr + 1) = (m : Int)) (hf : pw (kindsI b) tr = (mu : Int)) {l : Nat} (hl : l < mu) (x : Int) : x ∈ leftL b tr tk m l ↔ x ∈ withL b tr tk (l : Int) := by
  rw [mem_leftL, mem_withL h2 ht hm hf (by omega)]

end Go.Proofs.YtlgjadnkokmjoaaDoor
