/- Automata: what is wrong with one, where words lead, which states are met: mathematics. -/
import Derived.Test.YtlgjadnkokmjoaaDoorLm
namespace Go.Proofs.YtlgjadnkokmjoaaDoor
open Go.RowKit

/-- What is wrong with a word of m letters. -/
def wordC (m : Nat) (w : List Int) : Int := if 400 < w.length then 3 else if w.all (fun x => decide (0 ≤ x ∧ x < (m : Int))) = true then 0 else 1
theorem all_getD {l : List Int} {n : Nat} (h : l.all (fun x => decide (0 ≤ x ∧ x < (n : Int))) = true) (j : Nat) (hj : j < l.length) : 0 ≤ l.getD j 0 ∧ l.getD j 0 < (n : Int) := by
  rw [List.all_eq_true] at h
  have := h (l.getD j 0) (by simp [List.getD, hj])
  simpa using this
theorem all_of_getD {l : List Int} {n : Nat} (h : ∀ j, j < l.length → 0 ≤ l.getD j 0 ∧ l.getD j 0 < (n : Int)) : l.all (fun x => decide (0 ≤ x ∧ x < (n : Int))) = true := by
  rw [List.all_eq_true]
  intro x hx
  obtain ⟨j, hj, rfl⟩ := List.getElem_of_mem hx
  have := h j hj
  simpa [List.getD, hj] using this
theorem all_not {l : List Int} {n : Nat} (k : Nat) (hk : k < l.length) (h : ¬ (0 ≤ l.getD k 0 ∧ l.getD k 0 < (n : Int))) : l.all (fun x => decide (0 ≤ x ∧ x < (n : Int))) = false := by
  cases e : l.all (fun x => decide (0 ≤ x ∧ x < (n : Int))) with
  | false => rfl
  | true => exact absurd (all_getD e k hk) h

theorem wordC_zero {m : Nat} {w : List Int} (h : wordC m w = 0) : w.length ≤ 400 ∧ ∀ j, j < w.length → 0 ≤ w.getD j 0 ∧ w.getD j 0 < (m : Int) := by
  unfold wordC at h
  split at h
  · cases h
  · split at h
    · exact ⟨by omega, fun j hj => all_getD (by assumption) j hj⟩
    · cases h
theorem wordC_long {m : Nat} {w : List Int} (h : 400 < w.length) : wordC m w = 3 := by unfold wordC; rw [if_pos h]
theorem wordC_bad {m : Nat} {w : List Int} (h : ¬ 400 < w.length) (k : Nat) (hk : k < w.length) (hx : ¬ (0 ≤ w.getD k 0 ∧ w.getD k 0 < (m : Int))) : wordC m w = 1 := by
  unfold wordC; rw [if_neg h, if_neg (by rw [all_not k hk hx]; decide)]
theorem wordC_good {m : Nat} {w : List Int} (h : ¬ 400 < w.length) (hx : ∀ k, k < w.length → 0 ≤ w.getD k 0 ∧ w.getD k 0 < (m : Int)) : wordC m w = 0 := by
  unfold wordC; rw [if_neg h, if_pos (all_of_getD hx)]

theorem getD_at (l : List Int) (j : Nat) (hj : j < l.length) : l.getD j 0 = l[j] := by simp [List.getD, hj]
end Go.Proofs.YtlgjadnkokmjoaaDoor
