/- The reference's SpreadOf: contract. -/
import Derived.Deep.RegionHeldLaw
import Derived.Deep.RegionLaw
import Derived.Test.YtebbjmcjgjecmaaMa
import Derived.Test.YtebbjmcjgjecmaaZNx
import Derived.Test.YtebbjmcjgjecmaaB
import Derived.Test.YtebbjmcjgjecmaaBp
import Derived.Test.YtebbjmcjgjecmaaCf
import Derived.Test.YtebbjmcjgjecmaaDb
import Derived.Test.YtebbjmcjgjecmaaEa
import Derived.Test.YtebbjmcjgjecmaaZG
import Derived.Test.YtebbjmcjgjecmaaZLb
import Derived.Test.YtebbjmcjgjecmaaZLp
namespace Go.Proofs.Ytebbjmcjgjecmaa
open Go.RowKit

/-- Spread's code, and what it hands back. -/
def atC (tr : Int) (l : List Int) : Int := if l.all (fun x => decide (0 ≤ x ∧ x < tr)) = true then 0 else 1
def sprC (b t : Int) (N : List (List Int)) (k : Nat) (tr : Int) (at_ : List Int) : Int :=
  if autoC b t N k = 0 then (if codeM b tr = 0 then (if (at_.length : Int) = t then atC tr at_ else 2) else codeM b tr) else autoC b t N k
def sprN (b t : Int) (N : List (List Int)) (E : List Bool) (k : Nat) (tr : Int) (at_ : List Int) : List (List Int) := if sprC b t N k tr at_ = 0 then leastN (relN N (spreadT b tr.toNat at_ (manyU b tr).toNat)) E (manyU b tr).toNat else []
def sprE (b t : Int) (N : List (List Int)) (E : List Bool) (k : Nat) (tr : Int) (at_ : List Int) : List Bool := if sprC b t N k tr at_ = 0 then leastE (relN N (spreadT b tr.toNat at_ (manyU b tr).toNat)) E (manyU b tr).toNat else []
theorem atC_not {tr : Int} {l : List Int} (i : Nat) (hi : i < l.length) (h : ¬ (0 ≤ l.getD i 0 ∧ l.getD i 0 < tr)) : atC tr l = 1 := by
  unfold atC
  rw [if_neg]
  intro hall
  rw [List.all_eq_true] at hall
  have := hall (l.getD i 0) (by rw [getD_at _ i hi]; exact List.getElem_mem hi)
  exact h (by simpa using this)
theorem atC_all {tr : Int} {l : List Int} (h : ∀ i, i < l.length → 0 ≤ l.getD i 0 ∧ l.getD i 0 < tr) : atC tr l = 0 := by
  unfold atC
  rw [if_pos]
  rw [List.all_eq_true]
  intro x hx
  obtain ⟨i, hi, rfl⟩ := List.getElem_of_mem hx
  have := h i hi
  rw [getD_at _ i hi] at this
  simpa using this
theorem atC_get {tr : Int} {l : List Int} (h : atC tr l = 0) (i : Nat) (hi : i < l.length) : 0 ≤ l.getD i 0 ∧ l.getD i 0 < tr := by
  apply Classical.byContradiction
  intro hn
  rw [atC_not i hi hn] at h
  cases h
theorem sprC_zero {b t : Int} {N : List (List Int)} {k : Nat} {tr : Int} {at_ : List Int} (h : sprC b t N k tr at_ = 0) : autoC b t N k = 0 ∧ codeM b tr = 0 ∧ (at_.length : Int) = t ∧ atC tr at_ = 0 := by
  unfold sprC at h
  split at h
  · split at h
    · split at h
      · exact ⟨by assumption, by assumption, by assumption, h⟩
      · cases h
    · rename_i h1 h2; exact absurd h h2
  · rename_i h1; exact absurd h h1
theorem digB_spread (b : Int) (h2 : b ≤ 6) (tr : Nat) (at_ : List Int) (l : Int) : digB b (spreadD b tr at_ l) = true := by
  unfold digB
  rw [List.all_eq_true]
  intro x hx
  obtain ⟨j, hj, rfl⟩ := List.getElem_of_mem hx
  have := spreadD_bd b h2 tr at_ l j hj
  rw [getD_at _ j hj] at this
  simpa using this

end Go.Proofs.Ytebbjmcjgjecmaa
