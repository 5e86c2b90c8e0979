/- Letters, counted: mathematics. -/
import Derived.Test.YtlgjadnkokmjoaaDoorRu
namespace Go.Proofs.YtlgjadnkokmjoaaDoor
open Go.RowKit

def pw (k : Int) : Nat → Int
  | 0 => 1
  | n + 1 => pw k n * k

theorem pw_succ (k : Int) (n : Nat) : pw k (n + 1) = pw k n * k := rfl
theorem pw_pos (k : Int) (h : 2 ≤ k) (n : Nat) : 1 ≤ pw k n := by
  induction n with
  | zero => simp [pw]
  | succ n ih => rw [pw_succ]; have := Int.mul_le_mul ih (show 1 ≤ k by omega) (by omega) (by omega); omega

theorem pw_bd (k : Int) (h1 : 2 ≤ k) (h2 : k ≤ 6) (n : Nat) (hn : n ≤ 5) : 1 ≤ pw k n ∧ pw k n ≤ 7776 := by
  have hk : k = 2 ∨ k = 3 ∨ k = 4 ∨ k = 5 ∨ k = 6 := by omega
  have hn : n = 0 ∨ n = 1 ∨ n = 2 ∨ n = 3 ∨ n = 4 ∨ n = 5 := by omega
  rcases hk with rfl | rfl | rfl | rfl | rfl <;> rcases hn with rfl | rfl | rfl | rfl | rfl | rfl <;> decide

theorem kinds_bd2 (b : Int) (h2 : b ≤ 6) : 2 ≤ kindsI b ∧ kindsI b ≤ 6 := by unfold kindsI; split <;> omega

/-- The fault of so many tracks, and how many letters. -/
def codeM (b t : Int) : Int := if (1 ≤ b ∧ b ≤ 6) ∧ 0 ≤ t ∧ t ≤ 5 then (if pw (kindsI b) t.toNat ≤ 36 then 0 else 3) else 1
def manyU (b t : Int) : Int := if codeM b t = 0 then pw (kindsI b) t.toNat else 0

theorem codeM_zero {b t : Int} (h : codeM b t = 0) : 1 ≤ b ∧ b ≤ 6 ∧ 0 ≤ t ∧ t ≤ 5 ∧ pw (kindsI b) t.toNat ≤ 36 ∧ manyU b t = pw (kindsI b) t.toNat := by
  have h' := h
  unfold codeM at h
  split at h
  · split at h
    · exact ⟨by omega, by omega, by omega, by omega, by assumption, by unfold manyU; rw [if_pos h']⟩
    · cases h
  · cases h

end Go.Proofs.YtlgjadnkokmjoaaDoor
