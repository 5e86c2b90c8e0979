/- Letters, counted: mathematics. -/
import Derived.Test.YtpkjnkcdajngkaaRu
namespace Go.Proofs.Ytpkjnkcdajngkaa
open Go.RowKit

def pw (k : Int) : Nat → Int
  | 0 => 1
  | n + 1 => pw k n * k

theorem pw_succ (k : Int) (n : Nat) : pw k (n + 1) = pw k n * k := rfl
theorem pw_pos (k : Int) (h : 2 ≤ k) (n : Nat) : 1 ≤ pw k n := by
  induction n with
  | zero => simp [pw]
  | succ n ih => rw [pw_succ]; have := Int.mul_le_mul ih (show 1 ≤ k by omega) (by omega) (by omega); omega

theorem pw_bd (k : Int) (h1 : 2 ≤ k) (h2 : k ≤ 6) (n : Nat) (hn : n ≤ 5) : 1 ≤ pw k n ∧ pw k n ≤ 7776 := by
  have hk : k = 2 ∨ k = 3 ∨ k = 4 ∨ k = 5 ∨ k = 6 := by omega
  have hn : n = 0 ∨ n = 1 ∨ n = 2 ∨ n = 3 ∨ n = 4 ∨ n = 5 := by omega
  rcases hk with rfl | rfl | rfl | rfl | rfl <;> rcases hn with rfl | rfl | rfl | rfl | rfl | rfl <;> decide

theorem kinds_bd2 (b : Int) (h2 : b ≤ 6) : 2 ≤ kindsI b ∧ kindsI b ≤ 6 := by unfold kindsI; split <;> omega

/-- The fault of so many tracks, and how many letters. -/
def codeM (b t : Int) : Int := if (1 ≤ b ∧ b ≤ 6) ∧ 0 ≤ t ∧ t ≤ 5 then (if pw (kindsI b) t.toNat ≤ 36 then 0 else 3) else 1
def manyU (b t : Int) : Int := if codeM b t = 0 then pw (kindsI b) t.toNat else 0

theorem codeM_zero {b t : Int} (h : codeM b t = 0) : 1 ≤ b ∧ b ≤ 6 ∧ 0 ≤ t ∧ t ≤ 5 ∧ pw (kindsI b) t.toNat ≤ 36 ∧ manyU b t = pw (kindsI b) t.toNat := by
  have h' := h
  unfold codeM at h
  split at h
  · split at h
    · exact ⟨by omega, by omega, by omega, by omega, by assumption, by unfold manyU; rw [if_pos h']⟩
    · cases h
  · cases h

/-- The first code that is none of OK. -/
def firstC : List Int → Int
  | [] => 0
  | c :: r => if c = 0 then firstC r else c
theorem firstC_pre (l : List Int) (k : Nat) (h : ∀ j, j < k → l.getD j 0 = 0) (hk : k < l.length) (hc : l.getD k 0 ≠ 0) : firstC l = l.getD k 0 := by
  induction l generalizing k with
  | nil => simp at hk
  | cons c r ih =>
    cases k with
    | zero => simp at hc; simp [firstC, hc]
    | succ k =>
      have h0 : c = 0 := by simpa using h 0 (by omega)
      simp only [firstC, h0, if_true]
      have := ih k (fun j hj => by simpa using h (j + 1) (by omega)) (by simpa using hk) (by simpa using hc)
      rw [this]; simp
theorem firstC_all (l : List Int) (h : ∀ j, j < l.length → l.getD j 0 = 0) : firstC l = 0 := by
  induction l with
  | nil => rfl
  | cons c r ih =>
    have h0 : c = 0 := by simpa using h 0 (by simp)
    simp only [firstC, h0, if_true]
    exact ih fun j hj => by simpa using h (j + 1) (by simpa using hj)
theorem firstC_get0 (l : List Int) (h : firstC l = 0) : ∀ j, j < l.length → l.getD j 0 = 0 := by
  induction l with
  | nil => intro j hj; simp at hj
  | cons c r ih =>
    intro j hj
    by_cases hc : c = 0
    · simp only [firstC, hc, if_true] at h
      cases j with
      | zero => simpa using hc
      | succ j => simpa using ih h j (by simpa using hj)
    · simp only [firstC, hc, if_false] at h
end Go.Proofs.Ytpkjnkcdajngkaa
