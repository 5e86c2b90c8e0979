/- 2 texts in one. -/
import Derived.Test.YtkighkpmebcnhacAx
import Derived.Test.YtkighkpmebcnhacEe
import Derived.Test.YtkighkpmebcnhacLq
/- The reference's Without: contract. -/
namespace Go.Proofs.Ytkighkpmebcnhac
open Go.RowKit

theorem digB_put (b : Int) (h2 : b ≤ 6) {tr t : Nat} {x : Int} (hx : 0 ≤ x ∧ x < kindsI b) (l : Int) : digB b (putD b tr t x l) = true := by
  unfold digB
  rw [List.all_eq_true]
  intro y hy
  obtain ⟨j, hj, rfl⟩ := List.getElem_of_mem hy
  have := putD_bd b h2 (tr := tr) (t := t) hx l j hj
  rw [getD_at _ j hj] at this
  simpa using this
end Go.Proofs.Ytkighkpmebcnhac

/- The reference's FixOf: contract. -/
namespace Go.Proofs.Ytkighkpmebcnhac
open Go.RowKit

/-- Fix's code, and what it hands back. -/
def fixC (b t : Int) (N : List (List Int)) (k : Nat) (tk x : Int) : Int := if autoC b t N k = 0 then (if (0 ≤ tk ∧ tk < t) ∧ 0 ≤ x ∧ x < kindsI b then 0 else 1) else autoC b t N k
def fixN (b t : Int) (N : List (List Int)) (E : List Bool) (k : Nat) (tk x : Int) : List (List Int) := if fixC b t N k tk x = 0 then leastN (relN N (fixT b (t.toNat - 1) tk.toNat x (manyU b (t - 1)).toNat)) E (manyU b (t - 1)).toNat else []
def fixE (b t : Int) (N : List (List Int)) (E : List Bool) (k : Nat) (tk x : Int) : List Bool := if fixC b t N k tk x = 0 then leastE (relN N (fixT b (t.toNat - 1) tk.toNat x (manyU b (t - 1)).toNat)) E (manyU b (t - 1)).toNat else []
theorem fixC_zero {b t : Int} {N : List (List Int)} {k : Nat} {tk x : Int} (h : fixC b t N k tk x = 0) : autoC b t N k = 0 ∧ (0 ≤ tk ∧ tk < t) ∧ 0 ≤ x ∧ x < kindsI b := by
  unfold fixC at h
  split at h
  · split at h
    · rename_i h1 h2; exact ⟨h1, h2⟩
    · cases h
  · rename_i h1; exact absurd h h1
/-- One track fewer has no more letters. -/
theorem many_less {b : Int} {tr : Nat} (h : codeM b ((tr : Int) + 1) = 0) : codeM b (tr : Int) = 0 ∧ manyU b (tr : Int) = pw (kindsI b) tr ∧ 1 ≤ manyU b (tr : Int) ∧ manyU b (tr : Int) ≤ 36 ∧ pw (kindsI b) (tr + 1) = manyU b ((tr : Int) + 1) ∧ tr ≤ 4 ∧ 1 ≤ b ∧ b ≤ 6 := by
  obtain ⟨h1, h2, h3, h4, h5, h6⟩ := codeM_zero h
  have hk := kinds_bd2 b h2
  rw [show ((tr : Int) + 1).toNat = tr + 1 by omega] at h5 h6
  have hp := pw_pos (kindsI b) hk.1 tr
  have hle : pw (kindsI b) tr ≤ 36 := by
    rw [pw_succ] at h5
    have := Int.mul_le_mul_of_nonneg_left (show (1 : Int) ≤ kindsI b by omega) (show 0 ≤ pw (kindsI b) tr by omega)
    omega
  have hc : codeM b (tr : Int) = 0 := by
    rw [codeM_yes h1 h2 (by omega) (by omega), Int.toNat_natCast, if_pos hle]
  have hm : manyU b (tr : Int) = pw (kindsI b) tr := by
    have := (codeM_zero hc).2.2.2.2.2
    rwa [Int.toNat_natCast] at this
  exact ⟨hc, hm, by omega, by omega, h6.symm, by omega, h1, h2⟩

end Go.Proofs.Ytkighkpmebcnhac
