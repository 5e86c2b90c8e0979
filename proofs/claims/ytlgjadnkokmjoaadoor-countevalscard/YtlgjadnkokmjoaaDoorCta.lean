/- Counts that go no further than one too many; how many words lead to an end: mathematics. -/
import Derived.Test.YtlgjadnkokmjoaaDoorAm
namespace Go.Proofs.YtlgjadnkokmjoaaDoor
open Go.RowKit

/-- A count that goes no further than one too many. -/
def capI (x : Int) : Int := if x ≤ 1152921504606846976 then x else 1152921504606846977
theorem capI_bd {x : Int} (h : 0 ≤ x) : 0 ≤ capI x ∧ capI x ≤ 1152921504606846977 := by
  unfold capI; split <;> omega
theorem capI_add {x y : Int} (hy : 0 ≤ y) : capI (capI x + y) = capI (x + y) := by
  unfold capI; repeat' split
  all_goals omega
/-- A sum of so many. -/
def csum (g : Nat → Int) : Nat → Int
  | 0 => 0
  | k + 1 => csum g k + g k
/-- The same, as it is added up. -/
def ccap (g : Nat → Int) : Nat → Int
  | 0 => 0
  | k + 1 => capI (ccap g k + g k)
theorem csum_nn {g : Nat → Int} {n : Nat} (h : ∀ i, i < n → 0 ≤ g i) : 0 ≤ csum g n := by
  induction n with
  | zero => exact Int.le_refl _
  | succ n ih =>
    have h1 := ih fun i hi => h i (by omega)
    have h2 := h n (by omega)
    show 0 ≤ csum g n + g n
    omega
theorem ccap_eq {g : Nat → Int} {n : Nat} (h : ∀ i, i < n → 0 ≤ g i) : ccap g n = capI (csum g n) := by
  induction n with
  | zero => rfl
  | succ n ih =>
    show capI (ccap g n + g n) = capI (csum g n + g n)
    rw [ih fun i hi => h i (by omega), capI_add (h n (by omega))]
/-- Behind a letter with a step: as much as there is at each place. -/
def thrL (row : List Int) (S : List (List Int)) : List Int := (List.range row.length).map fun t => capI (csum (fun i => row.getD i 0 * (S.getD i []).getD t 0) row.length)
theorem thrL_len (row : List Int) (S : List (List Int)) : (thrL row S).length = row.length := by simp [thrL]
theorem thrL_get {row : List Int} {S : List (List Int)} {t : Nat} (h : t < row.length) : (thrL row S).getD t 0 = capI (csum (fun i => row.getD i 0 * (S.getD i []).getD t 0) row.length) := by
  simp [thrL, List.getD, h]
end Go.Proofs.YtlgjadnkokmjoaaDoor
