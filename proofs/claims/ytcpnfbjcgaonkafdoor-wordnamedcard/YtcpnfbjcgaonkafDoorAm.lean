/- Automata: what is wrong with one, where words lead, which states are met: mathematics. -/
import Derived.Test.YtcpnfbjcgaonkafDoorLm
namespace Go.Proofs.YtcpnfbjcgaonkafDoor
open Go.RowKit

/-- What is wrong with one state's nexts; with all; with an automaton. -/
def rowC (m n : Nat) (r : List Int) : Int := if r.length = m then (if r.all (fun x => decide (0 ≤ x ∧ x < (n : Int))) = true then 0 else 1) else 2
def stepL (N : List (List Int)) (s : Nat) (x : Int) : Nat := ((N.getD s []).getD x.toNat 0).toNat
def runL (N : List (List Int)) (w : List Int) : Nat := w.foldl (stepL N) 0

/-- n states of m nexts each, each a state. -/
def GoodN (m n : Nat) (N : List (List Int)) : Prop := N.length = n ∧ 1 ≤ n ∧ n ≤ 4000000 ∧ m ≤ 36 ∧ 1 ≤ m ∧ ∀ s, s < n → (N.getD s []).length = m ∧ ∀ j, j < m → 0 ≤ (N.getD s []).getD j 0 ∧ (N.getD s []).getD j 0 < (n : Int)

theorem all_getD {l : List Int} {n : Nat} (h : l.all (fun x => decide (0 ≤ x ∧ x < (n : Int))) = true) (j : Nat) (hj : j < l.length) : 0 ≤ l.getD j 0 ∧ l.getD j 0 < (n : Int) := by
  rw [List.all_eq_true] at h
  have := h (l.getD j 0) (by simp [List.getD, hj])
  simpa using this
theorem rowC_long {m n : Nat} {r : List Int} (h : r.length ≠ m) : rowC m n r = 2 := by unfold rowC; rw [if_neg h]
theorem rowC_zero {m n : Nat} {r : List Int} (h : rowC m n r = 0) : r.length = m ∧ ∀ k, k < m → 0 ≤ r.getD k 0 ∧ r.getD k 0 < (n : Int) := by
  unfold rowC at h
  split at h
  · split at h
    · refine ⟨by assumption, fun k hk => all_getD (by assumption) k (by omega)⟩
    · cases h
  · cases h
theorem goodN_step {m n : Nat} {N : List (List Int)} (h : GoodN m n N) (s : Nat) (hs : s < n) (x : Int) (hx : 0 ≤ x ∧ x < (m : Int)) : stepL N s x < n ∧ ((stepL N s x : Nat) : Int) = (N.getD s []).getD x.toNat 0 := by
  have := (h.2.2.2.2.2 s hs).2 x.toNat (by omega)
  unfold stepL
  omega
theorem runL_take_succ (N : List (List Int)) (w : List Int) (k : Nat) (hk : k < w.length) : runL N (w.take (k + 1)) = stepL N (runL N (w.take k)) (w.getD k 0) := by
  unfold runL
  rw [List.take_succ_eq_append_getElem hk, List.foldl_append]
  simp [List.getD, hk]
theorem runL_lt {m n : Nat} {N : List (List Int)} (h : GoodN m n N) (w : List Int) (k : Nat) (hk : k ≤ w.length) (hw : ∀ j, j < k → 0 ≤ w.getD j 0 ∧ w.getD j 0 < (m : Int)) : runL N (w.take k) < n := by
  induction k with
  | zero => simp [runL]; have := h.2.1; omega
  | succ k ih =>
    rw [runL_take_succ N w k (by omega)]
    exact (goodN_step h _ (ih (by omega) (fun j hj => hw j (by omega))) _ (hw k (by omega))).1
theorem getD_at (l : List Int) (j : Nat) (hj : j < l.length) : l.getD j 0 = l[j] := by simp [List.getD, hj]
end Go.Proofs.YtcpnfbjcgaonkafDoor
