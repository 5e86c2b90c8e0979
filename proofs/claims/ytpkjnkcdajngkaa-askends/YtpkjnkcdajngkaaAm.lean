/- Automata: what is wrong with one, where words lead, which states are met: mathematics. -/
import Derived.Test.YtpkjnkcdajngkaaLm
namespace Go.Proofs.Ytpkjnkcdajngkaa
open Go.RowKit

/-- What is wrong with one state's nexts; with all; with an automaton. -/
def rowC (m n : Nat) (r : List Int) : Int := if r.length = m then (if r.all (fun x => decide (0 ≤ x ∧ x < (n : Int))) = true then 0 else 1) else 2
def rowsC (m n : Nat) (N : List (List Int)) : Int := firstC (N.map (rowC m n))
def autoC (b t : Int) (N : List (List Int)) (e : Nat) : Int :=
  if codeM b t = 0 then (if N.length = 0 then 4 else if 80 < N.length then 3 else if e = N.length then rowsC (manyU b t).toNat N.length N else 2) else codeM b t
/-- .. that may have at most M states. -/
def autoM (M b t : Int) (N : List (List Int)) (e : Nat) : Int :=
  if codeM b t = 0 then (if N.length = 0 then 4 else if M < (N.length : Int) then 3 else if e = N.length then rowsC (manyU b t).toNat N.length N else 2) else codeM b t
theorem autoM_80 (b t : Int) (N : List (List Int)) (e : Nat) : autoM 80 b t N e = autoC b t N e := by
  unfold autoM autoC
  by_cases h : 80 < N.length
  · rw [if_pos h, if_pos (show (80 : Int) < (N.length : Int) by omega)]
  · rw [if_neg h, if_neg (show ¬ (80 : Int) < (N.length : Int) by omega)]
/-- What is wrong with a word of m letters. -/
def wordC (m : Nat) (w : List Int) : Int := if 400 < w.length then 3 else if w.all (fun x => decide (0 ≤ x ∧ x < (m : Int))) = true then 0 else 1
def stepL (N : List (List Int)) (s : Nat) (x : Int) : Nat := ((N.getD s []).getD x.toNat 0).toNat
def runL (N : List (List Int)) (w : List Int) : Nat := w.foldl (stepL N) 0

/-- n states of m nexts each, each a state. -/
def GoodN (m n : Nat) (N : List (List Int)) : Prop := N.length = n ∧ 1 ≤ n ∧ n ≤ 4000000 ∧ m ≤ 36 ∧ 1 ≤ m ∧ ∀ s, s < n → (N.getD s []).length = m ∧ ∀ j, j < m → 0 ≤ (N.getD s []).getD j 0 ∧ (N.getD s []).getD j 0 < (n : Int)

theorem all_getD {l : List Int} {n : Nat} (h : l.all (fun x => decide (0 ≤ x ∧ x < (n : Int))) = true) (j : Nat) (hj : j < l.length) : 0 ≤ l.getD j 0 ∧ l.getD j 0 < (n : Int) := by
  rw [List.all_eq_true] at h
  have := h (l.getD j 0) (by simp [List.getD, hj])
  simpa using this
theorem all_of_getD {l : List Int} {n : Nat} (h : ∀ j, j < l.length → 0 ≤ l.getD j 0 ∧ l.getD j 0 < (n : Int)) : l.all (fun x => decide (0 ≤ x ∧ x < (n : Int))) = true := by
  rw [List.all_eq_true]
  intro x hx
  obtain ⟨j, hj, rfl⟩ := List.getElem_of_mem hx
  have := h j hj
  simpa [List.getD, hj] using this
theorem all_not {l : List Int} {n : Nat} (k : Nat) (hk : k < l.length) (h : ¬ (0 ≤ l.getD k 0 ∧ l.getD k 0 < (n : Int))) : l.all (fun x => decide (0 ≤ x ∧ x < (n : Int))) = false := by
  cases e : l.all (fun x => decide (0 ≤ x ∧ x < (n : Int))) with
  | false => rfl
  | true => exact absurd (all_getD e k hk) h

theorem rowC_long {m n : Nat} {r : List Int} (h : r.length ≠ m) : rowC m n r = 2 := by unfold rowC; rw [if_neg h]
theorem rowC_bad {m n : Nat} {r : List Int} (h : r.length = m) (k : Nat) (hk : k < m) (hx : ¬ (0 ≤ r.getD k 0 ∧ r.getD k 0 < (n : Int))) : rowC m n r = 1 := by
  unfold rowC; rw [if_pos h, if_neg (by rw [all_not k (by omega) hx]; decide)]
theorem rowC_good {m n : Nat} {r : List Int} (h : r.length = m) (hx : ∀ k, k < m → 0 ≤ r.getD k 0 ∧ r.getD k 0 < (n : Int)) : rowC m n r = 0 := by
  unfold rowC; rw [if_pos h, if_pos (all_of_getD (by rw [h]; exact hx))]
theorem rowC_zero {m n : Nat} {r : List Int} (h : rowC m n r = 0) : r.length = m ∧ ∀ k, k < m → 0 ≤ r.getD k 0 ∧ r.getD k 0 < (n : Int) := by
  unfold rowC at h
  split at h
  · split at h
    · refine ⟨by assumption, fun k hk => all_getD (by assumption) k (by omega)⟩
    · cases h
  · cases h
theorem rowsC_get (m n : Nat) (N : List (List Int)) (k : Nat) (hk : k < N.length) : (N.map (rowC m n)).getD k 0 = rowC m n (N.getD k []) := by
  simp [List.getD, hk]
theorem rowsC_at {m n : Nat} {N : List (List Int)} (k : Nat) (hk : k < N.length) (h : ∀ j, j < k → rowC m n (N.getD j []) = 0) (hc : rowC m n (N.getD k []) ≠ 0) : rowsC m n N = rowC m n (N.getD k []) := by
  unfold rowsC
  rw [← rowsC_get m n N k hk] at hc ⊢
  exact firstC_pre _ k (fun j hj => by rw [rowsC_get m n N j (by omega)]; exact h j hj) (by simpa using hk) hc
theorem rowsC_all {m n : Nat} {N : List (List Int)} (h : ∀ j, j < N.length → rowC m n (N.getD j []) = 0) : rowsC m n N = 0 := by
  unfold rowsC
  exact firstC_all _ fun j hj => by rw [rowsC_get m n N j (by simpa using hj)]; exact h j (by simpa using hj)
theorem rowsC_zero {m n : Nat} {N : List (List Int)} (h : rowsC m n N = 0) (j : Nat) (hj : j < N.length) : rowC m n (N.getD j []) = 0 := by
  unfold rowsC at h
  have := firstC_get0 _ h j (by simpa using hj)
  rwa [rowsC_get m n N j hj] at this

theorem autoC_zero {b t : Int} {N : List (List Int)} {e : Nat} (h : autoC b t N e = 0) : codeM b t = 0 ∧ e = N.length ∧ GoodN (manyU b t).toNat N.length N ∧ ((manyU b t).toNat : Int) = manyU b t := by
  unfold autoC at h
  split at h
  · rename_i hM
    obtain ⟨h1, h2, h3, h4, h5, h6⟩ := codeM_zero hM
    have hk := kinds_bd2 b h2
    have hp := pw_pos (kindsI b) hk.1 t.toNat
    split at h
    · cases h
    · split at h
      · cases h
      · split at h
        · rename_i hN h80 he
          refine ⟨hM, he, ⟨rfl, by omega, by omega, by omega, by omega, fun s hs => ?_⟩, by omega⟩
          exact rowC_zero (rowsC_zero h s hs)
        · cases h
  · contradiction

theorem wordC_zero {m : Nat} {w : List Int} (h : wordC m w = 0) : w.length ≤ 400 ∧ ∀ j, j < w.length → 0 ≤ w.getD j 0 ∧ w.getD j 0 < (m : Int) := by
  unfold wordC at h
  split at h
  · cases h
  · split at h
    · exact ⟨by omega, fun j hj => all_getD (by assumption) j hj⟩
    · cases h
theorem wordC_long {m : Nat} {w : List Int} (h : 400 < w.length) : wordC m w = 3 := by unfold wordC; rw [if_pos h]
theorem wordC_bad {m : Nat} {w : List Int} (h : ¬ 400 < w.length) (k : Nat) (hk : k < w.length) (hx : ¬ (0 ≤ w.getD k 0 ∧ w.getD k 0 < (m : Int))) : wordC m w = 1 := by
  unfold wordC; rw [if_neg h, if_neg (by rw [all_not k hk hx]; decide)]
theorem wordC_good {m : Nat} {w : List Int} (h : ¬ 400 < w.length) (hx : ∀ k, k < w.length → 0 ≤ w.getD k 0 ∧ w.getD k 0 < (m : Int)) : wordC m w = 0 := by
  unfold wordC; rw [if_neg h, if_pos (all_of_getD hx)]

theorem goodN_step {m n : Nat} {N : List (List Int)} (h : GoodN m n N) (s : Nat) (hs : s < n) (x : Int) (hx : 0 ≤ x ∧ x < (m : Int)) : stepL N s x < n ∧ ((stepL N s x : Nat) : Int) = (N.getD s []).getD x.toNat 0 := by
  have := (h.2.2.2.2.2 s hs).2 x.toNat (by omega)
  unfold stepL
  omega
theorem runL_take_succ (N : List (List Int)) (w : List Int) (k : Nat) (hk : k < w.length) : runL N (w.take (k + 1)) = stepL N (runL N (w.take k)) (w.getD k 0) := by
  unfold runL
  rw [List.take_succ_eq_append_getElem hk, List.foldl_append]
  simp [List.getD, hk]
theorem runL_lt {m n : Nat} {N : List (List Int)} (h : GoodN m n N) (w : List Int) (k : Nat) (hk : k ≤ w.length) (hw : ∀ j, j < k → 0 ≤ w.getD j 0 ∧ w.getD j 0 < (m : Int)) : runL N (w.take k) < n := by
  induction k with
  | zero => simp [runL]; have := h.2.1; omega
  | succ k ih =>
    rw [runL_take_succ N w k (by omega)]
    exact (goodN_step h _ (ih (by omega) (fun j hj => hw j (by omega))) _ (hw k (by omega))).1
theorem getD_at (l : List Int) (j : Nat) (hj : j < l.length) : l.getD j 0 = l[j] := by simp [List.getD, hj]
end Go.Proofs.Ytpkjnkcdajngkaa
