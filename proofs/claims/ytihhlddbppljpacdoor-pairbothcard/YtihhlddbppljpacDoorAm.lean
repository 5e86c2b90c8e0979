/- Automata: what is wrong with one, where words lead, which states are met: mathematics. -/
import Derived.Test.YtihhlddbppljpacDoorLm
namespace Go.Proofs.YtihhlddbppljpacDoor
open Go.RowKit

theorem length_erase_le (o : List Int) (x : Int) : o.length ≤ (o.erase x).length + 1 := by rw [List.length_erase]; split <;> omega
/-- What is wrong with one state's nexts; with all; with an automaton. -/
def rowC (m n : Nat) (r : List Int) : Int := if r.length = m then (if r.all (fun x => decide (0 ≤ x ∧ x < (n : Int))) = true then 0 else 1) else 2
def rowsC (m n : Nat) (N : List (List Int)) : Int := firstC (N.map (rowC m n))
def autoC (b t : Int) (N : List (List Int)) (e : Nat) : Int :=
  if codeM b t = 0 then (if N.length = 0 then 4 else if 80 < N.length then 3 else if e = N.length then rowsC (manyU b t).toNat N.length N else 2) else codeM b t
/-- .. that may have at most M states. -/
def autoM (M b t : Int) (N : List (List Int)) (e : Nat) : Int :=
  if codeM b t = 0 then (if N.length = 0 then 4 else if M < (N.length : Int) then 3 else if e = N.length then rowsC (manyU b t).toNat N.length N else 2) else codeM b t
theorem autoM_80 (b t : Int) (N : List (List Int)) (e : Nat) : autoM 80 b t N e = autoC b t N e := by
  unfold autoM autoC
  by_cases h : 80 < N.length
  · rw [if_pos h, if_pos (show (80 : Int) < (N.length : Int) by omega)]
  · rw [if_neg h, if_neg (show ¬ (80 : Int) < (N.length : Int) by omega)]
def stepL (N : List (List Int)) (s : Nat) (x : Int) : Nat := ((N.getD s []).getD x.toNat 0).toNat
def runL (N : List (List Int)) (w : List Int) : Nat := w.foldl (stepL N) 0

/-- n states of m nexts each, each a state. -/
def GoodN (m n : Nat) (N : List (List Int)) : Prop := N.length = n ∧ 1 ≤ n ∧ n ≤ 6400 ∧ m ≤ 36 ∧ 1 ≤ m ∧ ∀ s, s < n → (N.getD s []).length = m ∧ ∀ j, j < m → 0 ≤ (N.getD s []).getD j 0 ∧ (N.getD s []).getD j 0 < (n : Int)

theorem all_getD {l : List Int} {n : Nat} (h : l.all (fun x => decide (0 ≤ x ∧ x < (n : Int))) = true) (j : Nat) (hj : j < l.length) : 0 ≤ l.getD j 0 ∧ l.getD j 0 < (n : Int) := by
  rw [List.all_eq_true] at h
  have := h (l.getD j 0) (by simp [List.getD, hj])
  simpa using this
theorem all_of_getD {l : List Int} {n : Nat} (h : ∀ j, j < l.length → 0 ≤ l.getD j 0 ∧ l.getD j 0 < (n : Int)) : l.all (fun x => decide (0 ≤ x ∧ x < (n : Int))) = true := by
  rw [List.all_eq_true]
  intro x hx
  obtain ⟨j, hj, rfl⟩ := List.getElem_of_mem hx
  have := h j hj
  simpa [List.getD, hj] using this
theorem all_not {l : List Int} {n : Nat} (k : Nat) (hk : k < l.length) (h : ¬ (0 ≤ l.getD k 0 ∧ l.getD k 0 < (n : Int))) : l.all (fun x => decide (0 ≤ x ∧ x < (n : Int))) = false := by
  cases e : l.all (fun x => decide (0 ≤ x ∧ x < (n : Int))) with
  | false => rfl
  | true => exact absurd (all_getD e k hk) h

theorem rowC_long {m n : Nat} {r : List Int} (h : r.length ≠ m) : rowC m n r = 2 := by unfold rowC; rw [if_neg h]
theorem rowC_bad {m n : Nat} {r : List Int} (h : r.length = m) (k : Nat) (hk : k < m) (hx : ¬ (0 ≤ r.getD k 0 ∧ r.getD k 0 < (n : Int))) : rowC m n r = 1 := by
  unfold rowC; rw [if_pos h, if_neg (by rw [all_not k (by omega) hx]; decide)]
theorem rowC_good {m n : Nat} {r : List Int} (h : r.length = m) (hx : ∀ k, k < m → 0 ≤ r.getD k 0 ∧ r.getD k 0 < (n : Int)) : rowC m n r = 0 := by
  unfold rowC; rw [if_pos h, if_pos (all_of_getD (by rw [h]; exact hx))]
theorem rowC_zero {m n : Nat} {r : List Int} (h : rowC m n r = 0) : r.length = m ∧ ∀ k, k < m → 0 ≤ r.getD k 0 ∧ r.getD k 0 < (n : Int) := by
  unfold rowC at h
  split at h
  · split at h
    · refine ⟨by assumption, fun k hk => all_getD (by assumption) k (by omega)⟩
    · cases h
  · cases h
theorem rowsC_get (m n : Nat) (N : List (List Int)) (k : Nat) (hk : k < N.length) : (N.map (rowC m n)).getD k 0 = rowC m n (N.getD k []) := by
  simp [List.getD, hk]
theorem rowsC_at {m n : Nat} {N : List (List Int)} (k : Nat) (hk : k < N.length) (h : ∀ j, j < k → rowC m n (N.getD j []) = 0) (hc : rowC m n (N.getD k []) ≠ 0) : rowsC m n N = rowC m n (N.getD k []) := by
  unfold rowsC
  rw [← rowsC_get m n N k hk] at hc ⊢
  exact firstC_pre _ k (fun j hj => by rw [rowsC_get m n N j (by omega)]; exact h j hj) (by simpa using hk) hc
theorem rowsC_all {m n : Nat} {N : List (List Int)} (h : ∀ j, j < N.length → rowC m n (N.getD j []) = 0) : rowsC m n N = 0 := by
  unfold rowsC
  exact firstC_all _ fun j hj => by rw [rowsC_get m n N j (by simpa using hj)]; exact h j (by simpa using hj)
theorem rowsC_zero {m n : Nat} {N : List (List Int)} (h : rowsC m n N = 0) (j : Nat) (hj : j < N.length) : rowC m n (N.getD j []) = 0 := by
  unfold rowsC at h
  have := firstC_get0 _ h j (by simpa using hj)
  rwa [rowsC_get m n N j hj] at this

theorem autoC_zero {b t : Int} {N : List (List Int)} {e : Nat} (h : autoC b t N e = 0) : codeM b t = 0 ∧ e = N.length ∧ GoodN (manyU b t).toNat N.length N ∧ ((manyU b t).toNat : Int) = manyU b t := by
  unfold autoC at h
  split at h
  · rename_i hM
    obtain ⟨h1, h2, h3, h4, h5, h6⟩ := codeM_zero hM
    have hk := kinds_bd2 b h2
    have hp := pw_pos (kindsI b) hk.1 t.toNat
    split at h
    · cases h
    · split at h
      · cases h
      · split at h
        · rename_i hN h80 he
          refine ⟨hM, he, ⟨rfl, by omega, by omega, by omega, by omega, fun s hs => ?_⟩, by omega⟩
          exact rowC_zero (rowsC_zero h s hs)
        · cases h
  · contradiction

theorem autoM_good {b t M : Int} {N : List (List Int)} {n : Nat} (hM : codeM b t = 0) (hG : GoodN (manyU b t).toNat n N) (h : (n : Int) ≤ M) : autoM M b t N n = 0 := by
  have hL := hG.1
  have h1 := hG.2.1
  unfold autoM
  rw [if_pos hM, if_neg (by omega), if_neg (by omega), if_pos hL.symm]
  exact rowsC_all fun j hj => rowC_good (hG.2.2.2.2.2 j (by omega)).1 (by rw [hL]; exact (hG.2.2.2.2.2 j (by omega)).2)
theorem goodN_step {m n : Nat} {N : List (List Int)} (h : GoodN m n N) (s : Nat) (hs : s < n) (x : Int) (hx : 0 ≤ x ∧ x < (m : Int)) : stepL N s x < n ∧ ((stepL N s x : Nat) : Int) = (N.getD s []).getD x.toNat 0 := by
  have := (h.2.2.2.2.2 s hs).2 x.toNat (by omega)
  unfold stepL
  omega
theorem runL_take_succ (N : List (List Int)) (w : List Int) (k : Nat) (hk : k < w.length) : runL N (w.take (k + 1)) = stepL N (runL N (w.take k)) (w.getD k 0) := by
  unfold runL
  rw [List.take_succ_eq_append_getElem hk, List.foldl_append]
  simp [List.getD, hk]
theorem runL_lt {m n : Nat} {N : List (List Int)} (h : GoodN m n N) (w : List Int) (k : Nat) (hk : k ≤ w.length) (hw : ∀ j, j < k → 0 ≤ w.getD j 0 ∧ w.getD j 0 < (m : Int)) : runL N (w.take k) < n := by
  induction k with
  | zero => simp [runL]; have := h.2.1; omega
  | succ k ih =>
    rw [runL_take_succ N w k (by omega)]
    exact (goodN_step h _ (ih (by omega) (fun j hj => hw j (by omega))) _ (hw k (by omega))).1
theorem runL_append (N : List (List Int)) (v w : List Int) : runL N (v ++ w) = w.foldl (stepL N) (runL N v) := by simp [runL, List.foldl_append]

/-- The states that are met. -/
def addL (o : List Int) (x : Int) : List Int := if x ∈ o then o else o ++ [x]
def rowAdd (o r : List Int) : List Int := r.foldl addL o
def outs (N : List (List Int)) : Nat → List Int
  | 0 => [0]
  | i + 1 => if i < (outs N i).length then rowAdd (outs N i) (N.getD ((outs N i).getD i 0).toNat []) else outs N i
def metL (N : List (List Int)) : List Int := outs N N.length

theorem addL_pre (o : List Int) (x : Int) : o <+: addL o x := by unfold addL; split; exact List.prefix_refl _; exact List.prefix_append _ _
theorem rowAdd_pre (o r : List Int) : o <+: rowAdd o r := by
  unfold rowAdd
  induction r generalizing o with
  | nil => exact List.prefix_refl _
  | cons x r ih => exact (addL_pre o x).trans (ih _)
theorem rowAdd_take_succ (o r : List Int) (k : Nat) (hk : k < r.length) : rowAdd o (r.take (k + 1)) = addL (rowAdd o (r.take k)) (r.getD k 0) := by
  unfold rowAdd
  rw [List.take_succ_eq_append_getElem hk, List.foldl_append]
  simp [List.getD, hk]
theorem rowAdd_all (o r : List Int) : rowAdd o (r.take r.length) = rowAdd o r := by rw [List.take_length]
theorem addL_mem (o : List Int) (x : Int) : x ∈ addL o x := by unfold addL; split; assumption; simp
theorem rowAdd_mem (o r : List Int) (x : Int) (hx : x ∈ r) : x ∈ rowAdd o r := by
  unfold rowAdd
  induction r generalizing o with
  | nil => simp at hx
  | cons y r ih =>
    rcases List.mem_cons.1 hx with rfl | hx
    · exact (rowAdd_pre (addL o x) r).subset (addL_mem o x)
    · exact ih _ hx

/-- Each once, all of them states. -/
def OkO (n : Nat) (o : List Int) : Prop := o.Nodup ∧ ∀ x ∈ o, 0 ≤ x ∧ x < (n : Int)
theorem okO_add {n : Nat} {o : List Int} (h : OkO n o) {x : Int} (hx : 0 ≤ x ∧ x < (n : Int)) : OkO n (addL o x) := by
  unfold addL
  split
  · exact h
  · rename_i hn
    refine ⟨?_, fun y hy => ?_⟩
    · rw [List.nodup_append]
      refine ⟨h.1, by simp, fun a ha b hb => ?_⟩
      rw [List.mem_singleton] at hb
      rintro rfl
      exact hn (hb ▸ ha)
    · rcases List.mem_append.1 hy with hy | hy
      · exact h.2 y hy
      · rw [List.mem_singleton] at hy; subst hy; exact hx
theorem okO_row {n : Nat} {o : List Int} (h : OkO n o) (r : List Int) (hr : ∀ x ∈ r, 0 ≤ x ∧ x < (n : Int)) : OkO n (rowAdd o r) := by
  unfold rowAdd
  induction r generalizing o with
  | nil => exact h
  | cons x r ih => exact ih (okO_add h (hr x (by simp))) (fun y hy => hr y (by simp [hy]))
theorem nodup_len (n : Nat) (o : List Int) (h : OkO n o) : o.length ≤ n := by
  induction n generalizing o with
  | zero =>
    cases o with
    | nil => simp
    | cons x o => have := h.2 x (by simp); omega
  | succ n ih =>
    have := ih (o.erase (n : Int)) ⟨h.1.erase _, fun x hx => by
      have h1 := (h.1.mem_erase_iff).1 hx
      have h2 := h.2 x h1.2
      have h3 := h1.1
      omega⟩
    have := length_erase_le o (n : Int)
    omega
theorem getD_at (l : List Int) (j : Nat) (hj : j < l.length) : l.getD j 0 = l[j] := by simp [List.getD, hj]
theorem goodN_row {m n : Nat} {N : List (List Int)} (h : GoodN m n N) (s : Int) (hs : 0 ≤ s ∧ s < (n : Int)) : (N.getD s.toNat []).length = m ∧ ∀ x ∈ N.getD s.toNat [], 0 ≤ x ∧ x < (n : Int) := by
  have := h.2.2.2.2.2 s.toNat (by omega)
  refine ⟨this.1, fun x hx => ?_⟩
  obtain ⟨j, hj, rfl⟩ := List.getElem_of_mem hx
  have h2 := this.2 j (by omega)
  rwa [getD_at _ j hj] at h2
theorem okO_get {n : Nat} {o : List Int} (h : OkO n o) (i : Nat) (hi : i < o.length) : 0 ≤ o.getD i 0 ∧ o.getD i 0 < (n : Int) := h.2 _ (by simp [List.getD, hi])
theorem outs_ok {m n : Nat} {N : List (List Int)} (h : GoodN m n N) (i : Nat) : OkO n (outs N i) := by
  induction i with
  | zero => exact ⟨by simp [outs], fun x hx => by simp [outs] at hx; subst hx; have := h.2.1; omega⟩
  | succ i ih =>
    unfold outs
    split
    · rename_i hi
      exact okO_row ih _ (goodN_row h _ (okO_get ih i hi)).2
    · exact ih
theorem outs_pre (N : List (List Int)) (i j : Nat) : outs N i <+: outs N (i + j) := by
  induction j with
  | zero => exact List.prefix_refl _
  | succ j ih =>
    refine ih.trans ?_
    show _ <+: outs N (i + j + 1)
    rw [outs]
    split
    · exact rowAdd_pre _ _
    · exact List.prefix_refl _
theorem outs_stay (N : List (List Int)) (i : Nat) (h : (outs N i).length ≤ i) (j : Nat) : outs N (i + j) = outs N i := by
  induction j with
  | zero => rfl
  | succ j ih =>
    show outs N (i + j + 1) = _
    rw [outs, ih, if_neg (by omega)]
theorem outs_end {m n : Nat} {N : List (List Int)} (h : GoodN m n N) (i : Nat) (hi : (outs N i).length ≤ i) (hn : i ≤ n) : outs N i = metL N := by
  unfold metL
  rw [h.1, show n = i + (n - i) by omega, outs_stay N i hi]
theorem outs_len {m n : Nat} {N : List (List Int)} (h : GoodN m n N) (i : Nat) : (outs N i).length ≤ n := nodup_len n _ (outs_ok h i)
theorem outs_succ (N : List (List Int)) (i : Nat) (hi : i < (outs N i).length) : outs N (i + 1) = rowAdd (outs N i) (N.getD ((outs N i).getD i 0).toNat []) := by
  rw [outs, if_pos hi]
theorem pre_getD {o o' : List Int} (h : o <+: o') (i : Nat) (hi : i < o.length) : o'.getD i 0 = o.getD i 0 := by
  obtain ⟨s, rfl⟩ := h
  simp [List.getD, List.getElem?_append_left hi]
theorem outs_closed (N : List (List Int)) (i : Nat) : ∀ j, j < i → j < (outs N i).length → ∀ x ∈ N.getD ((outs N i).getD j 0).toNat [], x ∈ outs N i := by
  induction i with
  | zero => intro j hj; omega
  | succ i ih =>
    intro j hj hl x hx
    by_cases hi : i < (outs N i).length
    · have hpre := outs_pre N i 1
      rw [outs_succ N i hi] at hl hx ⊢
      rw [outs_succ N i hi] at hpre
      by_cases e : j = i
      · subst e
        rw [pre_getD hpre j hi] at hx
        exact rowAdd_mem _ _ x hx
      · rw [pre_getD hpre j (by omega)] at hx
        exact hpre.subset (ih j (by omega) (by omega) x hx)
    · have := outs_stay N i (by omega) 1
      rw [this] at hl hx ⊢
      exact ih j (by omega) hl x hx
theorem met_closed {m n : Nat} {N : List (List Int)} (h : GoodN m n N) (s : Int) (hs : s ∈ metL N) (x : Int) (hx : x ∈ N.getD s.toNat []) : x ∈ metL N := by
  unfold metL at hs ⊢
  rw [h.1] at hs ⊢
  obtain ⟨j, hj, rfl⟩ := List.getElem_of_mem hs
  have hl := outs_len h n
  refine outs_closed N n j (by omega) hj x ?_
  rwa [getD_at _ j hj]
theorem met_zero {m n : Nat} {N : List (List Int)} (h : GoodN m n N) : (0 : Int) ∈ metL N := by
  have := outs_pre N 0 n
  rw [Nat.zero_add] at this
  unfold metL
  rw [h.1]
  exact this.subset (by simp [outs])
theorem addL_yes {o : List Int} {x : Int} (h : x ∈ o) : addL o x = o := by unfold addL; rw [if_pos h]
theorem addL_no {o : List Int} {x : Int} (h : ¬ x ∈ o) : addL o x = o ++ [x] := by unfold addL; rw [if_neg h]
theorem met_len {m n : Nat} {N : List (List Int)} (h : GoodN m n N) : (metL N).length ≤ n := by unfold metL; exact outs_len h _
theorem met_ok {m n : Nat} {N : List (List Int)} (h : GoodN m n N) : OkO n (metL N) := by unfold metL; exact outs_ok h _
end Go.Proofs.YtihhlddbppljpacDoor
