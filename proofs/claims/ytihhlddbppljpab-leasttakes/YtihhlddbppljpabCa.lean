/- First words: how long they are, the way back to the beginning; of two automata one: mathematics. -/
import Derived.Test.YtihhlddbppljpabBq
namespace Go.Proofs.Ytihhlddbppljpab
open Go.RowKit

def LenP (o : List (Int × List Int)) : Prop := ∀ i, i < o.length → (o.getD i (0, [])).2.length ≤ i
theorem lenP_add {wd : List Int} {l : Nat} {o : List (Int × List Int)} {x : Int} (h : LenP o) (hw : wd.length < o.length) : LenP (addP wd l o x) := by
  unfold addP
  split
  · exact h
  · intro i hi
    rw [List.length_append, List.length_singleton] at hi
    by_cases e : i < o.length
    · rw [preP_getD (List.prefix_append _ _) i e]; exact h i e
    · obtain rfl : i = o.length := by omega
      simp [List.getD]
      omega
theorem lenP_row {wd : List Int} (r : List Int) (l : Nat) (o : List (Int × List Int)) (h : LenP o) (hw : wd.length < o.length) : LenP (rowAddP wd l o r) := by
  induction r generalizing l o with
  | nil => exact h
  | cons x r ih => exact ih (l + 1) _ (lenP_add h hw) (Nat.lt_of_lt_of_le hw (addP_sub (wd := wd) (l := l) (x := x)).length_le)
theorem lenP_outs (N : List (List Int)) (i : Nat) : LenP (outsP N i) := by
  induction i with
  | zero => intro i hi; simp [outsP] at hi; subst hi; simp [outsP, List.getD]
  | succ i ih =>
    unfold outsP
    split
    · rename_i hi
      exact lenP_row _ _ _ ih (Nat.lt_of_le_of_lt (ih i hi) hi)
    · exact ih
theorem lenP_mem {o : List (Int × List Int)} (h : LenP o) {p : Int × List Int} (hp : p ∈ o) : p.2.length < o.length := by
  obtain ⟨i, hi, rfl⟩ := List.getElem_of_mem hp
  have := h i hi
  rw [show o.getD i (0, []) = o[i] by simp [List.getD, hi]] at this
  omega

/-- The way to one of them. -/
theorem way_at {N : List (List Int)} {m : Nat} {o : List (Int × List Int)} (hO : OkP N m o) (hB : BackP o) {p : Int × List Int} (hp : p ∈ o) {j : Nat} (hj : j ≤ p.2.length) : (((runL N (p.2.take j) : Nat) : Int), p.2.take j) ∈ o := by
  obtain ⟨q, hq, e⟩ := back_take hB p.2.length p hp (Nat.le_refl _) j hj
  obtain ⟨_, h1, h2⟩ := hO.run q hq
  rw [e] at h2
  have : q = (((runL N (p.2.take j) : Nat) : Int), p.2.take j) := Prod.ext (by show q.1 = _; rw [h2]; omega) e
  rwa [← this]
theorem way_zero {N : List (List Int)} {m : Nat} {o : List (Int × List Int)} (hO : OkP N m o) (hB : BackP o) {p : Int × List Int} (hp : p ∈ o) {j : Nat} (hj : j ≤ p.2.length) (h : runL N (p.2.take j) = 0) : j = 0 := by
  have h1 := way_at hO hB hp hj
  have h2 := nodup_fst hB.2.1 h1 hB.2.2 (by simp [h])
  have h3 := congrArg Prod.snd h2
  have h4 : (p.2.take j).length = 0 := by rw [show p.2.take j = [] from h3]; rfl
  rw [List.length_take] at h4
  omega
theorem way_step {N : List (List Int)} {m : Nat} {o : List (Int × List Int)} (hO : OkP N m o) (hB : BackP o) (M : Nat) {p : Int × List Int} (hp : p ∈ o) {j : Nat} (hj : j < p.2.length) :
    (spotV M ((runL N (p.2.take (j + 1)) : Nat) : Int), stepV M (runL N (p.2.take j)) (p.2.getD j 0)) ∈ stF N M o := by
  have h1 := way_at hO hB hp (show j + 1 ≤ p.2.length from hj)
  have h2 := stF_some (N := N) (M := M) h1
  have e : p.2.take (j + 1) = p.2.take j ++ [p.2.getD j 0] := by rw [List.take_succ_eq_append_getElem hj, getD_at _ j hj]
  simp only [e, List.dropLast_concat, List.getLastD_concat] at h2 ⊢
  exact h2

/-- The states behind a part of a row. -/
theorem rowP_fst (N : List (List Int)) (i l : Nat) : (rowP N i l).map Prod.fst = rowAdd (outs N i) ((N.getD ((outsP N i).getD i (0, [])).1.toNat []).take l) := by
  unfold rowP
  rw [rowAddP_fst, outsP_fst]
theorem rowP_ok {m n : Nat} {N : List (List Int)} (hG : GoodN m n N) {i l : Nat} (hi : i < (outsP N i).length) : OkO n ((rowP N i l).map Prod.fst) := by
  rw [rowP_fst]
  have h0 := outs_ok hG i
  refine okO_row h0 _ fun x hx => ?_
  have hm := getD_memP hi
  have h1 := h0.2 ((outsP N i).getD i (0, [])).1 (by rw [← outsP_fst]; exact List.mem_map_of_mem hm)
  exact (goodN_row hG _ h1).2 x (List.mem_of_mem_take hx)
theorem outsP_ok {m n : Nat} {N : List (List Int)} (hG : GoodN m n N) (i : Nat) : OkO n ((outsP N i).map Prod.fst) := by rw [outsP_fst]; exact outs_ok hG i
theorem outsP_le {m n : Nat} {N : List (List Int)} (hG : GoodN m n N) (i : Nat) : (outsP N i).length ≤ n := by rw [outsP_len]; exact outs_len hG i
theorem rowP_le {m n : Nat} {N : List (List Int)} (hG : GoodN m n N) {i l : Nat} (hi : i < (outsP N i).length) : (rowP N i l).length ≤ n := by
  have := nodup_len n _ (rowP_ok hG (l := l) hi)
  rwa [List.length_map] at this
/-- None of those that are done is wanted. -/
def NoneYet (N : List (List Int)) (E : List Bool) (i : Nat) : Prop := ∀ k, k < i → k < (outsP N i).length → E.getD ((outsP N i).getD k (0, [])).1.toNat false = false
theorem outsP_pre (N : List (List Int)) (i j : Nat) : outsP N i <+: outsP N (i + j) := by
  induction j with
  | zero => exact List.prefix_refl _
  | succ j ih =>
    refine ih.trans ?_
    show _ <+: outsP N (i + j + 1)
    rw [outsP]
    split
    · exact rowAddP_sub _ _ _ _
    · exact List.prefix_refl _
theorem outsP_end {m n : Nat} {N : List (List Int)} (hG : GoodN m n N) {i : Nat} (hi : (outsP N i).length ≤ i) (hn : i ≤ n) : outsP N i = metP N := by
  unfold metP
  rw [hG.1, show n = i + (n - i) by omega]
  generalize n - i = j
  induction j with
  | zero => rfl
  | succ j ih =>
    show _ = outsP N (i + j + 1)
    rw [outsP, ← ih, if_neg (by omega)]
theorem noneYet_step {N : List (List Int)} {E : List Bool} {i : Nat} (h : NoneYet N E i) (hi : i < (outsP N i).length) (he : E.getD ((outsP N i).getD i (0, [])).1.toNat false = false) : NoneYet N E (i + 1) := by
  intro k hk _
  have hp := outsP_pre N i 1
  by_cases e : k = i
  · subst e; rw [preP_getD hp k hi]; exact he
  · rw [preP_getD hp k (by omega)]; exact h k (by omega) (by omega)
theorem first_at {m n : Nat} {N : List (List Int)} (hG : GoodN m n N) {E : List Bool} {i : Nat} (h : NoneYet N E i) (hi : i < (outsP N i).length) (he : E.getD ((outsP N i).getD i (0, [])).1.toNat false = true) : firstP N E = some ((outsP N i).getD i (0, [])) := by
  have hin : i < n := Nat.lt_of_lt_of_le hi (outsP_le hG i)
  have hp : outsP N i <+: metP N := by
    have := outsP_pre N i (n - i)
    rwa [show i + (n - i) = N.length by rw [hG.1]; omega] at this
  have hl := hp.length_le
  unfold firstP
  rw [List.find?_eq_some_iff_getElem]
  refine ⟨he, i, by omega, ?_, fun j hj => ?_⟩
  · have := preP_getD hp i hi
    rw [← this]
    simp [List.getD, show i < (metP N).length by omega]
  · have h1 := h j hj (by omega)
    rw [← preP_getD hp j (by omega)] at h1
    rw [show (metP N)[j] = (metP N).getD j (0, []) by simp [List.getD, show j < (metP N).length by omega]]
    show (!(E.getD _ false)) = true
    rw [h1]; rfl
theorem first_end {m n : Nat} {N : List (List Int)} (hG : GoodN m n N) {E : List Bool} {i : Nat} (h : NoneYet N E i) (hi : (outsP N i).length ≤ i) (hn : i ≤ n) : firstP N E = none := by
  have e := outsP_end hG hi hn
  unfold firstP
  rw [List.find?_eq_none]
  intro p hp
  rw [← e] at hp
  obtain ⟨k, hk, rfl⟩ := List.getElem_of_mem hp
  have := h k (by omega) hk
  rw [show (outsP N i).getD k (0, []) = (outsP N i)[k] by simp [List.getD, hk]] at this
  simpa using this

/-- OF TWO ONE: state x of the one and y of the other, of n', is x times n' and y. -/
def prodN (N N' : List (List Int)) (m : Nat) : List (List Int) := (List.range (N.length * N'.length)).map fun s => (List.range m).map fun l => (N.getD (s / N'.length) []).getD l 0 * (N'.length : Int) + (N'.getD (s % N'.length) []).getD l 0
/-- What how says of whether both take it. -/
def howB (how : Int) : Bool → Bool → Bool
  | false, false => how % 2 == 1
  | true, false => how / 2 % 2 == 1
  | false, true => how / 4 % 2 == 1
  | true, true => how / 8 % 2 == 1
def prodE (how : Int) (n n' : Nat) (E E' : List Bool) : List Bool := (List.range (n * n')).map fun s => howB how (E.getD (s / n') false) (E'.getD (s % n') false)
theorem pair_lt {n n' x y : Nat} (hx : x < n) (hy : y < n') : x * n' + y < n * n' := by
  have := Nat.mul_le_mul_right n' (show x + 1 ≤ n from hx)
  rw [Nat.add_mul] at this
  omega
theorem pair_parts {n n' x y : Nat} (_hx : x < n) (hy : y < n') : (x * n' + y) / n' = x ∧ (x * n' + y) % n' = y := by
  constructor
  · rw [Nat.mul_comm, Nat.mul_add_div (by omega), Nat.div_eq_of_lt hy]; omega
  · rw [Nat.mul_comm, Nat.mul_add_mod, Nat.mod_eq_of_lt hy]
theorem parts_lt {n n' s : Nat} (h : s < n * n') : s / n' < n ∧ s % n' < n' := by
  have h0 : 0 < n' := by
    rcases Nat.eq_zero_or_pos n' with e | e
    · rw [e, Nat.mul_zero] at h; omega
    · exact e
  exact ⟨Nat.div_lt_of_lt_mul (by rw [Nat.mul_comm]; exact h), Nat.mod_lt _ h0⟩
theorem prodN_get {N N' : List (List Int)} {m s : Nat} (h : s < N.length * N'.length) : (prodN N N' m).getD s [] = (List.range m).map fun l => (N.getD (s / N'.length) []).getD l 0 * (N'.length : Int) + (N'.getD (s % N'.length) []).getD l 0 := by simp [prodN, List.getD, h]
theorem prodE_get {how : Int} {n n' : Nat} {E E' : List Bool} {s : Nat} (h : s < n * n') : (prodE how n n' E E').getD s false = howB how (E.getD (s / n') false) (E'.getD (s % n') false) := by simp [prodE, List.getD, h]
theorem prod_cell {m n n' : Nat} {N N' : List (List Int)} (hG : GoodN m n N) (hG' : GoodN m n' N') {s l : Nat} (hs : s < n * n') (hl : l < m) : ((prodN N N' m).getD s []).getD l 0 = ((nxt N (s / n') l * n' + nxt N' (s % n') l : Nat) : Int) := by
  obtain ⟨h1, h2⟩ := parts_lt hs
  rw [prodN_get (by rw [hG.1, hG'.1]; exact hs), hG'.1]
  rw [show ((List.range m).map fun l => (N.getD (s / n') []).getD l 0 * (n' : Int) + (N'.getD (s % n') []).getD l 0).getD l 0 = (N.getD (s / n') []).getD l 0 * (n' : Int) + (N'.getD (s % n') []).getD l 0 by simp [List.getD, hl]]
  have e1 := (nxt_cell hG h1 hl).2
  have e2 := (nxt_cell hG' h2 hl).2
  rw [e1, e2]
  simp
theorem prod_nxt {m n n' : Nat} {N N' : List (List Int)} (hG : GoodN m n N) (hG' : GoodN m n' N') {s l : Nat} (hs : s < n * n') (hl : l < m) : nxt (prodN N N' m) s l = nxt N (s / n') l * n' + nxt N' (s % n') l := by
  unfold nxt
  have := prod_cell hG hG' hs hl
  unfold nxt at this
  rw [this, Int.toNat_natCast]
theorem prod_good {m n n' : Nat} {N N' : List (List Int)} (hG : GoodN m n N) (hG' : GoodN m n' N') (hn : n * n' ≤ 6400) : GoodN m (n * n') (prodN N N' m) := by
  refine ⟨by simp [prodN, hG.1, hG'.1], Nat.mul_pos hG.2.1 hG'.2.1, hn, hG.2.2.2.1, hG.2.2.2.2.1, fun s hs => ⟨?_, fun j hj => ?_⟩⟩
  · rw [prodN_get (by rw [hG.1, hG'.1]; exact hs)]; simp
  · rw [prod_cell hG hG' hs hj]
    obtain ⟨h1, h2⟩ := parts_lt hs
    have := pair_lt (nxt_cell hG h1 hj).1 (nxt_cell hG' h2 hj).1
    omega
theorem prod_run {m n n' : Nat} {N N' : List (List Int)} (hG : GoodN m n N) (hG' : GoodN m n' N') (w : List Int) (hw : okW m w) : runL N w < n ∧ runL N' w < n' ∧ runL (prodN N N' m) w = runL N w * n' + runL N' w := by
  induction w using list_snoc_ind with
  | h0 => exact ⟨hG.2.1, hG'.2.1, by simp [runL]⟩
  | h1 w x ih =>
    rw [okW_snoc] at hw
    obtain ⟨h1, h2, h3⟩ := ih hw.1
    have hx := hw.2
    have hl : x.toNat < m := by omega
    have p1 := pair_parts h1 h2
    refine ⟨?_, ?_, ?_⟩
    · rw [runL_snoc]; exact (goodN_step hG _ h1 x hx).1
    · rw [runL_snoc]; exact (goodN_step hG' _ h2 x hx).1
    · rw [runL_snoc, runL_snoc, runL_snoc, h3, step_nxt, step_nxt, step_nxt, prod_nxt hG hG' (pair_lt h1 h2) hl, p1.1, p1.2]
theorem prod_takes {m n n' : Nat} {N N' : List (List Int)} (hG : GoodN m n N) (hG' : GoodN m n' N') (how : Int) (E E' : List Bool) (w : List Int) (hw : okW m w) : (prodE how n n' E E').getD (runL (prodN N N' m) w) false = howB how (E.getD (runL N w) false) (E'.getD (runL N' w) false) := by
  obtain ⟨h1, h2, h3⟩ := prod_run hG hG' w hw
  have p1 := pair_parts h1 h2
  rw [h3, prodE_get (pair_lt h1 h2), p1.1, p1.2]
theorem howB_six (x y : Bool) : howB 6 x y = (x != y) := by cases x <;> cases y <;> rfl
theorem leastK_80 {m n : Nat} {N : List (List Int)} (hG : GoodN m n N) (E : List Bool) (hn : n ≤ 80) : leastK N E m ≤ 80 := by
  unfold leastK
  exact Nat.le_trans (reps_count _ _) (Nat.le_trans (met_len hG) hn)
theorem autoC_80 {b t : Int} {N : List (List Int)} {e : Nat} (h : autoC b t N e = 0) : N.length ≤ 80 := by
  unfold autoC at h
  split at h
  · split at h
    · cases h
    · split at h
      · cases h
      · omega
  · contradiction
end Go.Proofs.Ytihhlddbppljpab
