/- The automaton of couples: states of two automata side by side, numbered as they are met: mathematics. -/
import Derived.Test.YtihhlddbppljpacDoorDc
namespace Go.Proofs.YtihhlddbppljpacDoor
open Go.RowKit

/-- One and the same. -/
def eqB (s t : Nat) : Bool := s == t
theorem eqB_iff {s t : Nat} : eqB s t = true ↔ s = t := by simp [eqB]
theorem eqB_eqv : EqvB eqB := ⟨fun _ => by simp [eqB], fun s t h => by rw [eqB_iff] at h ⊢; exact h.symm, fun s t u h h' => by rw [eqB_iff] at h h' ⊢; exact h.trans h'⟩
theorem eqB_stab (N : List (List Int)) (E : List Bool) (m : Nat) : Stab N E m eqB :=
  ⟨eqB_eqv, fun s _ t _ h => by rw [eqB_iff] at h; rw [h], fun s _ t _ h j _ => by rw [eqB_iff] at h ⊢; rw [h]⟩
theorem reps_self {n : Nat} {o : List Int} (h : OkO n o) : repsL eqB o = o := by
  induction o using list_snoc_ind with
  | h0 => rfl
  | h1 l x ih =>
    obtain ⟨h1, h2⟩ := h
    rw [List.nodup_append] at h1
    rw [repsL_snoc, ih ⟨h1.1, fun y hy => h2 y (by simp [hy])⟩]
    unfold repAdd
    rw [if_neg ?_]
    intro hx
    obtain ⟨r, hr, e⟩ := List.any_eq_true.1 hx
    rw [eqB_iff] at e
    have hr0 := (h2 r (by simp [hr])).1
    have hx0 := (h2 x (by simp)).1
    exact h1.2.2 r hr x (by simp) (by omega)
/-- Which of them it is. -/
def posL (o : List Int) (x : Int) : Nat := clsL eqB o x
theorem pos_lt {o : List Int} {x : Int} (hx : x ∈ o) : posL o x < o.length := cls_lt ⟨x, hx, by simp [eqB]⟩
theorem pos_pre {o o' : List Int} {x : Int} (h : o <+: o') (hx : x ∈ o) : posL o' x = posL o x := by
  obtain ⟨s, rfl⟩ := h
  have := pos_lt hx
  unfold posL clsL at this ⊢
  rw [List.findIdx_append, if_pos this]
theorem pos_none {n : Nat} {o : List Int} (h : OkO n o) {x : Int} (h0 : 0 ≤ x) (hx : ¬ x ∈ o) : posL o x = o.length := by
  unfold posL clsL
  rw [List.findIdx_eq_length]
  intro r hr
  cases e : eqB x.toNat r.toNat with
  | false => rfl
  | true =>
    rw [eqB_iff] at e
    have := (h.2 r hr).1
    exact absurd (show x = r by omega) (fun e' => hx (e' ▸ hr))
theorem pos_new {n : Nat} {o : List Int} (h : OkO n o) {x : Int} (h0 : 0 ≤ x) (hx : ¬ x ∈ o) : posL (o ++ [x]) x = o.length := by
  have := pos_none h h0 hx
  unfold posL clsL at this ⊢
  rw [List.findIdx_append, if_neg (by omega)]
  simp [eqB]

/-- The couples that are met, numbered as they come: the automaton of them. -/
def coupN (P : List (List Int)) : List (List Int) := quoN eqB (metL P) P
def coupE (P : List (List Int)) (Q : List Bool) : List Bool := quoE eqB (metL P) Q
section
variable {m n : Nat} {P : List (List Int)} (hG : GoodN m n P)
include hG
theorem coup_len : (coupN P).length = (metL P).length := by unfold coupN; rw [quoN_length, reps_self (met_ok hG)]
theorem coupE_len (Q : List Bool) : (coupE P Q).length = (metL P).length := by unfold coupE; rw [quoE_length, reps_self (met_ok hG)]
theorem coup_good : GoodN m (metL P).length (coupN P) := by
  have := quo_good hG (eqB_stab P [] m)
  rwa [reps_self (met_ok hG)] at this
theorem coup_tk (Q : List Bool) (w : List Int) (hw : okW m w) : tkB (coupN P) (coupE P Q) w = tkB P Q w := quo_takes hG (eqB_stab P Q m) w hw
theorem coup_least (Q : List Bool) : leastN (coupN P) (coupE P Q) m = leastN P Q m ∧ leastE (coupN P) (coupE P Q) m = leastE P Q m ∧ leastK (coupN P) (coupE P Q) m = leastK P Q m := least_tk (coup_good hG) hG _ _ fun w hw => coup_tk hG Q w hw
theorem coup_row {i : Nat} (hi : i < (metL P).length) : (coupN P).getD i [] = (P.getD ((metL P).getD i 0).toNat []).map fun x => ((posL (metL P) x : Nat) : Int) := by
  have h := reps_self (met_ok hG)
  unfold coupN
  rw [quoN_get (by rw [h]; exact hi), h]
  rfl
theorem coup_end (Q : List Bool) {i : Nat} (hi : i < (metL P).length) : (coupE P Q).getD i false = Q.getD ((metL P).getD i 0).toNat false := by
  have h := reps_self (met_ok hG)
  unfold coupE
  rw [quoE_get (by rw [h]; exact hi), h]
/-- What was met behind i of them is where all begins. -/
theorem outs_met (i : Nat) (hi : i ≤ (outs P i).length) : outs P i <+: metL P := by
  have h1 := outs_len hG i
  have h2 := outs_pre P i (n - i)
  unfold metL
  rwa [hG.1, show n = i + (n - i) by omega]
end
/-- Along the row of the i-th of them, l letters read. -/
def rowO (P : List (List Int)) (i l : Nat) : List Int := rowAdd (outs P i) ((P.getD ((outs P i).getD i 0).toNat []).take l)
theorem rowO_zero (P : List (List Int)) (i : Nat) : rowO P i 0 = outs P i := by simp [rowO, rowAdd]
theorem rowO_succ {P : List (List Int)} {i l : Nat} (hl : l < (P.getD ((outs P i).getD i 0).toNat []).length) : rowO P i (l + 1) = addL (rowO P i l) ((P.getD ((outs P i).getD i 0).toNat []).getD l 0) := rowAdd_take_succ _ _ _ hl
theorem rowO_end {P : List (List Int)} {i : Nat} (hi : i < (outs P i).length) : rowO P i (P.getD ((outs P i).getD i 0).toNat []).length = outs P (i + 1) := by
  unfold rowO; rw [List.take_length, outs_succ P i hi]
theorem rowAdd_app (o r s : List Int) : rowAdd o r <+: rowAdd o (r ++ s) := by
  unfold rowAdd
  rw [List.foldl_append]
  exact rowAdd_pre _ s
theorem rowO_outs {P : List (List Int)} {i : Nat} (hi : i < (outs P i).length) (l : Nat) : rowO P i l <+: outs P (i + 1) := by
  rw [outs_succ P i hi]
  unfold rowO
  have := rowAdd_app (outs P i) ((P.getD ((outs P i).getD i 0).toNat []).take l) ((P.getD ((outs P i).getD i 0).toNat []).drop l)
  rwa [List.take_append_drop] at this
section
variable {m n : Nat} {P : List (List Int)} (hG : GoodN m n P)
include hG
theorem rowO_ok {i : Nat} (hi : i < (outs P i).length) (l : Nat) : OkO n (rowO P i l) := okO_row (outs_ok hG i) _ fun x hx => (goodN_row hG _ (okO_get (outs_ok hG i) i hi)).2 x (List.mem_of_mem_take hx)
theorem rowO_met {i : Nat} (hi : i < (outs P i).length) (l : Nat) : rowO P i l <+: metL P := by
  have h1 := outs_pre P i 1
  exact (rowO_outs hi l).trans (outs_met hG (i + 1) (Nat.le_trans hi h1.length_le))
theorem rowO_le {i : Nat} (hi : i < (outs P i).length) (l : Nat) : (rowO P i l).length ≤ n := nodup_len n _ (rowO_ok hG hi l)
end
/-- The numbers of couples. -/
theorem numF_pos {M n : Nat} {o : List Int} (h : OkO n o) {x : Int} (hx : x ∈ o) : (spotV M x, Value.int .i64 ((posL o x : Nat) : Int)) ∈ numF (spotV M) o :=
  numF_some (R := eqB) (fun r hr => ⟨fun e => eqB_iff.2 (by rw [spotV_inj (h.2 r hr).1 (h.2 x hx).1 e]), fun e => by rw [eqB_iff] at e; rw [show r = x by have := (h.2 r hr).1; have := (h.2 x hx).1; omega]⟩) ⟨x, hx, by simp [eqB]⟩
theorem numF_not {M n : Nat} {o : List Int} (h : OkO n o) {x : Int} (h0 : 0 ≤ x) (hx : ¬ x ∈ o) : ¬ spotV M x ∈ (numF (spotV M) o).map Prod.fst :=
  numF_none fun r hr e => hx (by rw [← spotV_inj (h.2 r hr).1 h0 e]; exact hr)
end Go.Proofs.YtihhlddbppljpacDoor
