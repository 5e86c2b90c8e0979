/- What takes the same words has one least automaton: mathematics. -/
import Derived.Test.YtihhlddbppljpacDoorCa
namespace Go.Proofs.YtihhlddbppljpacDoor
open Go.RowKit

theorem okW_append {m : Nat} {u v : List Int} : okW m (u ++ v) ↔ okW m u ∧ okW m v := by
  unfold okW
  constructor
  · intro h; exact ⟨fun x hx => h x (by simp [hx]), fun x hx => h x (by simp [hx])⟩
  · rintro ⟨h1, h2⟩ x hx
    rcases List.mem_append.1 hx with h | h
    · exact h1 x h
    · exact h2 x h
theorem runL_runF (N : List (List Int)) (u v : List Int) : runL N (u ++ v) = runF N (runL N u) v := runL_append N u v
theorem run_lt {m n : Nat} {N : List (List Int)} (h : GoodN m n N) (w : List Int) (hw : okW m w) : runL N w < n := by
  have := runL_lt h w w.length (Nat.le_refl _) (fun j hj => hw _ (by rw [getD_at _ j hj]; exact List.getElem_mem hj))
  rwa [List.take_length] at this

/-- Two automata that take the same words; any two states of either part. -/
structure Twins (m K K' : Nat) (A : List (List Int)) (EA : List Bool) (B : List (List Int)) (EB : List Bool) : Prop where
  good : GoodN m K A
  good' : GoodN m K' B
  same : ∀ w, okW m w → EA.getD (runL A w) false = EB.getD (runL B w) false
  apart : ∀ s t, s < K → t < K → langE A EA m s t → s = t
  apart' : ∀ s t, s < K' → t < K' → langE B EB m s t → s = t
theorem Twins.symm {m K K' : Nat} {A : List (List Int)} {EA : List Bool} {B : List (List Int)} {EB : List Bool} (h : Twins m K K' A EA B EB) : Twins m K' K B EB A EA := ⟨h.good', h.good, fun w hw => (h.same w hw).symm, h.apart', h.apart⟩
/-- One word leads here and there. -/
def RelT (m : Nat) (A B : List (List Int)) (s t : Nat) : Prop := ∃ w, okW m w ∧ runL A w = s ∧ runL B w = t
theorem relT_right {m K K' : Nat} {A : List (List Int)} {EA : List Bool} {B : List (List Int)} {EB : List Bool} (h : Twins m K K' A EA B EB) {s t t' : Nat} (h1 : RelT m A B s t) (h2 : RelT m A B s t') : t = t' := by
  obtain ⟨u, hu, e1, rfl⟩ := h1
  obtain ⟨v, hv, e2, rfl⟩ := h2
  refine h.apart' _ _ (run_lt h.good' u hu) (run_lt h.good' v hv) fun z hz => ?_
  rw [← runL_runF, ← runL_runF, ← h.same _ (okW_append.2 ⟨hu, hz⟩), ← h.same _ (okW_append.2 ⟨hv, hz⟩), runL_runF, runL_runF, e1, e2]
theorem relT_left {m K K' : Nat} {A : List (List Int)} {EA : List Bool} {B : List (List Int)} {EB : List Bool} (h : Twins m K K' A EA B EB) {s s' t : Nat} (h1 : RelT m A B s t) (h2 : RelT m A B s' t) : s = s' := by
  obtain ⟨u, hu, e1, e2⟩ := h1
  obtain ⟨v, hv, e3, e4⟩ := h2
  exact relT_right h.symm ⟨u, hu, e2, e1⟩ ⟨v, hv, e4, e3⟩
theorem relT_step {m : Nat} {A B : List (List Int)} {s t j : Nat} (h : RelT m A B s t) (hj : j < m) : RelT m A B (nxt A s j) (nxt B t j) := by
  obtain ⟨u, hu, rfl, rfl⟩ := h
  exact ⟨u ++ [(j : Int)], okW_snoc.2 ⟨hu, by omega, by omega⟩, by rw [runL_snoc, step_nxt, Int.toNat_natCast], by rw [runL_snoc, step_nxt, Int.toNat_natCast]⟩
def RelI (m : Nat) (A B : List (List Int)) (x y : Int) : Prop := 0 ≤ x ∧ 0 ≤ y ∧ RelT m A B x.toNat y.toNat
def ParL (m : Nat) (A B : List (List Int)) (o o' : List Int) : Prop := o.length = o'.length ∧ ∀ i, i < o.length → RelI m A B (o.getD i 0) (o'.getD i 0)
theorem parL_snoc {m : Nat} {A B : List (List Int)} {o o' : List Int} {x y : Int} (h : ParL m A B o o') (hx : RelI m A B x y) : ParL m A B (o ++ [x]) (o' ++ [y]) := by
  refine ⟨by rw [List.length_append, List.length_append, h.1]; rfl, fun i hi => ?_⟩
  rw [List.length_append, List.length_singleton] at hi
  by_cases e : i < o.length
  · rw [pre_getD (List.prefix_append _ _) i e, pre_getD (List.prefix_append _ _) i (by rw [← h.1]; exact e)]
    exact h.2 i e
  · obtain rfl : i = o.length := by omega
    have e1 : (o ++ [x]).getD o.length 0 = x := by simp [List.getD]
    have e2 : (o' ++ [y]).getD o.length 0 = y := by rw [h.1]; simp [List.getD]
    rw [e1, e2]
    exact hx
theorem parL_mem {m K K' : Nat} {A : List (List Int)} {EA : List Bool} {B : List (List Int)} {EB : List Bool} (ht : Twins m K K' A EA B EB) {o o' : List Int} {x y : Int} (h : ParL m A B o o') (hx : RelI m A B x y) : x ∈ o ↔ y ∈ o' := by
  constructor
  · intro hm
    obtain ⟨i, hi, e⟩ := List.getElem_of_mem hm
    have h1 := h.2 i hi
    rw [getD_at _ i hi, e] at h1
    have := relT_right ht hx.2.2 h1.2.2
    have h2 := h1.2.1
    have h3 := hx.2.1
    have e2 : y = o'.getD i 0 := by omega
    rw [e2, getD_at _ i (by rw [← h.1]; exact hi)]
    exact List.getElem_mem _
  · intro hm
    obtain ⟨i, hi, e⟩ := List.getElem_of_mem hm
    have hi' : i < o.length := by rw [h.1]; exact hi
    have h1 := h.2 i hi'
    rw [getD_at o' i hi, e] at h1
    have := relT_left ht hx.2.2 h1.2.2
    have h2 := h1.1
    have h3 := hx.1
    have e2 : x = o.getD i 0 := by omega
    rw [e2, getD_at _ i hi']
    exact List.getElem_mem _
theorem parL_add {m K K' : Nat} {A : List (List Int)} {EA : List Bool} {B : List (List Int)} {EB : List Bool} (ht : Twins m K K' A EA B EB) {o o' : List Int} {x y : Int} (h : ParL m A B o o') (hx : RelI m A B x y) : ParL m A B (addL o x) (addL o' y) := by
  have hm := parL_mem ht h hx
  by_cases e : x ∈ o
  · rw [addL_yes e, addL_yes (hm.1 e)]; exact h
  · rw [addL_no e, addL_no (fun e' => e (hm.2 e'))]; exact parL_snoc h hx
theorem parL_row {m K K' : Nat} {A : List (List Int)} {EA : List Bool} {B : List (List Int)} {EB : List Bool} (ht : Twins m K K' A EA B EB) {o o' : List Int} {r r' : List Int} (h : ParL m A B o o') (hr : ParL m A B r r') (k : Nat) (hk : k ≤ r.length) : ParL m A B (rowAdd o (r.take k)) (rowAdd o' (r'.take k)) := by
  induction k with
  | zero => simpa [rowAdd] using h
  | succ k ih =>
    rw [rowAdd_take_succ _ _ k (by omega), rowAdd_take_succ _ _ k (by rw [← hr.1]; omega)]
    exact parL_add ht (ih (by omega)) (hr.2 k (by omega))
theorem parL_outs {m K K' : Nat} {A : List (List Int)} {EA : List Bool} {B : List (List Int)} {EB : List Bool} (ht : Twins m K K' A EA B EB) (i : Nat) : ParL m A B (outs A i) (outs B i) := by
  induction i with
  | zero =>
    refine ⟨rfl, fun i hi => ?_⟩
    simp [outs] at hi
    subst hi
    exact ⟨by simp [outs, List.getD], by simp [outs, List.getD], [], by simp [okW], by simp [outs, List.getD, runL], by simp [outs, List.getD, runL]⟩
  | succ i ih =>
    unfold outs
    by_cases hi : i < (outs A i).length
    · rw [if_pos hi, if_pos (by rw [← ih.1]; exact hi)]
      have hrel := ih.2 i hi
      have s1 := okO_get (outs_ok ht.good i) i hi
      have s2 := okO_get (outs_ok ht.good' i) i (by rw [← ih.1]; exact hi)
      have g1 := ht.good.2.2.2.2.2 _ (show ((outs A i).getD i 0).toNat < K by omega)
      have g2 := ht.good'.2.2.2.2.2 _ (show ((outs B i).getD i 0).toNat < K' by omega)
      have hrow : ParL m A B (A.getD ((outs A i).getD i 0).toNat []) (B.getD ((outs B i).getD i 0).toNat []) := by
        refine ⟨by rw [g1.1, g2.1], fun j hj => ?_⟩
        rw [g1.1] at hj
        exact ⟨(g1.2 j hj).1, (g2.2 j hj).1, relT_step hrel.2.2 hj⟩
      have := parL_row ht ih hrow _ (Nat.le_refl _)
      rw [List.take_length] at this
      have e : (B.getD ((outs B i).getD i 0).toNat []).take (A.getD ((outs A i).getD i 0).toNat []).length = B.getD ((outs B i).getD i 0).toNat [] := by rw [hrow.1, List.take_length]
      rwa [e] at this
    · rw [if_neg hi, if_neg (by rw [← ih.1]; exact hi)]
      exact ih
theorem outs_late {m n : Nat} {N : List (List Int)} (h : GoodN m n N) (j : Nat) : outs N (n + j) = metL N := by
  have e : outs N n = metL N := by unfold metL; rw [h.1]
  rw [← e]
  exact outs_stay N n (outs_len h n) j
/-- Where states are met in the order of their numbers: one and the same. -/
theorem twins_one {m K K' : Nat} {A : List (List Int)} {EA : List Bool} {B : List (List Int)} {EB : List Bool} (ht : Twins m K K' A EA B EB) (hA : metL A = natsL K) (hB : metL B = natsL K') (hEA : EA.length = K) (hEB : EB.length = K') : A = B ∧ EA = EB := by
  have hp := parL_outs ht (K + K')
  rw [outs_late ht.good K', Nat.add_comm, outs_late ht.good' K, hA, hB] at hp
  obtain rfl : K = K' := by have := hp.1; rwa [natsL_len, natsL_len] at this
  have hid : ∀ i, i < K → RelT m A B i i := fun i hi => by
    have := (hp.2 i (by rw [natsL_len]; exact hi)).2.2
    rwa [natsL_get hi, Int.toNat_natCast] at this
  constructor
  · apply List.ext_getElem
    · rw [ht.good.1, ht.good'.1]
    · intro i h1 h2
      have hi : i < K := by rw [← ht.good.1]; exact h1
      have g1 := ht.good.2.2.2.2.2 i hi
      have g2 := ht.good'.2.2.2.2.2 i hi
      have e1 : A.getD i [] = A[i] := by simp [List.getD, h1]
      have e2 : B.getD i [] = B[i] := by simp [List.getD, h2]
      rw [← e1, ← e2]
      apply List.ext_getElem
      · rw [g1.1, g2.1]
      · intro j j1 j2
        have hj : j < m := by rw [← g1.1]; exact j1
        have c1 := (nxt_cell ht.good hi hj)
        have c2 := (nxt_cell ht.good' hi hj)
        have hr := relT_step (hid i hi) hj
        have := relT_right ht hr (hid _ c1.1)
        rw [← getD_at _ j j1, ← getD_at _ j j2, c1.2, c2.2, this]
  · apply List.ext_getElem
    · rw [hEA, hEB]
    · intro i h1 h2
      obtain ⟨u, hu, e1, e2⟩ := hid i (by omega)
      have := ht.same u hu
      rw [e1, e2] at this
      simpa [List.getD, h1, h2] using this
/-- WHAT TAKES THE SAME WORDS HAS ONE LEAST AUTOMATON. -/
theorem least_same {m n n' : Nat} {N N' : List (List Int)} (hG : GoodN m n N) (hG' : GoodN m n' N') (E E' : List Bool) (h : ∀ w, okW m w → E.getD (runL N w) false = E'.getD (runL N' w) false) : leastN N E m = leastN N' E' m ∧ leastE N E m = leastE N' E' m :=
  twins_one (K := leastK N E m) (K' := leastK N' E' m) ⟨least_good hG E, least_good hG' E', fun w hw => by rw [least_takes hG E w hw, least_takes hG' E' w hw]; exact h w hw, fun s t hs ht => least_parts hG E hs ht, fun s t hs ht => least_parts hG' E' hs ht⟩ (least_met hG E) (least_met hG' E') (leastE_len N E m) (leastE_len N' E' m)
end Go.Proofs.YtihhlddbppljpacDoor
