/- Rounds of classes: mathematics of the reference's Shrunk. -/
import Derived.Test.YtihhlddbppljpacDoorBl
import Derived.Test.YtihhlddbppljpacDoorBm
namespace Go.Proofs.YtihhlddbppljpacDoor
open Go.RowKit

/-- The classes behind k rounds, state by state. -/
def CAt (N : List (List Int)) (E : List Bool) (m n k : Nat) (C : List Int) : Prop := C.length = n ∧ ∀ s ∈ metL N, C.getD s.toNat 0 = ((clsL (simB N E m k) (repsL (simB N E m k) (metL N)) s : Nat) : Int)
theorem cAt_iff {m n : Nat} {N : List (List Int)} (E : List Bool) {k : Nat} {C : List Int} (hC : CAt N E m n k C) {s t : Int} (hs : s ∈ metL N) (ht : t ∈ metL N) : C.getD s.toNat 0 = C.getD t.toNat 0 ↔ simB N E m k s.toNat t.toNat = true := by
  rw [hC.2 s hs, hC.2 t ht, ← cls_iff (simB_eqv N E m k) hs ht]
  omega
theorem like_sim {m n : Nat} {N : List (List Int)} (hG : GoodN m n N) (E : List Bool) {k : Nat} {C : List Int} (hC : CAt N E m n k C) {s t : Int} (hs : s ∈ metL N) (ht : t ∈ metL N) : likeB N E C m s.toNat t.toNat = simB N E m (k + 1) s.toNat t.toNat := by
  rw [Bool.eq_iff_iff, likeB_iff, simB_succ, cAt_iff E hC hs ht]
  refine ⟨fun h => ⟨h.1, h.2.1, fun j hj => ?_⟩, fun h => ⟨h.1, h.2.1, fun j hj => ?_⟩⟩
  · have := (cAt_iff E hC (met_nxt hG hs j hj).1 (met_nxt hG ht j hj).1).1 (by rw [Int.toNat_natCast, Int.toNat_natCast]; exact h.2.2 j hj)
    rwa [Int.toNat_natCast, Int.toNat_natCast] at this
  · have := (cAt_iff E hC (met_nxt hG hs j hj).1 (met_nxt hG ht j hj).1).2 (by rw [Int.toNat_natCast, Int.toNat_natCast]; exact h.2.2 j hj)
    rwa [Int.toNat_natCast, Int.toNat_natCast] at this
theorem cAt_zero {m n : Nat} {N : List (List Int)} (hG : GoodN m n N) (E : List Bool) : CAt N E m n 0 (List.replicate n 0) := by
  refine ⟨by simp, fun s hs => ?_⟩
  have h0 := reps_zero (R := simB N E m 0) hG
  have e : clsL (simB N E m 0) (repsL (simB N E m 0) (metL N)) s = 0 := cls_eq (simB_eqv N E m 0) h0.1 rfl
  have hn := met_lt hG hs
  rw [e]
  simp [List.getD, hn]

/-- How one looks for its class among those that stand for one. -/
theorem cls_at {R : Nat → Nat → Bool} {acc : List Int} {s : Int} {j : Nat} (hj : j ≤ acc.length) (hb : ∀ r, r < j → R s.toNat (acc.getD r 0).toNat = false) (ha : j < acc.length → R s.toNat (acc.getD j 0).toNat = true) : clsL R acc s = j := by
  unfold clsL
  by_cases h : j < acc.length
  · rw [List.findIdx_eq h]
    refine ⟨by have := ha h; rwa [getD_at _ j h] at this, fun r hr => ?_⟩
    have := hb r hr
    rwa [getD_at _ r (by omega)] at this
  · have e : j = acc.length := by omega
    subst e
    rw [List.findIdx_eq_length]
    intro r hr
    obtain ⟨i, hi, rfl⟩ := List.getElem_of_mem hr
    have := hb i hi
    rwa [getD_at _ i hi] at this
theorem cls_step {R : Nat → Nat → Bool} (hR : EqvB R) {mt : List Int} {p : Nat} (hp : p < mt.length) :
    clsL R (repsL R mt) (mt.getD p 0) = clsL R (repsL R (mt.take p)) (mt.getD p 0) ∧ repsL R (mt.take (p + 1)) = if clsL R (repsL R (mt.take p)) (mt.getD p 0) < (repsL R (mt.take p)).length then repsL R (mt.take p) else repsL R (mt.take p) ++ [mt.getD p 0] := by
  have htake : mt.take (p + 1) = mt.take p ++ [mt.getD p 0] := by rw [List.take_succ_eq_append_getElem hp, getD_at _ p hp]
  by_cases h : ∃ r ∈ repsL R (mt.take p), R (mt.getD p 0).toNat r.toNat = true
  · have hl := cls_lt h
    have hpre := reps_prefix (R := R) (List.take_prefix p mt)
    refine ⟨cls_eq hR (Nat.lt_of_lt_of_le hl hpre.length_le) (by rw [pre_getD hpre _ hl]; exact cls_R hl), ?_⟩
    rw [if_pos hl, htake, repsL_snoc]
    unfold repAdd
    rw [if_pos (List.any_eq_true.2 h)]
  · have he : clsL R (repsL R (mt.take p)) (mt.getD p 0) = (repsL R (mt.take p)).length := by
      unfold clsL
      rw [List.findIdx_eq_length]
      intro r hr
      cases e : R (mt.getD p 0).toNat r.toNat with
      | false => rfl
      | true => exact absurd ⟨r, hr, e⟩ h
    have e1 : repsL R (mt.take (p + 1)) = repsL R (mt.take p) ++ [mt.getD p 0] := by
      rw [htake, repsL_snoc]
      unfold repAdd
      rw [if_neg (fun e => h (List.any_eq_true.1 e))]
    refine ⟨?_, by rw [if_neg (by omega), e1]⟩
    have hpre := reps_prefix (R := R) (List.take_prefix (p + 1) mt)
    rw [e1] at hpre
    have hlt : (repsL R (mt.take p)).length < (repsL R mt).length := by have := hpre.length_le; simp at this; omega
    have hg := pre_getD hpre (repsL R (mt.take p)).length (by simp)
    have e2 : (repsL R (mt.take p) ++ [mt.getD p 0]).getD (repsL R (mt.take p)).length 0 = mt.getD p 0 := by simp [List.getD]
    rw [e2] at hg
    rw [he]
    exact cls_eq hR hlt (by rw [hg]; exact hR.refl _)

/-- What is written behind p of them. -/
def freshF (R : Nat → Nat → Bool) (mt : List Int) (p q : Nat) : Int := if (q : Int) ∈ mt.take p then ((clsL R (repsL R mt) (q : Int) : Nat) : Int) else 0
theorem freshF_zero (R : Nat → Nat → Bool) (mt : List Int) (q : Nat) : freshF R mt 0 q = 0 := by simp [freshF]
theorem freshF_step {R : Nat → Nat → Bool} {mt : List Int} {p : Nat} (hp : p < mt.length) (h0 : 0 ≤ mt.getD p 0) (q : Nat) : freshF R mt (p + 1) q = if q = (mt.getD p 0).toNat then ((clsL R (repsL R mt) (mt.getD p 0) : Nat) : Int) else freshF R mt p q := by
  have htake : mt.take (p + 1) = mt.take p ++ [mt.getD p 0] := by rw [List.take_succ_eq_append_getElem hp, getD_at _ p hp]
  unfold freshF
  rw [htake]
  by_cases e : q = (mt.getD p 0).toNat
  · have e' : (q : Int) = mt.getD p 0 := by omega
    rw [if_pos e, e', if_pos (by simp)]
  · have e' : ¬ (q : Int) = mt.getD p 0 := by omega
    rw [if_neg e]
    have : ((q : Int) ∈ mt.take p ++ [mt.getD p 0]) ↔ (q : Int) ∈ mt.take p := by simp only [List.mem_append, List.mem_singleton]; exact ⟨fun h => h.resolve_right e', .inl⟩
    simp only [this]
theorem cAt_fresh {m n : Nat} {N : List (List Int)} (hG : GoodN m n N) (E : List Bool) (k : Nat) : CAt N E m n k ((List.range n).map (freshF (simB N E m k) (metL N) (metL N).length)) := by
  refine ⟨by simp, fun s hs => ?_⟩
  have hn := met_lt hG hs
  have h0 := ((met_ok hG).2 s hs).1
  have e : ((List.range n).map (freshF (simB N E m k) (metL N) (metL N).length)).getD s.toNat 0 = freshF (simB N E m k) (metL N) (metL N).length s.toNat := by simp [List.getD, hn]
  have es : ((s.toNat : Nat) : Int) = s := by omega
  rw [e]
  unfold freshF
  rw [List.take_length, es, if_pos hs]

theorem simB_le {N : List (List Int)} {E : List Bool} {m j k : Nat} (h : j ≤ k) {s t : Nat} (hs : simB N E m k s t = true) : simB N E m j s t = true := by
  obtain ⟨i, rfl⟩ : ∃ i, k = j + i := ⟨k - j, by omega⟩
  clear h
  induction i with
  | zero => exact hs
  | succ i ih => exact ih (simB_fine hs)
/-- No round has more classes than there are in the end. -/
theorem reps_bound {m n : Nat} {N : List (List Int)} (hG : GoodN m n N) (E : List Bool) (k : Nat) : (repsL (simB N E m k) (metL N)).length ≤ leastK N E m := by
  unfold leastK leastR
  rw [hG.1]
  by_cases h : k ≤ n
  · exact reps_le (R' := simB N E m n) (simB_eqv N E m k) (fun s t hs => simB_le h hs) _
  · have e : repsL (simB N E m k) (metL N) = repsL (simB N E m n) (metL N) := by
      refine reps_congr _ fun s hs t ht => ?_
      rw [Bool.eq_iff_iff]
      refine ⟨fun hh => simB_le (by omega) hh, fun hh => ?_⟩
      exact lang_sim k ((sim_all hG E (met_lt hG hs) (met_lt hG ht)).1 hh)
    rw [e]
    exact Nat.le_refl _
/-- Where a round makes no more of them, they are the least automaton's. -/
theorem round_stab {m n : Nat} {N : List (List Int)} (hG : GoodN m n N) (E : List Bool) {k : Nat} (hl : (repsL (simB N E m k) (metL N)).length = (repsL (simB N E m (k + 1)) (metL N)).length) :
    Stab N E m (simB N E m (k + 1)) ∧ quoN (simB N E m (k + 1)) (metL N) N = leastN N E m ∧ quoE (simB N E m (k + 1)) (metL N) E = leastE N E m ∧ (repsL (simB N E m (k + 1)) (metL N)).length = leastK N E m := by
  have hsame := reps_same (simB_eqv N E m k) (simB_eqv N E m (k + 1)) (fun s t => simB_fine) (metL N) hl
  have hst : Stab N E m (simB N E m (k + 1)) := by
    refine ⟨simB_eqv _ _ _ _, fun s _ t _ h => (simB_succ.1 h).1, fun s hs t ht h j hj => ?_⟩
    have h1 := (simB_succ.1 h).2.2 j hj
    have h2 := hsame _ (met_nxt hG hs j hj).1 _ (met_nxt hG ht j hj).1
    rw [Int.toNat_natCast, Int.toNat_natCast] at h2
    rw [← h2]; exact h1
  have hu := least_unique hG hst (fun s _ t _ h => lang_sim (k + 1) h)
  refine ⟨hst, hu.1, hu.2, ?_⟩
  have := congrArg List.length hu.1
  rwa [quoN_length, leastN_len] at this
/-- Else there are more. -/
theorem round_more {m n : Nat} {N : List (List Int)} (hG : GoodN m n N) (E : List Bool) {k : Nat} (hl : (repsL (simB N E m k) (metL N)).length ≠ (repsL (simB N E m (k + 1)) (metL N)).length) : (repsL (simB N E m k) (metL N)).length < (repsL (simB N E m (k + 1)) (metL N)).length := by
  have := reps_le (R' := simB N E m (k + 1)) (simB_eqv N E m k) (fun s t => simB_fine (N := N) (E := E) (m := m)) (metL N)
  have := hG.1
  omega
end Go.Proofs.YtihhlddbppljpacDoor
