/- A region that draws its order, by what holds between its operations: which have been. -/
import Derived.Test.YtlgjadnkokmjoaaDoorNr
namespace Go.Proofs.YtlgjadnkokmjoaaDoor
open Go.RowKit

def LL (l : Array Bool) (j : Nat) : Prop := l.getD j false = true
theorem ll_get {l : Array Bool} {j : Nat} (h : j < l.size) : (LL l j ↔ l[j] = true) ∧ (l.getD j true = l[j]) := by
  unfold LL
  rw [Array.getD_eq_getD_getElem?, Array.getD_eq_getD_getElem?, Array.getElem?_eq_getElem h]
  exact ⟨Iff.rfl, rfl⟩
theorem ll_set {l : Array Bool} {i : Nat} (h : i < l.size) : LL (l.setIfInBounds i true) = fun j => j = i ∨ LL l j := funext fun j => propext (by
  unfold LL
  rw [Array.getD_eq_getD_getElem?, Array.getD_eq_getD_getElem?, Array.getElem?_setIfInBounds]
  by_cases e : i = j
  · subst e
    rw [if_pos rfl, if_pos h]
    simp
  · rw [if_neg e]
    constructor
    · exact fun h => .inr h
    · rintro (h | h)
      · exact absurd h.symm e
      · exact h)
theorem mem_ready {md : Region.Mode} {ops : Array Oper} {l : Array Bool} {i : Nat} (hs : l.size = ops.size) (h : i ∈ Region.ready md ops l) : ∃ o, i < ops.size ∧ ops[i]? = some o ∧ l.toList[i]? = some false ∧ ¬ LL l i ∧ ∀ e ∈ o.after.toList, Region.binds md e = true → LL l e.on := by
  unfold Region.ready at h
  obtain ⟨h1, h2⟩ := List.mem_filter.1 h
  have hi : i < ops.size := List.mem_range.1 h1
  obtain ⟨g1, g2⟩ := ll_get (l := l) (j := i) (by omega)
  rw [Bool.and_eq_true, g2, Bool.not_eq_true'] at h2
  refine ⟨ops[i], hi, Array.getElem?_eq_getElem hi, ?_, fun h => ?_, fun e he hb => ?_⟩
  · rw [List.getElem?_eq_getElem (by rw [Array.length_toList]; omega), Array.getElem_toList, h2.1]
  · rw [g1, h2.1] at h; cases h
  · have h3 := h2.2
    rw [Array.getElem?_eq_getElem hi] at h3
    simp only [Option.map_some, Option.getD_some] at h3
    rw [Array.all_eq_true'] at h3
    have h4 := h3 e (Array.mem_toList_iff.1 he)
    rw [hb] at h4
    simpa [LL] using h4
theorem ready_all {md : Region.Mode} {ops : Array Oper} {l : Array Bool} (hs : l.size = ops.size) (hon : ∀ (j : Nat) (o : Oper), ops[j]? = some o → ∀ e ∈ o.after.toList, e.on < j) (h : Region.ready md ops l = []) : ∀ n j, j < n → j < ops.size → LL l j := by
  intro n
  induction n with
  | zero => intro j hj; omega
  | succ n ih =>
    intro j hj hjs
    obtain ⟨g1, g2⟩ := ll_get (l := l) (j := j) (by omega)
    cases e : l[j]'(by omega) with
    | true => rw [g1]; exact e
    | false =>
      have : j ∈ Region.ready md ops l := by
        unfold Region.ready
        refine List.mem_filter.2 ⟨List.mem_range.2 hjs, ?_⟩
        rw [g2, e, Array.getElem?_eq_getElem hjs]
        simp only [Option.map_some, Option.getD_some, Bool.not_false, Bool.true_and]
        rw [Array.all_eq_true']
        intro x hx
        have hlt := hon j ops[j] (Array.getElem?_eq_getElem hjs) x (Array.mem_toList_iff.2 hx)
        have := ih x.on (by omega) (by omega)
        unfold LL at this
        simp [this]
      rw [h] at this
      cases this
theorem count_all {l : Array Bool} {n : Nat} (hs : l.size = n) (h : ∀ j, j < n → LL l j) : l.toList.count false = 0 := by
  rw [List.count_eq_zero]
  intro hm
  obtain ⟨j, hj, e⟩ := List.getElem_of_mem hm
  have hj' : j < l.size := by simpa using hj
  have := (ll_get hj').1.1 (h j (by omega))
  rw [Array.getElem_toList] at e
  rw [e] at this
  cases this
theorem all_count {l : Array Bool} (h : l.toList.count false = 0) : ∀ j, j < l.size → LL l j := fun j hj => by
  rw [List.count_eq_zero] at h
  rw [(ll_get hj).1]
  cases e : l[j] with
  | true => rfl
  | false => exact absurd (by rw [← e, ← Array.getElem_toList]; exact List.getElem_mem _) h
theorem region_inv {P : Program} {ops : Array Oper} {Q : Exit → Act → World → Prop} {id : Nat} {a : Act} {w : World} (hm : P.follows .mixedOrders = true) (hon : ∀ (j : Nat) (o : Oper), ops[j]? = some o → ∀ e ∈ o.after.toList, e.on < j)
    (I : (Nat → Prop) → Act → World → Prop) (start : I (fun _ => False) a w.drew)
    (step : ∀ (L : Nat → Prop) (a : Act) (w : World) (i : Nat) (o : Oper), ops[i]? = some o → ¬ L i → (∀ e ∈ o.after.toList, Region.binds .any e = true → L e.on) → (∀ (j : Nat) (o' : Oper), L j → ops[j]? = some o' → ∀ e ∈ o'.after.toList, Region.binds .any e = true → L e.on) → I L a w → wpOp P ops Q i (fun a' w' => I (fun j => j = i ∨ L j) a' w') a w)
    (fin : ∀ (L : Nat → Prop) (a : Act) (w : World), (∀ j, j < ops.size → L j) → I L a w → Q .normal a w) : (Code.region id ops true).wp P Q a w := by
  refine wp_region_any hm ?_
  refine wpAny_inv (fun k l a w => l.size = ops.size ∧ k = l.toList.count false ∧ (∀ (j : Nat) (o' : Oper), LL l j → ops[j]? = some o' → ∀ e ∈ o'.after.toList, Region.binds .any e = true → LL l e.on) ∧ I (LL l) a w) ?_ ?_ ops.size _ _ _ ?_
  · rintro l a w ⟨h1, h2, h3, h4⟩
    have hall := all_count h2.symm
    refine ⟨?_, fin _ _ _ (fun j hj => hall j (by omega)) h4⟩
    rw [List.eq_nil_iff_forall_not_mem]
    intro i hi
    obtain ⟨o, g1, -, -, g2, -⟩ := mem_ready h1 hi
    exact g2 (hall i (by omega))
  · rintro k l a w ⟨h1, h2, h3, h4⟩
    refine ⟨fun he => ?_, fun i hi => ?_⟩
    · have := count_all h1 (fun j hj => ready_all h1 hon he (j + 1) j (by omega) hj)
      omega
    · obtain ⟨o, g1, g2, g3, g4, g5⟩ := mem_ready h1 hi
      refine wpOp_mono (fun a' w' hI => ?_) (step (LL l) a w i o g2 g4 g5 h3 h4)
      have hset := ll_set (l := l) (i := i) (by omega)
      refine ⟨by simpa using h1, ?_, ?_, by rw [hset]; exact hI⟩
      · rw [Array.toList_setIfInBounds, List.count_set (by rw [Array.length_toList]; omega)]
        have hl : i < l.toList.length := by rw [Array.length_toList]; omega
        rw [List.getElem?_eq_getElem hl] at g3
        injection g3 with g3
        rw [g3, if_pos (by rfl), if_neg (by decide)]
        omega
      · rw [hset]
        intro j o' hj ho e he hb
        rcases hj with rfl | hj
        · rw [g2] at ho
          injection ho with ho
          subst ho
          exact .inr (g5 e he hb)
        · exact .inr (h3 j o' hj ho e he hb)
  · refine ⟨by simp, by simp, fun j o' hj => ?_, ?_⟩
    · exfalso
      unfold LL at hj
      rw [Array.getD_eq_getD_getElem?, Array.getElem?_replicate] at hj
      split at hj <;> simp at hj
    · have : LL (Array.replicate ops.size false) = fun _ => False := funext fun j => propext ⟨fun hj => by
        unfold LL at hj
        rw [Array.getD_eq_getD_getElem?, Array.getElem?_replicate] at hj
        split at hj <;> simp at hj, fun h => h.elim⟩
      rw [this]
      exact start
end Go.Proofs.YtlgjadnkokmjoaaDoor
