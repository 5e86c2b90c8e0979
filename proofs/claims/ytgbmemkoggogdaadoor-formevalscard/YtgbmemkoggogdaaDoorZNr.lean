/- 3 texts in one. -/
import Derived.Deep.DeepCutAuto
import Derived.Deep.RegionHeldLaw
import Derived.Test.YtgbmemkoggogdaaDoorZF
/- Regions that draw their order, by what holds between their operations: the law. -/
namespace Go.Proofs.YtgbmemkoggogdaaDoor
open Go.RowKit

/-- What holds between the operations, whatever their order. -/
theorem wpAny_inv {P : Program} {md : Region.Mode} {ops : Array Oper} {Q : Exit → Act → World → Prop} (I : Nat → Array Bool → Act → World → Prop)
    (h0 : ∀ l a w, I 0 l a w → Region.ready md ops l = [] ∧ Q .normal a w)
    (h1 : ∀ k l a w, I (k + 1) l a w → (Region.ready md ops l = [] → Q .normal a w) ∧ ∀ i ∈ Region.ready md ops l, wpOp P ops Q i (I k (l.setIfInBounds i true)) a w) :
    ∀ (k : Nat) (l : Array Bool) (a : Act) (w : World), I k l a w → wpAny P md ops Q k l a w
  | 0, l, a, w, h => h0 l a w h
  | k + 1, l, a, w, h => ⟨(h1 k l a w h).1, fun i hi => wpOp_mono (fun a' w' h' => wpAny_inv I h0 h1 k _ a' w' h') ((h1 k l a w h).2 i hi)⟩
end Go.Proofs.YtgbmemkoggogdaaDoor

/- A region that draws its order, by what holds between its operations: which have been. -/
namespace Go.Proofs.YtgbmemkoggogdaaDoor
open Go.RowKit

def LL (l : Array Bool) (j : Nat) : Prop := l.getD j false = true
theorem ll_get {l : Array Bool} {j : Nat} (h : j < l.size) : (LL l j ↔ l[j] = true) ∧ (l.getD j true = l[j]) := by
  unfold LL
  rw [Array.getD_eq_getD_getElem?, Array.getD_eq_getD_getElem?, Array.getElem?_eq_getElem h]
  exact ⟨Iff.rfl, rfl⟩
theorem ll_set {l : Array Bool} {i : Nat} (h : i < l.size) : LL (l.setIfInBounds i true) = fun j => j = i ∨ LL l j := funext fun j => propext (by
  unfold LL
  rw [Array.getD_eq_getD_getElem?, Array.getD_eq_getD_getElem?, Array.getElem?_setIfInBounds]
  by_cases e : i = j
  · subst e
    rw [if_pos rfl, if_pos h]
    simp
  · rw [if_neg e]
    constructor
    · exact fun h => .inr h
    · rintro (h | h)
      · exact absurd h.symm e
      · exact h)
theorem mem_ready {md : Region.Mode} {ops : Array Oper} {l : Array Bool} {i : Nat} (hs : l.size = ops.size) (h : i ∈ Region.ready md ops l) : ∃ o, i < ops.size ∧ ops[i]? = some o ∧ l.toList[i]? = some false ∧ ¬ LL l i ∧ ∀ e ∈ o.after.toList, Region.binds md e = true → LL l e.on := by
  unfold Region.ready at h
  obtain ⟨h1, h2⟩ := List.mem_filter.1 h
  have hi : i < ops.size := List.mem_range.1 h1
  obtain ⟨g1, g2⟩ := ll_get (l := l) (j := i) (by omega)
  rw [Bool.and_eq_true, g2, Bool.not_eq_true'] at h2
  refine ⟨ops[i], hi, Array.getElem?_eq_getElem hi, ?_, fun h => ?_, fun e he hb => ?_⟩
  · rw [List.getElem?_eq_getElem (by rw [Array.length_toList]; omega), Array.getElem_toList, h2.1]
  · rw [g1, h2.1] at h; cases h
  · have h3 := h2.2
    rw [Array.getElem?_eq_getElem hi] at h3
    simp only [Option.map_some, Option.getD_some] at h3
    rw [Array.all_eq_true'] at h3
    have h4 := h3 e (Array.mem_toList_iff.1 he)
    rw [hb] at h4
    simpa [LL] using h4
theorem ready_all {md : Region.Mode} {ops : Array Oper} {l : Array Bool} (hs : l.size = ops.size) (hon : ∀ (j : Nat) (o : Oper), ops[j]? = some o → ∀ e ∈ o.after.toList, e.on < j) (h : Region.ready md ops l = []) : ∀ n j, j < n → j < ops.size → LL l j := by
  intro n
  induction n with
  | zero => intro j hj; omega
  | succ n ih =>
    intro j hj hjs
    obtain ⟨g1, g2⟩ := ll_get (l := l) (j := j) (by omega)
    cases e : l[j]'(by omega) with
    | true => rw [g1]; exact e
    | false =>
      have : j ∈ Region.ready md ops l := by
        unfold Region.ready
        refine List.mem_filter.2 ⟨List.mem_range.2 hjs, ?_⟩
        rw [g2, e, Array.getElem?_eq_getElem hjs]
        simp only [Option.map_some, Option.getD_some, Bool.not_false, Bool.true_and]
        rw [Array.all_eq_true']
        intro x hx
        have hlt := hon j ops[j] (Array.getElem?_eq_getElem hjs) x (Array.mem_toList_iff.2 hx)
        have := ih x.on (by omega) (by omega)
        unfold LL at this
        simp [this]
      rw [h] at this
      cases this
theorem count_all {l : Array Bool} {n : Nat} (hs : l.size = n) (h : ∀ j, j < n → LL l j) : l.toList.count false = 0 := by
  rw [List.count_eq_zero]
  intro hm
  obtain ⟨j, hj, e⟩ := List.getElem_of_mem hm
  have hj' : j < l.size := by simpa using hj
  have := (ll_get hj').1.1 (h j (by omega))
  rw [Array.getElem_toList] at e
  rw [e] at this
  cases this
theorem all_count {l : Array Bool} (h : l.toList.count false = 0) : ∀ j, j < l.size → LL l j := fun j hj => by
  rw [List.count_eq_zero] at h
  rw [(ll_get hj).1]
  cases e : l[j] with
  | true => rfl
  | false => exact absurd (by rw [← e, ← Array.getElem_toList]; exact List.getElem_mem _) h
theorem region_inv {P : Program} {ops : Array Oper} {Q : Exit → Act → World → Prop} {id : Nat} {a : Act} {w : World} (hm : P.follows .mixedOrders = true) (hon : ∀ (j : Nat) (o : Oper), ops[j]? = some o → ∀ e ∈ o.after.toList, e.on < j)
    (I : (Nat → Prop) → Act → World → Prop) (start : I (fun _ => False) a w.drew)
    (step : ∀ (L : Nat → Prop) (a : Act) (w : World) (i : Nat) (o : Oper), ops[i]? = some o → ¬ L i → (∀ e ∈ o.after.toList, Region.binds .any e = true → L e.on) → (∀ (j : Nat) (o' : Oper), L j → ops[j]? = some o' → ∀ e ∈ o'.after.toList, Region.binds .any e = true → L e.on) → I L a w → wpOp P ops Q i (fun a' w' => I (fun j => j = i ∨ L j) a' w') a w)
    (fin : ∀ (L : Nat → Prop) (a : Act) (w : World), (∀ j, j < ops.size → L j) → I L a w → Q .normal a w) : (Code.region id ops true).wp P Q a w := by
  refine wp_region_any hm ?_
  refine wpAny_inv (fun k l a w => l.size = ops.size ∧ k = l.toList.count false ∧ (∀ (j : Nat) (o' : Oper), LL l j → ops[j]? = some o' → ∀ e ∈ o'.after.toList, Region.binds .any e = true → LL l e.on) ∧ I (LL l) a w) ?_ ?_ ops.size _ _ _ ?_
  · rintro l a w ⟨h1, h2, h3, h4⟩
    have hall := all_count h2.symm
    refine ⟨?_, fin _ _ _ (fun j hj => hall j (by omega)) h4⟩
    rw [List.eq_nil_iff_forall_not_mem]
    intro i hi
    obtain ⟨o, g1, -, -, g2, -⟩ := mem_ready h1 hi
    exact g2 (hall i (by omega))
  · rintro k l a w ⟨h1, h2, h3, h4⟩
    refine ⟨fun he => ?_, fun i hi => ?_⟩
    · have := count_all h1 (fun j hj => ready_all h1 hon he (j + 1) j (by omega) hj)
      omega
    · obtain ⟨o, g1, g2, g3, g4, g5⟩ := mem_ready h1 hi
      refine wpOp_mono (fun a' w' hI => ?_) (step (LL l) a w i o g2 g4 g5 h3 h4)
      have hset := ll_set (l := l) (i := i) (by omega)
      refine ⟨by simpa using h1, ?_, ?_, by rw [hset]; exact hI⟩
      · rw [Array.toList_setIfInBounds, List.count_set (by rw [Array.length_toList]; omega)]
        have hl : i < l.toList.length := by rw [Array.length_toList]; omega
        rw [List.getElem?_eq_getElem hl] at g3
        injection g3 with g3
        rw [g3, if_pos (by rfl), if_neg (by decide)]
        omega
      · rw [hset]
        intro j o' hj ho e he hb
        rcases hj with rfl | hj
        · rw [g2] at ho
          injection ho with ho
          subst ho
          exact .inr (g5 e he hb)
        · exact .inr (h3 j o' hj ho e he hb)
  · refine ⟨by simp, by simp, fun j o' hj => ?_, ?_⟩
    · exfalso
      unfold LL at hj
      rw [Array.getD_eq_getD_getElem?, Array.getElem?_replicate] at hj
      split at hj <;> simp at hj
    · have : LL (Array.replicate ops.size false) = fun _ => False := funext fun j => propext ⟨fun hj => by
        unfold LL at hj
        rw [Array.getD_eq_getD_getElem?, Array.getElem?_replicate] at hj
        split at hj <;> simp at hj, fun h => h.elim⟩
      rw [this]
      exact start
end Go.Proofs.YtgbmemkoggogdaaDoor

/- A region that draws its order, whose operations each give one value into a slot of their own. -/
namespace Go.Proofs.YtgbmemkoggogdaaDoor
open Go.RowKit

def rvOn (ops : Array Oper) : Bool := (List.range ops.size).all fun j => ((ops[j]?).map fun o => o.after.toList.all fun e => decide (e.on < j)).getD true
theorem rvOn_spec {ops : Array Oper} (h : rvOn ops = true) : ∀ (j : Nat) (o : Oper), ops[j]? = some o → ∀ e ∈ o.after.toList, e.on < j := fun j o ho e he => by
  unfold rvOn at h
  rw [List.all_eq_true] at h
  have h1 := h j (List.mem_range.2 (Array.getElem?_eq_some_iff.1 ho).1)
  rw [ho] at h1
  simp only [Option.map_some, Option.getD_some, List.all_eq_true] at h1
  exact of_decide_eq_true (h1 e he)
/-- What holds between the operations: those that have been gave their values, the rest stands. -/
def RvI (d : Nat → Nat) (val : Nat → Value) (T0 : Array Value) (D0 : List Deferred) (w0 : World) (L : Nat → Prop) (a : Act) (W : World) : Prop :=
  ∃ T, a = ⟨T, D0⟩ ∧ T.size = T0.size ∧ (∀ j, L j → T[d j]? = some (val j)) ∧ (∀ s, (∀ j, L j → s ≠ d j) → T[s]? = T0[s]?) ∧ Below w0.heap.size w0 W
theorem region_vals {P : Program} {ops : Array Oper} {Q : Exit → Act → World → Prop} {id : Nat} {T0 : Array Value} {D0 : List Deferred} {w0 : World} (hm : P.follows .mixedOrders = true) (hon : ∀ (j : Nat) (o : Oper), ops[j]? = some o → ∀ e ∈ o.after.toList, e.on < j)
    (d : Nat → Nat) (val : Nat → Value) (hd : ∀ i j, i < ops.size → j < ops.size → d i = d j → i = j) (hs : ∀ i, i < ops.size → d i < T0.size)
    (step : ∀ (T : Array Value) (W : World) (i : Nat) (o : Oper), ops[i]? = some o → T.size = T0.size → (∀ e ∈ o.after.toList, Region.binds .any e = true → T[d e.on]? = some (val e.on)) → (∀ s, (∀ j, j < ops.size → s ≠ d j) → T[s]? = T0[s]?) → Below w0.heap.size w0 W → wpOp P ops Q i (fun a' W' => a' = ⟨T.setIfInBounds (d i) (val i), D0⟩ ∧ Below w0.heap.size w0 W') ⟨T, D0⟩ W)
    (fin : ∀ (T : Array Value) (W : World), T.size = T0.size → (∀ j, j < ops.size → T[d j]? = some (val j)) → (∀ s, (∀ j, j < ops.size → s ≠ d j) → T[s]? = T0[s]?) → Below w0.heap.size w0 W → Q .normal ⟨T, D0⟩ W) : (Code.region id ops true).wp P Q ⟨T0, D0⟩ w0 := by
  refine region_inv hm hon (fun L a W => RvI d val T0 D0 w0 (fun j => L j ∧ j < ops.size) a W) ?_ ?_ ?_
  · exact ⟨T0, rfl, rfl, fun j h => h.1.elim, fun s _ => rfl, (Below.refl _ _).drew⟩
  · rintro L a W i o ho hnl hdep hcl ⟨T, rfl, hsz, h1, h2, hb⟩
    have hi : i < ops.size := (Array.getElem?_eq_some_iff.1 ho).1
    refine wpOp_mono ?_ (step T W i o ho hsz (fun e he hbd => ?_) (fun s hs' => h2 s (fun j hj => hs' j hj.2)) hb)
    · rintro a' W' ⟨rfl, hb'⟩
      refine ⟨_, rfl, by rw [Array.size_setIfInBounds]; exact hsz, fun j hj => ?_, fun s hs' => ?_, hb'⟩
      · rw [Array.getElem?_setIfInBounds]
        by_cases e : d i = d j
        · obtain rfl : i = j := hd i j hi hj.2 e
          rw [if_pos rfl, if_pos (by rw [hsz]; exact hs i hi)]
        · rw [if_neg e]
          rcases hj.1 with rfl | hj1
          · exact absurd rfl e
          · exact h1 j ⟨hj1, hj.2⟩
      · rw [Array.getElem?_setIfInBounds, if_neg (fun e => hs' i ⟨.inl rfl, hi⟩ e.symm)]
        exact h2 s (fun j hj => hs' j ⟨.inr hj.1, hj.2⟩)
    · have hlt : e.on < ops.size := Nat.lt_trans (hon i o ho e he) hi
      exact h1 e.on ⟨hdep e he hbd, hlt⟩
  · rintro L a W hall ⟨T, rfl, hsz, h1, h2, hb⟩
    exact fin T W hsz (fun j hj => h1 j ⟨hall j hj, hj⟩) (fun s hs' => h2 s (fun j hj => hs' j hj.2)) hb
end Go.Proofs.YtgbmemkoggogdaaDoor
