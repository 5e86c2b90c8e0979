/- 5 texts in one. -/
import Derived.Deep.DeepCutAuto
import Derived.Deep.RegionHeldLaw
import Derived.Test.YtlgjadnkokmjoaaDoorZF
/- Regions that draw their order, by what holds between their operations: the law. -/
namespace Go.Proofs.YtlgjadnkokmjoaaDoor
open Go.RowKit

/-- What holds between the operations, whatever their order. -/
theorem wpAny_inv {P : Program} {md : Region.Mode} {ops : Array Oper} {Q : Exit → Act → World → Prop} (I : Nat → Array Bool → Act → World → Prop)
    (h0 : ∀ l a w, I 0 l a w → Region.ready md ops l = [] ∧ Q .normal a w)
    (h1 : ∀ k l a w, I (k + 1) l a w → (Region.ready md ops l = [] → Q .normal a w) ∧ ∀ i ∈ Region.ready md ops l, wpOp P ops Q i (I k (l.setIfInBounds i true)) a w) :
    ∀ (k : Nat) (l : Array Bool) (a : Act) (w : World), I k l a w → wpAny P md ops Q k l a w
  | 0, l, a, w, h => h0 l a w h
  | k + 1, l, a, w, h => ⟨(h1 k l a w h).1, fun i hi => wpOp_mono (fun a' w' h' => wpAny_inv I h0 h1 k _ a' w' h') ((h1 k l a w h).2 i hi)⟩
end Go.Proofs.YtlgjadnkokmjoaaDoor

/- A region that draws its order, by what holds between its operations: which have been. -/
namespace Go.Proofs.YtlgjadnkokmjoaaDoor
open Go.RowKit

def LL (l : Array Bool) (j : Nat) : Prop := l.getD j false = true
theorem ll_get {l : Array Bool} {j : Nat} (h : j < l.size) : (LL l j ↔ l[j] = true) ∧ (l.getD j true = l[j]) := by
  unfold LL
  rw [Array.getD_eq_getD_getElem?, Array.getD_eq_getD_getElem?, Array.getElem?_eq_getElem h]
  exact ⟨Iff.rfl, rfl⟩
theorem ll_set {l : Array Bool} {i : Nat} (h : i < l.size) : LL (l.setIfInBounds i true) = fun j => j = i ∨ LL l j := funext fun j => propext (by
  unfold LL
  rw [Array.getD_eq_getD_getElem?, Array.getD_eq_getD_getElem?, Array.getElem?_setIfInBounds]
  by_cases e : i = j
  · subst e
    rw [if_pos rfl, if_pos h]
    simp
  · rw [if_neg e]
    constructor
    · exact fun h => .inr h
    · rintro (h | h)
      · exact absurd h.symm e
      · exact h)
theorem mem_ready {md : Region.Mode} {ops : Array Oper} {l : Array Bool} {i : Nat} (hs : l.size = ops.size) (h : i ∈ Region.ready md ops l) : ∃ o, i < ops.size ∧ ops[i]? = some o ∧ l.toList[i]? = some false ∧ ¬ LL l i ∧ ∀ e ∈ o.after.toList, Region.binds md e = true → LL l e.on := by
  unfold Region.ready at h
  obtain ⟨h1, h2⟩ := List.mem_filter.1 h
  have hi : i < ops.size := List.mem_range.1 h1
  obtain ⟨g1, g2⟩ := ll_get (l := l) (j := i) (by omega)
  rw [Bool.and_eq_true, g2, Bool.not_eq_true'] at h2
  refine ⟨ops[i], hi, Array.getElem?_eq_getElem hi, ?_, fun h => ?_, fun e he hb => ?_⟩
  · rw [List.getElem?_eq_getElem (by rw [Array.length_toList]; omega), Array.getElem_toList, h2.1]
  · rw [g1, h2.1] at h; cases h
  · have h3 := h2.2
    rw [Array.getElem?_eq_getElem hi] at h3
    simp only [Option.map_some, Option.getD_some] at h3
    rw [Array.all_eq_true'] at h3
    have h4 := h3 e (Array.mem_toList_iff.1 he)
    rw [hb] at h4
    simpa [LL] using h4
theorem ready_all {md : Region.Mode} {ops : Array Oper} {l : Array Bool} (hs : l.size = ops.size) (hon : ∀ (j : Nat) (o : Oper), ops[j]? = some o → ∀ e ∈ o.after.toList, e.on < j) (h : Region.ready md ops l = []) : ∀ n j, j < n → j < ops.size → LL l j := by
  intro n
  induction n with
  | zero => intro j hj; omega
  | succ n ih =>
    intro j hj hjs
    obtain ⟨g1, g2⟩ := ll_get (l := l) (j := j) (by omega)
    cases e : l[j]'(by omega) with
    | true => rw [g1]; exact e
    | false =>
      have : j ∈ Region.ready md ops l := by
        unfold Region.ready
        refine List.mem_filter.2 ⟨List.mem_range.2 hjs, ?_⟩
        rw [g2, e, Array.getElem?_eq_getElem hjs]
        simp only [Option.map_some, Option.getD_some, Bool.not_false, Bool.true_and]
        rw [Array.all_eq_true']
        intro x hx
        have hlt := hon j ops[j] (Array.getElem?_eq_getElem hjs) x (Array.mem_toList_iff.2 hx)
        have := ih x.on (by omega) (by omega)
        unfold LL at this
        simp [this]
      rw [h] at this
      cases this
theorem count_all {l : Array Bool} {n : Nat} (hs : l.size = n) (h : ∀ j, j < n → LL l j) : l.toList.count false = 0 := by
  rw [List.count_eq_zero]
  intro hm
  obtain ⟨j, hj, e⟩ := List.getElem_of_mem hm
  have hj' : j < l.size := by simpa using hj
  have := (ll_get hj').1.1 (h j (by omega))
  rw [Array.getElem_toList] at e
  rw [e] at this
  cases this
theorem all_count {l : Array Bool} (h : l.toList.count false = 0) : ∀ j, j < l.size → LL l j := fun j hj => by
  rw [List.count_eq_zero] at h
  rw [(ll_get hj).1]
  cases e : l[j] with
  | true => rfl
  | false => exact absurd (by rw [← e, ← Array.getElem_toList]; exact List.getElem_mem _) h
theorem region_inv {P : Program} {ops : Array Oper} {Q : Exit → Act → World → Prop} {id : Nat} {a : Act} {w : World} (hm : P.follows .mixedOrders = true) (hon : ∀ (j : Nat) (o : Oper), ops[j]? = some o → ∀ e ∈ o.after.toList, e.on < j)
    (I : (Nat → Prop) → Act → World → Prop) (start : I (fun _ => False) a w.drew)
    (step : ∀ (L : Nat → Prop) (a : Act) (w : World) (i : Nat) (o : Oper), ops[i]? = some o → ¬ L i → (∀ e ∈ o.after.toList, Region.binds .any e = true → L e.on) → (∀ (j : Nat) (o' : Oper), L j → ops[j]? = some o' → ∀ e ∈ o'.after.toList, Region.binds .any e = true → L e.on) → I L a w → wpOp P ops Q i (fun a' w' => I (fun j => j = i ∨ L j) a' w') a w)
    (fin : ∀ (L : Nat → Prop) (a : Act) (w : World), (∀ j, j < ops.size → L j) → I L a w → Q .normal a w) : (Code.region id ops true).wp P Q a w := by
  refine wp_region_any hm ?_
  refine wpAny_inv (fun k l a w => l.size = ops.size ∧ k = l.toList.count false ∧ (∀ (j : Nat) (o' : Oper), LL l j → ops[j]? = some o' → ∀ e ∈ o'.after.toList, Region.binds .any e = true → LL l e.on) ∧ I (LL l) a w) ?_ ?_ ops.size _ _ _ ?_
  · rintro l a w ⟨h1, h2, h3, h4⟩
    have hall := all_count h2.symm
    refine ⟨?_, fin _ _ _ (fun j hj => hall j (by omega)) h4⟩
    rw [List.eq_nil_iff_forall_not_mem]
    intro i hi
    obtain ⟨o, g1, -, -, g2, -⟩ := mem_ready h1 hi
    exact g2 (hall i (by omega))
  · rintro k l a w ⟨h1, h2, h3, h4⟩
    refine ⟨fun he => ?_, fun i hi => ?_⟩
    · have := count_all h1 (fun j hj => ready_all h1 hon he (j + 1) j (by omega) hj)
      omega
    · obtain ⟨o, g1, g2, g3, g4, g5⟩ := mem_ready h1 hi
      refine wpOp_mono (fun a' w' hI => ?_) (step (LL l) a w i o g2 g4 g5 h3 h4)
      have hset := ll_set (l := l) (i := i) (by omega)
      refine ⟨by simpa using h1, ?_, ?_, by rw [hset]; exact hI⟩
      · rw [Array.toList_setIfInBounds, List.count_set (by rw [Array.length_toList]; omega)]
        have hl : i < l.toList.length := by rw [Array.length_toList]; omega
        rw [List.getElem?_eq_getElem hl] at g3
        injection g3 with g3
        rw [g3, if_pos (by rfl), if_neg (by decide)]
        omega
      · rw [hset]
        intro j o' hj ho e he hb
        rcases hj with rfl | hj
        · rw [g2] at ho
          injection ho with ho
          subst ho
          exact .inr (g5 e he hb)
        · exact .inr (h3 j o' hj ho e he hb)
  · refine ⟨by simp, by simp, fun j o' hj => ?_, ?_⟩
    · exfalso
      unfold LL at hj
      rw [Array.getD_eq_getD_getElem?, Array.getElem?_replicate] at hj
      split at hj <;> simp at hj
    · have : LL (Array.replicate ops.size false) = fun _ => False := funext fun j => propext ⟨fun hj => by
        unfold LL at hj
        rw [Array.getD_eq_getD_getElem?, Array.getElem?_replicate] at hj
        split at hj <;> simp at hj, fun h => h.elim⟩
      rw [this]
      exact start
end Go.Proofs.YtlgjadnkokmjoaaDoor

/- A region that draws its order, whose operations each give one value into a slot of their own. -/
namespace Go.Proofs.YtlgjadnkokmjoaaDoor
open Go.RowKit

def rvOn (ops : Array Oper) : Bool := (List.range ops.size).all fun j => ((ops[j]?).map fun o => o.after.toList.all fun e => decide (e.on < j)).getD true
theorem rvOn_spec {ops : Array Oper} (h : rvOn ops = true) : ∀ (j : Nat) (o : Oper), ops[j]? = some o → ∀ e ∈ o.after.toList, e.on < j := fun j o ho e he => by
  unfold rvOn at h
  rw [List.all_eq_true] at h
  have h1 := h j (List.mem_range.2 (Array.getElem?_eq_some_iff.1 ho).1)
  rw [ho] at h1
  simp only [Option.map_some, Option.getD_some, List.all_eq_true] at h1
  exact of_decide_eq_true (h1 e he)
/-- What holds between the operations: those that have been gave their values, the rest stands. -/
def RvI (d : Nat → Nat) (val : Nat → Value) (T0 : Array Value) (D0 : List Deferred) (w0 : World) (L : Nat → Prop) (a : Act) (W : World) : Prop :=
  ∃ T, a = ⟨T, D0⟩ ∧ T.size = T0.size ∧ (∀ j, L j → T[d j]? = some (val j)) ∧ (∀ s, (∀ j, L j → s ≠ d j) → T[s]? = T0[s]?) ∧ Below w0.heap.size w0 W
end Go.Proofs.YtlgjadnkokmjoaaDoor

/- A region that draws its order, whose last operation follows on all others (a store); the others each give one value into a slot of their own. -/
namespace Go.Proofs.YtlgjadnkokmjoaaDoor
open Go.RowKit

/-- Is j among what k waits for, by however many steps? -/
def rchB (ops : Array Oper) : Nat → Nat → Nat → Bool
  | 0, _, _ => false
  | f + 1, k, j => match ops[k]? with
    | none => false
    | some o => o.after.toList.any fun e => Region.binds .any e && (decide (e.on = j) || rchB ops f e.on j)
theorem rchB_spec {ops : Array Oper} {L : Nat → Prop} (hcl : ∀ (j : Nat) (o' : Oper), L j → ops[j]? = some o' → ∀ e ∈ o'.after.toList, Region.binds .any e = true → L e.on) : ∀ (f k j : Nat), (∀ (o : Oper), ops[k]? = some o → ∀ e ∈ o.after.toList, Region.binds .any e = true → L e.on) → rchB ops f k j = true → L j := by
  intro f
  induction f with
  | zero => intro k j _ h; simp [rchB] at h
  | succ f ih =>
    intro k j hk h
    rw [rchB] at h
    rcases ho : ops[k]? with _ | o
    · rw [ho] at h; cases h
    · rw [ho] at h
      simp only [List.any_eq_true, Bool.and_eq_true, Bool.or_eq_true, decide_eq_true_eq] at h
      obtain ⟨e, he, hb, h⟩ := h
      have hL := hk o ho e he hb
      rcases h with h | h
      · rw [← h]; exact hL
      · exact ih e.on j (fun o' ho' => hcl e.on o' hL ho') h
theorem region_last {P : Program} {ops : Array Oper} {Q : Exit → Act → World → Prop} {id : Nat} {T0 : Array Value} {D0 : List Deferred} {w0 : World} (hm : P.follows .mixedOrders = true) (hon : ∀ (j : Nat) (o : Oper), ops[j]? = some o → ∀ e ∈ o.after.toList, e.on < j)
    (n : Nat) (hn : ops.size = n + 1) (d : Nat → Nat) (val : Nat → Value) (hd : ∀ i j, i < n → j < n → d i = d j → i = j) (hs : ∀ i, i < n → d i < T0.size) (hre : ((List.range n).all fun j => rchB ops (n + 1) n j) = true)
    (step : ∀ (T : Array Value) (W : World) (i : Nat) (o : Oper), i < n → ops[i]? = some o → T.size = T0.size → (∀ e ∈ o.after.toList, Region.binds .any e = true → T[d e.on]? = some (val e.on)) → (∀ s, (∀ j, j < n → s ≠ d j) → T[s]? = T0[s]?) → Below w0.heap.size w0 W → wpOp P ops Q i (fun a' W' => a' = ⟨T.setIfInBounds (d i) (val i), D0⟩ ∧ Below w0.heap.size w0 W') ⟨T, D0⟩ W)
    (last : ∀ (T : Array Value) (W : World) (o : Oper), ops[n]? = some o → T.size = T0.size → (∀ j, j < n → T[d j]? = some (val j)) → (∀ s, (∀ j, j < n → s ≠ d j) → T[s]? = T0[s]?) → Below w0.heap.size w0 W → wpOp P ops Q n (fun a' W' => Q .normal a' W') ⟨T, D0⟩ W) : (Code.region id ops true).wp P Q ⟨T0, D0⟩ w0 := by
  refine region_inv hm hon (fun L a W => (L n ∧ Q .normal a W) ∨ (¬ L n ∧ RvI d val T0 D0 w0 (fun j => L j ∧ j < n) a W)) ?_ ?_ ?_
  · exact .inr ⟨fun h => h, T0, rfl, rfl, fun j h => h.1.elim, fun s _ => rfl, (Below.refl _ _).drew⟩
  · rintro L a W i o ho hnl hdep hcl (⟨hLn, -⟩ | ⟨hLn, T, rfl, hsz, h1, h2, hb⟩)
    · exfalso
      have hi : i < ops.size := (Array.getElem?_eq_some_iff.1 ho).1
      by_cases e : i = n
      · exact hnl (e ▸ hLn)
      · rw [List.all_eq_true] at hre
        exact hnl (rchB_spec hcl (n + 1) n i (fun o' ho' => hcl n o' hLn ho') (hre i (List.mem_range.2 (by omega))))
    · have hi : i < ops.size := (Array.getElem?_eq_some_iff.1 ho).1
      by_cases e : i = n
      · subst e
        have hall : ∀ j, j < i → L j := fun j hj => by
          rw [List.all_eq_true] at hre
          exact rchB_spec hcl (i + 1) i j (fun o' ho' => by rw [ho] at ho'; injection ho' with ho'; subst ho'; exact hdep) (hre j (List.mem_range.2 hj))
        refine wpOp_mono (fun a' W' hq => ?_) (last T W o ho hsz (fun j hj => h1 j ⟨hall j hj, hj⟩) (fun s hs' => h2 s (fun j hj => hs' j hj.2)) hb)
        exact .inl ⟨.inl rfl, hq⟩
      · have hin : i < n := by omega
        refine wpOp_mono ?_ (step T W i o hin ho hsz (fun e he hbd => ?_) (fun s hs' => h2 s (fun j hj => hs' j hj.2)) hb)
        · rintro a' W' ⟨rfl, hb'⟩
          refine .inr ⟨fun h => h.elim (fun h => e h.symm) hLn, _, rfl, by rw [Array.size_setIfInBounds]; exact hsz, fun j hj => ?_, fun s hs' => ?_, hb'⟩
          · rw [Array.getElem?_setIfInBounds]
            by_cases e : d i = d j
            · obtain rfl : i = j := hd i j hin hj.2 e
              rw [if_pos rfl, if_pos (by rw [hsz]; exact hs i hin)]
            · rw [if_neg e]
              rcases hj.1 with rfl | hj1
              · exact absurd rfl e
              · exact h1 j ⟨hj1, hj.2⟩
          · rw [Array.getElem?_setIfInBounds, if_neg (fun e => hs' i ⟨.inl rfl, hin⟩ e.symm)]
            exact h2 s (fun j hj => hs' j ⟨.inr hj.1, hj.2⟩)
        · have hlt : e.on < n := Nat.lt_trans (hon i o ho e he) hin
          exact h1 e.on ⟨hdep e he hbd, hlt⟩
  · rintro L a W hall (⟨-, hq⟩ | ⟨hLn, -⟩)
    · exact hq
    · exact absurd (hall n (by omega)) hLn
/-- The slots, each set to its value. -/
def rvSet (d : Nat → Nat) (val : Nat → Value) (T0 : Array Value) : List Nat → Array Value
  | [] => T0
  | j :: l => (rvSet d val T0 l).setIfInBounds (d j) (val j)
theorem rvSet_size (d : Nat → Nat) (val : Nat → Value) (T0 : Array Value) (l : List Nat) : (rvSet d val T0 l).size = T0.size := by
  induction l with
  | nil => rfl
  | cons j l ih => rw [rvSet, Array.size_setIfInBounds, ih]
theorem rv_list {n : Nat} {d : Nat → Nat} {val : Nat → Value} {T0 T : Array Value} (hs : ∀ i, i < n → d i < T0.size) (hsz : T.size = T0.size) (hval : ∀ j, j < n → T[d j]? = some (val j)) (hst : ∀ s, (∀ j, j < n → s ≠ d j) → T[s]? = T0[s]?) (l : List Nat) (hl : l = (List.range n).reverse) : T = rvSet d val T0 l := by
  subst hl
  apply Array.ext (by rw [rvSet_size, hsz])
  intro s h1 h2
  have key : ∀ k, k ≤ n → ∀ s : Nat, ((∃ j, j < k ∧ s = d j) → (rvSet d val T0 (List.range k).reverse)[s]? = T[s]?) ∧ ((∀ j, j < k → s ≠ d j) → (rvSet d val T0 (List.range k).reverse)[s]? = T0[s]?) := by
    intro k
    induction k with
    | zero => intro _ s; exact ⟨fun ⟨j, hj, _⟩ => by omega, fun _ => rfl⟩
    | succ k ih =>
      intro hk s
      rw [List.range_succ, List.reverse_append, List.reverse_singleton, List.singleton_append, rvSet, Array.getElem?_setIfInBounds]
      by_cases e : d k = s
      · rw [if_pos e, rvSet_size, if_pos (hs k (by omega))]
        exact ⟨fun _ => by rw [← e]; exact (hval k (by omega)).symm, fun h => absurd e.symm (h k (by omega))⟩
      · rw [if_neg e]
        refine ⟨fun ⟨j, hj, hje⟩ => (ih (by omega) s).1 ⟨j, ?_, hje⟩, fun h => (ih (by omega) s).2 fun j hj => h j (by omega)⟩
        by_cases q : j = k
        · subst q; exact absurd hje.symm e
        · omega
  have hfin : T[s]? = (rvSet d val T0 (List.range n).reverse)[s]? := by
    by_cases h : ∃ j, j < n ∧ s = d j
    · exact ((key n (Nat.le_refl _) s).1 h).symm
    · rw [(key n (Nat.le_refl _) s).2 (fun j hj e => h ⟨j, hj, e⟩)]
      exact hst s (fun j hj e => h ⟨j, hj, e⟩)
  rw [Array.getElem?_eq_getElem h1, Array.getElem?_eq_getElem h2] at hfin
  injection hfin
end Go.Proofs.YtlgjadnkokmjoaaDoor

/- A region that draws its order: some of its operations turn the world, the last one follows on all others, the rest only reads. -/
namespace Go.Proofs.YtlgjadnkokmjoaaDoor
open Go.RowKit

/-- tn: which operations turn the world; J: what holds where those of D have been, at the choices c. -/
theorem region_turns {C : Type} {P : Program} {ops : Array Oper} {Q : Exit → Act → World → Prop} {id : Nat} {T0 : Array Value} {D0 : List Deferred} {w0 : World} (hm : P.follows .mixedOrders = true) (hon : ∀ (j : Nat) (o : Oper), ops[j]? = some o → ∀ e ∈ o.after.toList, e.on < j)
    (n : Nat) (hn : ops.size = n + 1) (tn : Nat → Bool) (htn : tn n = false) (d : Nat → Nat) (val : C → Nat → Value) (hd : ∀ i j, i < n → j < n → d i = d j → i = j) (hs : ∀ i, i < n → d i < T0.size) (hre : ((List.range n).all fun j => rchB ops (n + 1) n j) = true)
    (J : (Nat → Prop) → C → World → Prop) (hJ0 : ∀ D D' c W, (∀ k, tn k = true → k < n → (D k ↔ D' k)) → J D c W → J D' c W) (c0 : C) (hpre : J (fun _ => False) c0 w0.drew)
    (step : ∀ (T : Array Value) (W : World) (i : Nat) (o : Oper) (D : Nat → Prop) (c : C), i < n → tn i = false → ops[i]? = some o → T.size = T0.size → (∀ e ∈ o.after.toList, Region.binds .any e = true → T[d e.on]? = some (val c e.on)) → (∀ s, (∀ j, j < n → s ≠ d j) → T[s]? = T0[s]?) → ¬ D i → (∀ j k, D j → rchB ops (n + 1) j k = true → D k) → (∀ k, rchB ops (n + 1) i k = true → D k) → J D c W → wpOp P ops Q i (fun a' W' => a' = ⟨T.setIfInBounds (d i) (val c i), D0⟩ ∧ W' = W) ⟨T, D0⟩ W)
    (turn : ∀ (T : Array Value) (W : World) (k : Nat) (o : Oper) (D : Nat → Prop) (c : C), k < n → tn k = true → ops[k]? = some o → T.size = T0.size → (∀ e ∈ o.after.toList, Region.binds .any e = true → T[d e.on]? = some (val c e.on)) → (∀ s, (∀ j, j < n → s ≠ d j) → T[s]? = T0[s]?) → (∀ j, rchB ops (n + 1) k j = true → D j) → ¬ D k → (∀ j k, D j → rchB ops (n + 1) j k = true → D k) → J D c W → wpOp P ops Q k (fun a' W' => ∃ c', a' = ⟨T.setIfInBounds (d k) (val c' k), D0⟩ ∧ J (fun j => j = k ∨ D j) c' W' ∧ ∀ j, j < n → j ≠ k → rchB ops (n + 1) j k = false → val c' j = val c j) ⟨T, D0⟩ W)
    (last : ∀ (T : Array Value) (W : World) (o : Oper) (c : C), ops[n]? = some o → T.size = T0.size → (∀ j, j < n → T[d j]? = some (val c j)) → (∀ s, (∀ j, j < n → s ≠ d j) → T[s]? = T0[s]?) → J (fun _ => True) c W → wpOp P ops Q n (fun a' W' => Q .normal a' W') ⟨T, D0⟩ W) : (Code.region id ops true).wp P Q ⟨T0, D0⟩ w0 := by
  refine region_inv hm hon (fun L a W => (L n ∧ Q .normal a W) ∨ (¬ L n ∧ ∃ c T, a = ⟨T, D0⟩ ∧ T.size = T0.size ∧ (∀ j, L j ∧ j < n → T[d j]? = some (val c j)) ∧ (∀ s, (∀ j, L j ∧ j < n → s ≠ d j) → T[s]? = T0[s]?) ∧ J L c W)) ?_ ?_ ?_
  · exact .inr ⟨fun h => h, c0, T0, rfl, rfl, fun j h => h.1.elim, fun s _ => rfl, hpre⟩
  · rintro L a W i o ho hnl hdep hcl (⟨hLn, -⟩ | ⟨hLn, c, T, rfl, hsz, h1, h2, hJ⟩)
    · exfalso
      have hi : i < ops.size := (Array.getElem?_eq_some_iff.1 ho).1
      by_cases e : i = n
      · exact hnl (e ▸ hLn)
      · rw [List.all_eq_true] at hre
        exact hnl (rchB_spec hcl (n + 1) n i (fun o' ho' => hcl n o' hLn ho') (hre i (List.mem_range.2 (by omega))))
    · have hi : i < ops.size := (Array.getElem?_eq_some_iff.1 ho).1
      have hself : ∀ (o' : Oper), ops[i]? = some o' → ∀ e ∈ o'.after.toList, Region.binds .any e = true → L e.on := fun o' ho' => by rw [ho] at ho'; injection ho' with ho'; subst ho'; exact hdep
      by_cases e : i = n
      · subst e
        have hall : ∀ j, j < i → L j := fun j hj => by
          rw [List.all_eq_true] at hre
          exact rchB_spec hcl (i + 1) i j hself (hre j (List.mem_range.2 hj))
        refine wpOp_mono (fun a' W' hq => ?_) (last T W o c ho hsz (fun j hj => h1 j ⟨hall j hj, hj⟩) (fun s hs' => h2 s (fun j hj => hs' j hj.2)) (hJ0 _ _ c W (fun k _ hk => ⟨fun _ => trivial, fun _ => hall k hk⟩) hJ))
        exact .inl ⟨.inl rfl, hq⟩
      · have hin : i < n := by omega
        have hde : ∀ e ∈ o.after.toList, Region.binds .any e = true → T[d e.on]? = some (val c e.on) := fun e he hbd => h1 e.on ⟨hdep e he hbd, Nat.lt_trans (hon i o ho e he) hin⟩
        have hfr : ∀ s, (∀ j, j < n → s ≠ d j) → T[s]? = T0[s]? := fun s hs' => h2 s (fun j hj => hs' j hj.2)
        have hnew : ∀ c', (∀ j, L j → j < n → val c' j = val c j) → (T.setIfInBounds (d i) (val c' i)).size = T0.size ∧ (∀ j, (j = i ∨ L j) ∧ j < n → (T.setIfInBounds (d i) (val c' i))[d j]? = some (val c' j)) ∧ (∀ s, (∀ j, (j = i ∨ L j) ∧ j < n → s ≠ d j) → (T.setIfInBounds (d i) (val c' i))[s]? = T0[s]?) := by
          intro c' hc'
          refine ⟨by rw [Array.size_setIfInBounds]; exact hsz, fun j hj => ?_, fun s hs' => ?_⟩
          · rw [Array.getElem?_setIfInBounds]
            by_cases e : d i = d j
            · obtain rfl : i = j := hd i j hin hj.2 e
              rw [if_pos rfl, if_pos (by rw [hsz]; exact hs i hin)]
            · rw [if_neg e]
              rcases hj.1 with rfl | hj1
              · exact absurd rfl e
              · rw [hc' j hj1 hj.2]; exact h1 j ⟨hj1, hj.2⟩
          · rw [Array.getElem?_setIfInBounds, if_neg (fun e => hs' i ⟨.inl rfl, hin⟩ e.symm)]
            exact h2 s (fun j hj => hs' j ⟨.inr hj.1, hj.2⟩)
        have hnn : ¬ (n = i ∨ L n) := fun h => h.elim (fun h => e h.symm) hLn
        have hrc : ∀ k, ¬ L k → ∀ j, L j → rchB ops (n + 1) j k = false := fun k hk j hj => by
          cases hr : rchB ops (n + 1) j k with
          | false => rfl
          | true => exact absurd (rchB_spec hcl (n + 1) j k (fun o' ho' => hcl j o' hj ho') hr) hk
        have hup : ∀ k, rchB ops (n + 1) i k = true → L k := fun k hr => rchB_spec hcl (n + 1) i k hself hr
        cases ht : tn i with
        | true =>
          refine wpOp_mono ?_ (turn T W i o L c hin ht ho hsz hde hfr hup hnl (fun j k hj hr => rchB_spec hcl (n + 1) j k (fun o' ho' => hcl j o' hj ho') hr) hJ)
          rintro a' W' ⟨c', rfl, hJ', hc'⟩
          obtain ⟨q1, q2, q3⟩ := hnew c' (fun j hj hjn => hc' j hjn (fun e => hnl (e ▸ hj)) (hrc i hnl j hj))
          exact .inr ⟨hnn, c', _, rfl, q1, q2, q3, hJ'⟩
        | false =>
          refine wpOp_mono ?_ (step T W i o L c hin ht ho hsz hde hfr hnl (fun j k hj hr => rchB_spec hcl (n + 1) j k (fun o' ho' => hcl j o' hj ho') hr) hup hJ)
          rintro a' W' ⟨rfl, rfl⟩
          obtain ⟨q1, q2, q3⟩ := hnew c (fun j _ _ => rfl)
          exact .inr ⟨hnn, c, _, rfl, q1, q2, q3, hJ0 _ _ c W' (fun k hk _ => ⟨fun h => .inr h, fun h => h.elim (fun h => by rw [h, ht] at hk; cases hk) (fun h => h)⟩) hJ⟩
  · rintro L a W hall (⟨-, hq⟩ | ⟨hLn, -⟩)
    · exact hq
    · exact absurd (hall n (by omega)) hLn
theorem region_two {C : Type} {P : Program} {ops : Array Oper} {Q : Exit → Act → World → Prop} {id : Nat} {T0 : Array Value} {D0 : List Deferred} {w0 : World} (hm : P.follows .mixedOrders = true) (hon : ∀ (j : Nat) (o : Oper), ops[j]? = some o → ∀ e ∈ o.after.toList, e.on < j)
    (n k1 k2 : Nat) (hn : ops.size = n + 1) (h1n : k1 < n) (h2n : k2 < n) (h12 : k1 ≠ k2) (d : Nat → Nat) (val : C → Nat → Value) (hd : ∀ i j, i < n → j < n → d i = d j → i = j) (hs : ∀ i, i < n → d i < T0.size) (hre : ((List.range n).all fun j => rchB ops (n + 1) n j) = true)
    (J : Bool → Bool → C → World → Prop) (c0 : C) (hpre : J false false c0 w0.drew)
    (step : ∀ (T : Array Value) (W : World) (i : Nat) (o : Oper) (x y : Bool) (c : C), i < n → i ≠ k1 → i ≠ k2 → ops[i]? = some o → T.size = T0.size → (∀ e ∈ o.after.toList, Region.binds .any e = true → T[d e.on]? = some (val c e.on)) → (∀ s, (∀ j, j < n → s ≠ d j) → T[s]? = T0[s]?) → J x y c W → wpOp P ops Q i (fun a' W' => a' = ⟨T.setIfInBounds (d i) (val c i), D0⟩ ∧ W' = W) ⟨T, D0⟩ W)
    (turn1 : ∀ (T : Array Value) (W : World) (o : Oper) (y : Bool) (c : C), ops[k1]? = some o → T.size = T0.size → (∀ e ∈ o.after.toList, Region.binds .any e = true → T[d e.on]? = some (val c e.on)) → (∀ s, (∀ j, j < n → s ≠ d j) → T[s]? = T0[s]?) → J false y c W → wpOp P ops Q k1 (fun a' W' => ∃ c', a' = ⟨T.setIfInBounds (d k1) (val c' k1), D0⟩ ∧ J true y c' W' ∧ ∀ j, j < n → j ≠ k1 → rchB ops (n + 1) j k1 = false → val c' j = val c j) ⟨T, D0⟩ W)
    (turn2 : ∀ (T : Array Value) (W : World) (o : Oper) (x : Bool) (c : C), ops[k2]? = some o → T.size = T0.size → (∀ e ∈ o.after.toList, Region.binds .any e = true → T[d e.on]? = some (val c e.on)) → (∀ s, (∀ j, j < n → s ≠ d j) → T[s]? = T0[s]?) → J x false c W → wpOp P ops Q k2 (fun a' W' => ∃ c', a' = ⟨T.setIfInBounds (d k2) (val c' k2), D0⟩ ∧ J x true c' W' ∧ ∀ j, j < n → j ≠ k2 → rchB ops (n + 1) j k2 = false → val c' j = val c j) ⟨T, D0⟩ W)
    (last : ∀ (T : Array Value) (W : World) (o : Oper) (c : C), ops[n]? = some o → T.size = T0.size → (∀ j, j < n → T[d j]? = some (val c j)) → (∀ s, (∀ j, j < n → s ≠ d j) → T[s]? = T0[s]?) → J true true c W → wpOp P ops Q n (fun a' W' => Q .normal a' W') ⟨T, D0⟩ W) : (Code.region id ops true).wp P Q ⟨T0, D0⟩ w0 := by
  refine region_inv hm hon (fun L a W => (L n ∧ Q .normal a W) ∨ (¬ L n ∧ ∃ c T x y, a = ⟨T, D0⟩ ∧ T.size = T0.size ∧ (∀ j, L j ∧ j < n → T[d j]? = some (val c j)) ∧ (∀ s, (∀ j, L j ∧ j < n → s ≠ d j) → T[s]? = T0[s]?) ∧ J x y c W ∧ (x = true ↔ L k1) ∧ (y = true ↔ L k2))) ?_ ?_ ?_
  · exact .inr ⟨fun h => h, c0, T0, false, false, rfl, rfl, fun j h => h.1.elim, fun s _ => rfl, hpre, ⟨fun h => (by cases h), fun h => h.elim⟩, ⟨fun h => (by cases h), fun h => h.elim⟩⟩
  · rintro L a W i o ho hnl hdep hcl (⟨hLn, -⟩ | ⟨hLn, c, T, x, y, rfl, hsz, h1, h2, hJ, hx, hy⟩)
    · exfalso
      have hi : i < ops.size := (Array.getElem?_eq_some_iff.1 ho).1
      by_cases e : i = n
      · exact hnl (e ▸ hLn)
      · rw [List.all_eq_true] at hre
        exact hnl (rchB_spec hcl (n + 1) n i (fun o' ho' => hcl n o' hLn ho') (hre i (List.mem_range.2 (by omega))))
    · have hi : i < ops.size := (Array.getElem?_eq_some_iff.1 ho).1
      have hself : ∀ (o' : Oper), ops[i]? = some o' → ∀ e ∈ o'.after.toList, Region.binds .any e = true → L e.on := fun o' ho' => by rw [ho] at ho'; injection ho' with ho'; subst ho'; exact hdep
      by_cases e : i = n
      · subst e
        have hall : ∀ j, j < i → L j := fun j hj => by
          rw [List.all_eq_true] at hre
          exact rchB_spec hcl (i + 1) i j hself (hre j (List.mem_range.2 hj))
        have hJ' : J true true c W := by
          have e1 := hx.2 (hall k1 h1n)
          have e2 := hy.2 (hall k2 h2n)
          subst e1 e2
          exact hJ
        refine wpOp_mono (fun a' W' hq => ?_) (last T W o c ho hsz (fun j hj => h1 j ⟨hall j hj, hj⟩) (fun s hs' => h2 s (fun j hj => hs' j hj.2)) hJ')
        exact .inl ⟨.inl rfl, hq⟩
      · have hin : i < n := by omega
        have hde : ∀ e ∈ o.after.toList, Region.binds .any e = true → T[d e.on]? = some (val c e.on) := fun e he hbd => h1 e.on ⟨hdep e he hbd, Nat.lt_trans (hon i o ho e he) hin⟩
        have hfr : ∀ s, (∀ j, j < n → s ≠ d j) → T[s]? = T0[s]? := fun s hs' => h2 s (fun j hj => hs' j hj.2)
        have hnew : ∀ c', (∀ j, L j → j < n → val c' j = val c j) → (T.setIfInBounds (d i) (val c' i)).size = T0.size ∧ (∀ j, (j = i ∨ L j) ∧ j < n → (T.setIfInBounds (d i) (val c' i))[d j]? = some (val c' j)) ∧ (∀ s, (∀ j, (j = i ∨ L j) ∧ j < n → s ≠ d j) → (T.setIfInBounds (d i) (val c' i))[s]? = T0[s]?) := by
          intro c' hc'
          refine ⟨by rw [Array.size_setIfInBounds]; exact hsz, fun j hj => ?_, fun s hs' => ?_⟩
          · rw [Array.getElem?_setIfInBounds]
            by_cases e : d i = d j
            · obtain rfl : i = j := hd i j hin hj.2 e
              rw [if_pos rfl, if_pos (by rw [hsz]; exact hs i hin)]
            · rw [if_neg e]
              rcases hj.1 with rfl | hj1
              · exact absurd rfl e
              · rw [hc' j hj1 hj.2]; exact h1 j ⟨hj1, hj.2⟩
          · rw [Array.getElem?_setIfInBounds, if_neg (fun e => hs' i ⟨.inl rfl, hin⟩ e.symm)]
            exact h2 s (fun j hj => hs' j ⟨.inr hj.1, hj.2⟩)
        have hnn : ¬ (n = i ∨ L n) := fun h => h.elim (fun h => e h.symm) hLn
        have hrc : ∀ k, ¬ L k → ∀ j, L j → rchB ops (n + 1) j k = false := fun k hk j hj => by
          cases hr : rchB ops (n + 1) j k with
          | false => rfl
          | true => exact absurd (rchB_spec hcl (n + 1) j k (fun o' ho' => hcl j o' hj ho') hr) hk
        by_cases ek1 : i = k1
        · subst ek1
          obtain rfl : x = false := by
            cases x with
            | false => rfl
            | true => exact absurd (hx.1 rfl) hnl
          refine wpOp_mono ?_ (turn1 T W o y c ho hsz hde hfr hJ)
          rintro a' W' ⟨c', rfl, hJ', hc'⟩
          obtain ⟨q1, q2, q3⟩ := hnew c' (fun j hj hjn => hc' j hjn (fun e => hnl (e ▸ hj)) (hrc i hnl j hj))
          exact .inr ⟨hnn, c', _, true, y, rfl, q1, q2, q3, hJ', ⟨fun _ => .inl rfl, fun _ => rfl⟩, ⟨fun h => .inr (hy.1 h), fun h => h.elim (fun h => absurd h.symm h12) hy.2⟩⟩
        · by_cases ek2 : i = k2
          · subst ek2
            obtain rfl : y = false := by
              cases y with
              | false => rfl
              | true => exact absurd (hy.1 rfl) hnl
            refine wpOp_mono ?_ (turn2 T W o x c ho hsz hde hfr hJ)
            rintro a' W' ⟨c', rfl, hJ', hc'⟩
            obtain ⟨q1, q2, q3⟩ := hnew c' (fun j hj hjn => hc' j hjn (fun e => hnl (e ▸ hj)) (hrc i hnl j hj))
            exact .inr ⟨hnn, c', _, x, true, rfl, q1, q2, q3, hJ', ⟨fun h => .inr (hx.1 h), fun h => h.elim (fun h => absurd h h12) hx.2⟩, ⟨fun _ => .inl rfl, fun _ => rfl⟩⟩
          · refine wpOp_mono ?_ (step T W i o x y c hin ek1 ek2 ho hsz hde hfr hJ)
            rintro a' W' ⟨rfl, rfl⟩
            obtain ⟨q1, q2, q3⟩ := hnew c (fun j _ _ => rfl)
            exact .inr ⟨hnn, c, _, x, y, rfl, q1, q2, q3, hJ, ⟨fun h => .inr (hx.1 h), fun h => h.elim (fun h => absurd h.symm ek1) hx.2⟩, ⟨fun h => .inr (hy.1 h), fun h => h.elim (fun h => absurd h.symm ek2) hy.2⟩⟩
  · rintro L a W hall (⟨-, hq⟩ | ⟨hLn, -⟩)
    · exact hq
    · exact absurd (hall n (by omega)) hLn
end Go.Proofs.YtlgjadnkokmjoaaDoor
