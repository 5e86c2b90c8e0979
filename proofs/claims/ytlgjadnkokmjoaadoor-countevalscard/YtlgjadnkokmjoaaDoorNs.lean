/- A region that draws its order, whose last operation follows on all others (a store); the others each give one value into a slot of their own. -/
import Derived.Test.YtlgjadnkokmjoaaDoorOv
namespace Go.Proofs.YtlgjadnkokmjoaaDoor
open Go.RowKit

/-- Is j among what k waits for, by however many steps? -/
def rchB (ops : Array Oper) : Nat → Nat → Nat → Bool
  | 0, _, _ => false
  | f + 1, k, j => match ops[k]? with
    | none => false
    | some o => o.after.toList.any fun e => Region.binds .any e && (decide (e.on = j) || rchB ops f e.on j)
theorem rchB_spec {ops : Array Oper} {L : Nat → Prop} (hcl : ∀ (j : Nat) (o' : Oper), L j → ops[j]? = some o' → ∀ e ∈ o'.after.toList, Region.binds .any e = true → L e.on) : ∀ (f k j : Nat), (∀ (o : Oper), ops[k]? = some o → ∀ e ∈ o.after.toList, Region.binds .any e = true → L e.on) → rchB ops f k j = true → L j := by
  intro f
  induction f with
  | zero => intro k j _ h; simp [rchB] at h
  | succ f ih =>
    intro k j hk h
    rw [rchB] at h
    rcases ho : ops[k]? with _ | o
    · rw [ho] at h; cases h
    · rw [ho] at h
      simp only [List.any_eq_true, Bool.and_eq_true, Bool.or_eq_true, decide_eq_true_eq] at h
      obtain ⟨e, he, hb, h⟩ := h
      have hL := hk o ho e he hb
      rcases h with h | h
      · rw [← h]; exact hL
      · exact ih e.on j (fun o' ho' => hcl e.on o' hL ho') h
theorem region_last {P : Program} {ops : Array Oper} {Q : Exit → Act → World → Prop} {id : Nat} {T0 : Array Value} {D0 : List Deferred} {w0 : World} (hm : P.follows .mixedOrders = true) (hon : ∀ (j : Nat) (o : Oper), ops[j]? = some o → ∀ e ∈ o.after.toList, e.on < j)
    (n : Nat) (hn : ops.size = n + 1) (d : Nat → Nat) (val : Nat → Value) (hd : ∀ i j, i < n → j < n → d i = d j → i = j) (hs : ∀ i, i < n → d i < T0.size) (hre : ((List.range n).all fun j => rchB ops (n + 1) n j) = true)
    (step : ∀ (T : Array Value) (W : World) (i : Nat) (o : Oper), i < n → ops[i]? = some o → T.size = T0.size → (∀ e ∈ o.after.toList, Region.binds .any e = true → T[d e.on]? = some (val e.on)) → (∀ s, (∀ j, j < n → s ≠ d j) → T[s]? = T0[s]?) → Below w0.heap.size w0 W → wpOp P ops Q i (fun a' W' => a' = ⟨T.setIfInBounds (d i) (val i), D0⟩ ∧ Below w0.heap.size w0 W') ⟨T, D0⟩ W)
    (last : ∀ (T : Array Value) (W : World) (o : Oper), ops[n]? = some o → T.size = T0.size → (∀ j, j < n → T[d j]? = some (val j)) → (∀ s, (∀ j, j < n → s ≠ d j) → T[s]? = T0[s]?) → Below w0.heap.size w0 W → wpOp P ops Q n (fun a' W' => Q .normal a' W') ⟨T, D0⟩ W) : (Code.region id ops true).wp P Q ⟨T0, D0⟩ w0 := by
  refine region_inv hm hon (fun L a W => (L n ∧ Q .normal a W) ∨ (¬ L n ∧ RvI d val T0 D0 w0 (fun j => L j ∧ j < n) a W)) ?_ ?_ ?_
  · exact .inr ⟨fun h => h, T0, rfl, rfl, fun j h => h.1.elim, fun s _ => rfl, (Below.refl _ _).drew⟩
  · rintro L a W i o ho hnl hdep hcl (⟨hLn, -⟩ | ⟨hLn, T, rfl, hsz, h1, h2, hb⟩)
    · exfalso
      have hi : i < ops.size := (Array.getElem?_eq_some_iff.1 ho).1
      by_cases e : i = n
      · exact hnl (e ▸ hLn)
      · rw [List.all_eq_true] at hre
        exact hnl (rchB_spec hcl (n + 1) n i (fun o' ho' => hcl n o' hLn ho') (hre i (List.mem_range.2 (by omega))))
    · have hi : i < ops.size := (Array.getElem?_eq_some_iff.1 ho).1
      by_cases e : i = n
      · subst e
        have hall : ∀ j, j < i → L j := fun j hj => by
          rw [List.all_eq_true] at hre
          exact rchB_spec hcl (i + 1) i j (fun o' ho' => by rw [ho] at ho'; injection ho' with ho'; subst ho'; exact hdep) (hre j (List.mem_range.2 hj))
        refine wpOp_mono (fun a' W' hq => ?_) (last T W o ho hsz (fun j hj => h1 j ⟨hall j hj, hj⟩) (fun s hs' => h2 s (fun j hj => hs' j hj.2)) hb)
        exact .inl ⟨.inl rfl, hq⟩
      · have hin : i < n := by omega
        refine wpOp_mono ?_ (step T W i o hin ho hsz (fun e he hbd => ?_) (fun s hs' => h2 s (fun j hj => hs' j hj.2)) hb)
        · rintro a' W' ⟨rfl, hb'⟩
          refine .inr ⟨fun h => h.elim (fun h => e h.symm) hLn, _, rfl, by rw [Array.size_setIfInBounds]; exact hsz, fun j hj => ?_, fun s hs' => ?_, hb'⟩
          · rw [Array.getElem?_setIfInBounds]
            by_cases e : d i = d j
            · obtain rfl : i = j := hd i j hin hj.2 e
              rw [if_pos rfl, if_pos (by rw [hsz]; exact hs i hin)]
            · rw [if_neg e]
              rcases hj.1 with rfl | hj1
              · exact absurd rfl e
              · exact h1 j ⟨hj1, hj.2⟩
          · rw [Array.getElem?_setIfInBounds, if_neg (fun e => hs' i ⟨.inl rfl, hin⟩ e.symm)]
            exact h2 s (fun j hj => hs' j ⟨.inr hj.1, hj.2⟩)
        · have hlt : e.on < n := Nat.lt_trans (hon i o ho e he) hin
          exact h1 e.on ⟨hdep e he hbd, hlt⟩
  · rintro L a W hall (⟨-, hq⟩ | ⟨hLn, -⟩)
    · exact hq
    · exact absurd (hall n (by omega)) hLn
/-- The slots, each set to its value. -/
def rvSet (d : Nat → Nat) (val : Nat → Value) (T0 : Array Value) : List Nat → Array Value
  | [] => T0
  | j :: l => (rvSet d val T0 l).setIfInBounds (d j) (val j)
theorem rvSet_size (d : Nat → Nat) (val : Nat → Value) (T0 : Array Value) (l : List Nat) : (rvSet d val T0 l).size = T0.size := by
  induction l with
  | nil => rfl
  | cons j l ih => rw [rvSet, Array.size_setIfInBounds, ih]
theorem rv_list {n : Nat} {d : Nat → Nat} {val : Nat → Value} {T0 T : Array Value} (hs : ∀ i, i < n → d i < T0.size) (hsz : T.size = T0.size) (hval : ∀ j, j < n → T[d j]? = some (val j)) (hst : ∀ s, (∀ j, j < n → s ≠ d j) → T[s]? = T0[s]?) (l : List Nat) (hl : l = (List.range n).reverse) : T = rvSet d val T0 l := by
  subst hl
  apply Array.ext (by rw [rvSet_size, hsz])
  intro s h1 h2
  have key : ∀ k, k ≤ n → ∀ s : Nat, ((∃ j, j < k ∧ s = d j) → (rvSet d val T0 (List.range k).reverse)[s]? = T[s]?) ∧ ((∀ j, j < k → s ≠ d j) → (rvSet d val T0 (List.range k).reverse)[s]? = T0[s]?) := by
    intro k
    induction k with
    | zero => intro _ s; exact ⟨fun ⟨j, hj, _⟩ => by omega, fun _ => rfl⟩
    | succ k ih =>
      intro hk s
      rw [List.range_succ, List.reverse_append, List.reverse_singleton, List.singleton_append, rvSet, Array.getElem?_setIfInBounds]
      by_cases e : d k = s
      · rw [if_pos e, rvSet_size, if_pos (hs k (by omega))]
        exact ⟨fun _ => by rw [← e]; exact (hval k (by omega)).symm, fun h => absurd e.symm (h k (by omega))⟩
      · rw [if_neg e]
        refine ⟨fun ⟨j, hj, hje⟩ => (ih (by omega) s).1 ⟨j, ?_, hje⟩, fun h => (ih (by omega) s).2 fun j hj => h j (by omega)⟩
        by_cases q : j = k
        · subst q; exact absurd hje.symm e
        · omega
  have hfin : T[s]? = (rvSet d val T0 (List.range n).reverse)[s]? := by
    by_cases h : ∃ j, j < n ∧ s = d j
    · exact ((key n (Nat.le_refl _) s).1 h).symm
    · rw [(key n (Nat.le_refl _) s).2 (fun j hj e => h ⟨j, hj, e⟩)]
      exact hst s (fun j hj e => h ⟨j, hj, e⟩)
  rw [Array.getElem?_eq_getElem h1, Array.getElem?_eq_getElem h2] at hfin
  injection hfin
end Go.Proofs.YtlgjadnkokmjoaaDoor
