/- 2 texts in one. -/
import Derived.Deep.RegionHeldLaw
import Derived.Shelf.Abstract
import Derived.Test.YtleebojibobgaaaDoorBk
import Derived.Test.YtleebojibobgaaaDoorZLp
import Derived.Test.YtleebojibobgaaaDoorZCf
import Derived.Test.YtleebojibobgaaaDoorBp
/- The reference's Product: contract. -/
namespace Go.Proofs.YtleebojibobgaaaDoor
open Go.RowKit

/-- Rows and ends that a call builds in two slices of its own. -/
def PrAt (wb : World) (rows : Nat → List Int) (es : Nat → Bool) (qn qe : Nat) (vN vE : Value) (W : World) : Prop :=
  ∃ vals : List Value, W.ownsRow wb.heap.size 37 1 vN qn vals ∧ W.ownsRow wb.heap.size 4 1 vE qe ((List.range qe).map fun j => Value.bool (es j)) ∧
    (∀ j, j < qn → ∃ a cap, vals[j]? = some (.slice a (rows j).length cap) ∧ SlN wb.heap.size W a (rows j).length (rows j) ∧ ∀ x, slB a (rows j).length x → vN.ownBlock ≠ some x ∧ vE.ownBlock ≠ some x) ∧ Below wb.heap.size wb W
theorem prAt_start (wb : World) (rows : Nat → List Int) (es : Nat → Bool) : PrAt wb rows es 0 0 (.slice none 0 0) (.slice none 0 0) wb :=
  ⟨[], World.ownsRow_nil _ _ _ _, World.ownsRow_nil _ _ _ _, fun j hj => by omega, Below.refl _ _⟩
theorem prAt_below {wb : World} {rows : Nat → List Int} {es : Nat → Bool} {qn qe : Nat} {vN vE : Value} {W W2 : World} (h : PrAt wb rows es qn qe vN vE W) (hb : Below W.heap.size W W2) : PrAt wb rows es qn qe vN vE W2 := by
  obtain ⟨vals, h2, h3, h4, h5⟩ := h
  refine ⟨vals, ownsRow_of_block h2 (fun x hx => hb.block _ (h2.lt x hx).2), ownsRow_of_block h3 (fun x hx => hb.block _ (h3.lt x hx).2), fun j hj => ?_, below_step h5 hb⟩
  obtain ⟨a, cap, e1, e2, e3⟩ := h4 j hj
  exact ⟨a, cap, e1, ⟨sl_below e2.1 hb, e2.2⟩, e3⟩
/-- One row more. -/
theorem prAt_N {wb : World} {rows : Nat → List Int} {es : Nat → Bool} {q qe : Nat} {vN vE : Value} {W W2 : World} {ar : Option Addr} {cr : Nat} (h : PrAt wb rows es q qe vN vE W) (hb : Below W.heap.size W W2) (hs : SlN W.heap.size W2 ar (rows q).length (rows q)) :
    ∃ vals : List Value, W2.ownsRow wb.heap.size 37 1 vN q vals ∧ wb.heap.size ≤ W2.heap.size ∧
      ∀ (w3 : World) (o : Obj) (g' cap' : Nat), w3.ownsRow wb.heap.size 37 1 (.slice (some ⟨g', 0, none⟩) (q + 1) cap') (q + 1) (vals ++ [.slice ar (rows q).length cr]) → (W2.alloc o).grownBy w3 vN.ownBlock → (vN.ownBlock = some g' ∨ g' = W2.heap.size + 1) →
        PrAt wb rows es (q + 1) qe (.slice (some ⟨g', 0, none⟩) (q + 1) cap') vE w3 := by
  have hsz2 := hb.size
  have hOld := h
  obtain ⟨vals, h2, h3, h4, h5⟩ := prAt_below h hb
  have hvl : vals.length = q := by have := h2.1; omega
  have hnew : ∀ x, slB ar (rows q).length x → vN.ownBlock ≠ some x ∧ vE.ownBlock ≠ some x := by
    obtain ⟨us, g2, g3, _, _⟩ := hOld
    rintro x ⟨_, ad, e, rfl⟩
    have hge := hs.2 ad e
    exact ⟨fun e' => by have := (g2.lt _ e').2; omega, fun e' => by have := (g3.lt _ e').2; omega⟩
  have hbs : wb.heap.size ≤ W.heap.size := by obtain ⟨_, _, _, _, h⟩ := hOld; exact h.size
  refine ⟨vals, h2, by omega, fun w3 o g' cap' hown hgrow hat => ?_⟩
  have hsz : (W2.alloc o).heap.size = W2.heap.size + 1 := by simp
  have hkeep : ∀ x, x < W2.heap.size → vN.ownBlock ≠ some x → w3.heap[x]? = W2.heap[x]? := fun x hx hne => by
    rw [hgrow.block x (by omega) (fun e => hne e.symm), Below.heap_alloc _ _ _ hx]
  have hE3 : w3.ownsRow wb.heap.size 4 1 vE qe ((List.range qe).map fun j => Value.bool (es j)) := ownsRow_of_block h3 (fun x hx => hkeep x (h3.lt x hx).2 (fun e => owns_apart t_sb h2 h3 e hx))
  have row3 : ∀ {a' len' l'}, SlN wb.heap.size W2 a' len' l' → (∀ x, slB a' len' x → vN.ownBlock ≠ some x ∧ vE.ownBlock ≠ some x) → SlN wb.heap.size w3 a' len' l' ∧ ∀ x, slB a' len' x → Value.ownBlock (.slice (some ⟨g', 0, none⟩) (q + 1) cap') ≠ some x ∧ vE.ownBlock ≠ some x := by
    intro a' len' l' hs' hne
    refine ⟨⟨sl_keep hs'.1 fun x hx => ?_, hs'.2⟩, fun x hx => ⟨fun e => ?_, (hne x hx).2⟩⟩
    · exact hkeep x (slB_lt hs'.1 hx) (hne x hx).1
    · have hlt := slB_lt hs'.1 hx
      have e' : g' = x := by simpa [Value.ownBlock] using e
      subst e'
      rcases hat with h | h
      · exact (hne _ hx).1 h
      · omega
  refine ⟨vals ++ [.slice ar (rows q).length cr], hown, hE3, fun j hj => ?_, ?_⟩
  · by_cases e : j = q
    · subst e
      have := row3 (hs.mono hbs) hnew
      exact ⟨ar, cr, by rw [List.getElem?_append_right (by omega), hvl]; simp, this.1, this.2⟩
    · obtain ⟨a', c', e1, e2, e3⟩ := h4 j (by omega)
      have := row3 e2 e3
      exact ⟨a', c', by rw [List.getElem?_append_left (by omega)]; exact e1, this.1, this.2⟩
  · exact Below.grown (h5.alloc h5.size o) hgrow (by have := h5.size; omega) (fun x hx => by have := (h2.lt x hx).1; omega)
/-- One end more. -/
theorem prAt_E {wb : World} {rows : Nat → List Int} {es : Nat → Bool} {qn q : Nat} {vN vE : Value} {W2 : World} (h : PrAt wb rows es qn q vN vE W2) :
    W2.ownsRow wb.heap.size 4 1 vE q ((List.range q).map fun j => Value.bool (es j)) ∧ wb.heap.size ≤ W2.heap.size ∧
      ∀ (w3 : World) (o : Obj) (g' cap' : Nat), w3.ownsRow wb.heap.size 4 1 (.slice (some ⟨g', 0, none⟩) (q + 1) cap') (q + 1) (((List.range q).map fun j => Value.bool (es j)) ++ [.bool (es q)]) → (W2.alloc o).grownBy w3 vE.ownBlock → (vE.ownBlock = some g' ∨ g' = W2.heap.size + 1) →
        PrAt wb rows es qn (q + 1) vN (.slice (some ⟨g', 0, none⟩) (q + 1) cap') w3 := by
  obtain ⟨vals, h2, h3, h4, h5⟩ := h
  refine ⟨h3, h5.size, fun w3 o g' cap' hown hgrow hat => ?_⟩
  have hsz : (W2.alloc o).heap.size = W2.heap.size + 1 := by simp
  have hkeep : ∀ x, x < W2.heap.size → vE.ownBlock ≠ some x → w3.heap[x]? = W2.heap[x]? := fun x hx hne => by
    rw [hgrow.block x (by omega) (fun e => hne e.symm), Below.heap_alloc _ _ _ hx]
  have hN3 : w3.ownsRow wb.heap.size 37 1 vN qn vals := ownsRow_of_block h2 (fun x hx => hkeep x (h2.lt x hx).2 (fun e => owns_apart t_sb h2 h3 hx e))
  refine ⟨vals, hN3, ?_, fun j hj => ?_, ?_⟩
  · rw [List.range_succ, List.map_append]
    exact hown
  · obtain ⟨a', c', e1, e2, e3⟩ := h4 j hj
    refine ⟨a', c', e1, ⟨sl_keep e2.1 fun x hx => hkeep x (slB_lt e2.1 hx) (e3 x hx).2, e2.2⟩, fun x hx => ⟨(e3 x hx).1, fun e => ?_⟩⟩
    have hlt := slB_lt e2.1 hx
    have e' : g' = x := by simpa [Value.ownBlock] using e
    subst e'
    rcases hat with h | h
    · exact (e3 _ hx).2 h
    · omega
  · exact Below.grown (h5.alloc h5.size o) hgrow (by have := h5.size; omega) (fun x hx => by have := (h3.lt x hx).1; omega)
/-- What they are in the end. -/
theorem prAt_end {wb : World} {rows : Nat → List Int} {es : Nat → Bool} {k : Nat} {vN vE : Value} {W : World} (h : PrAt wb rows es k k vN vE W) (hk : k ≤ maxLen) (N : List (List Int)) (hN : N.length = k) (hr : ∀ j, j < k → N.getD j [] = rows j) (E : List Bool) (hE : E.length = k) (he : ∀ j, j < k → E.getD j false = es j) :
    ∃ a c a' c', vN = .slice a k c ∧ vE = .slice a' k c' ∧ Sl2 W a k N ∧ SlB W a' k E ∧ Below wb.heap.size wb W := by
  obtain ⟨vals, h2, h3, h4, h5⟩ := h
  have hNv : ∃ a c, vN = .slice a k c ∧ Sl2 W a k N := by
    obtain ⟨h0, h1⟩ := h2
    rcases h1 with ⟨rfl, rfl⟩ | ⟨g, cap, cur, rfl, hg, hh, hc, hcm, hcs, ht⟩
    · exact ⟨none, 0, rfl, hN, hk, Or.inl rfl⟩
    · refine ⟨_, cap, rfl, hN, hk, Or.inr ⟨g, 0, rfl, fun i hi => ?_⟩⟩
      obtain ⟨a', cap', e1, e2, _⟩ := h4 i hi
      rw [hr i hi]
      refine ⟨a', cap', ?_, e2.1⟩
      rw [cell_of_row W g (0 + i) cur 37 (0, 0) hh, Nat.zero_add]
      have h3 : (cur.toList.take (k * 1))[i]? = vals[i]? := by rw [ht]
      rw [List.getElem?_take, if_pos (by omega), Array.getElem?_toList] at h3
      rw [h3, e1]
  have hEv : ∃ a c, vE = .slice a k c ∧ SlB W a k E := by
    obtain ⟨h0, h1⟩ := h3
    rcases h1 with ⟨rfl, rfl⟩ | ⟨g, cap, cur, rfl, hg, hh, hc, hcm, hcs, ht⟩
    · exact ⟨none, 0, rfl, hE, hk, Or.inl rfl⟩
    · refine ⟨_, cap, rfl, hE, hk, Or.inr ⟨g, 0, rfl, fun i hi => ?_⟩⟩
      rw [cell_of_row W g (0 + i) cur 4 (0, 0) hh, Nat.zero_add]
      have h3 : (cur.toList.take (k * 1))[i]? = ((List.range k).map fun j => Value.bool (es j))[i]? := by rw [ht]
      rw [List.getElem?_take, if_pos (by omega), Array.getElem?_toList] at h3
      rw [h3, he i hi]
      simp [hi]
  obtain ⟨a, c, rfl, hs⟩ := hNv
  obtain ⟨a', c', rfl, hs'⟩ := hEv
  exact ⟨a, c, a', c', rfl, rfl, hs, hs', h5⟩

end Go.Proofs.YtleebojibobgaaaDoor

/- The reference's BothOf: contract. -/
namespace Go.Proofs.YtleebojibobgaaaDoor
open Go.RowKit

theorem autoNew_nil (w W : World) : AutoNew w none 0 [] none [] W := fun W' _ => ⟨⟨rfl, by unfold maxLen; omega, .inl rfl⟩, ⟨rfl, by unfold maxLen; omega, .inl rfl⟩⟩
/-- An automaton and a code are handed back. -/
def BothR (w : World) (b t : Int) (N : List (List Int)) (E : List Bool) (c : Int) (e : Ending) (w' : World) : Prop :=
  ∃ a ca a' ca', e = .returned (.tuple #[.agg #[.int .i64 b, .int .i64 t, .slice a N.length ca, .slice a' N.length ca'], .int .i64 c]) ∧ AutoNew w a N.length N a' E w' ∧ Below w.heap.size w w'
/-- A number where all went well, else zero. -/
def okI (c x : Int) : Int := if c = 0 then x else 0
end Go.Proofs.YtleebojibobgaaaDoor
