/- An automaton that a call builds in a variable's box, row by row and end by end. -/
import Derived.Test.YtihhlddbppljpacDoorAd
import Derived.Deep.AppendLies
namespace Go.Proofs.YtihhlddbppljpacDoor
open Go.RowKit

/-- The box at B (the first block behind wb): qn rows, each in a block of its own, and qe ends. -/
def OutAt (wb : World) (b t : Int) (rows : Nat → List Int) (es : Nat → Bool) (qn qe : Nat) (W : World) : Prop :=
  ∃ (vN vE : Value) (vals : List Value), W.heap[wb.heap.size]? = some (.cells #[.int .i64 b, .int .i64 t, vN, vE] 25 (0, 0)) ∧
    W.ownsRow (wb.heap.size + 1) 50 1 vN qn vals ∧ W.ownsRow (wb.heap.size + 1) 4 1 vE qe ((List.range qe).map fun j => Value.bool (es j)) ∧
    (∀ j, j < qn → ∃ a cap, vals[j]? = some (.slice a (rows j).length cap) ∧ SlN (wb.heap.size + 1) W a (rows j).length (rows j) ∧ ∀ x, slB a (rows j).length x → vN.ownBlock ≠ some x ∧ vE.ownBlock ≠ some x) ∧
    Below wb.heap.size wb W

theorem outAt_start (wb : World) (b t : Int) (rows : Nat → List Int) (es : Nat → Bool) : OutAt wb b t rows es 0 0 (wb.alloc (.cells #[.int .i64 b, .int .i64 t, .slice none 0 0, .slice none 0 0] 25)) :=
  ⟨.slice none 0 0, .slice none 0 0, [], heap_alloc_last wb _, World.ownsRow_nil _ _ _ _, World.ownsRow_nil _ _ _ _, fun j hj => by omega, (Below.refl _ _).alloc (Nat.le_refl _) _⟩
theorem outAt_below {wb : World} {b t : Int} {rows : Nat → List Int} {es : Nat → Bool} {qn qe : Nat} {W W2 : World} (h : OutAt wb b t rows es qn qe W) (hb : Below W.heap.size W W2) : OutAt wb b t rows es qn qe W2 := by
  obtain ⟨vN, vE, vals, h1, h2, h3, h4, h5⟩ := h
  have hlt := (Array.getElem?_eq_some_iff.1 h1).1
  refine ⟨vN, vE, vals, (hb.block _ hlt).trans h1, ownsRow_of_block h2 (fun x hx => hb.block _ (h2.lt x hx).2), ownsRow_of_block h3 (fun x hx => hb.block _ (h3.lt x hx).2), fun j hj => ?_, below_step h5 hb⟩
  obtain ⟨a, cap, e1, e2, e3⟩ := h4 j hj
  exact ⟨a, cap, e1, ⟨sl_below e2.1 hb, e2.2⟩, e3⟩

theorem t_sb : (50 : TypeId) ≠ 4 := by decide
theorem owns_apart {W : World} {base e e' : Nat} (hne : e ≠ e') {v v' : Value} {n n' : Nat} {xs xs' : List Value} (h : W.ownsRow base e 1 v n xs) (h' : W.ownsRow base e' 1 v' n' xs') {x : Nat} (hx : v.ownBlock = some x) (hx' : v'.ownBlock = some x) : False := by
  rcases h.2 with ⟨rfl, _⟩ | ⟨g, cap, cur, rfl, _, hg, _⟩
  · simp [Value.ownBlock] at hx
  · rcases h'.2 with ⟨rfl, _⟩ | ⟨g', cap', cur', rfl, _, hg', _⟩
    · simp [Value.ownBlock] at hx'
    · simp [Value.ownBlock] at hx hx'
      subst hx; subst hx'
      rw [hg] at hg'
      simp at hg'
      exact hne hg'.2
theorem set_box {W : World} {B : Nat} {v0 v1 v2 v3 : Value} {T : TypeId} (h : W.heap[B]? = some (.cells #[v0, v1, v2, v3] T (0, 0))) (v : Value) : (W.setCell ⟨B, 2, none⟩ v).heap[B]? = some (.cells #[v0, v1, v, v3] T (0, 0)) ∧ (W.setCell ⟨B, 3, none⟩ v).heap[B]? = some (.cells #[v0, v1, v2, v] T (0, 0)) := by
  constructor <;> simp [World.setCell, Array.getElem?_modify, h]

/-- One row more. -/
theorem outAt_N {wb : World} {b t : Int} {rows : Nat → List Int} {es : Nat → Bool} {q qe : Nat} {W W2 : World} {ar : Option Addr} {cr : Nat} (h : OutAt wb b t rows es q qe W) (hb : Below W.heap.size W W2) (hs : SlN W.heap.size W2 ar (rows q).length (rows q)) :
    ∃ (vN : Value) (vals : List Value), W2.cell? ⟨wb.heap.size, 2, none⟩ = some vN ∧ W2.ownsRow (wb.heap.size + 1) 50 1 vN q vals ∧ wb.heap.size + 1 ≤ W2.heap.size ∧
      ∀ (w3 : World) (o : Obj) (g' cap' : Nat), w3.ownsRow (wb.heap.size + 1) 50 1 (.slice (some ⟨g', 0, none⟩) (q + 1) cap') (q + 1) (vals ++ [.slice ar (rows q).length cr]) → (W2.alloc o).grownBy w3 vN.ownBlock → (vN.ownBlock = some g' ∨ g' = W2.heap.size + 1) →
        (w3.cell? ⟨wb.heap.size, 2, none⟩ = some vN ∧ w3.frozen? ⟨wb.heap.size, 2, none⟩ = false) ∧ OutAt wb b t rows es (q + 1) qe (w3.setCell ⟨wb.heap.size, 2, none⟩ (.slice (some ⟨g', 0, none⟩) (q + 1) cap')) := by
  have hl1 : wb.heap.size + 1 ≤ W.heap.size := by
    obtain ⟨_, _, _, h1, _⟩ := h
    exact (Array.getElem?_eq_some_iff.1 h1).1
  have hsz2 := hb.size
  have hOld := h
  obtain ⟨vN, vE, vals, h1, h2, h3, h4, h5⟩ := outAt_below h hb
  have hvl : vals.length = q := by have := h2.1; omega
  have hBlt := (Array.getElem?_eq_some_iff.1 h1).1
  -- the new row's block is none of what is held
  have hnew : ∀ x, slB ar (rows q).length x → vN.ownBlock ≠ some x ∧ vE.ownBlock ≠ some x := by
    obtain ⟨uN, uE, us, g1, g2, g3, _, _⟩ := hOld
    have e1 := (hb.block _ (Array.getElem?_eq_some_iff.1 g1).1).trans g1
    rw [h1] at e1
    simp at e1
    rw [e1.1, e1.2]
    rintro x ⟨_, ad, e, rfl⟩
    have hge := hs.2 ad e
    exact ⟨fun e' => by have := (g2.lt _ e').2; omega, fun e' => by have := (g3.lt _ e').2; omega⟩
  refine ⟨vN, vals, by simp [World.cell?, h1], h2, by omega, fun w3 o g' cap' hown hgrow hat => ?_⟩
  have hsz : (W2.alloc o).heap.size = W2.heap.size + 1 := by simp
  have hkeep : ∀ x, x < W2.heap.size → vN.ownBlock ≠ some x → w3.heap[x]? = W2.heap[x]? := fun x hx hne => by
    rw [hgrow.block x (by omega) (fun e => hne e.symm), Below.heap_alloc _ _ _ hx]
  have hNB : vN.ownBlock ≠ some wb.heap.size := fun e => by have := (h2.lt _ e).1; omega
  have hbox : w3.heap[wb.heap.size]? = some (.cells #[.int .i64 b, .int .i64 t, vN, vE] 25 (0, 0)) := (hkeep _ hBlt hNB).trans h1
  have hg'B : g' ≠ wb.heap.size := by
    rcases hat with e | e
    · intro e'; subst e'; exact hNB e
    · omega
  have hE3 : w3.ownsRow (wb.heap.size + 1) 4 1 vE qe ((List.range qe).map fun j => Value.bool (es j)) := ownsRow_of_block h3 (fun x hx => hkeep x (h3.lt x hx).2 (fun e => owns_apart t_sb h2 h3 e hx))
  have hEB : vE.ownBlock ≠ some wb.heap.size := fun e => by have := (h3.lt _ e).1; omega
  have row3 : ∀ {a' len' l'}, SlN (wb.heap.size + 1) W2 a' len' l' → (∀ x, slB a' len' x → vN.ownBlock ≠ some x ∧ vE.ownBlock ≠ some x) → SlN (wb.heap.size + 1) (w3.setCell ⟨wb.heap.size, 2, none⟩ (.slice (some ⟨g', 0, none⟩) (q + 1) cap')) a' len' l' ∧ ∀ x, slB a' len' x → Value.ownBlock (.slice (some ⟨g', 0, none⟩) (q + 1) cap') ≠ some x ∧ vE.ownBlock ≠ some x := by
    intro a' len' l' hs' hne
    refine ⟨⟨sl_keep hs'.1 fun x hx => ?_, hs'.2⟩, fun x hx => ⟨fun e => ?_, (hne x hx).2⟩⟩
    · have hlt := slB_lt hs'.1 hx
      have hxB : x ≠ wb.heap.size := by
        obtain ⟨_, ad, e, rfl⟩ := hx
        have := hs'.2 ad e
        omega
      rw [Below.heap_setCell _ _ _ _ hxB, hkeep x hlt (hne x hx).1]
    · have hlt := slB_lt hs'.1 hx
      have e' : g' = x := by simpa [Value.ownBlock] using e
      subst e'
      rcases hat with h | h
      · exact (hne _ hx).1 h
      · omega
  refine ⟨⟨by simp [World.cell?, hbox], by simp [World.frozen?, hbox]⟩, .slice (some ⟨g', 0, none⟩) (q + 1) cap', vE, vals ++ [.slice ar (rows q).length cr], (set_box hbox _).1, ownsRow_setCell_other hown (by simpa [Value.ownBlock] using hg'B) _, ownsRow_setCell_other hE3 hEB _, fun j hj => ?_, ?_⟩
  · by_cases e : j = q
    · subst e
      have := row3 (hs.mono hl1) hnew
      exact ⟨ar, cr, by rw [List.getElem?_append_right (by omega), hvl]; simp, this.1, this.2⟩
    · obtain ⟨a', c', e1, e2, e3⟩ := h4 j (by omega)
      have := row3 e2 e3
      exact ⟨a', c', by rw [List.getElem?_append_left (by omega)]; exact e1, this.1, this.2⟩
  · exact (Below.grown (h5.alloc h5.size o) hgrow (by have := h5.size; omega) (fun x hx => by have := (h2.lt x hx).1; omega)).setCell (Nat.le_refl _) _

/-- One end more. -/
theorem outAt_E {wb : World} {b t : Int} {rows : Nat → List Int} {es : Nat → Bool} {qn q : Nat} {W2 : World} (h : OutAt wb b t rows es qn q W2) :
    ∃ (vE : Value), W2.cell? ⟨wb.heap.size, 3, none⟩ = some vE ∧ W2.ownsRow (wb.heap.size + 1) 4 1 vE q ((List.range q).map fun j => Value.bool (es j)) ∧ wb.heap.size + 1 ≤ W2.heap.size ∧
      ∀ (w3 : World) (o : Obj) (g' cap' : Nat), w3.ownsRow (wb.heap.size + 1) 4 1 (.slice (some ⟨g', 0, none⟩) (q + 1) cap') (q + 1) (((List.range q).map fun j => Value.bool (es j)) ++ [.bool (es q)]) → (W2.alloc o).grownBy w3 vE.ownBlock → (vE.ownBlock = some g' ∨ g' = W2.heap.size + 1) →
        (w3.cell? ⟨wb.heap.size, 3, none⟩ = some vE ∧ w3.frozen? ⟨wb.heap.size, 3, none⟩ = false) ∧ OutAt wb b t rows es qn (q + 1) (w3.setCell ⟨wb.heap.size, 3, none⟩ (.slice (some ⟨g', 0, none⟩) (q + 1) cap')) := by
  obtain ⟨vN, vE, vals, h1, h2, h3, h4, h5⟩ := h
  have hBlt := (Array.getElem?_eq_some_iff.1 h1).1
  refine ⟨vE, by simp [World.cell?, h1], h3, by omega, fun w3 o g' cap' hown hgrow hat => ?_⟩
  have hsz : (W2.alloc o).heap.size = W2.heap.size + 1 := by simp
  have hkeep : ∀ x, x < W2.heap.size → vE.ownBlock ≠ some x → w3.heap[x]? = W2.heap[x]? := fun x hx hne => by
    rw [hgrow.block x (by omega) (fun e => hne e.symm), Below.heap_alloc _ _ _ hx]
  have hEB : vE.ownBlock ≠ some wb.heap.size := fun e => by have := (h3.lt _ e).1; omega
  have hNB : vN.ownBlock ≠ some wb.heap.size := fun e => by have := (h2.lt _ e).1; omega
  have hbox : w3.heap[wb.heap.size]? = some (.cells #[.int .i64 b, .int .i64 t, vN, vE] 25 (0, 0)) := (hkeep _ hBlt hEB).trans h1
  have hg'B : g' ≠ wb.heap.size := by
    rcases hat with e | e
    · intro e'; subst e'; exact hEB e
    · omega
  have hN3 : w3.ownsRow (wb.heap.size + 1) 50 1 vN qn vals := ownsRow_of_block h2 (fun x hx => hkeep x (h2.lt x hx).2 (fun e => owns_apart t_sb h2 h3 hx e))
  refine ⟨⟨by simp [World.cell?, hbox], by simp [World.frozen?, hbox]⟩, vN, .slice (some ⟨g', 0, none⟩) (q + 1) cap', vals, (set_box hbox _).2, ownsRow_setCell_other hN3 hNB _, ?_, fun j hj => ?_, ?_⟩
  · rw [List.range_succ, List.map_append]
    exact ownsRow_setCell_other hown (by simpa [Value.ownBlock] using hg'B) _
  · obtain ⟨a', c', e1, e2, e3⟩ := h4 j hj
    refine ⟨a', c', e1, ⟨sl_keep e2.1 fun x hx => ?_, e2.2⟩, fun x hx => ⟨(e3 x hx).1, fun e => ?_⟩⟩
    · have hlt := slB_lt e2.1 hx
      have hxB : x ≠ wb.heap.size := by
        obtain ⟨_, ad, e, rfl⟩ := hx
        have := e2.2 ad e
        omega
      rw [Below.heap_setCell _ _ _ _ hxB, hkeep x hlt (e3 x hx).2]
    · have hlt := slB_lt e2.1 hx
      have e' : g' = x := by simpa [Value.ownBlock] using e
      subst e'
      rcases hat with h | h
      · exact (e3 _ hx).2 h
      · omega
  · exact (Below.grown (h5.alloc h5.size o) hgrow (by have := h5.size; omega) (fun x hx => by have := (h3.lt x hx).1; omega)).setCell (Nat.le_refl _) _

/-- What it is in the end, wherever what lies behind the box lies on. -/
theorem outAt_end {wb : World} {b t : Int} {rows : Nat → List Int} {es : Nat → Bool} {k : Nat} {W : World} (h : OutAt wb b t rows es k k W) (hk : k ≤ maxLen) (N : List (List Int)) (hN : N.length = k) (hr : ∀ j, j < k → N.getD j [] = rows j) (E : List Bool) (hE : E.length = k) (he : ∀ j, j < k → E.getD j false = es j) :
    ∃ a c a' c', W.heap[wb.heap.size]? = some (.cells #[.int .i64 b, .int .i64 t, .slice a k c, .slice a' k c'] 25 (0, 0)) ∧ Below wb.heap.size wb W ∧ ∀ W' : World, (∀ x, wb.heap.size < x → x < W.heap.size → W'.heap[x]? = W.heap[x]?) → Sl2 W' a k N ∧ SlB W' a' k E := by
  obtain ⟨vN, vE, vals, h1, h2, h3, h4, h5⟩ := h
  have hNv : ∃ a c, vN = .slice a k c ∧ ∀ W' : World, (∀ x, wb.heap.size < x → x < W.heap.size → W'.heap[x]? = W.heap[x]?) → Sl2 W' a k N := by
    obtain ⟨h0, h1⟩ := h2
    rcases h1 with ⟨rfl, rfl⟩ | ⟨g, cap, cur, rfl, hg, hh, hc, hcm, hcs, ht⟩
    · exact ⟨none, 0, rfl, fun _ _ => ⟨hN, hk, Or.inl rfl⟩⟩
    · refine ⟨_, cap, rfl, fun W' hW' => ⟨hN, hk, Or.inr ⟨g, 0, rfl, fun i hi => ?_⟩⟩⟩
      obtain ⟨a', cap', e1, e2, _⟩ := h4 i hi
      rw [hr i hi]
      refine ⟨a', cap', ?_, sl_keep e2.1 fun x hx => hW' x ?_ (slB_lt e2.1 hx)⟩
      · rw [cell_of_row W' g (0 + i) cur 50 (0, 0) ((hW' g (by omega) (Array.getElem?_eq_some_iff.1 hh).1).trans hh), Nat.zero_add]
        have h3 : (cur.toList.take (k * 1))[i]? = vals[i]? := by rw [ht]
        rw [List.getElem?_take, if_pos (by omega), Array.getElem?_toList] at h3
        rw [h3, e1]
      · obtain ⟨_, ad, e, rfl⟩ := hx
        have := e2.2 ad e
        omega
  have hEv : ∃ a c, vE = .slice a k c ∧ ∀ W' : World, (∀ x, wb.heap.size < x → x < W.heap.size → W'.heap[x]? = W.heap[x]?) → SlB W' a k E := by
    obtain ⟨h0, h1⟩ := h3
    rcases h1 with ⟨rfl, rfl⟩ | ⟨g, cap, cur, rfl, hg, hh, hc, hcm, hcs, ht⟩
    · exact ⟨none, 0, rfl, fun _ _ => ⟨hE, hk, Or.inl rfl⟩⟩
    · refine ⟨_, cap, rfl, fun W' hW' => ⟨hE, hk, Or.inr ⟨g, 0, rfl, fun i hi => ?_⟩⟩⟩
      rw [cell_of_row W' g (0 + i) cur 4 (0, 0) ((hW' g (by omega) (Array.getElem?_eq_some_iff.1 hh).1).trans hh), Nat.zero_add]
      have h3 : (cur.toList.take (k * 1))[i]? = ((List.range k).map fun j => Value.bool (es j))[i]? := by rw [ht]
      rw [List.getElem?_take, if_pos (by omega), Array.getElem?_toList] at h3
      rw [h3, he i hi]
      simp [hi]
  obtain ⟨a, c, rfl, hs⟩ := hNv
  obtain ⟨a', c', rfl, hs'⟩ := hEv
  exact ⟨a, c, a', c', h1, h5, fun W' hW' => ⟨hs W' hW', hs' W' hW'⟩⟩
/-- An automaton in new memory: what reads it looks at no block that was there in w. -/
def AutoNew (w : World) (a : Option Addr) (k : Nat) (N : List (List Int)) (a' : Option Addr) (E : List Bool) (W : World) : Prop := ∀ W' : World, (∀ x, w.heap.size ≤ x → x < W.heap.size → W'.heap[x]? = W.heap[x]?) → Sl2 W' a k N ∧ SlB W' a' k E
theorem AutoNew.here {w : World} {a : Option Addr} {k : Nat} {N : List (List Int)} {a' : Option Addr} {E : List Bool} {W : World} (h : AutoNew w a k N a' E W) : Sl2 W a k N ∧ SlB W a' k E := h W (fun _ _ _ => rfl)
theorem AutoNew.below {w : World} {a : Option Addr} {k : Nat} {N : List (List Int)} {a' : Option Addr} {E : List Bool} {W W2 : World} (h : AutoNew w a k N a' E W) (hb : Below W.heap.size W W2) : AutoNew w a k N a' E W2 := fun W' hW' => h W' fun x h1 h2 => (hW' x h1 (Nat.lt_of_lt_of_le h2 hb.size)).trans (hb.block x h2)
theorem set_all {W : World} {B : Nat} {u0 u1 u2 u3 v0 v1 v2 v3 : Value} {T : TypeId} (h : W.heap[B]? = some (.cells #[u0, u1, u2, u3] T (0, 0))) :
    ((((W.setCell ⟨B, 0, none⟩ v0).setCell ⟨B, 1, none⟩ v1).setCell ⟨B, 2, none⟩ v2).setCell ⟨B, 3, none⟩ v3).heap[B]? = some (.cells #[v0, v1, v2, v3] T (0, 0)) := by
  simp [World.setCell, Array.getElem?_modify, h]
/-- A box of four cells that is written anew. -/
theorem box_set {W : World} {B : Nat} {u0 u1 u2 u3 v0 v1 v2 v3 : Value} {T : TypeId} (h : W.heap[B]? = some (.cells #[u0, u1, u2, u3] T (0, 0))) {W' : World} (e : W' = (((W.setCell ⟨B, 0, none⟩ v0).setCell ⟨B, 1, none⟩ v1).setCell ⟨B, 2, none⟩ v2).setCell ⟨B, 3, none⟩ v3) :
    (W'.heap[B]? = some (.cells #[v0, v1, v2, v3] T (0, 0)) ∧ W'.heap.size = W.heap.size ∧ ∀ x, x ≠ B → W'.heap[x]? = W.heap[x]?) ∧ ∀ (w : World) (k : Nat), Below k w W → k ≤ B → Below k w W' := by
  subst e
  refine ⟨⟨set_all h, by simp [World.setCell], fun x hx => ?_⟩, fun w k hb hk => (((hb.setCell hk _).setCell hk _).setCell hk _).setCell hk _⟩
  rw [Below.heap_setCell _ _ _ _ hx, Below.heap_setCell _ _ _ _ hx, Below.heap_setCell _ _ _ _ hx, Below.heap_setCell _ _ _ _ hx]
theorem box_cells {W : World} {B : Nat} {v0 v1 v2 v3 : Value} {T : TypeId} (h : W.heap[B]? = some (.cells #[v0, v1, v2, v3] T (0, 0))) :
    (W.cell? ⟨B, 0, none⟩ = some v0 ∧ W.cell? ⟨B, 1, none⟩ = some v1 ∧ W.cell? ⟨B, 2, none⟩ = some v2 ∧ W.cell? ⟨B, 3, none⟩ = some v3) ∧ ∀ i, W.frozen? ⟨B, i, none⟩ = false := by
  refine ⟨⟨?_, ?_, ?_, ?_⟩, fun i => ?_⟩ <;> simp [World.cell?, World.frozen?, h]
end Go.Proofs.YtihhlddbppljpacDoor
