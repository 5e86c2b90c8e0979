/- An automaton that a call builds beside blocks that turn meanwhile: these are put out of sight. -/
import Derived.Test.YtihhlddbppljpacDoorBo
import Derived.Test.YtihhlddbppljpacDoorMp
namespace Go.Proofs.YtihhlddbppljpacDoor
open Go.RowKit

/-- The world with these blocks out of sight. -/
def maskW (X : List Nat) (W : World) : World := { W with heap := W.heap.mapIdx fun i o => if i ∈ X then .map #[] 0 else o }
theorem mask_size (X : List Nat) (W : World) : (maskW X W).heap.size = W.heap.size := by simp [maskW]
theorem mask_out {X : List Nat} {x : Nat} (hx : ¬ x ∈ X) (W : World) : (maskW X W).heap[x]? = W.heap[x]? := by
  simp [maskW, hx]
theorem mask_in {X : List Nat} {x : Nat} (hx : x ∈ X) (W : World) (cs : Array Value) (T : TypeId) (f : Nat × Nat) : (maskW X W).heap[x]? ≠ some (.cells cs T f) := by
  simp [maskW, hx]
theorem mask_cells {X : List Nat} {x : Nat} {W : World} {cs : Array Value} {T : TypeId} {f : Nat × Nat} (h : (maskW X W).heap[x]? = some (.cells cs T f)) : ¬ x ∈ X ∧ W.heap[x]? = some (.cells cs T f) := by
  have hx : ¬ x ∈ X := fun hx => mask_in hx W cs T f h
  exact ⟨hx, by rwa [mask_out hx] at h⟩
theorem cell_block {W : World} {p : Addr} {v : Value} (h : W.cell? p = some v) : ∃ cs T f, W.heap[p.block]? = some (.cells cs T f) := by
  unfold World.cell? at h
  split at h
  · exact ⟨_, _, _, by assumption⟩
  · cases h
theorem mask_cell {X : List Nat} {W : World} {p : Addr} {v : Value} (h : (maskW X W).cell? p = some v) : ¬ p.block ∈ X ∧ W.cell? p = some v := by
  obtain ⟨cs, T, f, hc⟩ := cell_block h
  obtain ⟨h1, h2⟩ := mask_cells hc
  refine ⟨h1, ?_⟩
  rw [← h]
  exact (World.cell?_of_block (mask_out h1 W)).symm
theorem mask_below {X : List Nat} {B : Nat} {w W : World} (h : Below B w W) (hX : ∀ x ∈ X, B ≤ x) : Below B w (maskW X W) :=
  ⟨h.os, h.tape, h.output, by rw [mask_size]; exact h.size, fun k hk => by rw [mask_out (fun hx => by have := hX k hx; omega)]; exact h.block k hk⟩
theorem mask_belows {X : List Nat} {B : Nat} {w W : World} (hs : w.heap.size ≤ W.heap.size) (hos : W.os = w.os) (htp : W.tape = w.tape) (hou : W.output = w.output) (h : ∀ x, x < B → ¬ x ∈ X → W.heap[x]? = w.heap[x]?) (hB : B ≤ w.heap.size) : Below B (maskW X w) (maskW X W) := by
  refine ⟨hos, htp, hou, by rw [mask_size, mask_size]; exact hs, fun k hk => ?_⟩
  by_cases hx : k ∈ X
  · simp only [maskW, Array.getElem?_mapIdx, hx, if_true]
    rw [Array.getElem?_eq_getElem (show k < W.heap.size by omega), Array.getElem?_eq_getElem (show k < w.heap.size by omega)]
    rfl
  · rw [mask_out hx, mask_out hx, h k hk hx]
theorem mask_owns {X : List Nat} {W : World} {base : Nat} {e : TypeId} {v : Value} {n : Nat} {xs : List Value} (h : (maskW X W).ownsRow base e 1 v n xs) : W.ownsRow base e 1 v n xs ∧ ∀ x, v.ownBlock = some x → ¬ x ∈ X := by
  obtain ⟨h0, h1⟩ := h
  rcases h1 with ⟨rfl, rfl⟩ | ⟨g, cap, cur, rfl, hg, hh, hr⟩
  · exact ⟨⟨h0, .inl ⟨rfl, rfl⟩⟩, fun x hx => by simp [Value.ownBlock] at hx⟩
  · obtain ⟨k1, k2⟩ := mask_cells hh
    refine ⟨⟨h0, .inr ⟨g, cap, cur, rfl, hg, k2, hr⟩⟩, fun x hx => ?_⟩
    simp [Value.ownBlock] at hx
    subst hx; exact k1
theorem owns_mask {X : List Nat} {W : World} {base : Nat} {e : TypeId} {v : Value} {n : Nat} {xs : List Value} (h : W.ownsRow base e 1 v n xs) (hX : ∀ x, v.ownBlock = some x → ¬ x ∈ X) : (maskW X W).ownsRow base e 1 v n xs := ownsRow_of_block h fun x hx => mask_out (hX x hx) W
theorem mask_sl {X : List Nat} {W : World} {a : Option Addr} {len : Nat} {l : List Int} (h : Sl (maskW X W) a len l) : Sl W a len l := by
  obtain ⟨h1, h2, h3, h4⟩ := h
  refine ⟨h1, h2, h3, ?_⟩
  rcases h4 with h4 | ⟨b, o, rfl, hc⟩
  · exact .inl h4
  · exact .inr ⟨b, o, rfl, fun i hi => (mask_cell (hc i hi)).2⟩
theorem mask_sl2 {X : List Nat} {W : World} {a : Option Addr} {len : Nat} {l : List (List Int)} (h : Sl2 (maskW X W) a len l) : Sl2 W a len l := by
  obtain ⟨h1, h2, h4⟩ := h
  refine ⟨h1, h2, ?_⟩
  rcases h4 with h4 | ⟨b, o, rfl, hc⟩
  · exact .inl h4
  · refine .inr ⟨b, o, rfl, fun i hi => ?_⟩
    obtain ⟨a', c', e1, e2⟩ := hc i hi
    exact ⟨a', c', (mask_cell e1).2, mask_sl e2⟩
theorem mask_slB {X : List Nat} {W : World} {a : Option Addr} {len : Nat} {l : List Bool} (h : SlB (maskW X W) a len l) : SlB W a len l := by
  obtain ⟨h1, h2, h4⟩ := h
  refine ⟨h1, h2, ?_⟩
  rcases h4 with h4 | ⟨b, o, rfl, hc⟩
  · exact .inl h4
  · exact .inr ⟨b, o, rfl, fun i hi => (mask_cell (hc i hi)).2⟩

/-- What is built hangs on blocks of cells alone. -/
theorem outAt_cells {wb : World} {b t : Int} {rows : Nat → List Int} {es : Nat → Bool} {qn qe : Nat} {W W2 : World} (h : OutAt wb b t rows es qn qe W) (hc : ∀ (x : Nat) (cs : Array Value) (T : TypeId) (f : Nat × Nat), W.heap[x]? = some (Obj.cells cs T f) → W2.heap[x]? = W.heap[x]?) (hb : Below wb.heap.size wb W2) : OutAt wb b t rows es qn qe W2 := by
  obtain ⟨vN, vE, vals, h1, h2, h3, h4, -⟩ := h
  have hown : ∀ {e : TypeId} {v : Value} {n : Nat} {xs : List Value}, W.ownsRow (wb.heap.size + 1) e 1 v n xs → W2.ownsRow (wb.heap.size + 1) e 1 v n xs := fun {e v n xs} h => ownsRow_of_block h fun x hx => by
    rcases h.2 with ⟨rfl, _⟩ | ⟨g, cap, cur, rfl, _, hh, _⟩
    · simp [Value.ownBlock] at hx
    · simp [Value.ownBlock] at hx
      subst hx
      exact hc _ _ _ _ hh
  refine ⟨vN, vE, vals, (hc _ _ _ _ h1).trans h1, hown h2, hown h3, fun j hj => ?_, hb⟩
  obtain ⟨a, cap, e1, e2, e3⟩ := h4 j hj
  refine ⟨a, cap, e1, ⟨sl_keep e2.1 fun x hx => ?_, e2.2⟩, e3⟩
  obtain ⟨h0, ad, rfl, rfl⟩ := hx
  obtain ⟨b', o, e, hcl⟩ := sl_cell e2.1 0 h0
  cases e
  obtain ⟨cs, T, f, hh⟩ := cell_block hcl
  exact hc _ _ _ _ hh

/-- .. built, and none of X belongs to it. -/
def OutX (wb : World) (b t : Int) (rows : Nat → List Int) (es : Nat → Bool) (qn qe : Nat) (X : List Nat) (W : World) : Prop := OutAt wb b t rows es qn qe (maskW X W) ∧ Below wb.heap.size wb W ∧ ∀ x ∈ X, wb.heap.size < x
theorem outX_turn {wb : World} {b t : Int} {rows : Nat → List Int} {es : Nat → Bool} {qn qe : Nat} {X X' : List Nat} {W W2 : World} (h : OutX wb b t rows es qn qe X W) (hk : ∀ x, x < W.heap.size → ¬ x ∈ X → W2.heap[x]? = W.heap[x]?) (hX : ∀ x ∈ X', x ∈ X ∨ W.heap.size ≤ x) (hb : Below wb.heap.size wb W2) (hX2 : ∀ x ∈ X', wb.heap.size < x) : OutX wb b t rows es qn qe X' W2 := by
  refine ⟨outAt_cells h.1 (fun x cs T f hx => ?_) (mask_below hb fun x hx => Nat.le_of_lt (hX2 x hx)), hb, hX2⟩
  obtain ⟨h1, h2⟩ := mask_cells hx
  have hlt := (Array.getElem?_eq_some_iff.1 h2).1
  rw [mask_out (fun hx' => by rcases hX x hx' with h | h; exact h1 h; omega), mask_out h1, hk x hlt h1]
theorem outX_start (wb : World) (b t : Int) (rows : Nat → List Int) (es : Nat → Bool) : OutX wb b t rows es 0 0 [] (wb.alloc (.cells #[.int .i64 b, .int .i64 t, .slice none 0 0, .slice none 0 0] 25)) := by
  have h := outAt_start wb b t rows es
  refine ⟨outAt_cells h (fun x cs T f hx => mask_out (by simp) _) (mask_below ((Below.refl _ _).alloc (Nat.le_refl _) _) (by simp)), (Below.refl _ _).alloc (Nat.le_refl _) _, by simp⟩
/-- A store into a block in sight. -/
theorem mask_set {X : List Nat} {W : World} {a : Addr} (ha : ¬ a.block ∈ X) (v : Value) (x : Nat) : (maskW X (W.setCell a v)).heap[x]? = ((maskW X W).setCell a v).heap[x]? := by
  by_cases hx : x = a.block
  · subst hx
    rw [mask_out ha]
    simp only [World.setCell, Array.getElem?_modify, if_true]
    rw [mask_out ha]
  · rw [Below.heap_setCell _ _ _ _ hx]
    by_cases hX : x ∈ X
    · simp only [maskW, Array.getElem?_mapIdx, hX, if_true]
      rw [Below.heap_setCell _ _ _ _ hx]
    · rw [mask_out hX, mask_out hX, Below.heap_setCell _ _ _ _ hx]
theorem mask_grown {X : List Nat} {W2 w3 : World} {o : Obj} {r : Option Nat} (hX : ∀ x ∈ X, x < W2.heap.size) (h : (W2.alloc o).grownBy w3 r) : ((maskW X W2).alloc o).grownBy (maskW X w3) r := by
  have hs := h.size
  rw [World.size_alloc] at hs
  refine ⟨h.os, h.tape, h.output, by rw [World.size_alloc, mask_size, mask_size]; exact hs, fun k hk hne => ?_⟩
  rw [World.size_alloc, mask_size] at hk
  by_cases hx : k ∈ X
  · have := hX k hx
    rw [Below.heap_alloc _ _ _ (by rw [mask_size]; exact this)]
    simp only [maskW, Array.getElem?_mapIdx, hx, if_true]
    rw [Array.getElem?_eq_getElem (show k < w3.heap.size by omega), Array.getElem?_eq_getElem this]
    rfl
  · rw [mask_out hx, h.block k (by rw [World.size_alloc]; exact hk) hne]
    by_cases e : k < W2.heap.size
    · rw [Below.heap_alloc _ _ _ e, Below.heap_alloc _ _ _ (by rw [mask_size]; exact e), mask_out hx]
    · obtain rfl : k = W2.heap.size := by omega
      have h2 := heap_alloc_last (maskW X W2) o
      rw [mask_size] at h2
      rw [heap_alloc_last, h2]

/-- One row more. -/
theorem outX_N {wb : World} {b t : Int} {rows : Nat → List Int} {es : Nat → Bool} {q qe : Nat} {X : List Nat} {W W2 : World} {br cr : Nat} (hW : OutX wb b t rows es q qe X W) (hb : Below W.heap.size (maskW X W) (maskW X W2)) (hB2 : Below wb.heap.size wb W2) (hs : Sl W2 (some ⟨br, 0, none⟩) (rows q).length (rows q)) (hbr : ¬ br ∈ X) (hbl : W.heap.size ≤ br) (hXlt : ∀ x ∈ X, x < W2.heap.size) :
    ∃ (vN : Value) (vals : List Value), W2.cell? ⟨wb.heap.size, 2, none⟩ = some vN ∧ W2.ownsRow (wb.heap.size + 1) 50 1 vN q vals ∧ wb.heap.size + 1 ≤ W2.heap.size ∧
      ∀ (w3 : World) (o : Obj) (g' cap' : Nat), w3.ownsRow (wb.heap.size + 1) 50 1 (.slice (some ⟨g', 0, none⟩) (q + 1) cap') (q + 1) (vals ++ [.slice (some ⟨br, 0, none⟩) (rows q).length cr]) → (W2.alloc o).grownBy w3 vN.ownBlock → (vN.ownBlock = some g' ∨ g' = W2.heap.size + 1) →
        (w3.cell? ⟨wb.heap.size, 2, none⟩ = some vN ∧ w3.frozen? ⟨wb.heap.size, 2, none⟩ = false) ∧ OutX wb b t rows es (q + 1) qe X (w3.setCell ⟨wb.heap.size, 2, none⟩ (.slice (some ⟨g', 0, none⟩) (q + 1) cap')) ∧ ∀ x, (x ∈ X ∨ (x < wb.heap.size)) → (w3.setCell ⟨wb.heap.size, 2, none⟩ (.slice (some ⟨g', 0, none⟩) (q + 1) cap')).heap[x]? = W2.heap[x]? := by
  obtain ⟨vN, vals, c1, c2, c3, c4⟩ := @outAt_N wb b t rows es q qe (maskW X W) (maskW X W2) (some ⟨br, 0, none⟩) cr hW.1 (by rw [mask_size]; exact hb) ⟨sl_keep hs (fun x hx => by obtain ⟨_, ad, e, rfl⟩ := hx; cases e; exact mask_out hbr _), fun ad e => by cases e; rw [mask_size]; exact hbl⟩
  obtain ⟨-, d1⟩ := mask_cell c1
  obtain ⟨d2, d3⟩ := mask_owns c2
  refine ⟨vN, vals, d1, d2, by rwa [mask_size] at c3, fun w3 o g' cap' hown hgrow hat => ?_⟩
  have hg' : ¬ g' ∈ X := by
    rcases hat with e | e
    · exact d3 g' e
    · intro hx; have := hXlt g' hx; omega
  obtain ⟨⟨f1, f2⟩, f3⟩ := c4 (maskW X w3) o g' cap' (owns_mask hown (fun x hx => by simp [Value.ownBlock] at hx; subst hx; exact hg')) (mask_grown hXlt hgrow) (by rw [mask_size]; exact hat)
  obtain ⟨e1, e2⟩ := mask_cell f1
  have hbel : Below wb.heap.size wb (w3.setCell ⟨wb.heap.size, 2, none⟩ (.slice (some ⟨g', 0, none⟩) (q + 1) cap')) := (Below.grown (hB2.alloc hB2.size o) hgrow (by have := hB2.size; simp; omega) (fun x hx => by have := (d2.lt x hx).1; omega)).setCell (Nat.le_refl _) _
  refine ⟨⟨e2, by rw [← f2]; exact (World.frozen?_of_block (a := ⟨wb.heap.size, 2, none⟩) (mask_out e1 w3)).symm⟩, ⟨outAt_cells f3 (fun x cs T f _ => mask_set e1 _ x) (mask_below hbel fun x hx => Nat.le_of_lt (hW.2.2 x hx)), hbel, hW.2.2⟩, fun x hx => ?_⟩
  have hxs : x < W2.heap.size ∧ x ≠ wb.heap.size ∧ vN.ownBlock ≠ some x := by
    rcases hx with hx | hx
    · exact ⟨hXlt x hx, by have := hW.2.2 x hx; omega, fun e => d3 x e hx⟩
    · exact ⟨by have := hB2.size; omega, by omega, fun e => by have := (d2.lt x e).1; omega⟩
  rw [Below.heap_setCell _ _ _ _ hxs.2.1, hgrow.block x (by simp; omega) (fun e => hxs.2.2 e.symm), Below.heap_alloc _ _ _ hxs.1]
/-- One end more. -/
theorem outX_E {wb : World} {b t : Int} {rows : Nat → List Int} {es : Nat → Bool} {qn q : Nat} {X : List Nat} {W2 : World} (hW : OutX wb b t rows es qn q X W2) (hXlt : ∀ x ∈ X, x < W2.heap.size) :
    ∃ (vE : Value), W2.cell? ⟨wb.heap.size, 3, none⟩ = some vE ∧ W2.ownsRow (wb.heap.size + 1) 4 1 vE q ((List.range q).map fun j => Value.bool (es j)) ∧ wb.heap.size + 1 ≤ W2.heap.size ∧
      ∀ (w3 : World) (o : Obj) (g' cap' : Nat), w3.ownsRow (wb.heap.size + 1) 4 1 (.slice (some ⟨g', 0, none⟩) (q + 1) cap') (q + 1) (((List.range q).map fun j => Value.bool (es j)) ++ [.bool (es q)]) → (W2.alloc o).grownBy w3 vE.ownBlock → (vE.ownBlock = some g' ∨ g' = W2.heap.size + 1) →
        (w3.cell? ⟨wb.heap.size, 3, none⟩ = some vE ∧ w3.frozen? ⟨wb.heap.size, 3, none⟩ = false) ∧ OutX wb b t rows es qn (q + 1) X (w3.setCell ⟨wb.heap.size, 3, none⟩ (.slice (some ⟨g', 0, none⟩) (q + 1) cap')) ∧ ∀ x, (x ∈ X ∨ (x < wb.heap.size)) → (w3.setCell ⟨wb.heap.size, 3, none⟩ (.slice (some ⟨g', 0, none⟩) (q + 1) cap')).heap[x]? = W2.heap[x]? := by
  have hB2 := hW.2.1
  obtain ⟨vN, c1, c2, c3, c4⟩ := outAt_E hW.1
  obtain ⟨-, d1⟩ := mask_cell c1
  obtain ⟨d2, d3⟩ := mask_owns c2
  refine ⟨vN, d1, d2, by rwa [mask_size] at c3, fun w3 o g' cap' hown hgrow hat => ?_⟩
  have hg' : ¬ g' ∈ X := by
    rcases hat with e | e
    · exact d3 g' e
    · intro hx; have := hXlt g' hx; omega
  obtain ⟨⟨f1, f2⟩, f3⟩ := c4 (maskW X w3) o g' cap' (owns_mask hown (fun x hx => by simp [Value.ownBlock] at hx; subst hx; exact hg')) (mask_grown hXlt hgrow) (by rw [mask_size]; exact hat)
  obtain ⟨e1, e2⟩ := mask_cell f1
  have hbel : Below wb.heap.size wb (w3.setCell ⟨wb.heap.size, 3, none⟩ (.slice (some ⟨g', 0, none⟩) (q + 1) cap')) := (Below.grown (hB2.alloc hB2.size o) hgrow (by have := hB2.size; simp; omega) (fun x hx => by have := (d2.lt x hx).1; omega)).setCell (Nat.le_refl _) _
  refine ⟨⟨e2, by rw [← f2]; exact (World.frozen?_of_block (a := ⟨wb.heap.size, 3, none⟩) (mask_out e1 w3)).symm⟩, ⟨outAt_cells f3 (fun x cs T f _ => mask_set e1 _ x) (mask_below hbel fun x hx => Nat.le_of_lt (hW.2.2 x hx)), hbel, hW.2.2⟩, fun x hx => ?_⟩
  have hxs : x < W2.heap.size ∧ x ≠ wb.heap.size ∧ vN.ownBlock ≠ some x := by
    rcases hx with hx | hx
    · exact ⟨hXlt x hx, by have := hW.2.2 x hx; omega, fun e => d3 x e hx⟩
    · exact ⟨by have := hB2.size; omega, by omega, fun e => by have := (d2.lt x e).1; omega⟩
  rw [Below.heap_setCell _ _ _ _ hxs.2.1, hgrow.block x (by simp; omega) (fun e => hxs.2.2 e.symm), Below.heap_alloc _ _ _ hxs.1]
/-- What it is in the end. -/
theorem outX_end {wb : World} {b t : Int} {rows : Nat → List Int} {es : Nat → Bool} {k : Nat} {X : List Nat} {W : World} (h : OutX wb b t rows es k k X W) (hk : k ≤ maxLen) (N : List (List Int)) (hN : N.length = k) (hr : ∀ j, j < k → N.getD j [] = rows j) (E : List Bool) (hE : E.length = k) (he : ∀ j, j < k → E.getD j false = es j) :
    ∃ a c a' c', W.heap[wb.heap.size]? = some (.cells #[.int .i64 b, .int .i64 t, .slice a k c, .slice a' k c'] 25 (0, 0)) ∧ Below wb.heap.size wb W ∧ ∀ W' : World, (∀ x, wb.heap.size < x → x < W.heap.size → W'.heap[x]? = W.heap[x]?) → Sl2 W' a k N ∧ SlB W' a' k E := by
  obtain ⟨a, c, a', c', h1, h2, h3⟩ := outAt_end h.1 hk N hN hr E hE he
  refine ⟨a, c, a', c', (mask_cells h1).2, h.2.1, fun W' hW' => ?_⟩
  obtain ⟨r1, r2⟩ := h3 (maskW X W') (fun x hx hl => by
    rw [mask_size] at hl
    by_cases hX : x ∈ X
    · simp only [maskW, Array.getElem?_mapIdx, hX, if_true]
      rw [hW' x hx hl]
    · rw [mask_out hX, mask_out hX, hW' x hx hl])
  exact ⟨mask_sl2 r1, mask_slB r2⟩
end Go.Proofs.YtihhlddbppljpacDoor
