/- Slices of slices of numbers: as they are read, and as a call builds them. -/
import Derived.Test.YtdfgeihlpkpknabLs
import Derived.Deep.AppendLies
import Derived.OneCell
namespace Go.Proofs.Ytdfgeihlpkpknab
open Go.RowKit

/-- The slice reads as rows of numbers. -/
def Sl2 (w : World) (a : Option Addr) (len : Nat) (ls : List (List Int)) : Prop :=
  ls.length = len ∧ len ≤ maxLen ∧
  (len = 0 ∨ ∃ b o, a = some ⟨b, o, none⟩ ∧ ∀ i, i < len → ∃ a' cap', w.cell? ⟨b, o + i, none⟩ = some (.slice a' (ls.getD i []).length cap') ∧ Sl w a' (ls.getD i []).length (ls.getD i []))

theorem sl2_below {w W : World} {a : Option Addr} {len : Nat} {ls : List (List Int)} (h : Sl2 w a len ls) (hb : Below w.heap.size w W) : Sl2 W a len ls := by
  obtain ⟨h1, h2, h3⟩ := h
  refine ⟨h1, h2, ?_⟩
  rcases h3 with h3 | ⟨b, o, rfl, hc⟩
  · exact Or.inl h3
  · refine Or.inr ⟨b, o, rfl, fun i hi => ?_⟩
    obtain ⟨a', cap', h4, h5⟩ := hc i hi
    refine ⟨a', cap', ?_, sl_below h5 hb⟩
    rw [hb.cell (p := ⟨b, o + i, none⟩) (World.block_lt_of_cell? w _ h4)]
    exact h4

theorem sl2_cell {w : World} {a : Option Addr} {len : Nat} {ls : List (List Int)} (h : Sl2 w a len ls) (i : Nat) (hi : i < len) :
    ∃ b o a' cap', a = some ⟨b, o, none⟩ ∧ w.cell? ⟨b, o + i, none⟩ = some (.slice a' (ls.getD i []).length cap') ∧ Sl w a' (ls.getD i []).length (ls.getD i []) := by
  rcases h.2.2 with h0 | ⟨b, o, rfl, hc⟩
  · omega
  · obtain ⟨a', cap', h4, h5⟩ := hc i hi
    exact ⟨b, o, a', cap', rfl, h4, h5⟩

theorem ownsRow_of_block {w w' : World} {base : Nat} {e : TypeId} {size : Nat} {v : Value} {n : Nat} {xs : List Value} (h : w.ownsRow base e size v n xs) (hb : ∀ k, v.ownBlock = some k → w'.heap[k]? = w.heap[k]?) : w'.ownsRow base e size v n xs := by
  obtain ⟨h1, h2⟩ := h
  refine ⟨h1, ?_⟩
  rcases h2 with h2 | ⟨g, cap, cur, rfl, hg, hh, r⟩
  · exact Or.inl h2
  · exact Or.inr ⟨g, cap, cur, rfl, hg, by rw [hb g rfl]; exact hh, r⟩

/-- The block of a slice that is not empty. -/
def slB (a : Option Addr) (len : Nat) (x : Nat) : Prop := 0 < len ∧ ∃ ad, a = some ad ∧ ad.block = x
theorem sl_keep {w w' : World} {a : Option Addr} {len : Nat} {l : List Int} (h : Sl w a len l) (hb : ∀ x, slB a len x → w'.heap[x]? = w.heap[x]?) : Sl w' a len l := by
  obtain ⟨h1, h2, h3, h4⟩ := h
  refine ⟨h1, h2, h3, ?_⟩
  rcases h4 with h4 | ⟨b, o, rfl, hc⟩
  · exact Or.inl h4
  · refine Or.inr ⟨b, o, rfl, fun i hi => ?_⟩
    rw [World.cell?_of_block (w := w) (hb b ⟨by omega, _, rfl, rfl⟩)]
    exact hc i hi
theorem slB_lt {w : World} {a : Option Addr} {len : Nat} {l : List Int} (h : Sl w a len l) {x : Nat} (hx : slB a len x) : x < w.heap.size := by
  obtain ⟨h0, ad, rfl, rfl⟩ := hx
  obtain ⟨b, o, e, hc⟩ := sl_cell h 0 h0
  cases e
  exact World.block_lt_of_cell? w _ hc

/-- Rows that the call builds: block g holds t slices, each owning its numbers, none in another one's block, nor in one of ex. -/
def Own2 (base : Nat) (w : World) (g t : Nat) (ls : Nat → List Int) (ex : Nat → Prop) : Prop :=
  base ≤ g ∧ ∃ V : Nat → Value, w.rowIs g 26 t V ∧
    (∀ i, i < t → w.ownsRow base 3 1 (V i) (ls i).length ((ls i).map (Value.int .i64))) ∧
    (∀ i, i < t → (V i).ownBlock ≠ some g) ∧
    (∀ i j, i < t → j < t → i ≠ j → (V i).ownBlock = (V j).ownBlock → (V i).ownBlock = none) ∧
    (∀ x, ex x → x < w.heap.size ∧ x ≠ g ∧ ∀ i, i < t → (V i).ownBlock ≠ some x)

theorem own2_made (w : World) (t : Nat) : Own2 w.heap.size (w.alloc (.cells (madeCells #[.slice none 0 0] t) 26)) w.heap.size t (fun _ => []) (fun _ => False) :=
  ⟨Nat.le_refl _, fun _ => .slice none 0 0, World.rowIs_made w _ t _, fun _ _ => World.ownsRow_nil _ _ _ _, fun _ _ => by simp [Value.ownBlock], fun _ _ _ _ _ _ => rfl, fun _ h => h.elim⟩

theorem own2_congr {base : Nat} {w : World} {g t : Nat} {ls ls' : Nat → List Int} {ex : Nat → Prop} (h : Own2 base w g t ls ex) (e : ∀ i, i < t → ls i = ls' i) : Own2 base w g t ls' ex := by
  obtain ⟨hg, V, h1, h2, h3⟩ := h
  exact ⟨hg, V, h1, fun i hi => by rw [← e i hi]; exact h2 i hi, h3⟩

theorem own2_below {base : Nat} {w w' : World} {g t : Nat} {ls : Nat → List Int} {ex ex' : Nat → Prop} (h : Own2 base w g t ls ex) (hb : Below w.heap.size w w') (he : ∀ x, ex' x → w.heap.size ≤ x ∧ x < w'.heap.size) : Own2 base w' g t ls ex' := by
  obtain ⟨hg, V, h1, h2, h3, h4, h5⟩ := h
  refine ⟨hg, V, h1.of_block (hb.block _ h1.lt), fun i hi => ownsRow_of_block (h2 i hi) (fun k hk => hb.block _ ((h2 i hi).lt k hk).2), h3, h4, fun x hx => ⟨(he x hx).2, ?_, fun i hi e => ?_⟩⟩
  · have := h1.lt; have := he x hx; omega
  · have := (h2 i hi).lt x e; have := he x hx; omega

theorem own2_forget {base : Nat} {w : World} {g t : Nat} {ls : Nat → List Int} {ex : Nat → Prop} (h : Own2 base w g t ls ex) : Own2 base w g t ls (fun _ => False) := by
  obtain ⟨hg, V, h1, h2, h3, h4, h5⟩ := h
  exact ⟨hg, V, h1, h2, h3, h4, fun _ h => h.elim⟩

/-- A new block beside them. -/
theorem own2_alloc {base : Nat} {w : World} {g t : Nat} {ls : Nat → List Int} {ex : Nat → Prop} (h : Own2 base w g t ls ex) (o : Obj) : Own2 base (w.alloc o) g t ls ex := by
  obtain ⟨hg, V, h1, h2, h3, h4, h5⟩ := h
  refine ⟨hg, V, h1.alloc o, fun i hi => (h2 i hi).alloc o, h3, h4, fun x hx => ⟨?_, (h5 x hx).2⟩⟩
  have := (h5 x hx).1
  simp; omega

/-- What may be done with one of them: it is read, appended to, and stored. -/
theorem own2_push {base : Nat} {w : World} {g t : Nat} {ls : Nat → List Int} {ex : Nat → Prop} (h : Own2 base w g t ls ex) (i : Nat) (hi : i < t) :
    ∃ v, w.cell? ⟨g, i, none⟩ = some v ∧ w.ownsRow base 3 1 v (ls i).length ((ls i).map (Value.int .i64)) ∧ (∀ k, v.ownBlock = some k → base ≤ k) ∧
      ∀ (w1 w' : World) (o : Obj) (g' cap' : Nat) (x : Int), w1 = w.alloc o → w'.ownsRow base 3 1 (.slice (some ⟨g', 0, none⟩) ((ls i).length + 1) cap') ((ls i).length + 1) ((ls i).map (Value.int .i64) ++ [.int .i64 x]) →
        w1.grownBy w' v.ownBlock → (v.ownBlock = some g' ∨ g' = w1.heap.size) → g' < w'.heap.size →
        w'.cell? ⟨g, i, none⟩ = some v ∧ w'.frozen? ⟨g, i, none⟩ = false ∧
        Own2 base (w'.setCell ⟨g, i, none⟩ (.slice (some ⟨g', 0, none⟩) ((ls i).length + 1) cap')) g t (fun j => if j = i then ls i ++ [x] else ls j) ex ∧
        ∀ y, ex y → (w'.setCell ⟨g, i, none⟩ (.slice (some ⟨g', 0, none⟩) ((ls i).length + 1) cap')).heap[y]? = w.heap[y]? := by
  obtain ⟨hg, V, h1, h2, h3, h4, h5⟩ := h
  refine ⟨V i, h1.cell hi, h2 i hi, fun k hk => ((h2 i hi).lt k hk).1, ?_⟩
  intro w1 w' o g' cap' x hw1 hown hgrow hat hlt
  have hsz : w1.heap.size = w.heap.size + 1 := by rw [hw1]; simp
  have hblk : ∀ k, k < w.heap.size → (V i).ownBlock ≠ some k → w'.heap[k]? = w.heap[k]? := fun k hk hne => by
    rw [hgrow.block k (by omega) (fun e => hne e.symm), hw1, Below.heap_alloc _ _ _ hk]
  have hgg : w'.heap[g]? = w.heap[g]? := hblk g h1.lt (h3 i hi)
  have hg'g : g' ≠ g := by
    rcases hat with e | e
    · intro e'; subst e'; exact h3 i hi e
    · have := h1.lt; omega
  refine ⟨?_, ?_, ⟨hg, fun j => if j = i then .slice (some ⟨g', 0, none⟩) ((ls i).length + 1) cap' else V j, (h1.of_block hgg).set i _, fun j hj => ?_, fun j hj => ?_, fun j k hj hk hjk => ?_, fun y hy => ⟨?_, (h5 y hy).2.1, fun j hj => ?_⟩⟩, fun y hy => ?_⟩
  · rw [World.cell?_of_block (w := w) (a := ⟨g, i, none⟩) hgg]; exact h1.cell hi
  · rw [World.frozen?_of_block (w := w) (a := ⟨g, i, none⟩) hgg]; exact h1.frozen i
  · by_cases e : j = i
    · subst e
      simp only [if_pos]
      have : ((ls j ++ [x]).map (Value.int .i64)) = (ls j).map (Value.int .i64) ++ [.int .i64 x] := by simp
      rw [this, List.length_append, List.length_singleton]
      exact ownsRow_setCell_other hown (by simpa [Value.ownBlock] using hg'g) _
    · simp only [if_neg e]
      refine ownsRow_setCell_other (ownsRow_of_block (h2 j hj) fun k hk => hblk k ((h2 j hj).lt k hk).2 fun e' => ?_) (h3 j hj) _
      have := h4 j i hj hi e (by rw [hk, e'])
      rw [hk] at this; cases this
  · by_cases e : j = i
    · simp only [if_pos e]; simpa [Value.ownBlock] using hg'g
    · simp only [if_neg e]; exact h3 j hj
  · have key : ∀ m, m < t → m ≠ i → (V m).ownBlock ≠ some g' := fun m hm hmi e' => by
      rcases hat with e | e
      · have := h4 m i hm hi hmi (by rw [e, e']); rw [e'] at this; cases this
      · have := (h2 m hm).lt g' e'; omega
    by_cases e : j = i
    · by_cases e2 : k = i
      · omega
      · simp only [if_pos e, if_neg e2]
        intro h; exact absurd h.symm (by simpa [Value.ownBlock] using key k hk e2)
    · by_cases e2 : k = i
      · simp only [if_neg e, if_pos e2]
        intro h; exact absurd h (by simpa [Value.ownBlock] using key j hj e)
      · simp only [if_neg e, if_neg e2]
        exact h4 j k hj hk hjk
  · have := (h5 y hy).1; have := hgrow.size; simp [World.setCell]; omega
  · by_cases e : j = i
    · simp only [if_pos e]
      rcases hat with e' | e'
      · intro h; exact (h5 y hy).2.2 i hi (by rw [e']; simpa [Value.ownBlock] using h)
      · have := (h5 y hy).1
        simp [Value.ownBlock]; omega
    · simp only [if_neg e]; exact (h5 y hy).2.2 j hj
  · rw [Below.heap_setCell _ _ _ _ (by exact (h5 y hy).2.1)]
    exact hblk y (h5 y hy).1 ((h5 y hy).2.2 i hi)

theorem own2_end {base : Nat} {w : World} {g t : Nat} {ls : Nat → List Int} {ex : Nat → Prop} (h : Own2 base w g t ls ex) (ht : t ≤ maxLen) (hm : ∀ i, i < t → (ls i).length ≤ maxLen) (hwf : ∀ i, i < t → ∀ x ∈ ls i, (Lit.int .i64 x).wf = true) :
    Sl2 w (some ⟨g, 0, none⟩) t ((List.range t).map ls) := by
  obtain ⟨hg, V, h1, h2, h3⟩ := h
  refine ⟨by simp, ht, Or.inr ⟨g, 0, rfl, fun i hi => ?_⟩⟩
  have hget : ((List.range t).map ls).getD i [] = ls i := by simp [List.getD, hi]
  rw [hget, Nat.zero_add, h1.cell hi]
  obtain ⟨a, cap, hv, hs⟩ := sl_of_owns rfl (hm i hi) (hwf i hi) (h2 i hi)
  exact ⟨a, cap, by rw [hv], hs.1⟩
end Go.Proofs.Ytdfgeihlpkpknab
