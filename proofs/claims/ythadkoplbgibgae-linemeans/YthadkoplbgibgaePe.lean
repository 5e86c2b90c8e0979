/- Rows that a call builds side by side, each block with a colour: what holds between the rounds of the reference's LineOf. -/
import Derived.Deep.RegionHeldLaw
import Derived.Test.YthadkoplbgibgaeBk
import Derived.Test.YthadkoplbgibgaeZLp
import Derived.Test.YthadkoplbgibgaeZCf
import Derived.Test.YthadkoplbgibgaeZHh
import Derived.Test.YthadkoplbgibgaeZKa
namespace Go.Proofs.Ythadkoplbgibgae
open Go.RowKit

/-- New blocks bear this colour. -/
def paint (col : Nat → Nat) (s k x : Nat) : Nat := if x < s then col x else k
theorem paint_old {col : Nat → Nat} {s k x : Nat} (h : x < s) : paint col s k x = col x := by unfold paint; rw [if_pos h]
theorem paint_new {col : Nat → Nat} {s k x : Nat} (h : ¬ x < s) : paint col s k x = k := by unfold paint; rw [if_neg h]
/-- A row of its own, in a block of this colour. -/
structure OwC (base : Nat) (col : Nat → Nat) (k : Nat) (W : World) (e : TypeId) (v : Value) (xs : List Value) : Prop where
  own : W.ownsRow base e 1 v xs.length xs
  clr : ∀ x, v.ownBlock = some x → col x = k
/-- Blocks of other colours are as they were. -/
structure KeptC (col : Nat → Nat) (k : Nat) (W W' : World) : Prop where
  size : W.heap.size ≤ W'.heap.size
  block : ∀ x, x < W.heap.size → col x ≠ k → W'.heap[x]? = W.heap[x]?
theorem owC_nil (base : Nat) (col : Nat → Nat) (k : Nat) (W : World) (e : TypeId) : OwC base col k W e (.slice none 0 0) [] := ⟨World.ownsRow_nil _ _ _ _, fun x hx => by simp [Value.ownBlock] at hx⟩
theorem owC_push {base : Nat} {col : Nat → Nat} {k : Nat} {W w3 : World} {e : TypeId} {v y : Value} {xs : List Value} {o : Obj} {n g' cap' : Nat} (h : OwC base col k W e v xs) (hn : xs.length = n) (hown : w3.ownsRow base e 1 (.slice (some ⟨g', 0, none⟩) (n + 1) cap') (n + 1) (xs ++ [y])) (hgrow : (W.alloc o).grownBy w3 v.ownBlock) (hat : v.ownBlock = some g' ∨ g' = W.heap.size + 1) :
    OwC base (paint col W.heap.size k) k w3 e (.slice (some ⟨g', 0, none⟩) (n + 1) cap') (xs ++ [y]) ∧ KeptC col k W w3 := by
  have s3 := hgrow.size
  rw [World.size_alloc] at s3
  refine ⟨⟨by rw [List.length_append, List.length_singleton, hn]; exact hown, fun x hx => ?_⟩, ⟨by omega, fun x hx hc => ?_⟩⟩
  · have e1 : g' = x := by simpa [Value.ownBlock] using hx
    subst e1
    rcases hat with h1 | h1
    · rw [paint_old (h.own.lt _ h1).2]; exact h.clr _ h1
    · rw [paint_new (by omega)]
  · rw [hgrow.block x (by rw [World.size_alloc]; omega) (fun e => hc (h.clr x e.symm)), Below.heap_alloc _ _ _ hx]
theorem owC_keep {base : Nat} {col : Nat → Nat} {j k : Nat} {W W' : World} {e : TypeId} {v : Value} {xs : List Value} (h : OwC base col j W e v xs) (hk : KeptC col k W W') (hj : j ≠ k) : OwC base (paint col W.heap.size k) j W' e v xs :=
  ⟨ownsRow_of_block h.own (fun x hx => hk.block x (h.own.lt x hx).2 (by rw [h.clr x hx]; exact hj)), fun x hx => by rw [paint_old (h.own.lt x hx).2]; exact h.clr x hx⟩
/-- Rows of numbers that were gathered. -/
def RowsC (col : Nat → Nat) (k : Nat) (W : World) (rows : Nat → List Int) (q : Nat) (vals : List Value) : Prop := vals.length = q ∧ ∀ j, j < q → ∃ g cap, vals[j]? = some (.slice (some ⟨g, 0, none⟩) (rows j).length cap) ∧ Sl W (some ⟨g, 0, none⟩) (rows j).length (rows j) ∧ col g = k ∧ g < W.heap.size
theorem sl_block {W W' : World} {g len : Nat} {l : List Int} (h : Sl W (some ⟨g, 0, none⟩) len l) (hk : W'.heap[g]? = W.heap[g]?) : Sl W' (some ⟨g, 0, none⟩) len l := sl_keep h fun x hx => by
  obtain ⟨_, ad, e, rfl⟩ := hx
  cases e
  exact hk
theorem rowsC_keep {col : Nat → Nat} {j k : Nat} {W W' : World} {rows : Nat → List Int} {q : Nat} {vals : List Value} (h : RowsC col j W rows q vals) (hk : KeptC col k W W') (hj : j ≠ k) : RowsC (paint col W.heap.size k) j W' rows q vals :=
  ⟨h.1, fun i hi => by
    obtain ⟨g, cap, e1, e2, e3, e4⟩ := h.2 i hi
    exact ⟨g, cap, e1, sl_block e2 (hk.block g e4 (by rw [e3]; exact hj)), by rw [paint_old e4]; exact e3, by have := hk.size; omega⟩⟩
section
variable {wb : World} {g0 : Nat} {rows : Nat → List Int} {es : Nat → Bool} {col : Nat → Nat} {LN LA LB : List Nat} {qn qe : Nat} {vA vB vN vE vR : Value} {vals : List Value} {R : List Int} {W : World}
end
end Go.Proofs.Ythadkoplbgibgae
