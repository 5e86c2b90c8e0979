/- track.oldLetters, whatever closure is handed in; the closure of track.Spread: contracts. -/
import Derived.Shelf.Abstract
import Derived.Test.YtlgjadnkokmjoaaDoorEa
import Derived.Test.YtlgjadnkokmjoaaDoorZLp
namespace Go.Proofs.YtlgjadnkokmjoaaDoor
open Go.RowKit

/-- A row of numbers, k of them filled in. -/
def FillAt (w : World) (T : List Int) (m k : Nat) (wx : World) : Prop := wx.rowIs w.heap.size 3 m (fun i => .int .i64 (if i < k then T.getD i 0 else 0)) ∧ Below w.heap.size w wx
theorem fillAt_start (w : World) (T : List Int) (m : Nat) : FillAt w T m 0 (w.alloc (.cells (madeCells #[.int .i64 0] m) 3)) :=
  ⟨(World.rowIs_made w (.int .i64 0) m 3).congr fun p hp => by rw [if_neg (by omega)], (Below.refl _ _).alloc (Nat.le_refl _) _⟩
theorem fillAt_below {w : World} {T : List Int} {m k : Nat} {wx W : World} (h : FillAt w T m k wx) (hb : Below wx.heap.size wx W) : FillAt w T m k W := by
  obtain ⟨⟨c, h1, h2, h3⟩, h4⟩ := h
  exact ⟨⟨c, (hb.block _ (Array.getElem?_eq_some_iff.1 h1).1).trans h1, h2, h3⟩, below_step h4 hb⟩
theorem fillAt_step {w : World} {T : List Int} {m k : Nat} {wx : World} (h : FillAt w T m k wx) : FillAt w T m (k + 1) (wx.setCell ⟨w.heap.size, k, none⟩ (.int .i64 (T.getD k 0))) := by
  refine ⟨(h.1.set k _).congr fun p hp => ?_, h.2.setCell (Nat.le_refl _) _⟩
  by_cases e : p = k
  · subst e; rw [if_pos rfl, if_pos (by omega)]
  · rw [if_neg e]
    by_cases e2 : p < k
    · rw [if_pos e2, if_pos (by omega)]
    · rw [if_neg e2, if_neg (by omega)]
theorem fillAt_end {w : World} {T : List Int} {m : Nat} {wx : World} (h : FillAt w T m m wx) (hT : T.length = m) (hm : m ≤ maxLen) (hw : ∀ x ∈ T, (Lit.int .i64 x).wf = true) : Sl wx (some ⟨w.heap.size, 0, none⟩) m T :=
  sl_of_rowIs hT hm hw (h.1.congr fun i hi => by rw [if_pos hi])

end Go.Proofs.YtlgjadnkokmjoaaDoor
