/- letter.Unpack, with the row that it makes; slices.Delete; some.lettersWithout: contracts. -/
import Derived.Shelf.Slices.Delete
import Derived.Test.YtleebojibobgaaaDoorZGb
import Derived.Test.YtleebojibobgaaaDoorZHa
import Derived.Test.YtleebojibobgaaaDoorHe
import Derived.Test.YtleebojibobgaaaDoorZHh
import Derived.Test.YtleebojibobgaaaDoorZLp
namespace Go.Proofs.YtleebojibobgaaaDoor
open Go.RowKit

/-- Rows that grow, each for itself, in a row of them. -/
structure GrdR (base g mu : Nat) (rows : Nat → List Int) (W : World) (vs : Nat → Value) : Prop where
  row : W.rowIs g 37 mu vs
  own : ∀ l, l < mu → W.ownsRow base 3 1 (vs l) (rows l).length ((rows l).map (Value.int .i64))
  far : ∀ l, l < mu → (vs l).ownBlock ≠ some g
  apart : ∀ l k x, l < mu → k < mu → (vs l).ownBlock = some x → (vs k).ownBlock = some x → l = k
def updV (vs : Nat → Value) (l : Nat) (v : Value) (k : Nat) : Value := if k = l then v else vs k
theorem grdR_end {base g mu : Nat} {rows : Nat → List Int} {W : World} {vs : Nat → Value} (h : GrdR base g mu rows W vs) (hm : mu ≤ maxLen) (hL : ∀ l, l < mu → (rows l).length ≤ maxLen) (hw : ∀ l, l < mu → ∀ x ∈ rows l, (Lit.int .i64 x).wf = true) (R : List (List Int)) (hR : R.length = mu) (he : ∀ l, l < mu → R.getD l [] = rows l) : Sl2 W (some ⟨g, 0, none⟩) mu R := by
  refine ⟨hR, hm, Or.inr ⟨g, 0, rfl, fun l hl => ?_⟩⟩
  obtain ⟨a, cap, e, hs⟩ := sl_of_owns rfl (hL l hl) (hw l hl) (h.own l hl)
  rw [he l hl]
  exact ⟨a, cap, by rw [Nat.zero_add, h.row.cell hl, e], hs.1⟩
theorem grdR_start (w : World) (mu base : Nat) (rows : Nat → List Int) (h : ∀ l, l < mu → rows l = []) : GrdR base w.heap.size mu rows (w.alloc (.cells (madeCells #[.slice none 0 0] mu) 37)) (fun _ => .slice none 0 0) :=
  ⟨World.rowIs_made w (.slice none 0 0) mu 37, fun l hl => by rw [h l hl]; exact World.ownsRow_nil _ _ _ _, fun l _ => by simp [Value.ownBlock], fun l k x _ _ h1 => by simp [Value.ownBlock] at h1⟩
theorem grdR_congr {base g mu : Nat} {rows rows' : Nat → List Int} {W : World} {vs : Nat → Value} (h : GrdR base g mu rows W vs) (e : ∀ l, l < mu → rows l = rows' l) : GrdR base g mu rows' W vs :=
  ⟨h.row, fun l hl => by rw [← e l hl]; exact h.own l hl, h.far, h.apart⟩
end Go.Proofs.YtleebojibobgaaaDoor
