/- The reference's words: TrackOf, WordFault, RightWord: contracts. -/
import Derived.RegionTactic
import Derived.Test.YtlgjadnkokmjoaaDoorMa
import Derived.Test.YtlgjadnkokmjoaaDoorB
import Derived.Test.YtlgjadnkokmjoaaDoorZF
import Derived.Test.YtlgjadnkokmjoaaDoorZLb
import Derived.Test.YtlgjadnkokmjoaaDoorZNx
import Derived.Test.YtlgjadnkokmjoaaDoorZLp
namespace Go.Proofs.YtlgjadnkokmjoaaDoor
open Go.RowKit

/-- A row that the call appends to, and what it has. -/
def Grow (w : World) (xs : List Int) (v : Value) (wr : World) : Prop := wr.ownsRow w.heap.size 3 1 v xs.length (xs.map (Value.int .i64)) ∧ Below w.heap.size w wr

theorem grow_nil (w : World) : Grow w [] (.slice none 0 0) w := ⟨World.ownsRow_nil _ _ _ _, Below.refl _ _⟩
theorem grow_push {w wr w3 : World} {xs : List Int} {v v' : Value} {x : Int} {o : Obj} (h : Grow w xs v wr) (hown : w3.ownsRow w.heap.size 3 1 v' (xs.length + 1) (xs.map (Value.int .i64) ++ [.int .i64 x])) (hgrow : (wr.alloc o).grownBy w3 v.ownBlock) : Grow w (xs ++ [x]) v' w3 := by
  refine ⟨by rw [List.length_append, List.map_append]; exact hown, ?_⟩
  exact Below.grown (h.2.alloc h.2.size o) hgrow (by have := h.2.size; simp; omega) (fun k hk => (h.1.lt k hk).1)
theorem grow_below {w wr w' : World} {xs : List Int} {v : Value} (h : Grow w xs v wr) (hb : Below wr.heap.size wr w') : Grow w xs v w' :=
  ⟨ownsRow_of_block h.1 (fun k hk => hb.block _ (h.1.lt k hk).2), below_step h.2 hb⟩
end Go.Proofs.YtlgjadnkokmjoaaDoor
