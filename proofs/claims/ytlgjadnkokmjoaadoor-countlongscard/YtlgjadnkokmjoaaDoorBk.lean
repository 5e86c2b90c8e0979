/- The reference's Shrunk: its rounds. -/
import Derived.Deep.LoopGhost
import Derived.Deep.RegionLaw
import Derived.Test.YtlgjadnkokmjoaaDoorZNx
import Derived.Test.YtlgjadnkokmjoaaDoorZRu
namespace Go.Proofs.YtlgjadnkokmjoaaDoor
open Go.RowKit

/-- A row that grows. -/
def GrowR (w : World) (xs : List Int) (v : Value) (wr : World) : Prop := wr.ownsRow w.heap.size 3 1 v xs.length (xs.map (Value.int .i64)) ∧ Below w.heap.size w wr
theorem growR_push {w wr w3 : World} {xs : List Int} {v v' : Value} {x : Int} {o : Obj} (h : GrowR w xs v wr) (hown : w3.ownsRow w.heap.size 3 1 v' (xs.length + 1) (xs.map (Value.int .i64) ++ [.int .i64 x])) (hgrow : (wr.alloc o).grownBy w3 v.ownBlock) : GrowR w (xs ++ [x]) v' w3 := by
  refine ⟨by rw [List.length_append, List.map_append]; exact hown, ?_⟩
  exact Below.grown (h.2.alloc h.2.size o) hgrow (by have := h.2.size; simp; omega) (fun k hk => (h.1.lt k hk).1)
end Go.Proofs.YtlgjadnkokmjoaaDoor
