/- The reference's Shrunk: its rounds. -/
import Derived.Deep.LoopGhost
import Derived.Deep.RegionLaw
import Derived.Test.YtleebojibobgaaaZNx
namespace Go.Proofs.Ytleebojibobgaaa
open Go.RowKit

/-- A row that grows. -/
def GrowR (w : World) (xs : List Int) (v : Value) (wr : World) : Prop := wr.ownsRow w.heap.size 3 1 v xs.length (xs.map (Value.int .i64)) ∧ Below w.heap.size w wr
theorem growR_push {w wr w3 : World} {xs : List Int} {v v' : Value} {x : Int} {o : Obj} (h : GrowR w xs v wr) (hown : w3.ownsRow w.heap.size 3 1 v' (xs.length + 1) (xs.map (Value.int .i64) ++ [.int .i64 x])) (hgrow : (wr.alloc o).grownBy w3 v.ownBlock) : GrowR w (xs ++ [x]) v' w3 := by
  refine ⟨by rw [List.length_append, List.map_append]; exact hown, ?_⟩
  exact Below.grown (h.2.alloc h.2.size o) hgrow (by have := h.2.size; simp; omega) (fun k hk => (h.1.lt k hk).1)
theorem infoS2 : (Try.prog.info? 26).map (fun i => (i.zero, i.size, i.bytes)) = some (some (.slice none 0 0), 1, 24) := by kernel_rfl
theorem infoBo : (Try.prog.info? 4).map (fun i => (i.zero, i.size, i.bytes)) = some (some (.bool false), 1, 1) := by kernel_rfl
end Go.Proofs.Ytleebojibobgaaa
