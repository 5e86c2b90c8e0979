/- Laws on whole rows (an array by value), over any program. -/
import Derived.Deep.LoopGhost
import Derived.Deep.WholeRow
import Derived.WalkKit
namespace Go.Proofs.YtihhlddbppljpabDoor
open Go.RowKit
variable {P : Program}

theorem heap_alloc2_fst (w : World) (o o' : Obj) : ((w.alloc o).alloc o').heap[w.heap.size]? = some o := by
  rw [Below.heap_alloc _ _ _ (by simp), heap_alloc_last]
theorem heap_alloc2_snd (w : World) (o o' : Obj) : ((w.alloc o).alloc o').heap[w.heap.size + 1]? = some o' := by
  have := heap_alloc_last (w.alloc o) o'
  simpa using this
end Go.Proofs.YtihhlddbppljpabDoor
