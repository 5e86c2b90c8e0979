/- Texts that walk nothing, in one. -/
import Derived.WalkKit
import Derived.Deep.LoopGhost
import Derived.Deep.WholeRow
/- Plain mathematics: what the places count, and digits. -/
namespace Go.Proofs.YtlgjadnkokmjoaaDoor

/-- What the last place, and the one behind it, count, behind k places. -/
def cntP (b : Int) : Nat → Int × Int
  | 0 => (1, 1)
  | k + 1 => (min (if b = 1 then (cntP b k).1 + (cntP b k).2 else (cntP b k).1 * b) 1099511627777, (cntP b k).1)
def cnt (b : Int) (k : Nat) : Int := (cntP b k).1
end Go.Proofs.YtlgjadnkokmjoaaDoor

/- Laws on whole rows (an array by value), over any program. -/
namespace Go.Proofs.YtlgjadnkokmjoaaDoor
open Go.RowKit
variable {P : Program}

theorem heap_alloc2_fst (w : World) (o o' : Obj) : ((w.alloc o).alloc o').heap[w.heap.size]? = some o := by
  rw [Below.heap_alloc _ _ _ (by simp), heap_alloc_last]
theorem heap_alloc2_snd (w : World) (o o' : Obj) : ((w.alloc o).alloc o').heap[w.heap.size + 1]? = some o' := by
  have := heap_alloc_last (w.alloc o) o'
  simpa using this
end Go.Proofs.YtlgjadnkokmjoaaDoor

/- Plain mathematics: what digits count together. -/
namespace Go.Proofs.YtlgjadnkokmjoaaDoor

def val (b : Int) : List Int → Int
  | [] => 0
  | x :: r => x * cnt b r.length + val b r

end Go.Proofs.YtlgjadnkokmjoaaDoor
