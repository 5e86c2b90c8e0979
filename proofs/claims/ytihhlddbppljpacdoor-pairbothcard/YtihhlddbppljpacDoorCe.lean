/- least.firstWord: contract, whatever closures are handed in. -/
import Derived.Test.YtihhlddbppljpacDoorBt
import Derived.Test.YtihhlddbppljpacDoorCa
import Derived.Test.YtihhlddbppljpacDoorCd
namespace Go.Proofs.YtihhlddbppljpacDoor
open Go.RowKit

theorem two_new (w : World) (x y : Value) (t : TypeId) : ∀ j u, [x, y][j]? = some u → (w.alloc (.cells #[x, y] t)).cell? ((⟨w.heap.size, 0, none⟩ : Addr).add j) = some u := by
  intro j u h
  rw [Addr.add_lit, cell_of_row _ _ _ _ t (0, 0) (heap_alloc_last w _), Nat.zero_add]
  simpa using h
end Go.Proofs.YtihhlddbppljpacDoor
