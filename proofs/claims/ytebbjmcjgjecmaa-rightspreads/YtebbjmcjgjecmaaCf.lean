/- The closures of package least: contracts. -/
import Derived.BigQuiet
import Derived.BigRegion
import Derived.Test.YtebbjmcjgjecmaaZCd
namespace Go.Proofs.Ytebbjmcjgjecmaa
open Go.RowKit

theorem below_two (w : World) (u v : Obj) : Below w.heap.size w ((w.alloc u).alloc v) := ((Below.refl _ _).alloc (Nat.le_refl _) _).alloc (by simp) _

end Go.Proofs.Ytebbjmcjgjecmaa
