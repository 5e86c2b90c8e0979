/- The reference's BothOf: contract. -/
import Derived.Deep.RegionHeldLaw
import Derived.Shelf.Abstract
import Derived.Test.YthadkoplbgibgaeBk
import Derived.Test.YthadkoplbgibgaeBp
import Derived.Test.YthadkoplbgibgaeZLp
import Derived.Test.YthadkoplbgibgaeZCf
namespace Go.Proofs.Ythadkoplbgibgae
open Go.RowKit

theorem autoNew_nil (w W : World) : AutoNew w none 0 [] none [] W := fun W' _ => ⟨⟨rfl, by unfold maxLen; omega, .inl rfl⟩, ⟨rfl, by unfold maxLen; omega, .inl rfl⟩⟩
theorem below_three (w : World) (o1 o2 o3 : Obj) : Below w.heap.size w (((w.alloc o1).alloc o2).alloc o3) := (((Below.refl _ _).alloc (Nat.le_refl _) _).alloc (by simp) _).alloc (by simp; omega) _
/-- A number where all went well, else zero. -/
def okI (c x : Int) : Int := if c = 0 then x else 0
end Go.Proofs.Ythadkoplbgibgae
