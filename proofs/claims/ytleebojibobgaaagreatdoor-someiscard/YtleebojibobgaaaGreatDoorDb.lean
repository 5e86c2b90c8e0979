/- The reference's BothOf: contract. -/
import Derived.Deep.RegionHeldLaw
import Derived.Shelf.Abstract
import Derived.Test.YtleebojibobgaaaGreatDoorBk
import Derived.Test.YtleebojibobgaaaGreatDoorBp
import Derived.Test.YtleebojibobgaaaGreatDoorZLp
import Derived.Test.YtleebojibobgaaaGreatDoorZCf
namespace Go.Proofs.YtleebojibobgaaaGreatDoor
open Go.RowKit

theorem autoNew_nil (w W : World) : AutoNew w none 0 [] none [] W := fun W' _ => ⟨⟨rfl, by unfold maxLen; omega, .inl rfl⟩, ⟨rfl, by unfold maxLen; omega, .inl rfl⟩⟩
/-- A number where all went well, else zero. -/
def okI (c x : Int) : Int := if c = 0 then x else 0
end Go.Proofs.YtleebojibobgaaaGreatDoor
