/- The reference's BothOf: contract. -/
import Derived.Shelf.Abstract
import Derived.Test.YtcpnfbjcgaonkafDoorBp
import Derived.Test.YtcpnfbjcgaonkafDoorZLp
import Derived.Test.YtcpnfbjcgaonkafDoorZCf
import Derived.Test.YtcpnfbjcgaonkafDoorCi
namespace Go.Proofs.YtcpnfbjcgaonkafDoor
open Go.RowKit

theorem autoNew_nil (w W : World) : AutoNew w none 0 [] none [] W := fun W' _ => ⟨⟨rfl, by unfold maxLen; omega, .inl rfl⟩, ⟨rfl, by unfold maxLen; omega, .inl rfl⟩⟩
/-- An automaton and a code are handed back. -/
def BothR (w : World) (b t : Int) (N : List (List Int)) (E : List Bool) (c : Int) (e : Ending) (w' : World) : Prop :=
  ∃ a ca a' ca', e = .returned (.tuple #[.agg #[.int .i64 b, .int .i64 t, .slice a N.length ca, .slice a' N.length ca'], .int .i64 c]) ∧ AutoNew w a N.length N a' E w' ∧ Below w.heap.size w w'
theorem below_three (w : World) (o1 o2 o3 : Obj) : Below w.heap.size w (((w.alloc o1).alloc o2).alloc o3) := (((Below.refl _ _).alloc (Nat.le_refl _) _).alloc (by simp) _).alloc (by simp; omega) _
/-- A number where all went well, else zero. -/
def okI (c x : Int) : Int := if c = 0 then x else 0
end Go.Proofs.YtcpnfbjcgaonkafDoor
