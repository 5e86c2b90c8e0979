/- 2 texts in one. -/
import Derived.Test.YtleebojibobgaaaGreatDoorZAt
import Derived.Test.YtleebojibobgaaaGreatDoorBt
import Derived.Test.YtleebojibobgaaaGreatDoorZMp
/- A queue of spots. -/
namespace Go.Proofs.YtleebojibobgaaaGreatDoor
open Go.RowKit

theorem grownBy_sets (W : World) (b o : Nat) (u v : Value) : W.grownBy (W.setCells b o [u, v]) (some b) := by
  have h1 := grownBy_set W ⟨b, o, none⟩ u
  have h2 := grownBy_set (W.setCell ⟨b, o, none⟩ u) ⟨b, o + 1, none⟩ v
  show W.grownBy ((W.setCell ⟨b, o, none⟩ u).setCell ⟨b, o + 1, none⟩ v) (some b)
  exact ⟨h2.os.trans h1.os, h2.tape.trans h1.tape, h2.output.trans h1.output, Nat.le_trans h1.size h2.size, fun k hk hne => (h2.block k (Nat.lt_of_lt_of_le hk h1.size) hne).trans (h1.block k hk hne)⟩

end Go.Proofs.YtleebojibobgaaaGreatDoor

/- least.firstWord: contract, whatever closures are handed in. -/
namespace Go.Proofs.YtleebojibobgaaaGreatDoor
open Go.RowKit

theorem two_new (w : World) (x y : Value) (t : TypeId) : ∀ j u, [x, y][j]? = some u → (w.alloc (.cells #[x, y] t)).cell? ((⟨w.heap.size, 0, none⟩ : Addr).add j) = some u := by
  intro j u h
  rw [Addr.add_lit, cell_of_row _ _ _ _ t (0, 0) (heap_alloc_last w _), Nat.zero_add]
  simpa using h
end Go.Proofs.YtleebojibobgaaaGreatDoor
