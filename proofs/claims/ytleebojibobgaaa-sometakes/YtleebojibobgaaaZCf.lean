/- 2 texts in one. -/
import Derived.BigQuiet
import Derived.BigRegion
import Derived.Test.YtleebojibobgaaaZAt
import Derived.Test.YtleebojibobgaaaBt
import Derived.Test.YtleebojibobgaaaZMp
/- The closures of package least: contracts. -/
namespace Go.Proofs.Ytleebojibobgaaa
open Go.RowKit

theorem below_two (w : World) (u v : Obj) : Below w.heap.size w ((w.alloc u).alloc v) := ((Below.refl _ _).alloc (Nat.le_refl _) _).alloc (by simp) _

end Go.Proofs.Ytleebojibobgaaa

/- The reference's sets of states: In, Put: contracts. -/
namespace Go.Proofs.Ytleebojibobgaaa
open Go.RowKit

/-- A state put in. -/
def putM (M s : Nat) : Nat := M ||| 2 ^ s
theorem putM_bit (M s t : Nat) : (putM M s).testBit t = (M.testBit t || decide (s = t)) := by
  unfold putM
  rw [Nat.testBit_or, Nat.testBit_two_pow]
end Go.Proofs.Ytleebojibobgaaa
