/- The reference's SpreadOf, where all is well: contract. -/
import Derived.Deep.RegionHeldLaw
import Derived.Deep.RegionLaw
import Derived.Test.YtleebojibobgaaaZNx
import Derived.Test.YtleebojibobgaaaBp
import Derived.Test.YtleebojibobgaaaZCf
import Derived.Test.YtleebojibobgaaaDb
import Derived.Test.YtleebojibobgaaaEa
import Derived.Test.YtleebojibobgaaaZLb
import Derived.Test.YtleebojibobgaaaZLp
import Derived.Test.YtleebojibobgaaaLq
namespace Go.Proofs.Ytleebojibobgaaa
open Go.RowKit

theorem dig_wf {b x : Int} (h2 : b ≤ 6) (h : 0 ≤ x ∧ x < kindsI b) : (Lit.int .i64 x).wf = true := by
  have := kinds_bd2 b h2
  exact WalkArith.wf_i64 (by omega)

end Go.Proofs.Ytleebojibobgaaa
