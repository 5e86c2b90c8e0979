/- The reference's SpreadOf, where all is well: contract. -/
import Derived.Deep.RegionHeldLaw
import Derived.Deep.RegionLaw
import Derived.Test.YtokcejakjaimladZNx
import Derived.Test.YtokcejakjaimladBp
import Derived.Test.YtokcejakjaimladZCf
import Derived.Test.YtokcejakjaimladDb
import Derived.Test.YtokcejakjaimladEa
import Derived.Test.YtokcejakjaimladZLb
import Derived.Test.YtokcejakjaimladZLp
import Derived.Test.YtokcejakjaimladLq
namespace Go.Proofs.Ytokcejakjaimlad
open Go.RowKit

theorem dig_wf {b x : Int} (h2 : b ≤ 6) (h : 0 ≤ x ∧ x < kindsI b) : (Lit.int .i64 x).wf = true := by
  have := kinds_bd2 b h2
  exact WalkArith.wf_i64 (by omega)

end Go.Proofs.Ytokcejakjaimlad
