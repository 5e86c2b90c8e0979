/- The reference's SpreadOf, where all is well: contract. -/
import Derived.Deep.RegionHeldLaw
import Derived.Deep.RegionLaw
import Derived.Shelf.Abstract
import Derived.Test.YtlgjadnkokmjoaaDoorZLp
import Derived.Test.YtlgjadnkokmjoaaDoorBk
import Derived.Test.YtlgjadnkokmjoaaDoorCf
import Derived.Test.YtlgjadnkokmjoaaDoorEa
import Derived.Test.YtlgjadnkokmjoaaDoorZLb
import Derived.Test.YtlgjadnkokmjoaaDoorLq
namespace Go.Proofs.YtlgjadnkokmjoaaDoor
open Go.RowKit

theorem dig_wf {b x : Int} (h2 : b ≤ 6) (h : 0 ≤ x ∧ x < kindsI b) : (Lit.int .i64 x).wf = true := by
  have := kinds_bd2 b h2
  exact WalkArith.wf_i64 (by omega)

end Go.Proofs.YtlgjadnkokmjoaaDoor
