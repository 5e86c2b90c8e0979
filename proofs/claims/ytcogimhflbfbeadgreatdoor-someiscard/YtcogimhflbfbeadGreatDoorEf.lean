/- The reference's SpreadOf, where all is well: contract. -/
import Derived.Deep.RegionHeldLaw
import Derived.Deep.RegionLaw
import Derived.Test.YtcogimhflbfbeadGreatDoorZLp
import Derived.Test.YtcogimhflbfbeadGreatDoorBp
import Derived.Test.YtcogimhflbfbeadGreatDoorZCf
import Derived.Test.YtcogimhflbfbeadGreatDoorDb
import Derived.Test.YtcogimhflbfbeadGreatDoorEa
import Derived.Test.YtcogimhflbfbeadGreatDoorZLq
namespace Go.Proofs.YtcogimhflbfbeadGreatDoor
open Go.RowKit

theorem dig_wf {b x : Int} (h2 : b ≤ 6) (h : 0 ≤ x ∧ x < kindsI b) : (Lit.int .i64 x).wf = true := by
  have := kinds_bd2 b h2
  exact WalkArith.wf_i64 (by omega)

end Go.Proofs.YtcogimhflbfbeadGreatDoor
