/- The contract of letter.sideBySide: a word of the digits of its tracks. -/
import Derived.Test.YtcpnfbjcgaonkafDoorNx
import Derived.Deep.RegionWith
namespace Go.Proofs.YtcpnfbjcgaonkafDoor
open Go.RowKit

theorem wrap_i64_id {x : Int} (h : 0 ≤ x ∧ x ≤ 1000000000000000) : IntKind.i64.wrap x = x := by rw [IntKind.wrap_i64]; omega

end Go.Proofs.YtcpnfbjcgaonkafDoor
