/- The contract of letter.sideBySide: a word of the digits of its tracks. -/
import Derived.Deep.RegionWith
import Derived.Test.YtafbggbdlcfbdaaGreatDoorNx
namespace Go.Proofs.YtafbggbdlcfbdaaGreatDoor
open Go.RowKit

theorem wrap_i64_id {x : Int} (h : 0 ≤ x ∧ x ≤ 1000000000000000) : IntKind.i64.wrap x = x := by rw [IntKind.wrap_i64]; omega

end Go.Proofs.YtafbggbdlcfbdaaGreatDoor
