/- The reference's Product: contract. -/
import Derived.Deep.RegionHeldLaw
import Derived.Test.YtgbmemkoggogdaaBk
import Derived.Test.YtgbmemkoggogdaaBs
import Derived.Test.YtgbmemkoggogdaaZCf
namespace Go.Proofs.Ytgbmemkoggogdaa
open Go.RowKit

theorem wrap_small {x : Int} (h0 : 0 ≤ x) (h1 : x ≤ 100000000) : IntKind.i64.wrap x = x := by rw [IntKind.wrap_i64]; omega
end Go.Proofs.Ytgbmemkoggogdaa
