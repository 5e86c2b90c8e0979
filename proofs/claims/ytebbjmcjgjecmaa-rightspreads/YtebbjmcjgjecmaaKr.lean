/- The law RightSpreads. -/
import Derived.Test.YtebbjmcjgjecmaaZDj
import Derived.Test.YtebbjmcjgjecmaaZEo
import Derived.Test.YtebbjmcjgjecmaaZHn
import Derived.Test.YtebbjmcjgjecmaaKn
namespace Go.Proofs.Ytebbjmcjgjecmaa
open Go.RowKit

theorem rightspreads_any (b : Int) (w : World) :
    Calls Try.prog 3 #[.int .i64 b] w fun e w' => e = .returned (.bool true) ∧ Below w.heap.size w w' :=
  rightspreads_of b w all_says spread_u some_saysH (rs_all b)
end Go.Proofs.Ytebbjmcjgjecmaa
