/- The law RightSpreads. -/
import Derived.Test.YtklejobfnofbaaeZDj
import Derived.Test.YtklejobfnofbaaeZEo
import Derived.Test.YtklejobfnofbaaeZHn
import Derived.Test.YtklejobfnofbaaeKn
namespace Go.Proofs.Ytklejobfnofbaae
open Go.RowKit

theorem rightspreads_any (b : Int) (w : World) :
    Calls Try.prog 5 #[.int .i64 b] w fun e w' => e = .returned (.bool true) ∧ Below w.heap.size w w' :=
  rightspreads_of b w all_says spread_u some_saysH (rs_all b)
end Go.Proofs.Ytklejobfnofbaae
