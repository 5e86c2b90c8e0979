/- The reference's LeastOf: contract. -/
import Derived.Test.YtebbjmcjgjecmaaBk
import Derived.Test.YtebbjmcjgjecmaaZLp
namespace Go.Proofs.Ytebbjmcjgjecmaa
open Go.RowKit

/-- An automaton is handed back, in new memory. -/
def GivesAuto (w : World) (b t : Int) (N : List (List Int)) (E : List Bool) (e : Ending) (w' : World) : Prop :=
  ∃ a c a' c', e = .returned (.agg #[.int .i64 b, .int .i64 t, .slice a N.length c, .slice a' N.length c']) ∧ AutoNew w a N.length N a' E w' ∧ Below w.heap.size w w'

end Go.Proofs.Ytebbjmcjgjecmaa
