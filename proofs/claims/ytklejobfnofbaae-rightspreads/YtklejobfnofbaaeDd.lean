/- The walk of the law PairBoth, from what package pair's functions answer. -/
import Derived.Test.YtklejobfnofbaaeRows
import Derived.Below
import Derived.BigRegion
import Derived.Deep.RegionHeldLaw
import Derived.LaidEql
import Derived.OwnWalk
import Derived.RowKitTokens
import Derived.Stop.Asserts
import Derived.WalkKit
import Derived.Test.YtklejobfnofbaaeMa
import Derived.Test.YtklejobfnofbaaeAx
import Derived.Test.YtklejobfnofbaaeB
import Derived.Test.YtklejobfnofbaaeBk
import Derived.Test.YtklejobfnofbaaeZLp
import Derived.Test.YtklejobfnofbaaeZCd
import Derived.Test.YtklejobfnofbaaeCf
import Derived.Test.YtklejobfnofbaaeCh
import Derived.Test.YtklejobfnofbaaeDb
import Derived.Test.YtklejobfnofbaaeZMp
import Derived.Test.YtklejobfnofbaaeZG
import Derived.Test.YtklejobfnofbaaeZF
namespace Go.Proofs.Ytklejobfnofbaae
open Go.RowKit

/-- An automaton and an error are handed back. -/
def PairR (w : World) (b t : Int) (N : List (List Int)) (E : List Bool) (c : Int) (e : Ending) (w' : World) : Prop :=
  ∃ a ca a' ca', e = .returned (.tuple #[.agg #[.int .i64 b, .int .i64 t, .slice a N.length ca, .slice a' N.length ca'], errV c]) ∧ AutoNew w a N.length N a' E w' ∧ Below w.heap.size w w'
end Go.Proofs.Ytklejobfnofbaae
