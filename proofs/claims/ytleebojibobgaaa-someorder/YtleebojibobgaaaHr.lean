/- The law SomeOrder: its walk. -/
import Derived.Test.YtleebojibobgaaaZDj
import Derived.Test.YtleebojibobgaaaZHn
namespace Go.Proofs.Ytleebojibobgaaa
open Go.RowKit

theorem someorder_any (b t : Int) (a : Option Addr) (n cap : Nat) (a' : Option Addr) (k cap' : Nat) (N : List (List Int)) (E : List Bool) (b2 t2 : Int) (a2 : Option Addr) (n2 cap2 : Nat) (a2' : Option Addr) (k2 cap2' : Nat) (N2 : List (List Int)) (E2 : List Bool) (w : World) (hs : Sl2 w a n N) (he : SlB w a' k E) (hs2 : Sl2 w a2 n2 N2) (he2 : SlB w a2' k2 E2) :
    Calls Try.prog 5 #[.agg #[.int .i64 b, .int .i64 t, .slice a n cap, .slice a' k cap'], .agg #[.int .i64 b2, .int .i64 t2, .slice a2 n2 cap2, .slice a2' k2 cap2']] w fun e w' => e = .returned (.bool true) ∧ Below w.heap.size w w' :=
  someorder_of b t a n cap a' k cap' N E b2 t2 a2 n2 cap2 a2' k2 cap2' N2 E2 w hs he hs2 he2 some_saysH sets_saysH
end Go.Proofs.Ytleebojibobgaaa
