/- The law SomeTakes: its walk. -/
import Derived.Test.YtleebojibobgaaaZHn
import Derived.Test.YtleebojibobgaaaIc
namespace Go.Proofs.Ytleebojibobgaaa
open Go.RowKit

theorem sometakes_any (b t : Int) (a : Option Addr) (n cap : Nat) (a' : Option Addr) (k cap' : Nat) (N : List (List Int)) (E : List Bool) (tk : Int) (aw : Option Addr) (lw cw : Nat) (u : List Int) (w : World) (hs : Sl2 w a n N) (he : SlB w a' k E) (hw : Sl w aw lw u) :
    Calls Try.prog 3 #[.agg #[.int .i64 b, .int .i64 t, .slice a n cap, .slice a' k cap'], .int .i64 tk, .slice aw lw cw] w fun e w' => e = .returned (.bool true) ∧ Below w.heap.size w w' :=
  sometakes_of b t a n cap a' k cap' N E tk aw lw cw u w hs he hw some_saysH
end Go.Proofs.Ytleebojibobgaaa
