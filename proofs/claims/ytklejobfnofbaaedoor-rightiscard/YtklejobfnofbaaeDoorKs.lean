/- The law RightIs. -/
import Derived.Test.YtklejobfnofbaaeDoorZKc
import Derived.Test.YtklejobfnofbaaeDoorZKn
namespace Go.Proofs.YtklejobfnofbaaeDoor
open Go.RowKit

theorem rightis_any (base tracks : Int) (b t : Int) (a : Option Addr) (n cap : Nat) (a' : Option Addr) (k cap' : Nat) (N : List (List Int)) (E : List Bool) (w : World) (hs : Sl2 w a n N) (he : SlB w a' k E) (hg : Handle w) :
    Calls Tryd.prog 3 #[.int .i64 base, .int .i64 tracks, .agg #[.int .i64 b, .int .i64 t, .slice a n cap, .slice a' k cap']] w fun e w' => e = .returned (.bool true) ∧ Below w.heap.size w w' :=
  rightis_of base tracks b t a n cap a' k cap' N E w hs he hg all_says only_says flip_says
end Go.Proofs.YtklejobfnofbaaeDoor
