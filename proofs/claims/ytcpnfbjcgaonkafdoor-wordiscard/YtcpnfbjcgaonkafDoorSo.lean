/- The law WordIs. -/
import Derived.Test.YtcpnfbjcgaonkafDoorZSe
import Derived.Test.YtcpnfbjcgaonkafDoorZSf
import Derived.Test.YtcpnfbjcgaonkafDoorZVe
namespace Go.Proofs.YtcpnfbjcgaonkafDoor
open Go.RowKit

theorem wordis_any (b : Int) (a : Option Addr) (n cap : Nat) (ao : Option Addr) (no co : Nat) (N : List (List Int)) (O : List Int) (x v : Int) (w : World) (hs : Sl2 w a n N) (ho : Sl w ao no O) (hg : Handle w) :
    Calls Tryd.prog 3 #[outV b a n cap ao no co, .int .i64 x, .int .i64 v] w fun e w' => e = .returned (.bool true) ∧ Below w.heap.size w w' :=
  wordis_of b a n cap ao no co N O x v w hs ho hg word_check_any word_at_any word_head_any word_is_any
end Go.Proofs.YtcpnfbjcgaonkafDoor
