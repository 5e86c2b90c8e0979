/- The law WordMorphs. -/
import Derived.Test.YtcpnfbjcgaonkafDoorSu
namespace Go.Proofs.YtcpnfbjcgaonkafDoor
open Go.RowKit

theorem wordmorphs_any (a : Option Addr) (n cap : Nat) (R : List (List Int)) (ao : Option Addr) (no co : Nat) (K : List Int) (x : Int) (w : World) (hs : Sl2 w a n R) (ho : Sl w ao no K) (hg : Handle w) :
    Calls Tryd.prog 5 #[.slice a n cap, .slice ao no co, .int .i64 x] w fun e w' => e = .returned (.bool true) ∧ Below w.heap.size w w' :=
  wordmorphs_of a n cap R ao no co K x w hs ho hg word_morph_any word_at_any
end Go.Proofs.YtcpnfbjcgaonkafDoor
