/- filbertsame.Outs at two that are the same; what package word's Check, At, Head, Is answer. -/
import Derived.Test.YtcpnfbjcgaonkafDoorMa
import Derived.Test.YtcpnfbjcgaonkafDoorAc
import Derived.Test.YtcpnfbjcgaonkafDoorAm
import Derived.Test.YtcpnfbjcgaonkafDoorAt
import Derived.Test.YtcpnfbjcgaonkafDoorBf
import Derived.Test.YtcpnfbjcgaonkafDoorBk
import Derived.Test.YtcpnfbjcgaonkafDoorLb
import Derived.Test.YtcpnfbjcgaonkafDoorLc2
import Derived.Test.YtcpnfbjcgaonkafDoorNx
import Derived.Test.YtcpnfbjcgaonkafDoorP
import Derived.Test.YtcpnfbjcgaonkafDoorRe
import Derived.Test.YtcpnfbjcgaonkafDoorVa
import Derived.Test.YtcpnfbjcgaonkafDoorVc
import Derived.BigQuiet
import Derived.BigRegion
import Derived.Deep.AppendLies
import Derived.Deep.MidRow
import Derived.Deep.RegionHeldLaw
import Derived.Deep.RegionLaw
import Derived.Deep.RegionWith
import Derived.DeepKeys4
import Derived.Laws.AppendOwnNone
import Derived.Maps.OwnSet
import Derived.Shelf.Abstract
namespace Go.Proofs.YtcpnfbjcgaonkafDoor
open Go.RowKit

/-- What Check, At, Head, Is answer. -/
def atF (b : Int) (N : List (List Int)) (O : List Int) (x hi : Int) : Int := if outC b N O = 0 then (if 0 ≤ x ∧ x ≤ hi then 0 else 1) else outC b N O
def atV (b : Int) (N : List (List Int)) (O : List Int) (x : Int) : Int := if atF b N O x 1099511627776 = 0 then sayN b N O x else 0
def CheckSays : Prop := ∀ (b : Int) (a : Option Addr) (n cap : Nat) (ao : Option Addr) (no co : Nat) (N : List (List Int)) (O : List Int) (W : World), Sl2 W a n N → Sl W ao no O → Calls Tryd.prog 9 #[outV b a n cap ao no co] W fun e w' => e = .returned (errV (outC b N O)) ∧ Below W.heap.size W w'
def AtSays : Prop := ∀ (b : Int) (a : Option Addr) (n cap : Nat) (ao : Option Addr) (no co : Nat) (N : List (List Int)) (O : List Int) (x : Int) (W : World), Sl2 W a n N → Sl W ao no O → Calls Tryd.prog 11 #[outV b a n cap ao no co, .int .i64 x] W fun e w' => e = .returned (.tuple #[.int .i64 (atV b N O x), errV (atF b N O x 1099511627776)]) ∧ Below W.heap.size W w'
end Go.Proofs.YtcpnfbjcgaonkafDoor
