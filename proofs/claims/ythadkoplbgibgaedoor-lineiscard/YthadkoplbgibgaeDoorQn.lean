/- The law LineIs. -/
import Derived.Test.YthadkoplbgibgaeDoorZPf
import Derived.Test.YthadkoplbgibgaeDoorZKm
import Derived.Test.YthadkoplbgibgaeDoorZQj
namespace Go.Proofs.YthadkoplbgibgaeDoor
open Go.RowKit

theorem lineis_any (b : Int) (a : Option Addr) (n cap : Nat) (C : List Int) (c : Int) (less : Bool) (a2 : Option Addr) (n2 cap2 : Nat) (nums : List Int) (w : World) (hs : Sl w a n C) (hs2 : Sl w a2 n2 nums) (hg : Handle w) :
    Calls Tryd.prog 4 #[.int .i64 b, .slice a n cap, .int .i64 c, .bool less, .slice a2 n2 cap2] w fun e w' => e = .returned (.bool true) ∧ Below w.heap.size w w' :=
  lineis_of b a n cap C c less a2 n2 cap2 nums w hs hs2 hg line_saysQ holds_saysQ
end Go.Proofs.YthadkoplbgibgaeDoor
