/- The contract of digit.Of. -/
import Derived.RegionTactic
import Derived.Test.YthadkoplbgibgaeDoorZF
namespace Go.Proofs.YthadkoplbgibgaeDoor
open Go.RowKit

/-- What is left of n behind k places. -/
def remN (b n : Int) : Nat → Int
  | 0 => n
  | k + 1 => remN b n k % cnt b (59 - k)
def dgt (b n : Int) (k : Nat) : Int := remN b n k / cnt b (59 - k)
/-- The digits of n, k of them laid. -/
def dList (b n : Int) (k : Nat) : List Int := (List.range 60).map fun j => if j < k then dgt b n j else 0

end Go.Proofs.YthadkoplbgibgaeDoor
