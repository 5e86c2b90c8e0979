/- 5 texts in one. -/
import Derived.RegionTactic
import Derived.Test.YtafbggbdlcfbdaaGreatDoorZF
import Derived.Test.YtafbggbdlcfbdaaGreatDoorMa
import Derived.Test.YtafbggbdlcfbdaaGreatDoorB
/- The contract of digit.Of. -/
namespace Go.Proofs.YtafbggbdlcfbdaaGreatDoor
open Go.RowKit

/-- What is left of n behind k places. -/
def remN (b n : Int) : Nat → Int
  | 0 => n
  | k + 1 => remN b n k % cnt b (59 - k)
def dgt (b n : Int) (k : Nat) : Int := remN b n k / cnt b (59 - k)
/-- The digits of n, k of them laid. -/
def dList (b n : Int) (k : Nat) : List Int := (List.range 60).map fun j => if j < k then dgt b n j else 0

theorem heap_setCell_at {w : World} {g k : Nat} {cs : Array Value} {t : TypeId} {v : Value} (h : w.heap[g]? = some (.cells cs t (0, 0))) : (w.setCell ⟨g, k, none⟩ v).heap[g]? = some (.cells (cs.setIfInBounds k v) t (0, 0)) := by
  simp only [World.setCell, Array.getElem?_modify]
  simp [h]

end Go.Proofs.YtafbggbdlcfbdaaGreatDoor

/- Plain mathematics: the digits that are written count the number, are right, and are the only such. -/
namespace Go.Proofs.YtafbggbdlcfbdaaGreatDoor

/-- The digits of n. -/
def dgs (b n : Int) : List Int := dropZ (dList b n 60)

end Go.Proofs.YtafbggbdlcfbdaaGreatDoor

/- Package digit's contracts, whatever is handed in: one a function. -/
namespace Go.Proofs.YtafbggbdlcfbdaaGreatDoor
open Go.RowKit

def errV (c : Int) : Value := if c = 0 then .nilIface else .iface 23 (.int .i64 c)
end Go.Proofs.YtafbggbdlcfbdaaGreatDoor

/- Automata: what is wrong with one, where words lead, which states are met: mathematics. -/
namespace Go.Proofs.YtafbggbdlcfbdaaGreatDoor
open Go.RowKit

def stepL (N : List (List Int)) (s : Nat) (x : Int) : Nat := ((N.getD s []).getD x.toNat 0).toNat
def runL (N : List (List Int)) (w : List Int) : Nat := w.foldl (stepL N) 0

end Go.Proofs.YtafbggbdlcfbdaaGreatDoor

/- Plain mathematics: the places' counts as the document has them (not cut off), held against those of the program. -/
namespace Go.Proofs.YtafbggbdlcfbdaaGreatDoor

/-- The digits that are written behind k places. -/
def pre (b n : Int) (k : Nat) : List Int := dropZ ((dList b n 60).take k)
end Go.Proofs.YtafbggbdlcfbdaaGreatDoor
