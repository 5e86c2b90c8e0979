/- Plain mathematics: what the places count, and digits. -/
import Derived.WalkKit
namespace Go.Proofs.YtlgjadnkokmjoaaDoor

/-- What the last place, and the one behind it, count, behind k places. -/
def cntP (b : Int) : Nat → Int × Int
  | 0 => (1, 1)
  | k + 1 => (min (if b = 1 then (cntP b k).1 + (cntP b k).2 else (cntP b k).1 * b) 1099511627777, (cntP b k).1)
def cnt (b : Int) (k : Nat) : Int := (cntP b k).1
end Go.Proofs.YtlgjadnkokmjoaaDoor
