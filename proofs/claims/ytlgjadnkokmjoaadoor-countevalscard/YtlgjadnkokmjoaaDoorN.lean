/- Plain mathematics: what digits count together. -/
import Derived.Test.YtlgjadnkokmjoaaDoorM
namespace Go.Proofs.YtlgjadnkokmjoaaDoor

def val (b : Int) : List Int → Int
  | [] => 0
  | x :: r => x * cnt b r.length + val b r

end Go.Proofs.YtlgjadnkokmjoaaDoor
