/- First words: how long they are, the way back to the beginning; of two automata one: mathematics. -/
import Derived.DeepKeys4
import Derived.Maps.OwnSet
import Derived.Test.YtlgjadnkokmjoaaDoorZNx
import Derived.Test.YtlgjadnkokmjoaaDoorZRu
namespace Go.Proofs.YtlgjadnkokmjoaaDoor
open Go.RowKit

theorem autoC_80 {b t : Int} {N : List (List Int)} {e : Nat} (h : autoC b t N e = 0) : N.length ≤ 80 := by
  unfold autoC at h
  split at h
  · split at h
    · cases h
    · split at h
      · cases h
      · omega
  · contradiction
end Go.Proofs.YtlgjadnkokmjoaaDoor
