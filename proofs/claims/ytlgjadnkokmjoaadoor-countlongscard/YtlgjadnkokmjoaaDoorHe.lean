/- slices.Sort, slices.Compact of numbers: the shelf's contracts, laid by hand; some.inOrder: contract. -/
import Derived.ArgAppend
import Derived.Deep.MidRow
import Derived.Deep.RegionHeldLaw
import Derived.DeepKeys4
import Derived.Laws.BytesArg
import Derived.Lib.SlicesCompact
import Derived.LoopIn
import Derived.LoopNIn
import Derived.Maps.OwnSet
import Derived.OwnWalkIn
import Derived.RangeFuncBound
import Derived.RangeFuncCalls
import Derived.RangeFuncLeaves
import Derived.RangeFuncNested
import Derived.Shelf.Abstract
import Derived.Shelf.RegionOpen
import Derived.Shelf.Slices.CompactI
import Derived.Shelf.Slices.In.SortNone
import Derived.Shelf.Sort.Plain
import Derived.Sort.LoopGhostIn
import Derived.Sort.OwnSortedInts
import Derived.TacticsInMore
import Derived.WalkKit
import Derived.Test.YtlgjadnkokmjoaaDoorMa
import Derived.Test.YtlgjadnkokmjoaaDoorZNx
import Derived.Test.YtlgjadnkokmjoaaDoorZRu
import Derived.Test.YtlgjadnkokmjoaaDoorCa
import Derived.Test.YtlgjadnkokmjoaaDoorCf
import Derived.Test.YtlgjadnkokmjoaaDoorZEg
import Derived.Test.YtlgjadnkokmjoaaDoorZLb
import Derived.Test.YtlgjadnkokmjoaaDoorLq
namespace Go.Proofs.YtlgjadnkokmjoaaDoor
open Go.RowKit

theorem grow_none (W : World) : Sort.grow W #[] = W := by
  show { W with heap := W.heap ++ #[] } = W
  rw [Array.append_empty]
end Go.Proofs.YtlgjadnkokmjoaaDoor
