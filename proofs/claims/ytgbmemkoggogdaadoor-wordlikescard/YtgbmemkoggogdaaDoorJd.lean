/- turn.atEnd, leadInto, doors: contracts. -/
import Derived.Deep.RegionHeldLaw
import Derived.Deep.RegionLaw
import Derived.Deep.RegionWith
import Derived.Laws.AppendOwnNone
import Derived.Laws.BitsLemmas
import Derived.Test.YtgbmemkoggogdaaDoorZNx
import Derived.Test.YtgbmemkoggogdaaDoorZAt
import Derived.Test.YtgbmemkoggogdaaDoorBp
import Derived.Test.YtgbmemkoggogdaaDoorBt
import Derived.Test.YtgbmemkoggogdaaDoorZCf
import Derived.Test.YtgbmemkoggogdaaDoorZDb
import Derived.Test.YtgbmemkoggogdaaDoorZE
import Derived.Test.YtgbmemkoggogdaaDoorEa
import Derived.Test.YtgbmemkoggogdaaDoorG
import Derived.Test.YtgbmemkoggogdaaDoorZMp
import Derived.Test.YtgbmemkoggogdaaDoorZGc
import Derived.Test.YtgbmemkoggogdaaDoorZLp
namespace Go.Proofs.YtgbmemkoggogdaaDoor
open Go.RowKit

theorem heap_alloc3_snd (w : World) (o o' o'' : Obj) : (((w.alloc o).alloc o').alloc o'').heap[w.heap.size + 1]? = some o' := by
  have := heap_alloc2_fst (w.alloc o) o' o''
  rwa [World.size_alloc] at this

end Go.Proofs.YtgbmemkoggogdaaDoor
