/- turn.atEnd, leadInto, doors: contracts. -/
import Derived.Deep.RegionHeldLaw
import Derived.Deep.RegionLaw
import Derived.Deep.RegionWith
import Derived.Laws.AppendOwnNone
import Derived.Laws.BitsLemmas
import Derived.Test.YtcpnfbjcgaonkafDoorZNx
import Derived.Test.YtcpnfbjcgaonkafDoorZAt
import Derived.Test.YtcpnfbjcgaonkafDoorBp
import Derived.Test.YtcpnfbjcgaonkafDoorBt
import Derived.Test.YtcpnfbjcgaonkafDoorZCf
import Derived.Test.YtcpnfbjcgaonkafDoorDb
import Derived.Test.YtcpnfbjcgaonkafDoorZE
import Derived.Test.YtcpnfbjcgaonkafDoorEa
import Derived.Test.YtcpnfbjcgaonkafDoorG
import Derived.Test.YtcpnfbjcgaonkafDoorZMp
import Derived.Test.YtcpnfbjcgaonkafDoorZGc
import Derived.Test.YtcpnfbjcgaonkafDoorZLp
namespace Go.Proofs.YtcpnfbjcgaonkafDoor
open Go.RowKit

theorem heap_alloc3_snd (w : World) (o o' o'' : Obj) : (((w.alloc o).alloc o').alloc o'').heap[w.heap.size + 1]? = some o' := by
  have := heap_alloc2_fst (w.alloc o) o' o''
  rwa [World.size_alloc] at this

end Go.Proofs.YtcpnfbjcgaonkafDoor
