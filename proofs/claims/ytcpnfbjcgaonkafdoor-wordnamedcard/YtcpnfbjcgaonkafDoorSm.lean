/- word.Like: both, read as they stand, in boxes. -/
import Derived.Test.YtcpnfbjcgaonkafDoorMa
import Derived.Test.YtcpnfbjcgaonkafDoorAc
import Derived.Test.YtcpnfbjcgaonkafDoorAm
import Derived.Test.YtcpnfbjcgaonkafDoorAt
import Derived.Test.YtcpnfbjcgaonkafDoorBf
import Derived.Test.YtcpnfbjcgaonkafDoorBk
import Derived.Test.YtcpnfbjcgaonkafDoorHm
import Derived.Test.YtcpnfbjcgaonkafDoorLb
import Derived.Test.YtcpnfbjcgaonkafDoorLc2
import Derived.Test.YtcpnfbjcgaonkafDoorNx
import Derived.Test.YtcpnfbjcgaonkafDoorP
import Derived.Test.YtcpnfbjcgaonkafDoorPe
import Derived.Test.YtcpnfbjcgaonkafDoorRe
import Derived.Test.YtcpnfbjcgaonkafDoorSe
import Derived.Test.YtcpnfbjcgaonkafDoorSg
import Derived.Test.YtcpnfbjcgaonkafDoorSi
import Derived.Test.YtcpnfbjcgaonkafDoorVa
import Derived.Test.YtcpnfbjcgaonkafDoorVc
import Derived.Test.YtcpnfbjcgaonkafDoorVf
import Derived.BigQuiet
import Derived.BigRegion
import Derived.Deep.AppendLies
import Derived.Deep.DeepCutAuto
import Derived.Deep.MidRow
import Derived.Deep.RegionHeldLaw
import Derived.Deep.RegionLaw
import Derived.Deep.RegionWith
import Derived.DeepKeys4
import Derived.Laws.AppendOwnNone
import Derived.Laws.BitsLemmas
import Derived.Maps.AppendAt
import Derived.Maps.OwnSet
import Derived.Shelf.Abstract
namespace Go.Proofs.YtcpnfbjcgaonkafDoor
open Go.RowKit

theorem set3_keep (w4 : World) (X : Nat) (v0 v1 v2 : Value) (x : Nat) (h : x ≠ X) : (((w4.setCell ⟨X, 0, none⟩ v0).setCell ⟨X, 1, none⟩ v1).setCell ⟨X, 2, none⟩ v2).heap[x]? = w4.heap[x]? := by
  rw [Below.heap_setCell _ _ _ _ h, Below.heap_setCell _ _ _ _ h, Below.heap_setCell _ _ _ _ h]
theorem set3_size (w4 : World) (X : Nat) (v0 v1 v2 : Value) : (((w4.setCell ⟨X, 0, none⟩ v0).setCell ⟨X, 1, none⟩ v1).setCell ⟨X, 2, none⟩ v2).heap.size = w4.heap.size := by simp [World.setCell]
end Go.Proofs.YtcpnfbjcgaonkafDoor
