/- some.stayAtZeros: contract. -/
import Derived.Test.YtcpnfbjcgaonkafDoorMa
import Derived.Test.YtcpnfbjcgaonkafDoorAc
import Derived.Test.YtcpnfbjcgaonkafDoorAm
import Derived.Test.YtcpnfbjcgaonkafDoorAt
import Derived.Test.YtcpnfbjcgaonkafDoorBf
import Derived.Test.YtcpnfbjcgaonkafDoorBk
import Derived.Test.YtcpnfbjcgaonkafDoorHm
import Derived.Test.YtcpnfbjcgaonkafDoorLb
import Derived.Test.YtcpnfbjcgaonkafDoorLc2
import Derived.Test.YtcpnfbjcgaonkafDoorNx
import Derived.Test.YtcpnfbjcgaonkafDoorP
import Derived.Test.YtcpnfbjcgaonkafDoorRe
import Derived.BigQuiet
import Derived.BigRegion
import Derived.Deep.AppendLies
import Derived.Deep.DeepCutAuto
import Derived.Deep.MidRow
import Derived.Deep.RegionHeldLaw
import Derived.Deep.RegionLaw
import Derived.Deep.RegionWith
import Derived.DeepKeys4
import Derived.Laws.AppendOwnNone
import Derived.Laws.BytesArg
import Derived.Lib.SlicesCompact
import Derived.Maps.OwnSet
import Derived.Shelf.Abstract
import Derived.Shelf.Slices.Clone
import Derived.Shelf.Slices.CompactI
import Derived.Shelf.Slices.Delete
import Derived.Shelf.Slices.In.SortNone
import Derived.Shelf.Sort.Plain
import Derived.Shelf.Spec.SlicesGrow
import Derived.Sort.OwnSortedInts
import Derived.StringKeys
namespace Go.Proofs.YtcpnfbjcgaonkafDoor
open Go.RowKit

def clnRen : Go.Shelf.Ren := ⟨fun | 15 => 42 | n => n, fun | 3 => 3 | 4 => 4 | 22 => 23 | n => n, fun n => n⟩
theorem clnLays : Lays2.n15 Tryd.prog clnRen where
  mixed := by kernel_rfl
  f15 := Tryd.func42.trans (congrArg some (by kernel_rfl))
  t3 := Tryd.underlying3
  a3 := Tryd.isAgg3
  z3 := Tryd.sizeOf3
  v3 := Tryd.zeroValue3
  t4 := Tryd.underlying4
  a4 := Tryd.isAgg4
  z4 := Tryd.sizeOf4
  v4 := Tryd.zeroValue4
  t22 := Tryd.underlying23
  a22 := Tryd.isAgg23
  z22 := Tryd.sizeOf23
  v22 := Tryd.zeroValue23
  i3 := by kernel_rfl
end Go.Proofs.YtcpnfbjcgaonkafDoor
