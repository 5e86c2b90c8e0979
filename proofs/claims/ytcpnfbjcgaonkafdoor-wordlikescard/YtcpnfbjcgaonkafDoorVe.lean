/- The reference's IsOf: contract. -/
import Derived.Deep.RegionHeldLaw
import Derived.Deep.RegionLaw
import Derived.Deep.RegionWith
import Derived.Laws.AppendOwnNone
import Derived.Maps.AppendAt
import Derived.Test.YtcpnfbjcgaonkafDoorZNx
import Derived.Test.YtcpnfbjcgaonkafDoorZAt
import Derived.Test.YtcpnfbjcgaonkafDoorBp
import Derived.Test.YtcpnfbjcgaonkafDoorBt
import Derived.Test.YtcpnfbjcgaonkafDoorZCf
import Derived.Test.YtcpnfbjcgaonkafDoorDb
import Derived.Test.YtcpnfbjcgaonkafDoorZE
import Derived.Test.YtcpnfbjcgaonkafDoorEa
import Derived.Test.YtcpnfbjcgaonkafDoorG
import Derived.Test.YtcpnfbjcgaonkafDoorZMp
import Derived.Test.YtcpnfbjcgaonkafDoorZLp
import Derived.Test.YtcpnfbjcgaonkafDoorPc
import Derived.Test.YtcpnfbjcgaonkafDoorZKa
import Derived.Test.YtcpnfbjcgaonkafDoorZPe
namespace Go.Proofs.YtcpnfbjcgaonkafDoor
open Go.RowKit

theorem autoNew_none {w W : World} (a a' : Option Addr) : AutoNew w a 0 [] a' [] W := fun W' _ => ⟨⟨rfl, by unfold maxLen; omega, .inl rfl⟩, ⟨rfl, by unfold maxLen; omega, .inl rfl⟩⟩
end Go.Proofs.YtcpnfbjcgaonkafDoor
