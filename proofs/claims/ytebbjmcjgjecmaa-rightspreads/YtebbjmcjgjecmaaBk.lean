/- The reference's Shrunk: its rounds. -/
import Derived.Deep.LoopGhost
import Derived.Deep.RegionLaw
import Derived.Test.YtebbjmcjgjecmaaZNx
namespace Go.Proofs.Ytebbjmcjgjecmaa
open Go.RowKit

theorem infoS2 : (Try.prog.info? 31).map (fun i => (i.zero, i.size, i.bytes)) = some (some (.slice none 0 0), 1, 24) := by kernel_rfl
theorem infoBo : (Try.prog.info? 4).map (fun i => (i.zero, i.size, i.bytes)) = some (some (.bool false), 1, 1) := by kernel_rfl
end Go.Proofs.Ytebbjmcjgjecmaa
