/- An automaton with outputs, and rows, that came in: opened. -/
import Derived.Test.YtlgjadnkokmjoaaDoorA
import Derived.Test.YtlgjadnkokmjoaaDoorAc
import Derived.Test.YtlgjadnkokmjoaaDoorAe
import Derived.Test.YtlgjadnkokmjoaaDoorAm
import Derived.Test.YtlgjadnkokmjoaaDoorF
import Derived.Test.YtlgjadnkokmjoaaDoorFa
import Derived.Test.YtlgjadnkokmjoaaDoorLc2
import Derived.Test.YtlgjadnkokmjoaaDoorLp
import Derived.Test.YtlgjadnkokmjoaaDoorM
import Derived.Test.YtlgjadnkokmjoaaDoorN
import Derived.Test.YtlgjadnkokmjoaaDoorNx
import Derived.Test.YtlgjadnkokmjoaaDoorRe
import Derived.ArgAppend
import Derived.BigQuiet
import Derived.BigRegion
import Derived.Deep.AppendLies
import Derived.Deep.LoopGhost
import Derived.Deep.MidRow
import Derived.Deep.RegionHeldLaw
import Derived.Deep.RegionLaw
import Derived.Deep.RegionWith
import Derived.Deep.WholeRow
import Derived.DeepKeys4
import Derived.Laws.AppendOwnNone
import Derived.LoopIn
import Derived.LoopNIn
import Derived.Maps.OwnSet
import Derived.OwnWalkIn
import Derived.RangeFuncBound
import Derived.RangeFuncCalls
import Derived.RangeFuncLeaves
import Derived.RangeFuncNested
import Derived.RegionTactic
import Derived.Shelf.Abstract
import Derived.Shelf.RegionOpen
import Derived.Sort.LoopGhostIn
import Derived.TacticsInMore
import Derived.WalkKit
import Derived.WalkSmall
namespace Go.Proofs.YtlgjadnkokmjoaaDoor
open Go.ChangeShapes Go.WideShapes Go.ChangeAt Go.RowKit Go.Joins Go.Deep

theorem ints_open {H : Type} {enc : TypeId × Value → H} {W : World} {base : Nat} {held : Bool} {fuel : Nat} {v : Value} {x : DataW H × List MemPlace} (h : DataW.trod enc Tryd.prog W base (fun _ => true) held fuel 35 [v] = some x) :
    ∃ a len cap l, v = .slice a len cap ∧ Sl W a len l := by
  rcases open_ints Tryd.underlying35 Tryd.underlying3 (by kernel_rfl) h with ⟨hcs, _⟩ | ⟨x, l, c, zs, hcs, _, hl, hm, hz, _, hcell, hwz⟩
  · simp at hcs
    exact ⟨none, 0, 0, _, hcs, sl_of_row (cap := 0) (zs := []) (.inl ⟨rfl, rfl, rfl, rfl⟩)⟩
  · simp at hcs
    exact ⟨some x, l, c, zs.take l, hcs, sl_of_row (.inr ⟨_, rfl, hl, hm, by simpa using hz, hcell, hwz⟩)⟩
end Go.Proofs.YtlgjadnkokmjoaaDoor
