/- The reference's SomeOf: contract. -/
import Derived.Deep.RegionHeldLaw
import Derived.Deep.RegionLaw
import Derived.Deep.RegionWith
import Derived.Laws.AppendOwnNone
import Derived.Maps.AppendAt
import Derived.Test.YtcpnfbjcgaonkafDoorZNx
import Derived.Test.YtcpnfbjcgaonkafDoorZAt
import Derived.Test.YtcpnfbjcgaonkafDoorBp
import Derived.Test.YtcpnfbjcgaonkafDoorBt
import Derived.Test.YtcpnfbjcgaonkafDoorZCf
import Derived.Test.YtcpnfbjcgaonkafDoorZCi
import Derived.Test.YtcpnfbjcgaonkafDoorZMp
import Derived.Test.YtcpnfbjcgaonkafDoorZLp
import Derived.Test.YtcpnfbjcgaonkafDoorLq
import Derived.Test.YtcpnfbjcgaonkafDoorZG
namespace Go.Proofs.YtcpnfbjcgaonkafDoor
open Go.RowKit

/-- A row of bools that is appended to. -/
def GrowB (w : World) (bs : List Bool) (v : Value) (W : World) : Prop := W.ownsRow w.heap.size 4 1 v bs.length (bs.map Value.bool) ∧ Below w.heap.size w W
theorem growB_nil (w : World) : GrowB w [] (.slice none 0 0) w := ⟨World.ownsRow_nil _ _ _ _, Below.refl _ _⟩
theorem growB_push {w : World} {bs : List Bool} {v v2 : Value} {W w3 : World} {o : Obj} {x : Bool} (h : GrowB w bs v W) (hown : w3.ownsRow w.heap.size 4 1 v2 (bs.length + 1) (bs.map Value.bool ++ [.bool x])) (hg : (W.alloc o).grownBy w3 v.ownBlock) : GrowB w (bs ++ [x]) v2 w3 :=
  ⟨by rw [List.length_append, List.map_append]; exact hown, Below.grown (h.2.alloc h.2.size o) hg (by have := h.2.size; simp; omega) (fun k hk => (h.1.lt k hk).1)⟩
theorem growB_end {w : World} {bs : List Bool} {v : Value} {W : World} (h : GrowB w bs v W) (hm : bs.length ≤ maxLen) : ∃ a cap, v = .slice a bs.length cap ∧ SlB W a bs.length bs := by
  obtain ⟨⟨h0, h1⟩, -⟩ := h
  rcases h1 with ⟨rfl, hn⟩ | ⟨g, cap, cur, rfl, hg, hh, hc, hcm, hcs, ht⟩
  · exact ⟨none, 0, by rw [hn], rfl, hm, Or.inl hn⟩
  · refine ⟨_, cap, rfl, rfl, hm, Or.inr ⟨g, 0, rfl, fun i hi => ?_⟩⟩
    rw [cell_of_row W g (0 + i) cur 4 (0, 0) hh, Nat.zero_add]
    have h3 : (cur.toList.take (bs.length * 1))[i]? = (bs.map Value.bool)[i]? := by rw [ht]
    rw [List.getElem?_take, if_pos (by omega), Array.getElem?_toList] at h3
    rw [h3]
    simp [List.getD, hi]

end Go.Proofs.YtcpnfbjcgaonkafDoor
