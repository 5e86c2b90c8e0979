/- A struct in a box, one field of which is a row that grows; the closure of word.ofAllWords, and ofAllWords: contracts. -/
import Derived.Test.YtcpnfbjcgaonkafDoorMa
import Derived.Test.YtcpnfbjcgaonkafDoorAc
import Derived.Test.YtcpnfbjcgaonkafDoorBf
import Derived.Test.YtcpnfbjcgaonkafDoorBm
import Derived.Test.YtcpnfbjcgaonkafDoorBs
import Derived.Test.YtcpnfbjcgaonkafDoorCf
import Derived.Test.YtcpnfbjcgaonkafDoorDa
import Derived.Test.YtcpnfbjcgaonkafDoorHm
import Derived.Test.YtcpnfbjcgaonkafDoorNx
import Derived.Test.YtcpnfbjcgaonkafDoorPe
import Derived.Test.YtcpnfbjcgaonkafDoorSe
import Derived.Test.YtcpnfbjcgaonkafDoorVf
import Derived.ArgAppend
import Derived.BigQuiet
import Derived.Deep.AppendLies
import Derived.Deep.DeepCutAuto
import Derived.Deep.MidRow
import Derived.Deep.RegionLaw
import Derived.DeepKeys4
import Derived.LoopIn
import Derived.LoopNIn
import Derived.Maps.OwnSet
import Derived.OwnWalkIn
import Derived.RangeFuncBound
import Derived.RangeFuncCalls
import Derived.RangeFuncLeaves
import Derived.RangeFuncNested
import Derived.Shelf.Abstract
import Derived.Shelf.RegionOpen
import Derived.Sort.LoopGhostIn
import Derived.TacticsInMore
import Derived.WalkKit
namespace Go.Proofs.YtcpnfbjcgaonkafDoor
open Go.RowKit

/-- Block B holds mk v, and v is a row of its own, made behind it. -/
structure FldI (wb : World) (B f : Nat) (mk : Value → Obj) (ty : TypeId) (vals : List Value) (v : Value) (W : World) : Prop where
  box : W.heap[B]? = some (mk v)
  own : W.ownsRow (B + 1) ty 1 v vals.length vals
  bel : Below wb.heap.size wb W
  base : wb.heap.size ≤ B
  put : ∀ (W : World) (v v' : Value), W.heap[B]? = some (mk v) → (W.setCell ⟨B, f, none⟩ v').heap[B]? = some (mk v')
section
variable {wb W W' : World} {B f : Nat} {mk : Value → Obj} {ty : TypeId} {vals : List Value} {v : Value}
theorem fld_push {w3 : World} {o : Obj} {u v3 : Value} (h : FldI wb B f mk ty vals v W) (hown : w3.ownsRow (B + 1) ty 1 v3 (vals.length + 1) (vals ++ [u])) (hgrow : (W.alloc o).grownBy w3 v.ownBlock) : w3.heap[B]? = some (mk v) ∧ FldI wb B f mk ty (vals ++ [u]) v3 (w3.setCell ⟨B, f, none⟩ v3) := by
  have hl := (Array.getElem?_eq_some_iff.1 h.box).1
  have hne : v.ownBlock ≠ some B := fun e => by have := (h.own.lt B e).1; omega
  have h3 : w3.heap[B]? = some (mk v) := by
    rw [hgrow.block B (by rw [World.size_alloc]; omega) (fun e => hne e.symm), Below.heap_alloc _ _ _ hl]
    exact h.box
  have hbl : Below wb.heap.size wb w3 := Below.grown (h.bel.alloc h.bel.size o) hgrow (by have := h.bel.size; rw [World.size_alloc]; omega) (fun k hk => by have := (h.own.lt k hk).1; have := h.base; omega)
  refine ⟨h3, h.put w3 v v3 h3, ?_, hbl.setCell h.base _, h.base, h.put⟩
  rw [List.length_append, List.length_singleton]
  exact ownsRow_of_block hown (fun x hx => Below.heap_setCell _ _ _ _ (fun e => by have := (hown.lt x hx).1; have e' : x = B := e; omega))
end
theorem put3 (B : Nat) (x0 x1 : Value) (T : TypeId) : ∀ (W : World) (v v' : Value), W.heap[B]? = some (.cells #[x0, x1, v] T) → (W.setCell ⟨B, 2, none⟩ v').heap[B]? = some (.cells #[x0, x1, v'] T) := fun W v v' h => by
  simp [World.setCell, Array.getElem?_modify, h]
end Go.Proofs.YtcpnfbjcgaonkafDoor
