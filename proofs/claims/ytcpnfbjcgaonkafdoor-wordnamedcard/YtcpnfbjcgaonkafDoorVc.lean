/- The reference's OutFault, Said: contracts. -/
import Derived.Test.YtcpnfbjcgaonkafDoorAc
import Derived.Test.YtcpnfbjcgaonkafDoorLc2
import Derived.Test.YtcpnfbjcgaonkafDoorRe
import Derived.Test.YtcpnfbjcgaonkafDoorVa
import Derived.BigQuiet
import Derived.BigRegion
namespace Go.Proofs.YtcpnfbjcgaonkafDoor
open Go.RowKit

theorem box3_cells {W : World} {B : Nat} {v0 v1 v2 : Value} {T : TypeId} (h : W.heap[B]? = some (.cells #[v0, v1, v2] T (0, 0))) : (W.cell? ⟨B, 0, none⟩ = some v0 ∧ W.cell? ⟨B, 1, none⟩ = some v1 ∧ W.cell? ⟨B, 2, none⟩ = some v2) ∧ ∀ i, W.frozen? ⟨B, i, none⟩ = false := by
  refine ⟨⟨by simp [World.cell?, h], by simp [World.cell?, h], by simp [World.cell?, h]⟩, fun i => by simp [World.frozen?, h]⟩
/-- An Out, by value. -/
def outV (b : Int) (a : Option Addr) (n cap : Nat) (ao : Option Addr) (no co : Nat) : Value := .agg #[.int .i64 b, .slice a n cap, .slice ao no co]
/-- .. in a box, as it stays. -/
theorem outBox (w : World) (b : Int) (a : Option Addr) (n cap : Nat) (ao : Option Addr) (no co : Nat) {N : List (List Int)} {O : List Int} (T : TypeId) (hs : Sl2 w a n N) (ho : Sl w ao no O) :
    ∀ W, Below (w.alloc (.cells #[.int .i64 b, .slice a n cap, .slice ao no co] T)).heap.size (w.alloc (.cells #[.int .i64 b, .slice a n cap, .slice ao no co] T)) W → (W.cell? ⟨w.heap.size, 0, none⟩ = some (.int .i64 b) ∧ W.cell? ⟨w.heap.size, 1, none⟩ = some (.slice a n cap) ∧ W.cell? ⟨w.heap.size, 2, none⟩ = some (.slice ao no co)) ∧ Sl2 W a n N ∧ Sl W ao no O ∧ Below w.heap.size w W := fun W hW => by
  have hb := (Below.refl w.heap.size w).alloc (Nat.le_refl _) (.cells #[.int .i64 b, .slice a n cap, .slice ao no co] T)
  have hx := heap_alloc_last w (.cells #[.int .i64 b, .slice a n cap, .slice ao no co] T)
  have hbw := below_step hb hW
  exact ⟨(box3_cells ((hW.block _ (Array.getElem?_eq_some_iff.1 hx).1).trans hx)).1, sl2_below hs hbw, sl_below ho hbw, hbw⟩
end Go.Proofs.YtcpnfbjcgaonkafDoor
