/- Sets of states as package turn keeps them: two words of 64 bits; has, with: contracts. -/
import Derived.Laws.BitsLemmas
import Derived.Test.YtgbmemkoggogdaaDoorZCf
namespace Go.Proofs.YtgbmemkoggogdaaDoor
open Go.RowKit

theorem box2_set1 {W : World} {B i : Nat} {u0 u1 v : Value} {T : TypeId} (h : W.heap[B]? = some (.cells #[u0, u1] T (0, 0))) :
    ((W.setCell ⟨B, i, none⟩ v).heap[B]? = some (.cells (#[u0, u1].setIfInBounds i v) T (0, 0)) ∧ (W.setCell ⟨B, i, none⟩ v).heap.size = W.heap.size ∧ ∀ x, x ≠ B → (W.setCell ⟨B, i, none⟩ v).heap[x]? = W.heap[x]?) ∧ ∀ (w : World) (k : Nat), Below k w W → k ≤ B → Below k w (W.setCell ⟨B, i, none⟩ v) := by
  refine ⟨⟨?_, by simp [World.setCell], fun x hx => Below.heap_setCell _ _ _ _ hx⟩, fun w k hb hk => hb.setCell hk _⟩
  simp [World.setCell, Array.getElem?_modify, h]

end Go.Proofs.YtgbmemkoggogdaaDoor
