/- Slices of slices of slices of numbers: as they are read. -/
import Derived.Test.YtlgjadnkokmjoaaDoorNx
namespace Go.Proofs.YtlgjadnkokmjoaaDoor
open Go.RowKit

/-- The slice reads as squares of numbers. -/
def Sl3 (w : World) (a : Option Addr) (len : Nat) (L : List (List (List Int))) : Prop :=
  L.length = len ∧ len ≤ maxLen ∧
  (len = 0 ∨ ∃ b o, a = some ⟨b, o, none⟩ ∧ ∀ i, i < len → ∃ a' cap', w.cell? ⟨b, o + i, none⟩ = some (.slice a' (L.getD i []).length cap') ∧ Sl2 w a' (L.getD i []).length (L.getD i []))
theorem sl3_below {w W : World} {a : Option Addr} {len : Nat} {L : List (List (List Int))} (h : Sl3 w a len L) (hb : Below w.heap.size w W) : Sl3 W a len L := by
  obtain ⟨h1, h2, h3⟩ := h
  refine ⟨h1, h2, ?_⟩
  rcases h3 with h3 | ⟨b, o, rfl, hc⟩
  · exact Or.inl h3
  · refine Or.inr ⟨b, o, rfl, fun i hi => ?_⟩
    obtain ⟨a', cap', h4, h5⟩ := hc i hi
    refine ⟨a', cap', ?_, sl2_below h5 hb⟩
    rw [hb.cell (p := ⟨b, o + i, none⟩) (World.block_lt_of_cell? w _ h4)]
    exact h4
theorem sl3_cell {w : World} {a : Option Addr} {len : Nat} {L : List (List (List Int))} (h : Sl3 w a len L) (i : Nat) (hi : i < len) :
    ∃ b o a' cap', a = some ⟨b, o, none⟩ ∧ w.cell? ⟨b, o + i, none⟩ = some (.slice a' (L.getD i []).length cap') ∧ Sl2 w a' (L.getD i []).length (L.getD i []) := by
  rcases h.2.2 with h0 | ⟨b, o, rfl, hc⟩
  · omega
  · obtain ⟨a', cap', h4, h5⟩ := hc i hi
    exact ⟨b, o, a', cap', rfl, h4, h5⟩
/-- What counts by matrices, in its box. -/
theorem box5R {w w' : World} {v0 v1 v2 v3 v4 : Value} {T : TypeId} (hb : Below (w.alloc (.cells #[v0, v1, v2, v3, v4] T)).heap.size (w.alloc (.cells #[v0, v1, v2, v3, v4] T)) w') :
    w'.cell? ⟨w.heap.size, 0, none⟩ = some v0 ∧ w'.cell? ⟨w.heap.size, 1, none⟩ = some v1 ∧ w'.cell? ⟨w.heap.size, 2, none⟩ = some v2 ∧ w'.cell? ⟨w.heap.size, 3, none⟩ = some v3 ∧ w'.cell? ⟨w.heap.size, 4, none⟩ = some v4 := by
  have key : ∀ i, w'.cell? ⟨w.heap.size, i, none⟩ = #[v0, v1, v2, v3, v4][i]? := fun i => by
    rw [hb.cell (p := ⟨w.heap.size, i, none⟩) (by simp)]
    exact cell_of_row _ _ i _ T (0, 0) (heap_alloc_last w _)
  exact ⟨key 0, key 1, key 2, key 3, key 4⟩
end Go.Proofs.YtlgjadnkokmjoaaDoor
