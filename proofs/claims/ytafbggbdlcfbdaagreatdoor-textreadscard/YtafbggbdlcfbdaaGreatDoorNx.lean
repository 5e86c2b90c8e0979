/- Slices of slices of numbers: as they are read, and as a call builds them. -/
import Derived.Deep.AppendLies
import Derived.OneCell
import Derived.Test.YtafbggbdlcfbdaaGreatDoorLs
namespace Go.Proofs.YtafbggbdlcfbdaaGreatDoor
open Go.RowKit

theorem ownsRow_of_block {w w' : World} {base : Nat} {e : TypeId} {size : Nat} {v : Value} {n : Nat} {xs : List Value} (h : w.ownsRow base e size v n xs) (hb : ∀ k, v.ownBlock = some k → w'.heap[k]? = w.heap[k]?) : w'.ownsRow base e size v n xs := by
  obtain ⟨h1, h2⟩ := h
  refine ⟨h1, ?_⟩
  rcases h2 with h2 | ⟨g, cap, cur, rfl, hg, hh, r⟩
  · exact Or.inl h2
  · exact Or.inr ⟨g, cap, cur, rfl, hg, by rw [hb g rfl]; exact hh, r⟩

/-- The block of a slice that is not empty. -/
def slB (a : Option Addr) (len : Nat) (x : Nat) : Prop := 0 < len ∧ ∃ ad, a = some ad ∧ ad.block = x
theorem sl_keep {w w' : World} {a : Option Addr} {len : Nat} {l : List Int} (h : Sl w a len l) (hb : ∀ x, slB a len x → w'.heap[x]? = w.heap[x]?) : Sl w' a len l := by
  obtain ⟨h1, h2, h3, h4⟩ := h
  refine ⟨h1, h2, h3, ?_⟩
  rcases h4 with h4 | ⟨b, o, rfl, hc⟩
  · exact Or.inl h4
  · refine Or.inr ⟨b, o, rfl, fun i hi => ?_⟩
    rw [World.cell?_of_block (w := w) (hb b ⟨by omega, _, rfl, rfl⟩)]
    exact hc i hi
theorem slB_lt {w : World} {a : Option Addr} {len : Nat} {l : List Int} (h : Sl w a len l) {x : Nat} (hx : slB a len x) : x < w.heap.size := by
  obtain ⟨h0, ad, rfl, rfl⟩ := hx
  obtain ⟨b, o, e, hc⟩ := sl_cell h 0 h0
  cases e
  exact World.block_lt_of_cell? w _ hc

end Go.Proofs.YtafbggbdlcfbdaaGreatDoor
