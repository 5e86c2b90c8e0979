/- Small laws that all later texts use: readings carried on, one call behind another, a row of the call's own. -/
import Derived.Test.YtlgjadnkokmjoaaDoorA
import Derived.Test.YtlgjadnkokmjoaaDoorF
import Derived.WalkSmall
namespace Go.Proofs.YtlgjadnkokmjoaaDoor
open Go.RowKit

theorem sl_below {w W : World} {a : Option Addr} {len : Nat} {l : List Int} (h : Sl w a len l) (hb : Below w.heap.size w W) : Sl W a len l := by
  obtain ⟨h1, h2, h3, h4⟩ := h
  refine ⟨h1, h2, h3, ?_⟩
  rcases h4 with h4 | ⟨b, o, rfl, hc⟩
  · exact Or.inl h4
  · refine Or.inr ⟨b, o, rfl, fun i hi => ?_⟩
    have := hc i hi
    rw [hb.cell (p := ⟨b, o + i, none⟩) (World.block_lt_of_cell? w _ this)]
    exact this

theorem below_step {w a b : World} (h : Below w.heap.size w a) (k : Below a.heap.size a b) : Below w.heap.size w b := h.trans (k.mono h.size)


end Go.Proofs.YtlgjadnkokmjoaaDoor
