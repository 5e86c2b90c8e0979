/- 2 texts in one. -/
import Derived.OwnWalk
import Derived.WalkSmall
import Derived.Test.YtlgjadnkokmjoaaDoorMa
import Derived.Test.YtlgjadnkokmjoaaDoorB
/- The contract of digit.withoutZeros. -/
namespace Go.Proofs.YtlgjadnkokmjoaaDoor
open Go.RowKit

/-- .. and lies in a block from base on. -/
def SlN (base : Nat) (w : World) (a : Option Addr) (len : Nat) (l : List Int) : Prop := Sl w a len l ∧ ∀ ad, a = some ad → base ≤ ad.block
theorem SlN.mono {base base' : Nat} {w : World} {a : Option Addr} {len : Nat} {l : List Int} (h : SlN base w a len l) (hb : base' ≤ base) : SlN base' w a len l := ⟨h.1, fun ad e => Nat.le_trans hb (h.2 ad e)⟩

/-- A row of the call's own reads as its numbers. -/
theorem sl_of_owns {w : World} {base : Nat} {v : Value} {n : Nat} {l : List Int} (hl : l.length = n) (hm : n ≤ maxLen) (hw : ∀ x ∈ l, (Lit.int .i64 x).wf = true)
    (h : w.ownsRow base 3 1 v n (l.map (Value.int .i64))) : ∃ a cap, v = .slice a n cap ∧ SlN base w a n l := by
  obtain ⟨h1, h2⟩ := h
  rcases h2 with ⟨rfl, rfl⟩ | ⟨g, cap, cur, rfl, hg, hh, hc, hcm, hcs, ht⟩
  · exact ⟨none, 0, rfl, ⟨hl, hm, hw, Or.inl rfl⟩, fun _ h => by cases h⟩
  · refine ⟨_, _, rfl, ⟨hl, hm, hw, Or.inr ⟨g, 0, rfl, fun i hi => ?_⟩⟩, fun ad h => by cases h; exact hg⟩
    rw [cell_of_row w g (0 + i) cur 3 (0, 0) hh, Nat.zero_add]
    have h3 : (cur.toList.take (n * 1))[i]? = (l.map (Value.int .i64))[i]? := by rw [ht]
    rw [List.getElem?_take, if_pos (by omega)] at h3
    rw [Array.getElem?_toList] at h3
    rw [h3]
    simp [List.getD, hl, hi]

theorem info3 : (Tryd.prog.info? 3).map (fun i => (i.zero, i.size, i.bytes)) = some (some (.int .i64 0), 1, 8) := by kernel_rfl

/-- A slice with the numbers l is handed back; nothing that was there has turned. -/
def GivesRow (w : World) (l : List Int) (e : Ending) (w' : World) : Prop := ∃ a cap, e = .returned (.slice a l.length cap) ∧ SlN w.heap.size w' a l.length l ∧ Below w.heap.size w w'

end Go.Proofs.YtlgjadnkokmjoaaDoor

/- Small laws that all later texts use: readings carried on, one call behind another, a row of the call's own. -/
namespace Go.Proofs.YtlgjadnkokmjoaaDoor
open Go.RowKit

theorem sl_below {w W : World} {a : Option Addr} {len : Nat} {l : List Int} (h : Sl w a len l) (hb : Below w.heap.size w W) : Sl W a len l := by
  obtain ⟨h1, h2, h3, h4⟩ := h
  refine ⟨h1, h2, h3, ?_⟩
  rcases h4 with h4 | ⟨b, o, rfl, hc⟩
  · exact Or.inl h4
  · refine Or.inr ⟨b, o, rfl, fun i hi => ?_⟩
    have := hc i hi
    rw [hb.cell (p := ⟨b, o + i, none⟩) (World.block_lt_of_cell? w _ this)]
    exact this

theorem below_step {w a b : World} (h : Below w.heap.size w a) (k : Below a.heap.size a b) : Below w.heap.size w b := h.trans (k.mono h.size)


/-- The one cell of a block that was just made. -/
theorem one_new (w : World) (x : Value) (t : TypeId) : ∀ j u, [x][j]? = some u → (w.alloc (.cells #[x] t)).cell? ((⟨w.heap.size, 0, none⟩ : Addr).add j) = some u := by
  intro j u h
  have hj : j = 0 := by
    have := (List.getElem?_eq_some_iff.1 h).1
    simp at this
    exact this
  subst hj
  have hadd : (⟨w.heap.size, 0, none⟩ : Addr).add 0 = ⟨w.heap.size, 0, none⟩ := by unfold Addr.add; split <;> simp_all
  rw [hadd, cell_of_row _ _ 0 _ t (0, 0) (heap_alloc_last w _)]
  simpa using h

end Go.Proofs.YtlgjadnkokmjoaaDoor
