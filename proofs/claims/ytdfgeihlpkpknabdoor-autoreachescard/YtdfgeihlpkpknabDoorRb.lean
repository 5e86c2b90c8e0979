/- The contract of the document's Weights. -/
import Derived.Test.YtdfgeihlpkpknabDoorWm
import Derived.Test.YtdfgeihlpkpknabDoorRa
import Derived.Test.YtdfgeihlpkpknabDoorU
import Derived.OwnWalk
namespace Go.Proofs.YtdfgeihlpkpknabDoor
open Go.RowKit

/-- The row of k + 1 places in the loop of Weights. -/
def WtAt (b : Int) (w : World) (k : Nat) (v : Value) (wr : World) : Prop :=
  (∀ i, i + 1 < k + 1 → wt b i ≤ 1099511627776) ∧ wr.ownsRow w.heap.size 3 1 v (k + 1) ((wtL b (k + 1)).map (Value.int .i64)) ∧ Below w.heap.size w wr

def WGives (b : Int) (w : World) (e : Ending) (w' : World) : Prop := ∃ n, Wts b n ∧ GivesRow w (wtL b n) e w'

theorem wtAt_step {b : Int} {w wr w3 : World} {k g cap : Nat} {v' : Value} {o : Obj} (hat : WtAt b w k (.slice (some ⟨g, 0, none⟩) (k + 1) cap) wr) (hle : wt b k ≤ 1099511627776) (hg : w.heap.size ≤ g) (hb : Below w.heap.size w wr)
    (hown : w3.ownsRow w.heap.size 3 1 v' (k + 1 + 1) ((wtL b (k + 1)).map (Value.int .i64) ++ [.int .i64 (wt b (k + 1))])) (hgrow : (wr.alloc o).grownBy w3 (some g)) : WtAt b w (k + 1) v' w3 := by
  refine ⟨fun i hi => ?_, by rw [wtL_succ, List.map_append]; exact hown, ?_⟩
  · by_cases e : i = k
    · subst e; exact hle
    · exact hat.1 i (by omega)
  · exact Below.grown (hb.alloc hb.size o) hgrow (by have := hb.size; simp; omega) (fun j h => by cases h; exact hg)

theorem wtAt_end {b : Int} {w wr : World} {k : Nat} {v : Value} (h1 : 1 ≤ b) (h2 : b ≤ 6) (hk : k ≤ 59) (hat : WtAt b w k v wr) (hgt : 1099511627776 < wt b k) : WGives b w (.returned v) wr := by
  refine ⟨k + 1, ⟨by omega, by omega, hat.1, hgt⟩, ?_⟩
  have hwf : ∀ x ∈ wtL b (k + 1), (Lit.int .i64 x).wf = true := fun x hx => by
    simp only [wtL, List.mem_map, List.mem_range] at hx
    obtain ⟨j, hj, rfl⟩ := hx
    have hp := wt_pos b h1 j
    have hu : wt b j ≤ 1099511627776 * 6 := by
      by_cases e : j = 0
      · subst e; rw [wt_zero]; omega
      · obtain ⟨i, rfl⟩ : ∃ i, j = i + 1 := ⟨j - 1, by omega⟩
        have hi := hat.1 i (by omega)
        have hpi := wt_pos b h1 i
        have hai : wta b i ≤ 1099511627776 := by
          cases i with
          | zero => rw [wta_zero]; omega
          | succ i => rw [wta_succ]; exact hat.1 i (by omega)
        rw [wt_succ]
        split
        · omega
        · have := Int.mul_le_mul hi h2 (by omega) (by omega)
          omega
    exact Go.WalkArith.wf_i64 (by omega)
  obtain ⟨a, cap, rfl, hs⟩ := sl_of_owns (wtL_length b (k + 1)) (by unfold maxLen; omega) hwf hat.2.1
  exact ⟨a, cap, by rw [wtL_length], by rw [wtL_length]; exact hs, hat.2.2⟩

end Go.Proofs.YtdfgeihlpkpknabDoor
