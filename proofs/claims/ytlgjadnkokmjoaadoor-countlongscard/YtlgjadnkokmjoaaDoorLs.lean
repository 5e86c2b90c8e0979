/- The contract of letter.split: the digits of a letter. -/
import Derived.Deep.OwnRows
import Derived.Test.YtlgjadnkokmjoaaDoorZRu
namespace Go.Proofs.YtlgjadnkokmjoaaDoor
open Go.RowKit

/-- A row of the call's own that reads as numbers. -/
theorem sl_of_rowIs {w : World} {g n : Nat} {l : List Int} (hl : l.length = n) (hm : n ≤ maxLen) (hw : ∀ x ∈ l, (Lit.int .i64 x).wf = true) (h : w.rowIs g 3 n fun i => .int .i64 (l.getD i 0)) : Sl w (some ⟨g, 0, none⟩) n l :=
  ⟨hl, hm, hw, Or.inr ⟨g, 0, rfl, fun i hi => by rw [Nat.zero_add]; exact h.cell hi⟩⟩

theorem make_ints (n : Nat) (hn : n ≤ 1000000000000) (w : World) : (Instr.makeSlice 35 (.int .i64 (n : Int)) (.int .i64 (n : Int))).run Tryd.prog w = .ok (.slice (some ⟨w.heap.size, 0, none⟩) n n) (w.alloc (.cells (madeCells #[.int .i64 0] n) 3)) :=
  run_make_row' 35 3 (.int .i64 0) 8 Tryd.underlying35 info3 rfl .i64 .i64 n (by omega) (by omega) w

/-- The loop of split, behind k rounds. -/
def SpAt (b : Int) (n : Nat) (l : Int) (w : World) (k : Nat) (wr : World) : Prop :=
  wr.rowIs w.heap.size 3 n (fun p => .int .i64 (if n ≤ p + k then dOf b n l p else 0)) ∧ Below w.heap.size w wr

theorem spAt_step {b : Int} {n : Nat} {l : Int} {w wr : World} {k m : Nat} (h : SpAt b n l w k wr) (hm : n = m + 1 + k) : SpAt b n l w (k + 1) (wr.setCell ⟨w.heap.size, m, none⟩ (.int .i64 (l / pw (kindsI b) k % kindsI b))) := by
  refine ⟨(h.1.set m _).congr fun p hp => ?_, h.2.setCell (Nat.le_refl _) _⟩
  by_cases e : p = m
  · subst e
    rw [if_pos rfl, if_pos (by omega)]
    unfold dOf
    rw [show n - 1 - p = k by omega]
  · rw [if_neg e]
    by_cases e2 : n ≤ p + k
    · rw [if_pos e2, if_pos (by omega)]
    · rw [if_neg e2, if_neg (by omega)]

end Go.Proofs.YtlgjadnkokmjoaaDoor
