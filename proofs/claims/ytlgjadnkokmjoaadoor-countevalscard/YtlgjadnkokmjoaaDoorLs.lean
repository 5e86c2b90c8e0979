/- The contract of letter.split: the digits of a letter. -/
import Derived.Test.YtlgjadnkokmjoaaDoorLa
import Derived.Deep.OwnRows
namespace Go.Proofs.YtlgjadnkokmjoaaDoor
open Go.RowKit

/-- A row of the call's own that reads as numbers. -/
theorem sl_of_rowIs {w : World} {g n : Nat} {l : List Int} (hl : l.length = n) (hm : n ≤ maxLen) (hw : ∀ x ∈ l, (Lit.int .i64 x).wf = true) (h : w.rowIs g 3 n fun i => .int .i64 (l.getD i 0)) : Sl w (some ⟨g, 0, none⟩) n l :=
  ⟨hl, hm, hw, Or.inr ⟨g, 0, rfl, fun i hi => by rw [Nat.zero_add]; exact h.cell hi⟩⟩

theorem make_ints (n : Nat) (hn : n ≤ 1000000000000) (w : World) : (Instr.makeSlice 35 (.int .i64 (n : Int)) (.int .i64 (n : Int))).run Tryd.prog w = .ok (.slice (some ⟨w.heap.size, 0, none⟩) n n) (w.alloc (.cells (madeCells #[.int .i64 0] n) 3)) :=
  run_make_row' 35 3 (.int .i64 0) 8 Tryd.underlying35 info3 rfl .i64 .i64 n (by omega) (by omega) w

end Go.Proofs.YtlgjadnkokmjoaaDoor
