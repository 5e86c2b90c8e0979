/- The contract of letter.split: the digits of a letter. -/
import Derived.Test.YtihhlddbppljpabDoorLa
import Derived.Deep.OwnRows
namespace Go.Proofs.YtihhlddbppljpabDoor
open Go.RowKit

theorem make_ints (n : Nat) (hn : n ≤ 1000000000000) (w : World) : (Instr.makeSlice 26 (.int .i64 (n : Int)) (.int .i64 (n : Int))).run Tryd.prog w = .ok (.slice (some ⟨w.heap.size, 0, none⟩) n n) (w.alloc (.cells (madeCells #[.int .i64 0] n) 3)) :=
  run_make_row' 26 3 (.int .i64 0) 8 Tryd.underlying26 info3 rfl .i64 .i64 n (by omega) (by omega) w

end Go.Proofs.YtihhlddbppljpabDoor
