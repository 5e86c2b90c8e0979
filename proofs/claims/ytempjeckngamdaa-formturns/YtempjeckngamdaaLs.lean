/- The contract of letter.split: the digits of a letter. -/
import Derived.Deep.OwnRows
import Derived.Test.YtempjeckngamdaaZG
namespace Go.Proofs.Ytempjeckngamdaa
open Go.RowKit

theorem make_ints (n : Nat) (hn : n ≤ 1000000000000) (w : World) : (Instr.makeSlice 24 (.int .i64 (n : Int)) (.int .i64 (n : Int))).run Try.prog w = .ok (.slice (some ⟨w.heap.size, 0, none⟩) n n) (w.alloc (.cells (madeCells #[.int .i64 0] n) 3)) :=
  run_make_row' 24 3 (.int .i64 0) 8 Try.underlying24 info3 rfl .i64 .i64 n (by omega) (by omega) w

end Go.Proofs.Ytempjeckngamdaa
