/- The contract of letter.split: the digits of a letter. -/
import Derived.Deep.OwnRows
import Derived.Test.YtgbmemkoggogdaaZG
namespace Go.Proofs.Ytgbmemkoggogdaa
open Go.RowKit

theorem make_ints (n : Nat) (hn : n ≤ 1000000000000) (w : World) : (Instr.makeSlice 23 (.int .i64 (n : Int)) (.int .i64 (n : Int))).run Try.prog w = .ok (.slice (some ⟨w.heap.size, 0, none⟩) n n) (w.alloc (.cells (madeCells #[.int .i64 0] n) 3)) :=
  run_make_row' 23 3 (.int .i64 0) 8 Try.underlying23 info3 rfl .i64 .i64 n (by omega) (by omega) w

end Go.Proofs.Ytgbmemkoggogdaa
