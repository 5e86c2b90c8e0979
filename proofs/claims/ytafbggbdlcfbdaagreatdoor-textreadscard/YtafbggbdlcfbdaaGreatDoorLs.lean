/- The contract of letter.split: the digits of a letter. -/
import Derived.Deep.OwnRows
import Derived.Test.YtafbggbdlcfbdaaGreatDoorZG
namespace Go.Proofs.YtafbggbdlcfbdaaGreatDoor
open Go.RowKit

theorem make_ints (n : Nat) (hn : n ≤ 1000000000000) (w : World) : (Instr.makeSlice 39 (.int .i64 (n : Int)) (.int .i64 (n : Int))).run Tryz.prog w = .ok (.slice (some ⟨w.heap.size, 0, none⟩) n n) (w.alloc (.cells (madeCells #[.int .i64 0] n) 3)) :=
  run_make_row' 39 3 (.int .i64 0) 8 Tryz.underlying39 info3 rfl .i64 .i64 n (by omega) (by omega) w

end Go.Proofs.YtafbggbdlcfbdaaGreatDoor
