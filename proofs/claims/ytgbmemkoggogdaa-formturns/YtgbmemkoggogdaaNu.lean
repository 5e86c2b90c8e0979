/- Rows of nodes: many are appended at once. -/
import Derived.Deep.Onto
import Derived.Laws.AppendOwnNone
import Derived.Test.YtgbmemkoggogdaaZNx
import Derived.Test.YtgbmemkoggogdaaZEg
namespace Go.Proofs.Ytgbmemkoggogdaa
open Go.RowKit

theorem ndL_one (n : Nd) (a : Option Addr) (c : Nat) : ∀ u ∈ ndL n a c, u.oneCell' = true := fun u hu => by
  simp only [ndL, List.mem_cons, List.not_mem_nil, or_false] at hu
  rcases hu with rfl | rfl | rfl | rfl | rfl | rfl | rfl <;> rfl
theorem zNode_size : (Value.agg #[.int .i64 0, .int .i64 0, .int .i64 0, .int .i64 0, .int .i64 0, .int .i64 0, .slice none 0 0]).cells.size = 7 := rfl
end Go.Proofs.Ytgbmemkoggogdaa
