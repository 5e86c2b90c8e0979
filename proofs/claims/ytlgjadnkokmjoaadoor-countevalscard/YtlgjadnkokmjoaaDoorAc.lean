/- The contract of auto.Check. -/
import Derived.Test.YtlgjadnkokmjoaaDoorAm
import Derived.Test.YtlgjadnkokmjoaaDoorNx
namespace Go.Proofs.YtlgjadnkokmjoaaDoor
open Go.RowKit

theorem errV_no {c : Int} (h : c ≠ 0) : errV c = .iface 26 (.int .i64 c) := by unfold errV; rw [if_neg h]
end Go.Proofs.YtlgjadnkokmjoaaDoor
