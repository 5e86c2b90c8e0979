/- What the frames of all laws share: a slice of integers that came in; the handle of the type error, out of the row's condition on errors.errorType. -/
import Derived.OpenShut
import Derived.ProofKit
import Derived.Test.YtebbjmcjgjecmaaA
namespace Go.Proofs.Ytebbjmcjgjecmaa
open Go.ChangeShapes Go.WideShapes Go.ChangeAt Go.RowKit

theorem own : ownKnob Try.prog.godebug = none := by kernel_rfl
end Go.Proofs.Ytebbjmcjgjecmaa
