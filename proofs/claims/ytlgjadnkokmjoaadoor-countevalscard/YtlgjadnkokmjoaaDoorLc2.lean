/- letter.apart, whatever is handed in; letter.Right and letter.Nums by it. -/
import Derived.Test.YtlgjadnkokmjoaaDoorNx
namespace Go.Proofs.YtlgjadnkokmjoaaDoor
open Go.RowKit

theorem errV_zero : errV 0 = .nilIface := rfl

end Go.Proofs.YtlgjadnkokmjoaaDoor
