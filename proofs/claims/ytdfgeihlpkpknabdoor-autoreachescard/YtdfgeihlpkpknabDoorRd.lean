/- The contract of the document's ValueOf. -/
import Derived.Test.YtdfgeihlpkpknabDoorRc
namespace Go.Proofs.YtdfgeihlpkpknabDoor
open Go.RowKit

def valR (b : Int) (l : List Int) : Value := if val b l ≤ 1099511627776 then .tuple #[.int .i64 (val b l), .int .i64 0] else .tuple #[.int .i64 0, .int .i64 3]

end Go.Proofs.YtdfgeihlpkpknabDoor
