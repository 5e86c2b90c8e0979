/- count.leads: contract. -/
import Derived.Test.YtlgjadnkokmjoaaDoorCtc
import Derived.Test.YtlgjadnkokmjoaaDoorNx
import Derived.Deep.CutRange
namespace Go.Proofs.YtlgjadnkokmjoaaDoor
open Go.RowKit

theorem rowIs_eq {W : World} {g : Nat} {T : TypeId} {n : Nat} {f : Nat → Value} (h : W.rowIs g T n f) {i : Nat} (hi : i < n) {v : Value} (e : f i = v) : W.cell? ⟨g, i, none⟩ = some v := by rw [← e]; exact h.cell hi
end Go.Proofs.YtlgjadnkokmjoaaDoor
