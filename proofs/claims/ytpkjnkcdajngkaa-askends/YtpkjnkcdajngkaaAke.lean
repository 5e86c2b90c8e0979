/- ask.firstWords: what holds along the way. -/
import Derived.Test.YtpkjnkcdajngkaaAd
import Derived.Test.YtpkjnkcdajngkaaAkd
import Derived.Deep.AppendLies
import Derived.Shelf.Slices.Clone
import Derived.Shelf.Slices.In.Clone
namespace Go.Proofs.Ytpkjnkcdajngkaa
open Go.RowKit

theorem one_cell {W : World} {B : Nat} {v : Value} {T : TypeId} (h : W.heap[B]? = some (.cells #[v] T (0, 0))) : W.cell? ⟨B, 0, none⟩ = some v ∧ W.frozen? ⟨B, 0, none⟩ = false := by
  refine ⟨?_, ?_⟩ <;> simp [World.cell?, World.frozen?, h]
section
variable {wS : World} {s : Nat} {vL vW : Value} {vals : List Value} {L : List (List Int)} {p : List Int} {W : World}
end
end Go.Proofs.Ytpkjnkcdajngkaa
