/- An automaton that a call builds in a variable's box, row by row and end by end. -/
import Derived.Test.YtpkjnkcdajngkaaAd
import Derived.Deep.AppendLies
namespace Go.Proofs.Ytpkjnkcdajngkaa
open Go.RowKit

theorem owns_apart {W : World} {base e e' : Nat} (hne : e ≠ e') {v v' : Value} {n n' : Nat} {xs xs' : List Value} (h : W.ownsRow base e 1 v n xs) (h' : W.ownsRow base e' 1 v' n' xs') {x : Nat} (hx : v.ownBlock = some x) (hx' : v'.ownBlock = some x) : False := by
  rcases h.2 with ⟨rfl, _⟩ | ⟨g, cap, cur, rfl, _, hg, _⟩
  · simp [Value.ownBlock] at hx
  · rcases h'.2 with ⟨rfl, _⟩ | ⟨g', cap', cur', rfl, _, hg', _⟩
    · simp [Value.ownBlock] at hx'
    · simp [Value.ownBlock] at hx hx'
      subst hx; subst hx'
      rw [hg] at hg'
      simp at hg'
      exact hne hg'.2
theorem box_cells {W : World} {B : Nat} {v0 v1 v2 v3 : Value} {T : TypeId} (h : W.heap[B]? = some (.cells #[v0, v1, v2, v3] T (0, 0))) :
    (W.cell? ⟨B, 0, none⟩ = some v0 ∧ W.cell? ⟨B, 1, none⟩ = some v1 ∧ W.cell? ⟨B, 2, none⟩ = some v2 ∧ W.cell? ⟨B, 3, none⟩ = some v3) ∧ ∀ i, W.frozen? ⟨B, i, none⟩ = false := by
  refine ⟨⟨?_, ?_, ?_, ?_⟩, fun i => ?_⟩ <;> simp [World.cell?, World.frozen?, h]
end Go.Proofs.Ytpkjnkcdajngkaa
