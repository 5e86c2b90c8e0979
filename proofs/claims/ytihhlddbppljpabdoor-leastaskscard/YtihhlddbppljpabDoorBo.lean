/- An automaton that a call builds in a variable's box, row by row and end by end. -/
import Derived.Test.YtihhlddbppljpabDoorAd
import Derived.Deep.AppendLies
namespace Go.Proofs.YtihhlddbppljpabDoor
open Go.RowKit

theorem t_sb : (26 : TypeId) ≠ 4 := by decide
theorem owns_apart {W : World} {base e e' : Nat} (hne : e ≠ e') {v v' : Value} {n n' : Nat} {xs xs' : List Value} (h : W.ownsRow base e 1 v n xs) (h' : W.ownsRow base e' 1 v' n' xs') {x : Nat} (hx : v.ownBlock = some x) (hx' : v'.ownBlock = some x) : False := by
  rcases h.2 with ⟨rfl, _⟩ | ⟨g, cap, cur, rfl, _, hg, _⟩
  · simp [Value.ownBlock] at hx
  · rcases h'.2 with ⟨rfl, _⟩ | ⟨g', cap', cur', rfl, _, hg', _⟩
    · simp [Value.ownBlock] at hx'
    · simp [Value.ownBlock] at hx hx'
      subst hx; subst hx'
      rw [hg] at hg'
      simp at hg'
      exact hne hg'.2
end Go.Proofs.YtihhlddbppljpabDoor
