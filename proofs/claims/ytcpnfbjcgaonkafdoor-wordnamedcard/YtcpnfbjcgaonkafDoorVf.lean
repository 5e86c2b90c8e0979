/- The reference's MorphOf: contract. -/
import Derived.Test.YtcpnfbjcgaonkafDoorVc
namespace Go.Proofs.YtcpnfbjcgaonkafDoor
open Go.RowKit

theorem box3_set {W : World} {B : Nat} {u0 u1 u2 v0 v1 v2 : Value} {T : TypeId} (h : W.heap[B]? = some (.cells #[u0, u1, u2] T (0, 0))) {W' : World} (e : W' = ((W.setCell ⟨B, 0, none⟩ v0).setCell ⟨B, 1, none⟩ v1).setCell ⟨B, 2, none⟩ v2) :
    W'.heap[B]? = some (.cells #[v0, v1, v2] T (0, 0)) ∧ ∀ (w : World) (k : Nat), Below k w W → k ≤ B → Below k w W' := by
  subst e
  refine ⟨?_, fun w k hb hk => ((hb.setCell hk _).setCell hk _).setCell hk _⟩
  simp [World.setCell, Array.getElem?_modify, h]
def mlenB (R : List (List Int)) (k : Nat) : Bool := R.all fun r => decide (r.length = k)
def mrngB (R : List (List Int)) (n : Nat) : Bool := R.all fun r => r.all fun x => decide (0 ≤ x ∧ x < (n : Int))
def mcdB (K : List Int) : Bool := K.all fun x => decide (0 ≤ x ∧ x ≤ 9)
def morK (R : List (List Int)) : Nat := (R.getD 0 []).length
/-- The fault of rules and a code. -/
def morC (R : List (List Int)) (K : List Int) : Int :=
  if R.length = 0 then 4 else if 2 ≤ morK R ∧ morK R ≤ 6 then (if 20 < R.length then 3 else if mlenB R (morK R) = true then (if mrngB R R.length = true then (if (R.getD 0 []).getD 0 0 = 0 ∧ K.length = R.length then (if mcdB K = true then 0 else 1) else 2) else 1) else 2) else 1
theorem all_at {α : Type} {p : α → Bool} {l : List α} {d : α} (h : l.all p = true) {i : Nat} (hi : i < l.length) : p (l.getD i d) = true := by
  rw [List.all_eq_true] at h
  have e : l.getD i d = l[i] := by simp [List.getD, hi]
  rw [e]
  exact h _ (List.getElem_mem hi)
end Go.Proofs.YtcpnfbjcgaonkafDoor
