/- A region that draws its order, whose operations each give one value into a slot of their own. -/
import Derived.Test.YtlgjadnkokmjoaaDoorTf
namespace Go.Proofs.YtlgjadnkokmjoaaDoor
open Go.RowKit

def rvOn (ops : Array Oper) : Bool := (List.range ops.size).all fun j => ((ops[j]?).map fun o => o.after.toList.all fun e => decide (e.on < j)).getD true
theorem rvOn_spec {ops : Array Oper} (h : rvOn ops = true) : ∀ (j : Nat) (o : Oper), ops[j]? = some o → ∀ e ∈ o.after.toList, e.on < j := fun j o ho e he => by
  unfold rvOn at h
  rw [List.all_eq_true] at h
  have h1 := h j (List.mem_range.2 (Array.getElem?_eq_some_iff.1 ho).1)
  rw [ho] at h1
  simp only [Option.map_some, Option.getD_some, List.all_eq_true] at h1
  exact of_decide_eq_true (h1 e he)
/-- What holds between the operations: those that have been gave their values, the rest stands. -/
def RvI (d : Nat → Nat) (val : Nat → Value) (T0 : Array Value) (D0 : List Deferred) (w0 : World) (L : Nat → Prop) (a : Act) (W : World) : Prop :=
  ∃ T, a = ⟨T, D0⟩ ∧ T.size = T0.size ∧ (∀ j, L j → T[d j]? = some (val j)) ∧ (∀ s, (∀ j, L j → s ≠ d j) → T[s]? = T0[s]?) ∧ Below w0.heap.size w0 W
end Go.Proofs.YtlgjadnkokmjoaaDoor
