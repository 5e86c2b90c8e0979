/- The contract of digit.Value. -/
import Derived.Test.YtdfgeihlpkpknabC
import Derived.Test.YtdfgeihlpkpknabN
namespace Go.Proofs.Ytdfgeihlpkpknab
open Go.RowKit

theorem digB_get {b : Int} {l : List Int} (h2 : b ≤ 6) (h : digB b l = true) (k : Nat) (hk : k < l.length) : 0 ≤ l.getD k 0 ∧ l.getD k 0 ≤ 5 := by
  unfold digB at h
  rw [List.all_eq_true] at h
  have := h (l.getD k 0) (by simp [List.getD, hk])
  have := of_decide_eq_true this
  unfold kindsI at this
  split at this <;> omega

def valV (b : Int) (l : List Int) : Value := if val b l ≤ 1099511627776 then .tuple #[.int .i64 (val b l), .nilIface] else .tuple #[.int .i64 0, .iface 38 (.int .i64 3)]

theorem cell_alloc3_last (w : World) (o o' : Obj) (c : Array Value) (t : TypeId) (k : Nat) : (((w.alloc o).alloc o').alloc (.cells c t)).cell? ⟨w.heap.size + 2, k, none⟩ = c[k]? := by
  have := cell_of_row _ _ k c t (0, 0) (heap_alloc3_last w o o' (.cells c t))
  exact this

end Go.Proofs.Ytdfgeihlpkpknab
