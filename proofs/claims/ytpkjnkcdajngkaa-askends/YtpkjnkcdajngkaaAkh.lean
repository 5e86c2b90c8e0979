/- ask.firstWords: contract. -/
import Derived.Test.YtpkjnkcdajngkaaAke
import Derived.Deep.AppendLies
import Derived.Deep.RegionLaw
import Derived.Laws.EntriesVeiled
namespace Go.Proofs.Ytpkjnkcdajngkaa
open Go.RowKit

theorem six_boxes (w : World) (o0 o1 o2 o3 o4 o5 : Obj) (W : World) (h : (((((w.alloc o0).alloc o1).alloc o2).alloc o3).alloc o4).alloc o5 = W) :
    W.heap.size = w.heap.size + 6 ∧ Below w.heap.size w W ∧ W.heap[w.heap.size]? = some o0 ∧ W.heap[w.heap.size + 1]? = some o1 ∧ W.heap[w.heap.size + 2]? = some o2 ∧ W.heap[w.heap.size + 3]? = some o3 ∧ W.heap[w.heap.size + 4]? = some o4 ∧ W.heap[w.heap.size + 5]? = some o5 := by
  subst h
  have e : ∀ (w : World) (o : Obj), (w.alloc o).heap.size = w.heap.size + 1 := fun w o => by simp
  have l : ∀ (w : World) (o : Obj), (w.alloc o).heap[w.heap.size]? = some o := fun w o => heap_alloc_last w o
  have p : ∀ (w : World) (o : Obj) (x : Nat) (v : Obj), w.heap[x]? = some v → (w.alloc o).heap[x]? = some v := fun w o x v h => (Below.heap_alloc _ _ _ (Array.getElem?_eq_some_iff.1 h).1).trans h
  refine ⟨by simp, ((((((Below.refl _ w).alloc (Nat.le_refl _) _).alloc (by simp) _).alloc (by simp; omega) _).alloc (by simp; omega) _).alloc (by simp; omega) _).alloc (by simp; omega) _, ?_, ?_, ?_, ?_, ?_, ?_⟩
  · exact p _ _ _ _ (p _ _ _ _ (p _ _ _ _ (p _ _ _ _ (p _ _ _ _ (l w o0)))))
  · exact p _ _ _ _ (p _ _ _ _ (p _ _ _ _ (p _ _ _ _ (by simpa [e] using l (w.alloc o0) o1))))
  · exact p _ _ _ _ (p _ _ _ _ (p _ _ _ _ (by simpa [e] using l ((w.alloc o0).alloc o1) o2)))
  · exact p _ _ _ _ (p _ _ _ _ (by simpa [e] using l (((w.alloc o0).alloc o1).alloc o2) o3))
  · exact p _ _ _ _ (by simpa [e] using l ((((w.alloc o0).alloc o1).alloc o2).alloc o3) o4)
  · simpa [e] using l (((((w.alloc o0).alloc o1).alloc o2).alloc o3).alloc o4) o5
end Go.Proofs.Ytpkjnkcdajngkaa
