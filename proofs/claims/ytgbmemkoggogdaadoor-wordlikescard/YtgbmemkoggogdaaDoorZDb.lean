/- 2 texts in one. -/
import Derived.Shelf.Abstract
import Derived.Test.YtgbmemkoggogdaaDoorBp
import Derived.Test.YtgbmemkoggogdaaDoorZLp
import Derived.Test.YtgbmemkoggogdaaDoorZCf
import Derived.Test.YtgbmemkoggogdaaDoorCi
/- The reference's BothOf: contract. -/
namespace Go.Proofs.YtgbmemkoggogdaaDoor
open Go.RowKit

theorem autoNew_nil (w W : World) : AutoNew w none 0 [] none [] W := fun W' _ => ⟨⟨rfl, by unfold maxLen; omega, .inl rfl⟩, ⟨rfl, by unfold maxLen; omega, .inl rfl⟩⟩
/-- An automaton and a code are handed back. -/
def BothR (w : World) (b t : Int) (N : List (List Int)) (E : List Bool) (c : Int) (e : Ending) (w' : World) : Prop :=
  ∃ a ca a' ca', e = .returned (.tuple #[.agg #[.int .i64 b, .int .i64 t, .slice a N.length ca, .slice a' N.length ca'], .int .i64 c]) ∧ AutoNew w a N.length N a' E w' ∧ Below w.heap.size w w'
theorem below_three (w : World) (o1 o2 o3 : Obj) : Below w.heap.size w (((w.alloc o1).alloc o2).alloc o3) := (((Below.refl _ _).alloc (Nat.le_refl _) _).alloc (by simp) _).alloc (by simp; omega) _
/-- A number where all went well, else zero. -/
def okI (c x : Int) : Int := if c = 0 then x else 0
end Go.Proofs.YtgbmemkoggogdaaDoor

/- Four boxes. -/
namespace Go.Proofs.YtgbmemkoggogdaaDoor
open Go.RowKit

theorem below_fourO (w : World) (o1 o2 o3 o4 : Obj) : Below w.heap.size w ((((w.alloc o1).alloc o2).alloc o3).alloc o4) := (below_three w o1 o2 o3).alloc (below_three w o1 o2 o3).size _
theorem four_at (w : World) (o1 o2 o3 o4 : Obj) {W : World} (h : Below ((((w.alloc o1).alloc o2).alloc o3).alloc o4).heap.size ((((w.alloc o1).alloc o2).alloc o3).alloc o4) W) : W.heap[w.heap.size]? = some o1 ∧ W.heap[w.heap.size + 1]? = some o2 ∧ W.heap[w.heap.size + 2]? = some o3 ∧ W.heap[w.heap.size + 3]? = some o4 := by
  have k : ∀ i, i < w.heap.size + 4 → W.heap[i]? = ((((w.alloc o1).alloc o2).alloc o3).alloc o4).heap[i]? := fun i hi => h.block i (by simp <;> omega)
  refine ⟨?_, ?_, ?_, ?_⟩
  · rw [k _ (by omega), Below.heap_alloc _ _ _ (by simp <;> omega), Below.heap_alloc _ _ _ (by simp <;> omega), heap_alloc2_fst]
  · rw [k _ (by omega), Below.heap_alloc _ _ _ (by simp <;> omega), Below.heap_alloc _ _ _ (by simp <;> omega), heap_alloc2_snd]
  · rw [k _ (by omega), Below.heap_alloc _ _ _ (by simp <;> omega)]
    have := heap_alloc_last ((w.alloc o1).alloc o2) o3
    simpa using this
  · rw [k _ (by omega)]
    have := heap_alloc_last (((w.alloc o1).alloc o2).alloc o3) o4
    simpa using this
end Go.Proofs.YtgbmemkoggogdaaDoor
