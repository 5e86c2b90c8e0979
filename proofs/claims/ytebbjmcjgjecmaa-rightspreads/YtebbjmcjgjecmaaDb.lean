/- The reference's BothOf: contract. -/
import Derived.Deep.RegionHeldLaw
import Derived.Test.YtebbjmcjgjecmaaBk
import Derived.Test.YtebbjmcjgjecmaaBp
import Derived.Test.YtebbjmcjgjecmaaZLp
import Derived.Test.YtebbjmcjgjecmaaCf
import Derived.Test.YtebbjmcjgjecmaaCh
namespace Go.Proofs.Ytebbjmcjgjecmaa
open Go.RowKit

theorem autoNew_nil (w W : World) : AutoNew w none 0 [] none [] W := fun W' _ => ⟨⟨rfl, by unfold maxLen; omega, .inl rfl⟩, ⟨rfl, by unfold maxLen; omega, .inl rfl⟩⟩
theorem below_three (w : World) (o1 o2 o3 : Obj) : Below w.heap.size w (((w.alloc o1).alloc o2).alloc o3) := (((Below.refl _ _).alloc (Nat.le_refl _) _).alloc (by simp) _).alloc (by simp; omega) _
/-- Two automata in their boxes, and the result's box behind them. -/
theorem three_boxes {w w' : World} {v0 v1 v2 v3 u0 u1 u2 u3 : Value} {T : TypeId} {o : Obj} (hb : Below (((w.alloc (.cells #[v0, v1, v2, v3] T)).alloc (.cells #[u0, u1, u2, u3] T)).alloc o).heap.size (((w.alloc (.cells #[v0, v1, v2, v3] T)).alloc (.cells #[u0, u1, u2, u3] T)).alloc o) w') :
    w'.heap[w.heap.size + 2]? = some o ∧ Below ((w.alloc (.cells #[v0, v1, v2, v3] T)).alloc (.cells #[u0, u1, u2, u3] T)).heap.size ((w.alloc (.cells #[v0, v1, v2, v3] T)).alloc (.cells #[u0, u1, u2, u3] T)) w' := by
  refine ⟨?_, below_step ((Below.refl _ _).alloc (Nat.le_refl _) _) hb⟩
  have h := heap_alloc_last ((w.alloc (.cells #[v0, v1, v2, v3] T)).alloc (.cells #[u0, u1, u2, u3] T)) o
  have hs : ((w.alloc (.cells #[v0, v1, v2, v3] T)).alloc (.cells #[u0, u1, u2, u3] T)).heap.size = w.heap.size + 2 := by simp
  rw [hs] at h
  exact (hb.block _ (by simp)).trans h

/-- The two as one that has a state for each pair of theirs, and which of them are ends. -/
def bothP (b t : Int) (N N2 : List (List Int)) : List (List Int) := prodN N N2 (manyU b t).toNat
def bothQ (how : Int) (N N2 : List (List Int)) (E E2 : List Bool) : List Bool := prodE how N.length N2.length E E2
def bothK (b t : Int) (how : Int) (N N2 : List (List Int)) (E E2 : List Bool) : Nat := leastK (bothP b t N N2) (bothQ how N N2 E E2) (manyU b t).toNat

/-- Both's code, and what it hands back. -/
def bothC (how b t : Int) (N : List (List Int)) (E : List Bool) (k : Nat) (b2 t2 : Int) (N2 : List (List Int)) (E2 : List Bool) (k2 : Nat) : Int :=
  if 0 ≤ how ∧ how ≤ 15 then (if alikeC b t N k b2 t2 N2 k2 = 0 then (if bothK b t how N N2 E E2 ≤ 80 then 0 else 3) else alikeC b t N k b2 t2 N2 k2) else 1
def bothN (how b t : Int) (N : List (List Int)) (E : List Bool) (k : Nat) (b2 t2 : Int) (N2 : List (List Int)) (E2 : List Bool) (k2 : Nat) : List (List Int) :=
  if bothC how b t N E k b2 t2 N2 E2 k2 = 0 then leastN (bothP b t N N2) (bothQ how N N2 E E2) (manyU b t).toNat else []
def bothE (how b t : Int) (N : List (List Int)) (E : List Bool) (k : Nat) (b2 t2 : Int) (N2 : List (List Int)) (E2 : List Bool) (k2 : Nat) : List Bool :=
  if bothC how b t N E k b2 t2 N2 E2 k2 = 0 then leastE (bothP b t N N2) (bothQ how N N2 E E2) (manyU b t).toNat else []
/-- A number where all went well, else zero. -/
def okI (c x : Int) : Int := if c = 0 then x else 0
theorem alikeC_of {b t : Int} {N : List (List Int)} {k : Nat} {b2 t2 : Int} {N2 : List (List Int)} {k2 : Nat} {how : Int} {E E2 : List Bool} (h0 : 0 ≤ how) (h15 : how ≤ 15) (hC : alikeC b t N k b2 t2 N2 k2 ≠ 0) : bothC how b t N E k b2 t2 N2 E2 k2 = alikeC b t N k b2 t2 N2 k2 := by
  unfold bothC
  rw [if_pos ⟨h0, h15⟩, if_neg hC]
end Go.Proofs.Ytebbjmcjgjecmaa
