/- Texts that walk nothing, in one. -/
import Derived.WalkKit
import Derived.Deep.LoopGhost
import Derived.Deep.WholeRow
/- Plain mathematics: what the places count, and digits. -/
namespace Go.Proofs.Ytebbjmcjgjecmaa

/-- What the last place, and the one behind it, count, behind k places. -/
def cntP (b : Int) : Nat → Int × Int
  | 0 => (1, 1)
  | k + 1 => (min (if b = 1 then (cntP b k).1 + (cntP b k).2 else (cntP b k).1 * b) 1099511627777, (cntP b k).1)
def cnt (b : Int) (k : Nat) : Int := (cntP b k).1
end Go.Proofs.Ytebbjmcjgjecmaa

/- Laws on whole rows (an array by value), over any program. -/
namespace Go.Proofs.Ytebbjmcjgjecmaa
open Go.RowKit
variable {P : Program}

theorem wpList_store_row {ops : Array Oper} {rest : List Oper} {op : Oper} {a : Act} {w : World} {Q : Exit → Act → World → Prop} (hgd : op.guard = none) (ty : TypeId) (x y : Operand) (ho : op.op = .store ty x y)
    (g : Nat) (old cs : Array Value) (hx : a.eval x = .pointer (some ⟨g, 0, none⟩)) (hy : a.eval y = .agg cs) (t : TypeId) (hg : w.heap[g]? = some (.cells old t (0, 0)))
    (hi : (P.info? ty).map (·.size) = some cs.size) (hs : old.size = cs.size) (h1 : cs.all (·.oneCell') = true)
    (h : wpList P ops Q rest (a.put op.dst undef) (w.setRow g cs)) : wpList P ops Q (op :: rest) a w :=
  wpList_plain hgd fun _ hK => by
    unfold Oper.wp execOp
    simp only [ho, hx, hy, Instr.storeAt, Instr.sureAddr, Sem.run_bind, Sem.run_pure, Result.andThen_ok, run_storeVar_row w g t ty old cs hg hi hs h1]
    exact hK _ _ h

theorem heap_alloc2_fst (w : World) (o o' : Obj) : ((w.alloc o).alloc o').heap[w.heap.size]? = some o := by
  rw [Below.heap_alloc _ _ _ (by simp), heap_alloc_last]
theorem heap_alloc2_snd (w : World) (o o' : Obj) : ((w.alloc o).alloc o').heap[w.heap.size + 1]? = some o' := by
  have := heap_alloc_last (w.alloc o) o'
  simpa using this
end Go.Proofs.Ytebbjmcjgjecmaa

/- Plain mathematics: what digits count together. -/
namespace Go.Proofs.Ytebbjmcjgjecmaa

def val (b : Int) : List Int → Int
  | [] => 0
  | x :: r => x * cnt b r.length + val b r

end Go.Proofs.Ytebbjmcjgjecmaa
