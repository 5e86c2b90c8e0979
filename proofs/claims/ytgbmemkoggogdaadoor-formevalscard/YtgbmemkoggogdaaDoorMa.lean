/- Texts that walk nothing, in one. -/
import Derived.WalkKit
import Derived.Deep.LoopGhost
import Derived.Deep.WholeRow
/- Plain mathematics: what the places count, and digits. -/
namespace Go.Proofs.YtgbmemkoggogdaaDoor

/-- What the last place, and the one behind it, count, behind k places. -/
def cntP (b : Int) : Nat → Int × Int
  | 0 => (1, 1)
  | k + 1 => (min (if b = 1 then (cntP b k).1 + (cntP b k).2 else (cntP b k).1 * b) 1099511627777, (cntP b k).1)
def cnt (b : Int) (k : Nat) : Int := (cntP b k).1
def ahd (b : Int) (k : Nat) : Int := (cntP b k).2
theorem cnt_zero (b : Int) : cnt b 0 = 1 := rfl
theorem ahd_zero (b : Int) : ahd b 0 = 1 := rfl
theorem ahd_succ (b : Int) (k : Nat) : ahd b (k + 1) = cnt b k := rfl
theorem cnt_succ (b : Int) (k : Nat) : cnt b (k + 1) = min (if b = 1 then cnt b k + ahd b k else cnt b k * b) 1099511627777 := rfl

theorem cnt_bd (b : Int) (h1 : 1 ≤ b) (_h2 : b ≤ 6) (k : Nat) : (1 ≤ cnt b k ∧ cnt b k ≤ 1099511627777) ∧ (1 ≤ ahd b k ∧ ahd b k ≤ 1099511627777) := by
  induction k with
  | zero => simp [cnt_zero, ahd_zero]
  | succ k ih =>
    obtain ⟨⟨h3, h4⟩, h5, h6⟩ := ih
    rw [ahd_succ, cnt_succ]
    refine ⟨⟨?_, ?_⟩, h3, h4⟩
    · have : 1 ≤ if b = 1 then cnt b k + ahd b k else cnt b k * b := by
        split
        · omega
        · have := Int.mul_le_mul h3 h1 (by omega) (by omega)
          omega
      omega
    · exact Int.min_le_right _ _

/-- The cells of the places, k of them laid. -/
def cArr (b : Int) (k : Nat) : Array Value := ((List.range 60).map fun j => Value.int .i64 (if 60 ≤ j + k then cnt b (59 - j) else 0)).toArray
theorem cArr_size (b : Int) (k : Nat) : (cArr b k).size = 60 := by simp [cArr]
theorem cArr_get (b : Int) (k j : Nat) (h : j < 60) : (cArr b k)[j]? = some (.int .i64 (if 60 ≤ j + k then cnt b (59 - j) else 0)) := by simp [cArr, h]
theorem cArr_zero (b : Int) : cArr b 0 = Array.replicate 60 (.int .i64 0) := by
  apply Array.ext_getElem?
  intro j
  by_cases h : j < 60
  · rw [cArr_get b 0 j h, if_neg (by omega)]; simp [h]
  · simp [cArr, h]
theorem cArr_set (b : Int) (k : Nat) (h : k < 60) : (cArr b k).setIfInBounds (59 - k) (.int .i64 (cnt b k)) = cArr b (k + 1) := by
  apply Array.ext_getElem?
  intro j
  by_cases hj : j < 60
  · rw [cArr_get b (k + 1) j hj, Array.getElem?_setIfInBounds]
    by_cases e : 59 - k = j
    · subst e
      rw [if_pos rfl, if_pos (by rw [cArr_size]; omega), if_pos (by omega)]
      congr 3; omega
    · rw [if_neg e, cArr_get b k j hj]
      by_cases h1 : 60 ≤ j + k
      · rw [if_pos h1, if_pos (by omega)]
      · rw [if_neg h1, if_neg (by omega)]
  · have h1 : (cArr b (k + 1))[j]? = none := by rw [Array.getElem?_eq_none]; rw [cArr_size]; omega
    have h2 : ((cArr b k).setIfInBounds (59 - k) (.int .i64 (cnt b k)))[j]? = none := by rw [Array.getElem?_eq_none]; simp [cArr_size]; omega
    rw [h1, h2]
theorem cArr_one (b : Int) (k : Nat) : (cArr b k).all (·.oneCell') = true := by
  simp [cArr, Value.oneCell']
end Go.Proofs.YtgbmemkoggogdaaDoor

/- Laws on whole rows (an array by value), over any program. -/
namespace Go.Proofs.YtgbmemkoggogdaaDoor
open Go.RowKit
variable {P : Program}

theorem wpList_load_row {ops : Array Oper} {rest : List Oper} {op : Oper} {a : Act} {w : World} {Q : Exit → Act → World → Prop} (hgd : op.guard = none) (ty : TypeId) (x : Operand) (ho : op.op = .load ty x)
    (g : Nat) (hx : a.eval x = .pointer (some ⟨g, 0, none⟩)) (cs : Array Value) (t : TypeId) (fr : Nat × Nat) (n : Nat) (e : TypeId) (hg : w.heap[g]? = some (.cells cs t fr))
    (hu : P.underlying ty = some (.array n e)) (hi : (P.info? ty).map (·.size) = some cs.size)
    (h : wpList P ops Q rest (a.put op.dst (.agg cs)) w) : wpList P ops Q (op :: rest) a w :=
  wpList_plain hgd fun _ hK => by
    unfold Oper.wp execOp
    simp only [ho, hx, Instr.loadAt, Instr.sureAddr, Sem.run_bind, Sem.run_pure, Result.andThen_ok, run_loadVar_row w g t ty cs fr _ hg hu rfl hi]
    exact hK _ _ h

theorem wpList_store_row {ops : Array Oper} {rest : List Oper} {op : Oper} {a : Act} {w : World} {Q : Exit → Act → World → Prop} (hgd : op.guard = none) (ty : TypeId) (x y : Operand) (ho : op.op = .store ty x y)
    (g : Nat) (old cs : Array Value) (hx : a.eval x = .pointer (some ⟨g, 0, none⟩)) (hy : a.eval y = .agg cs) (t : TypeId) (hg : w.heap[g]? = some (.cells old t (0, 0)))
    (hi : (P.info? ty).map (·.size) = some cs.size) (hs : old.size = cs.size) (h1 : cs.all (·.oneCell') = true)
    (h : wpList P ops Q rest (a.put op.dst undef) (w.setRow g cs)) : wpList P ops Q (op :: rest) a w :=
  wpList_plain hgd fun _ hK => by
    unfold Oper.wp execOp
    simp only [ho, hx, hy, Instr.storeAt, Instr.sureAddr, Sem.run_bind, Sem.run_pure, Result.andThen_ok, run_storeVar_row w g t ty old cs hg hi hs h1]
    exact hK _ _ h

theorem results_cell1 {fn : Func} {p : Tmp} {ty : TypeId} (h : fn.results = #[.cell p ty]) (tmps : Array Value) (w : World) (g : Nat) (cs : Array Value) (t : TypeId) (fr : Nat × Nat) (n : Nat) (e : TypeId)
    (hp : tmps.getD p undef = .pointer (some ⟨g, 0, none⟩)) (hg : w.heap[g]? = some (.cells cs t fr)) (hu : P.underlying ty = some (.array n e)) (hi : (P.info? ty).map (·.size) = some cs.size) :
    (results fn tmps).run P w = .ok (.agg cs) w := by
  have hl := run_loadVar_row (P := P) w g t ty cs fr _ hg hu rfl hi
  simp only [results, h]
  have hp' : tmps[p]?.getD undef = .pointer (some ⟨g, 0, none⟩) := by simpa using hp
  simp [hp', asAddr, hl]

theorem heap_alloc2_fst (w : World) (o o' : Obj) : ((w.alloc o).alloc o').heap[w.heap.size]? = some o := by
  rw [Below.heap_alloc _ _ _ (by simp), heap_alloc_last]
theorem heap_alloc2_snd (w : World) (o o' : Obj) : ((w.alloc o).alloc o').heap[w.heap.size + 1]? = some o' := by
  have := heap_alloc_last (w.alloc o) o'
  simpa using this
theorem setRow_alloc2_fst (w : World) (c c' : Array Value) (t : TypeId) (o : Obj) : ((w.alloc (.cells c t)).alloc o).setRow w.heap.size c' = (w.alloc (.cells c' t)).alloc o := by
  have h := World.setRow_alloc_new w c c' t
  rw [← h]
  simp only [World.setRow, World.alloc]
  congr 1
  apply Array.ext_getElem?
  intro i
  simp only [Array.getElem?_modify, Array.getElem?_push, Array.size_modify]
  by_cases e : w.heap.size = i
  · subst e; simp
  · by_cases e' : i = w.heap.size + 1
    · subst e'; simp
    · simp [e, e']
theorem heap_alloc3_last (w : World) (o o' o'' : Obj) : (((w.alloc o).alloc o').alloc o'').heap[w.heap.size + 2]? = some o'' := by
  have := heap_alloc_last ((w.alloc o).alloc o') o''
  simpa using this
end Go.Proofs.YtgbmemkoggogdaaDoor

/- Plain mathematics: what digits count together. -/
namespace Go.Proofs.YtgbmemkoggogdaaDoor

def val (b : Int) : List Int → Int
  | [] => 0
  | x :: r => x * cnt b r.length + val b r

end Go.Proofs.YtgbmemkoggogdaaDoor
