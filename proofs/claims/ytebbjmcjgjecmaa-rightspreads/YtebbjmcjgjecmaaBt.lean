/- Keys of package least: marks and spots; a struct by value. -/
import Derived.Deep.MidRow
import Derived.Test.YtebbjmcjgjecmaaMa
import Derived.Test.YtebbjmcjgjecmaaZMp
namespace Go.Proofs.Ytebbjmcjgjecmaa
open Go.RowKit

theorem prog_laid : laidOutB Try.prog = true := by kernel_rfl
theorem mapM_some {α β : Type} {f : α → Option β} {l : List α} (h : ∀ a ∈ l, ∃ b, f a = some b) : ∃ L, l.mapM f = some L := by
  induction l with
  | nil => exact ⟨[], rfl⟩
  | cons x l ih =>
    obtain ⟨b, hb⟩ := h x (by simp)
    obtain ⟨L, hL⟩ := ih (fun a ha => h a (by simp [ha]))
    exact ⟨b :: L, by simp [List.mapM_cons, hb, hL]⟩
/-- A cell that is a number. -/
def cellC (v : Value) : Prop := ∃ x, v = .int .i64 x ∧ (Lit.int .i64 x).wf = true
theorem lits_int (P : Program) (e : TypeId) (d : Nat) (he : P.underlying e = some (.int .i64)) {v : Value} (h : cellC v) : ∃ L, P.keyLits (d + 1) e [v] = some L := by
  obtain ⟨x, rfl, hx⟩ := h
  exact ⟨[.int .i64 x], by simp [Program.keyLits, he, hx]⟩
theorem lits_arr (P : Program) (t e : TypeId) (n d : Nat) (ht : P.underlying t = some (.array n e)) (he : P.underlying e = some (.int .i64)) (hct : P.cellsOf t = n) (hce : P.cellsOf e = 1) {cs : List Value} (hl : cs.length = n) (h : ∀ v ∈ cs, cellC v) : ∃ L, P.keyLits (d + 2) t cs = some L := by
  obtain ⟨L, hL⟩ := mapM_some (f := fun i => P.keyLits (d + 1) e ((cs.drop (i * 1)).take 1)) (l := List.range n) (fun i hi => by
    rw [List.mem_range] at hi
    rw [Nat.mul_one]
    obtain ⟨v, hv⟩ : ∃ v, (cs.drop i).take 1 = [v] := ⟨cs[i], by rw [List.drop_eq_getElem_cons (by omega), List.take_succ_cons, List.take_zero]⟩
    rw [hv]
    refine lits_int P e d he (h v ?_)
    have : v ∈ (cs.drop i).take 1 := by rw [hv]; simp
    exact List.mem_of_mem_drop (List.mem_of_mem_take this))
  refine ⟨L.flatten, ?_⟩
  unfold Program.keyLits
  simp only [ht, hct, hce, hl, if_true]
  rw [hL]; rfl

theorem mark_law : Maps.Keyed Try.prog 91 := Maps.Keyed.of_law (deep_law_laid prog_laid (m := 4) (by omega) (of_decide_eq_true (by kernel_rfl)) (by kernel_rfl) (by rw [Try.underlying91]))
theorem types_n : Try.prog.types.size = 135 := by kernel_rfl
theorem mark_cells : Try.prog.cellsOf 91 = 37 ∧ Try.prog.cellsOf 89 = 36 ∧ Try.prog.cellsOf 3 = 1 := ⟨by kernel_rfl, by kernel_rfl, by kernel_rfl⟩
theorem mark_type : Try.prog.keyType 91 = true := by kernel_rfl
theorem mark_key {cs : Array Value} (hl : cs.size = 37) (h : ∀ v ∈ cs.toList, cellC v) : ∃ kl, keyOf Try.prog 91 (.agg cs) = some kl := by
  obtain ⟨h1, h2, h3⟩ := mark_cells
  obtain ⟨v, hv⟩ : ∃ v, (cs.toList.drop 0).take 1 = [v] := ⟨cs.toList[0]'(by simp [hl]), by rw [List.drop_eq_getElem_cons (by simp [hl]), List.take_succ_cons, List.take_zero]⟩
  have hvm : v ∈ cs.toList := by
    have : v ∈ (cs.toList.drop 0).take 1 := by rw [hv]; simp
    exact List.mem_of_mem_drop (List.mem_of_mem_take this)
  obtain ⟨L1, hL1⟩ := lits_int Try.prog 3 (135 - 1) Try.underlying3 (h v hvm)
  obtain ⟨L2, hL2⟩ := lits_arr Try.prog 89 3 36 (135 - 2) Try.underlying89 Try.underlying3 h2 h3 (cs := (cs.toList.drop 1).take 36) (by simp [hl]) (fun u hu => h u (List.mem_of_mem_drop (List.mem_of_mem_take hu)))
  refine ⟨.string (keyBytes (L1 ++ L2)), ?_⟩
  unfold keyOf
  simp only [Try.underlying91, mark_type, Value.formed, h1, hl, types_n, Value.cells, BEq.rfl, Bool.and_self, if_true]
  unfold Program.keyLits
  simp only [Try.underlying91, Array.length_toList, hl, h1]
  rw [if_pos ⟨trivial, by simp⟩]
  have e1 : Try.prog.keyLits 135 3 ((cs.toList.drop 0).take 1) = some L1 := by rw [hv]; exact hL1
  have e2 : Try.prog.keyLits 135 89 ((cs.toList.drop 1).take 36) = some L2 := hL2
  simp only [List.mapM_cons, List.mapM_nil, h2, h3, e1, e2, Option.bind_eq_bind, Option.bind_some, Option.pure_def, Option.map_some, List.flatten_cons, List.flatten_nil, List.append_nil]
theorem markV_key {N : List (List Int)} {C : List Int} {m : Nat} (s : Int) (h : ∀ q, (Lit.int .i64 (markF N C m s.toNat q)).wf = true) : ∃ kl, keyOf Try.prog 91 (markV N C m s) = some kl :=
  mark_key (by simp) (fun v hv => by
    simp only [Array.toList_map, List.mem_map] at hv
    obtain ⟨q, _, rfl⟩ := hv
    exact ⟨_, rfl, h q⟩)
theorem run_build_mark (x : Int) (w : World) : (Instr.build 91 #[(0, .int .i64 x)]).run Try.prog w = .ok (.agg ((Array.range 37).map fun q => Value.int .i64 (if q = 0 then x else 0))) w := by kernel_rfl

section
variable {P : Program}
/-- A whole struct or array, out of its own block. -/
theorem wpList_load_all {ops : Array Oper} {rest : List Oper} {op : Oper} {a : Act} {w : World} {Q : Exit → Act → World → Prop} (hgd : op.guard = none) (ty : TypeId) (x : Operand) (ho : op.op = .load ty x)
    (g : Nat) (hx : a.eval x = .pointer (some ⟨g, 0, none⟩)) (cs : Array Value) (t : TypeId) (fr : Nat × Nat) (d : TypeDesc) (hg : w.heap[g]? = some (.cells cs t fr))
    (hu : P.underlying ty = some d) (hd : (match d with | .struct _ | .array _ _ => true | _ => false) = true) (hi : (P.info? ty).map (·.size) = some cs.size)
    (h : wpList P ops Q rest (a.put op.dst (.agg cs)) w) : wpList P ops Q (op :: rest) a w :=
  wpList_plain hgd fun _ hK => by
    unfold Oper.wp execOp
    simp only [ho, hx, Instr.loadAt, Instr.sureAddr, Sem.run_bind, Sem.run_pure, Result.andThen_ok, run_loadVar_row w g t ty cs fr d hg hu hd hi]
    exact hK _ _ h
end
theorem rowIs_cells {w : World} {b : Nat} {t : TypeId} {n : Nat} {f : Nat → Value} (h : w.rowIs b t n f) : w.heap[b]? = some (.cells ((Array.range n).map f) t (0, 0)) := by
  obtain ⟨c, h1, h2, h3⟩ := h
  rw [h1]
  congr 2
  apply Array.ext_getElem?
  intro i
  by_cases hi : i < n
  · rw [h3 i hi]; simp [hi]
  · rw [Array.getElem?_eq_none (by omega), Array.getElem?_eq_none (by simp; omega)]
end Go.Proofs.Ytebbjmcjgjecmaa
