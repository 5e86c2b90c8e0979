/- Keys of package least: marks and spots; a struct by value. -/
import Derived.Test.YtihhlddbppljpabDoorBq
import Derived.Test.YtihhlddbppljpabDoorL
import Derived.Deep.MidRow
namespace Go.Proofs.YtihhlddbppljpabDoor
open Go.RowKit

theorem prog_laid : laidOutB Tryd.prog = true := by kernel_rfl
/-- A cell that is a number. -/
def cellC (v : Value) : Prop := ∃ x, v = .int .i64 x ∧ (Lit.int .i64 x).wf = true
theorem lits_int (P : Program) (e : TypeId) (d : Nat) (he : P.underlying e = some (.int .i64)) {v : Value} (h : cellC v) : ∃ L, P.keyLits (d + 1) e [v] = some L := by
  obtain ⟨x, rfl, hx⟩ := h
  exact ⟨[.int .i64 x], by simp [Program.keyLits, he, hx]⟩
theorem spot_law : Maps.Keyed Tryd.prog 67 := Maps.Keyed.of_law (deep_law_laid prog_laid (m := 4) (by omega) (of_decide_eq_true (by kernel_rfl)) (by kernel_rfl) (by rw [Tryd.underlying67]))
theorem types_n : Tryd.prog.types.size = 155 := by kernel_rfl
theorem mark_cells : Tryd.prog.cellsOf 123 = 37 ∧ Tryd.prog.cellsOf 121 = 36 ∧ Tryd.prog.cellsOf 3 = 1 := ⟨by kernel_rfl, by kernel_rfl, by kernel_rfl⟩
theorem spot_cells : Tryd.prog.cellsOf 67 = 2 := by kernel_rfl
theorem spot_type : Tryd.prog.keyType 67 = true := by kernel_rfl
theorem spotV_key (M : Nat) (s : Int) (hs : s.toNat ≤ 1000000) : ∃ kl, keyOf Tryd.prog 67 (spotV M s) = some kl := by
  obtain ⟨_, _, h3⟩ := mark_cells
  have hw : ∀ x : Nat, x ≤ 1000000 → cellC (.int .i64 (x : Int)) := fun x hx => ⟨_, rfl, WalkArith.wf_i64 (by omega)⟩
  obtain ⟨L1, hL1⟩ := lits_int Tryd.prog 3 (155 - 1) Tryd.underlying3 (hw (s.toNat / M) (Nat.le_trans (Nat.div_le_self _ _) hs))
  obtain ⟨L2, hL2⟩ := lits_int Tryd.prog 3 (155 - 1) Tryd.underlying3 (hw (s.toNat % M) (Nat.le_trans (Nat.mod_le _ _) hs))
  have e1 : Tryd.prog.keyLits 155 3 [.int .i64 ((s.toNat / M : Nat) : Int)] = some L1 := hL1
  have e2 : Tryd.prog.keyLits 155 3 [.int .i64 ((s.toNat % M : Nat) : Int)] = some L2 := hL2
  refine ⟨.string (keyBytes (L1 ++ L2)), ?_⟩
  unfold keyOf spotV hiI loI
  simp only [Tryd.underlying67, spot_type, Value.formed, spot_cells, types_n, Value.cells, List.size_toArray, List.length_cons, List.length_nil, Nat.zero_add, Nat.reduceAdd, BEq.rfl, Bool.and_self, if_true]
  unfold Program.keyLits
  simp only [Tryd.underlying67, spot_cells]
  rw [if_pos ⟨rfl, by simp⟩]
  simp only [List.mapM_cons, List.mapM_nil, List.drop_zero, List.drop_succ_cons, List.take_succ_cons, List.take_zero, h3, e1, e2, Option.bind_eq_bind, Option.bind_some, Option.pure_def, Option.map_some, List.flatten_cons, List.flatten_nil, List.append_nil]

section
variable {P : Program}
end
end Go.Proofs.YtihhlddbppljpabDoor
