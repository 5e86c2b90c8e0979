/- Points in a row, and as keys. -/
import Derived.Deep.RegionHeldLaw
import Derived.Deep.RegionLaw
import Derived.Deep.RegionWith
import Derived.Laws.AppendOwnNone
import Derived.Test.YthadkoplbgibgaeDoorZNx
import Derived.Test.YthadkoplbgibgaeDoorZAt
import Derived.Test.YthadkoplbgibgaeDoorBp
import Derived.Test.YthadkoplbgibgaeDoorBt
import Derived.Test.YthadkoplbgibgaeDoorZCf
import Derived.Test.YthadkoplbgibgaeDoorZCi
import Derived.Test.YthadkoplbgibgaeDoorZMp
import Derived.Test.YthadkoplbgibgaeDoorZE
import Derived.Test.YthadkoplbgibgaeDoorG
import Derived.Test.YthadkoplbgibgaeDoorJb
import Derived.Test.YthadkoplbgibgaeDoorZLp
import Derived.Test.YthadkoplbgibgaeDoorZKa
namespace Go.Proofs.YthadkoplbgibgaeDoor
open Go.RowKit

def fldP (p : LPt) (j : Nat) : Int := if j = 0 then p.f else if j = 1 then p.s else if j = 2 then p.y else p.l
/-- Cell q of a row of points. -/
def ptC (l : List Nat) (q : Nat) : Value := .int .i64 (fldP (unpt (l.getD (q / 4) 0)) (q % 4))
theorem ptC_at (l : List Nat) (i j : Nat) (hj : j < 4) : ptC l (i * 4 + j) = .int .i64 (fldP (unpt (l.getD i 0)) j) := by
  unfold ptC
  rw [show (i * 4 + j) / 4 = i by omega, show (i * 4 + j) % 4 = j by omega]
theorem ptC_old (l : List Nat) (x : Nat) (q : Nat) (hq : q < 4 * l.length) : ptC (l ++ [x]) q = ptC l q := by
  unfold ptC
  rw [pre_getN (List.prefix_append _ _) (by omega : q / 4 < l.length)]
theorem ptC_new (l : List Nat) (x j : Nat) (hj : j < 4) : ptC (l ++ [x]) (l.length * 4 + j) = .int .i64 (fldP (unpt x) j) := by
  rw [ptC_at _ _ _ hj]
  simp [List.getD]
theorem info_ptP : (Tryd.prog.info? 92).map (fun i => (i.zero, i.size, i.bytes)) = some (some (.agg #[.int .i64 0, .int .i64 0, .int .i64 0, .int .i64 0]), 4, 32) := by kernel_rfl
/-- Block b holds the points l, and room for cap of them. -/
def QueP (W : World) (b len cap : Nat) (l : List Nat) : Prop :=
  l.length = len ∧ len ≤ cap ∧ cap ≤ maxLen ∧ ∃ cur : Array Value, W.heap[b]? = some (.cells cur 92 (0, 0)) ∧ 4 * cap ≤ cur.size ∧ ∀ q, q < 4 * len → cur[q]? = some (ptC l q)
theorem queP_kept {W W' : World} {b len cap : Nat} {l : List Nat} (h : QueP W b len cap l) (e : W'.heap[b]? = W.heap[b]?) : QueP W' b len cap l := by
  obtain ⟨h1, h2, h3, cur, h4, h5⟩ := h
  exact ⟨h1, h2, h3, cur, e.trans h4, h5⟩
theorem queP_lt {W : World} {b len cap : Nat} {l : List Nat} (h : QueP W b len cap l) : b < W.heap.size := by
  obtain ⟨h1, h2, h3, cur, h4, h5⟩ := h
  exact (Array.getElem?_eq_some_iff.1 h4).1
theorem queP_cell {W : World} {b len cap : Nat} {l : List Nat} (h : QueP W b len cap l) (q : Nat) (hq : q < 4 * len) : W.cell? ⟨b, q, none⟩ = some (ptC l q) := by
  obtain ⟨h1, h2, h3, cur, h4, h5, h6⟩ := h
  simp only [World.cell?, h4]
  exact h6 q hq
theorem queP_at {W : World} {b len cap : Nat} {l : List Nat} (h : QueP W b len cap l) (i : Nat) (hi : i < len) : W.cell? ⟨b, i * 4, none⟩ = some (.int .i64 (unpt (l.getD i 0)).f) ∧ W.cell? ⟨b, i * 4 + 1, none⟩ = some (.int .i64 (unpt (l.getD i 0)).s) ∧ W.cell? ⟨b, i * 4 + 2, none⟩ = some (.int .i64 (unpt (l.getD i 0)).y) ∧ W.cell? ⟨b, i * 4 + 3, none⟩ = some (.int .i64 (unpt (l.getD i 0)).l) := by
  have h0 := queP_cell h (i * 4 + 0) (by omega)
  have h1 := queP_cell h (i * 4 + 1) (by omega)
  have h2 := queP_cell h (i * 4 + 2) (by omega)
  have h3 := queP_cell h (i * 4 + 3) (by omega)
  rw [ptC_at _ _ _ (by omega)] at h0 h1 h2 h3
  exact ⟨h0, h1, h2, h3⟩
theorem queP_push {W : World} {b len cap : Nat} {l : List Nat} (h : QueP W b len cap l) (hr : len + 1 ≤ cap) (x : Nat) : QueP (W.setCells b (0 + len * 4) [.int .i64 (unpt x).f, .int .i64 (unpt x).s, .int .i64 (unpt x).y, .int .i64 (unpt x).l]) b (len + 1) cap (l ++ [x]) := by
  obtain ⟨h1, h2, h3, cur, h4, h5, h6⟩ := h
  refine ⟨by rw [List.length_append, List.length_singleton]; omega, hr, h3, (((cur.setIfInBounds (0 + len * 4) (.int .i64 (unpt x).f)).setIfInBounds (0 + len * 4 + 1) (.int .i64 (unpt x).s)).setIfInBounds (0 + len * 4 + 1 + 1) (.int .i64 (unpt x).y)).setIfInBounds (0 + len * 4 + 1 + 1 + 1) (.int .i64 (unpt x).l), ?_, by simpa using h5, fun q hq => ?_⟩
  · simp [World.setCells, World.setCell, Array.getElem?_modify, h4]
  · rw [Array.getElem?_setIfInBounds, Array.getElem?_setIfInBounds, Array.getElem?_setIfInBounds, Array.getElem?_setIfInBounds]
    have n0 := ptC_new l x 0 (by omega)
    have n1 := ptC_new l x 1 (by omega)
    have n2 := ptC_new l x 2 (by omega)
    have n3 := ptC_new l x 3 (by omega)
    rw [h1] at n0 n1 n2 n3
    by_cases e3 : q = len * 4 + 3
    · subst e3
      rw [if_pos (by omega), if_pos (by simp; omega), n3]
      rfl
    · rw [if_neg (by omega)]
      by_cases e2 : q = len * 4 + 2
      · subst e2
        rw [if_pos (by omega), if_pos (by simp; omega), n2]
        rfl
      · rw [if_neg (by omega)]
        by_cases e1 : q = len * 4 + 1
        · subst e1
          rw [if_pos (by omega), if_pos (by simp; omega), n1]
          rfl
        · rw [if_neg (by omega)]
          by_cases e0 : q = len * 4 + 0
          · subst e0
            rw [if_pos (by omega), if_pos (by omega), n0]
            rfl
          · rw [if_neg (by omega), ptC_old l x q (by omega)]
            exact h6 q (by omega)
theorem grownBy_on {w w' w'' : World} {r : Option Nat} (h1 : w.grownBy w' r) (h2 : w'.grownBy w'' r) : w.grownBy w'' r :=
  ⟨h2.os.trans h1.os, h2.tape.trans h1.tape, h2.output.trans h1.output, Nat.le_trans h1.size h2.size, fun k hk hn => (h2.block k (Nat.lt_of_lt_of_le hk h1.size) hn).trans (h1.block k hk hn)⟩
theorem grownBy_sets4 (W : World) (b o : Nat) (u v x y : Value) : W.grownBy (W.setCells b o [u, v, x, y]) (some b) := by
  have e : W.setCells b o [u, v, x, y] = (((W.setCell ⟨b, o, none⟩ u).setCell ⟨b, o + 1, none⟩ v).setCell ⟨b, o + 1 + 1, none⟩ x).setCell ⟨b, o + 1 + 1 + 1, none⟩ y := by simp [World.setCells]
  rw [e]
  exact grownBy_on (grownBy_on (grownBy_on (grownBy_set W ⟨b, o, none⟩ u) (grownBy_set _ ⟨b, o + 1, none⟩ v)) (grownBy_set _ ⟨b, o + 1 + 1, none⟩ x)) (grownBy_set _ ⟨b, o + 1 + 1 + 1, none⟩ y)
theorem wpList_append_queP (w : World) {ops : Array Oper} {rest : List Oper} {o : Oper} {a : Act} {Q : Exit → Act → World → Prop}
    (hg : o.guard = none) (s x : Operand) (hop : o.op = Op.call { callee := Callee.builtin Builtin.append, args := #[s, x], argTypes := #[96, 96] })
    (b len cap : Nat) (l : List Nat) (hs : a.eval s = .slice (some ⟨b, 0, none⟩) len cap) (hq : QueP w b len cap l) (ad : Addr) (y : Nat) (y0 y1 y2 y3 : Int) (hy0 : y0 = (unpt y).f) (hy1 : y1 = (unpt y).s) (hy2 : y2 = (unpt y).y) (hy3 : y3 = (unpt y).l) (hx : a.eval x = .slice (some ad) 1 1)
    (hc : ∀ j u, [Value.int .i64 y0, .int .i64 y1, .int .i64 y2, .int .i64 y3][j]? = some u → w.cell? (ad.add j) = some u) (hlen : len ≤ 100000000)
    (hK : ∀ b' cap' w', QueP w' b' (len + 1) cap' (l ++ [y]) → w.grownBy w' (some b) → (b' = b ∨ w.heap.size ≤ b') → wpList Tryd.prog ops Q rest (a.put o.dst (.slice (some ⟨b', 0, none⟩) (len + 1) cap')) w') :
    wpList Tryd.prog ops Q (o :: rest) a w := by
  obtain ⟨i, hi, hz0, hz1, hz2⟩ := info_parts info_ptP
  refine wpList_plain hg fun K hK' => ?_
  by_cases hr : len + 1 ≤ cap
  · obtain ⟨off, hoff⟩ : ∃ off : Nat, off = 0 := ⟨_, rfl⟩
    have hs' : a.eval s = .slice (some ⟨b, off, none⟩) len cap := by rw [hoff]; exact hs
    have hlt : ∀ j, j < 4 → (w.cell? ⟨b, off + len * 4 + j, none⟩).isSome = true ∧ w.frozen? ⟨b, off + len * 4 + j, none⟩ = false := fun j hj => by
      obtain ⟨h1, h2, h3, cur, h4, h5, h6⟩ := hq
      simp only [World.cell?, World.frozen?, h4]
      have : off + len * 4 + j < cur.size := by omega
      simp [this]
    have hrun := run_append_room_cells (P := Tryd.prog) w 96 o.type 92 i Tryd.underlying96 hi b off len cap ad 1 1 [.int .i64 y0, .int .i64 y1, .int .i64 y2, .int .i64 y3] (by rw [hz1]; rfl) hc (fun u hu => by simp at hu; rcases hu with rfl | rfl | rfl | rfl <;> rfl) hr (by rw [hz1]; exact fun j hj => (hlt j hj).1) (by rw [hz1]; exact fun j hj => (hlt j hj).2)
    rw [hz1] at hrun
    unfold Oper.wp
    simp [execOp, hop, resolve, invoke, builtin, hs', hx, hrun, Result.andThen]
    subst hoff
    have hp := queP_push hq hr y
    rw [← hy0, ← hy1, ← hy2, ← hy3] at hp
    exact hK' _ _ (hK b cap (w.setCells b (0 + len * 4) [.int .i64 y0, .int .i64 y1, .int .i64 y2, .int .i64 y3]) hp (grownBy_sets4 w _ _ _ _ _ _) (.inl rfl))
  · have hol : ((List.range (4 * len)).map (ptC l)).length = len * 4 := by simp; omega
    have holds : ∀ j u, ((List.range (4 * len)).map (ptC l))[j]? = some u → w.cell? ((⟨b, 0, none⟩ : Addr).add j) = some u := fun j u hj => by
      have hjl : j < 4 * len := by have := (List.getElem?_eq_some_iff.1 hj).1; simpa using this
      rw [Addr.add_lit, Nat.zero_add, queP_cell hq j hjl]
      simpa [hjl] using hj
    obtain ⟨v', w', hrun, r1, r2⟩ := run_append_arg_grows (P := Tryd.prog) w 96 o.type 92 i (.agg #[.int .i64 0, .int .i64 0, .int .i64 0, .int .i64 0]) 4 32 Tryd.underlying96 hi hz0 hz1 hz2 rfl (by decide) ⟨b, 0, none⟩ len cap _ hol holds ad 1 1 [.int .i64 y0, .int .i64 y1, .int .i64 y2, .int .i64 y3] rfl hc (by omega) (by unfold maxLen; omega) (by omega)
    obtain ⟨r3, r4⟩ := r1
    rcases r4 with ⟨_, r4⟩ | ⟨g', cap2, cur, rfl, hg', hh, hc1, hc2, hc3, ht⟩
    · omega
    · unfold Oper.wp
      simp [execOp, hop, resolve, invoke, builtin, hs, hx, hrun, Result.andThen]
      refine hK' _ _ (hK _ _ _ ⟨by rw [List.length_append, hq.1]; rfl, hc1, hc2, cur, hh, by omega, fun q hq2 => ?_⟩ ⟨r2.os, r2.tape, r2.output, r2.size, fun k hk _ => r2.block k hk (by simp)⟩ (.inr hg'))
      have h3 : (cur.toList.take ((len + 1) * 4))[q]? = ((List.range (4 * len)).map (ptC l) ++ [.int .i64 y0, .int .i64 y1, .int .i64 y2, .int .i64 y3])[q]? := by rw [ht]
      rw [List.getElem?_take, if_pos (by omega), Array.getElem?_toList] at h3
      rw [h3]
      by_cases e0 : q < 4 * len
      · rw [List.getElem?_append_left (by simpa using e0), ptC_old l y q (by rw [hq.1]; exact e0)]
        simp [e0]
      · obtain ⟨j, hj, rfl⟩ : ∃ j, j < 4 ∧ q = len * 4 + j := ⟨q - len * 4, by omega, by omega⟩
        have hn := ptC_new l y j hj
        rw [hq.1] at hn
        rw [List.getElem?_append_right (by simp; omega), hn]
        rw [show len * 4 + j - ((List.range (4 * len)).map (ptC l)).length = j by rw [hol]; omega]
        rcases (show j = 0 ∨ j = 1 ∨ j = 2 ∨ j = 3 by omega) with rfl | rfl | rfl | rfl
        · rw [hy0]; rfl
        · rw [hy1]; rfl
        · rw [hy2]; rfl
        · rw [hy3]; rfl
/-- Points as keys. -/
theorem ptP_law : Maps.Keyed Tryd.prog 92 := Maps.Keyed.of_law (deep_law_laid prog_laid (m := 4) (by omega) (of_decide_eq_true (by kernel_rfl)) (by kernel_rfl) (by rw [Tryd.underlying92]))
theorem ptP_cells : Tryd.prog.cellsOf 92 = 4 := by kernel_rfl
theorem ptP_type : Tryd.prog.keyType 92 = true := by kernel_rfl
def ptU (n : Nat) : Value := .agg #[.int .i64 (unpt n).f, .int .i64 (unpt n).s, .int .i64 (unpt n).y, .int .i64 (unpt n).l]
theorem unpt_bd {n : Nat} (h : n < 3013824) : (0 ≤ (unpt n).f ∧ (unpt n).f ≤ 2) ∧ (-108 ≤ (unpt n).s ∧ (unpt n).s ≤ 108) ∧ (-108 ≤ (unpt n).y ∧ (unpt n).y ≤ 108) ∧ 0 ≤ (unpt n).l ∧ (unpt n).l < 64 := by
  unfold unpt
  by_cases h1 : n < 3013696
  · rw [if_pos h1]; simp only; omega
  · rw [if_neg h1]; simp only; omega
theorem unpt_inj {n n' : Nat} (e : unpt n = unpt n') : n = n' := by
  unfold unpt at e
  by_cases h1 : n < 3013696
  · rw [if_pos h1] at e
    by_cases h2 : n' < 3013696
    · rw [if_pos h2] at e
      simp only [LPt.mk.injEq] at e
      omega
    · rw [if_neg h2] at e
      simp only [LPt.mk.injEq] at e
      omega
  · rw [if_neg h1] at e
    by_cases h2 : n' < 3013696
    · rw [if_pos h2] at e
      simp only [LPt.mk.injEq] at e
      omega
    · rw [if_neg h2] at e
      simp only [LPt.mk.injEq] at e
      omega
theorem ptU_inj {n n' : Nat} (e : ptU n = ptU n') : n = n' := by
  unfold ptU at e
  simp only [Value.agg.injEq, Array.mk.injEq, List.cons.injEq, Value.int.injEq, true_and, and_true] at e
  apply unpt_inj
  obtain ⟨e1, e2, e3, e4⟩ := e
  generalize unpt n = p at *
  generalize unpt n' = p' at *
  obtain ⟨f, s, y, l⟩ := p
  obtain ⟨f', s', y', l'⟩ := p'
  simp only at e1 e2 e3 e4
  rw [e1, e2, e3, e4]
theorem ptU_key {n : Nat} (h : n < 3013824) : ∃ kl, keyOf Tryd.prog 92 (ptU n) = some kl := by
  obtain ⟨_, _, h3⟩ := mark_cells
  have hb := unpt_bd h
  have hw : ∀ x : Int, -1000 ≤ x ∧ x ≤ 1000 → cellC (.int .i64 x) := fun x hx => ⟨_, rfl, WalkArith.wf_i64 (by omega)⟩
  obtain ⟨L1, e1⟩ := lits_int Tryd.prog 3 (178 - 1) Tryd.underlying3 (hw (unpt n).f (by omega))
  obtain ⟨L2, e2⟩ := lits_int Tryd.prog 3 (178 - 1) Tryd.underlying3 (hw (unpt n).s (by omega))
  obtain ⟨L3, e3⟩ := lits_int Tryd.prog 3 (178 - 1) Tryd.underlying3 (hw (unpt n).y (by omega))
  obtain ⟨L4, e4⟩ := lits_int Tryd.prog 3 (178 - 1) Tryd.underlying3 (hw (unpt n).l (by omega))
  have g1 : Tryd.prog.keyLits 178 3 [.int .i64 (unpt n).f] = some L1 := e1
  have g2 : Tryd.prog.keyLits 178 3 [.int .i64 (unpt n).s] = some L2 := e2
  have g3 : Tryd.prog.keyLits 178 3 [.int .i64 (unpt n).y] = some L3 := e3
  have g4 : Tryd.prog.keyLits 178 3 [.int .i64 (unpt n).l] = some L4 := e4
  refine ⟨.string (keyBytes (L1 ++ (L2 ++ (L3 ++ L4)))), ?_⟩
  unfold keyOf ptU
  simp only [Tryd.underlying92, ptP_type, Value.formed, ptP_cells, types_n, Value.cells, List.size_toArray, List.length_cons, List.length_nil, Nat.zero_add, Nat.reduceAdd, BEq.rfl, Bool.and_self, if_true]
  unfold Program.keyLits
  simp only [Tryd.underlying92, ptP_cells]
  rw [if_pos ⟨rfl, by simp⟩]
  simp only [List.mapM_cons, List.mapM_nil, List.drop_zero, List.drop_succ_cons, List.take_succ_cons, List.take_zero, h3, g1, g2, g3, g4, Option.bind_eq_bind, Option.bind_some, Option.pure_def, Option.map_some, List.flatten_cons, List.flatten_nil, List.append_nil]
/-- Numbered points. -/
def numP (L : List Nat) : List (Value × Value) := (List.range L.length).map fun i => (ptU (L.getD i 0), Value.int .i64 (i : Int))
theorem numP_len (L : List Nat) : (numP L).length = L.length := by simp [numP]
theorem numP_new (L : List Nat) (M : Nat) : numP (L ++ [M]) = numP L ++ [(ptU M, Value.int .i64 (L.length : Int))] := by
  unfold numP
  rw [List.length_append, List.length_singleton, List.range_succ, List.map_append]
  congr 1
  · refine List.map_congr_left fun i hi => ?_
    have := List.mem_range.1 hi
    simp [List.getD, List.getElem?_append_left this]
  · simp [List.getD]
theorem numP_mem {L : List Nat} {M : Nat} (h : M ∈ L) : (ptU M, Value.int .i64 ((L.idxOf M : Nat) : Int)) ∈ numP L := by
  refine List.mem_map.2 ⟨L.idxOf M, List.mem_range.2 (List.idxOf_lt_length_of_mem h), ?_⟩
  rw [idx_get h]
theorem numP_not {L : List Nat} {M : Nat} (h : ¬ M ∈ L) : ¬ ptU M ∈ (numP L).map Prod.fst := fun hx => by
  obtain ⟨p, hp, e⟩ := List.mem_map.1 hx
  obtain ⟨i, hi, rfl⟩ := List.mem_map.1 hp
  have hm := getN_mem (List.mem_range.1 hi)
  exact h (ptU_inj e ▸ hm)
end Go.Proofs.YthadkoplbgibgaeDoor
