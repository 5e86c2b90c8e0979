/- 3 texts in one. -/
import Derived.Test.YtebbjmcjgjecmaaZAt
import Derived.Test.YtebbjmcjgjecmaaBt
import Derived.Test.YtebbjmcjgjecmaaZMp
/- A queue of spots. -/
namespace Go.Proofs.Ytebbjmcjgjecmaa
open Go.RowKit

/-- Cell q of a row of spots. -/
def spotC (M : Nat) (l : List Int) (q : Nat) : Value := .int .i64 (if q % 2 = 0 then (hiI M ((l.getD (q / 2) 0).toNat)) else (loI M ((l.getD (q / 2) 0).toNat)))
theorem spotC_fst (M : Nat) (l : List Int) (j : Nat) : spotC M l (2 * j) = .int .i64 (hiI M ((l.getD j 0).toNat)) := by unfold spotC; rw [if_pos (by omega), show 2 * j / 2 = j by omega]
theorem spotC_snd (M : Nat) (l : List Int) (j : Nat) : spotC M l (2 * j + 1) = .int .i64 (loI M ((l.getD j 0).toNat)) := by unfold spotC; rw [if_neg (by omega), show (2 * j + 1) / 2 = j by omega]
theorem spotC_old (M : Nat) (l : List Int) (x : Int) (q : Nat) (hq : q < 2 * l.length) : spotC M (l ++ [x]) q = spotC M l q := by
  unfold spotC
  rw [pre_getD (List.prefix_append _ _) (q / 2) (by omega)]
theorem spotC_new (M : Nat) (l : List Int) (x : Int) : spotC M (l ++ [x]) (2 * l.length) = .int .i64 (hiI M (x.toNat)) ∧ spotC M (l ++ [x]) (2 * l.length + 1) = .int .i64 (loI M (x.toNat)) := by
  rw [spotC_fst, spotC_snd]
  simp [List.getD]

end Go.Proofs.Ytebbjmcjgjecmaa

/- least.firstWord: contract, whatever closures are handed in. -/
namespace Go.Proofs.Ytebbjmcjgjecmaa
open Go.RowKit

theorem two_new (w : World) (x y : Value) (t : TypeId) : ∀ j u, [x, y][j]? = some u → (w.alloc (.cells #[x, y] t)).cell? ((⟨w.heap.size, 0, none⟩ : Addr).add j) = some u := by
  intro j u h
  rw [Addr.add_lit, cell_of_row _ _ _ _ t (0, 0) (heap_alloc_last w _), Nat.zero_add]
  simpa using h
end Go.Proofs.Ytebbjmcjgjecmaa

/- Couples as keys, and a row of couples that grows. -/
namespace Go.Proofs.Ytebbjmcjgjecmaa
open Go.RowKit

theorem couple_law : Maps.Keyed Try.prog 55 := Maps.Keyed.of_law (deep_law_laid prog_laid (m := 4) (by omega) (of_decide_eq_true (by kernel_rfl)) (by kernel_rfl) (by rw [Try.underlying55]))
theorem couple_cells : Try.prog.cellsOf 55 = 2 ∧ Try.prog.cellsOf 3 = 1 := ⟨by kernel_rfl, by kernel_rfl⟩
theorem couple_type : Try.prog.keyType 55 = true := by kernel_rfl
theorem couple_key {cs : Array Value} (hl : cs.size = 2) (h : ∀ v ∈ cs.toList, cellC v) : ∃ kl, keyOf Try.prog 55 (.agg cs) = some kl := by
  obtain ⟨h1, h3⟩ := couple_cells
  obtain ⟨L, hL⟩ := lits_arr Try.prog 55 3 2 (135 - 1) Try.underlying55 Try.underlying3 h1 h3 (cs := cs.toList) (by simp [hl]) h
  refine ⟨.string (keyBytes L), ?_⟩
  unfold keyOf
  simp only [Try.underlying55, couple_type, Value.formed, h1, hl, types_n, Value.cells, BEq.rfl, Bool.and_self, if_true]
  have e : Try.prog.keyLits (135 + 1) 55 cs.toList = some L := hL
  rw [e]
  rfl
theorem coupV_key (M : Nat) (s : Int) (hs : s.toNat ≤ 100000000) : ∃ kl, keyOf Try.prog 55 (spotV M s) = some kl := by
  have hw : ∀ x : Nat, x ≤ 100000000 → cellC (.int .i64 (x : Int)) := fun x hx => ⟨_, rfl, WalkArith.wf_i64 (by omega)⟩
  unfold spotV hiI loI
  refine couple_key rfl fun v hv => ?_
  have hv : v ∈ [Value.int .i64 ((s.toNat / M : Nat) : Int), Value.int .i64 ((s.toNat % M : Nat) : Int)] := hv
  rcases List.mem_cons.1 hv with rfl | hv
  · exact hw _ (Nat.le_trans (Nat.div_le_self _ _) hs)
  · rcases List.mem_cons.1 hv with rfl | hv
    · exact hw _ (Nat.le_trans (Nat.mod_le _ _) hs)
    · cases hv

/-- Block b holds the couples l, and room for cap of them. -/
def QueC (M : Nat) (W : World) (b len cap : Nat) (l : List Int) : Prop :=
  l.length = len ∧ len ≤ cap ∧ cap ≤ maxLen ∧ ∃ cur : Array Value, W.heap[b]? = some (.cells cur 55 (0, 0)) ∧ 2 * cap ≤ cur.size ∧ ∀ q, q < 2 * len → cur[q]? = some (spotC M l q)
theorem queC_kept {M : Nat} {W W' : World} {b len cap : Nat} {l : List Int} (h : QueC M W b len cap l) (e : W'.heap[b]? = W.heap[b]?) : QueC M W' b len cap l := by
  obtain ⟨h1, h2, h3, cur, h4, h5⟩ := h
  exact ⟨h1, h2, h3, cur, e.trans h4, h5⟩
theorem queC_lt {M : Nat} {W : World} {b len cap : Nat} {l : List Int} (h : QueC M W b len cap l) : b < W.heap.size := by
  obtain ⟨h1, h2, h3, cur, h4, h5⟩ := h
  exact (Array.getElem?_eq_some_iff.1 h4).1
theorem queC_cell {M : Nat} {W : World} {b len cap : Nat} {l : List Int} (h : QueC M W b len cap l) (q : Nat) (hq : q < 2 * len) : W.cell? ⟨b, q, none⟩ = some (spotC M l q) := by
  obtain ⟨h1, h2, h3, cur, h4, h5, h6⟩ := h
  simp only [World.cell?, h4]
  exact h6 q hq
theorem queC_at {M : Nat} {W : World} {b len cap : Nat} {l : List Int} (h : QueC M W b len cap l) (i : Nat) (hi : i < len) : W.cell? ⟨b, i * 2, none⟩ = some (.int .i64 (hiI M ((l.getD i 0).toNat))) ∧ W.cell? ⟨b, i * 2 + 1, none⟩ = some (.int .i64 (loI M ((l.getD i 0).toNat))) := by
  have h0 := queC_cell h (2 * i) (by omega)
  have h1 := queC_cell h (2 * i + 1) (by omega)
  rw [spotC_fst, Nat.mul_comm] at h0
  rw [spotC_snd, Nat.mul_comm] at h1
  exact ⟨h0, h1⟩
theorem queC_push {M : Nat} {W : World} {b len cap : Nat} {l : List Int} (h : QueC M W b len cap l) (hr : len + 1 ≤ cap) (x : Int) : QueC M (W.setCells b (0 + len * 2) [.int .i64 (hiI M (x.toNat)), .int .i64 (loI M (x.toNat))]) b (len + 1) cap (l ++ [x]) := by
  obtain ⟨h1, h2, h3, cur, h4, h5, h6⟩ := h
  refine ⟨by rw [List.length_append, List.length_singleton]; omega, hr, h3, (cur.setIfInBounds (0 + len * 2) (.int .i64 (hiI M (x.toNat)))).setIfInBounds (0 + len * 2 + 1) (.int .i64 (loI M (x.toNat))), ?_, by simpa using h5, fun q hq => ?_⟩
  · simp [World.setCells, World.setCell, Array.getElem?_modify, h4]
  · rw [Array.getElem?_setIfInBounds, Array.getElem?_setIfInBounds]
    have hn := spotC_new M l x
    rw [h1] at hn
    by_cases e1 : q = 2 * len + 1
    · subst e1
      rw [if_pos (by omega), if_pos (by simp; omega), hn.2]
    · rw [if_neg (by omega)]
      by_cases e0 : q = 2 * len
      · subst e0
        rw [if_pos (by omega), if_pos (by omega), hn.1]
      · rw [if_neg (by omega), spotC_old M l x q (by omega)]
        exact h6 q (by omega)
theorem info_couple : (Try.prog.info? 55).map (fun i => (i.zero, i.size, i.bytes)) = some (some (.agg #[.int .i64 0, .int .i64 0]), 2, 16) := by kernel_rfl
theorem sets_grown (W : World) (b o : Nat) (u v : Value) : W.grownBy (W.setCells b o [u, v]) (some b) := by
  have h1 := grownBy_set W ⟨b, o, none⟩ u
  have h2 := grownBy_set (W.setCell ⟨b, o, none⟩ u) ⟨b, o + 1, none⟩ v
  show W.grownBy ((W.setCell ⟨b, o, none⟩ u).setCell ⟨b, o + 1, none⟩ v) (some b)
  exact ⟨h2.os.trans h1.os, h2.tape.trans h1.tape, h2.output.trans h1.output, Nat.le_trans h1.size h2.size, fun k hk hne => (h2.block k (Nat.lt_of_lt_of_le hk h1.size) hne).trans (h1.block k hk hne)⟩
theorem wpList_append_queC (M : Nat) (w : World) {ops : Array Oper} {rest : List Oper} {o : Oper} {a : Act} {Q : Exit → Act → World → Prop}
    (hg : o.guard = none) (s x : Operand) (hop : o.op = Op.call { callee := Callee.builtin Builtin.append, args := #[s, x], argTypes := #[57, 57] })
    (b len cap : Nat) (l : List Int) (hs : a.eval s = .slice (some ⟨b, 0, none⟩) len cap) (hq : QueC M w b len cap l) (ad : Addr) (y y0 y1 : Int) (hy0 : y0 = (hiI M (y.toNat))) (hy1 : y1 = (loI M (y.toNat))) (hx : a.eval x = .slice (some ad) 1 1)
    (hc : ∀ j u, [Value.int .i64 y0, .int .i64 y1][j]? = some u → w.cell? (ad.add j) = some u) (hlen : len ≤ 100000000)
    (hK : ∀ b' cap' w', QueC M w' b' (len + 1) cap' (l ++ [y]) → w.grownBy w' (some b) → (b' = b ∨ w.heap.size ≤ b') → wpList Try.prog ops Q rest (a.put o.dst (.slice (some ⟨b', 0, none⟩) (len + 1) cap')) w') :
    wpList Try.prog ops Q (o :: rest) a w := by
  obtain ⟨i, hi, hz0, hz1, hz2⟩ := info_parts info_couple
  refine wpList_plain hg fun K hK' => ?_
  by_cases hr : len + 1 ≤ cap
  · obtain ⟨off, hoff⟩ : ∃ off : Nat, off = 0 := ⟨_, rfl⟩
    have hs' : a.eval s = .slice (some ⟨b, off, none⟩) len cap := by rw [hoff]; exact hs
    have hlt : ∀ j, j < 2 → (w.cell? ⟨b, off + len * 2 + j, none⟩).isSome = true ∧ w.frozen? ⟨b, off + len * 2 + j, none⟩ = false := fun j hj => by
      obtain ⟨h1, h2, h3, cur, h4, h5, h6⟩ := hq
      simp only [World.cell?, World.frozen?, h4]
      have : off + len * 2 + j < cur.size := by omega
      simp [this]
    have hrun := run_append_room_cells (P := Try.prog) w 57 o.type 55 i Try.underlying57 hi b off len cap ad 1 1 [.int .i64 y0, .int .i64 y1] (by rw [hz1]; rfl) hc (fun u hu => by simp at hu; rcases hu with rfl | rfl <;> rfl) hr (by rw [hz1]; exact fun j hj => (hlt j hj).1) (by rw [hz1]; exact fun j hj => (hlt j hj).2)
    rw [hz1] at hrun
    unfold Oper.wp
    simp [execOp, hop, resolve, invoke, builtin, hs', hx, hrun, Result.andThen]
    subst hoff
    exact hK' _ _ (hK _ _ _ (by rw [hy0, hy1]; exact queC_push hq hr y) (sets_grown w _ _ _ _) (.inl rfl))
  · have hol : ((List.range (2 * len)).map (spotC M l)).length = len * 2 := by simp; omega
    have holds : ∀ j u, ((List.range (2 * len)).map (spotC M l))[j]? = some u → w.cell? ((⟨b, 0, none⟩ : Addr).add j) = some u := fun j u hj => by
      have hjl : j < 2 * len := by have := (List.getElem?_eq_some_iff.1 hj).1; simpa using this
      rw [Addr.add_lit, Nat.zero_add, queC_cell hq j hjl]
      simpa [hjl] using hj
    obtain ⟨v', w', hrun, r1, r2⟩ := run_append_arg_grows (P := Try.prog) w 57 o.type 55 i (.agg #[.int .i64 0, .int .i64 0]) 2 16 Try.underlying57 hi hz0 hz1 hz2 rfl (by decide) ⟨b, 0, none⟩ len cap _ hol holds ad 1 1 [.int .i64 y0, .int .i64 y1] rfl hc (by omega) (by unfold maxLen; omega) (by omega)
    obtain ⟨r3, r4⟩ := r1
    rcases r4 with ⟨_, r4⟩ | ⟨g', cap2, cur, rfl, hg', hh, hc1, hc2, hc3, ht⟩
    · omega
    · unfold Oper.wp
      simp [execOp, hop, resolve, invoke, builtin, hs, hx, hrun, Result.andThen]
      refine hK' _ _ (hK _ _ _ ⟨by rw [List.length_append, hq.1]; rfl, hc1, hc2, cur, hh, by omega, fun q hq2 => ?_⟩ ⟨r2.os, r2.tape, r2.output, r2.size, fun k hk _ => r2.block k hk (by simp)⟩ (.inr hg'))
      have h3 : (cur.toList.take ((len + 1) * 2))[q]? = ((List.range (2 * len)).map (spotC M l) ++ [.int .i64 y0, .int .i64 y1])[q]? := by rw [ht]
      rw [List.getElem?_take, if_pos (by omega), Array.getElem?_toList] at h3
      rw [h3]
      have hn := spotC_new M l y
      rw [hq.1, ← hy0, ← hy1] at hn
      by_cases e0 : q < 2 * len
      · rw [List.getElem?_append_left (by simpa using e0), spotC_old M l y q (by rw [hq.1]; exact e0)]
        simp [e0]
      · rw [List.getElem?_append_right (by simpa using Nat.le_of_not_lt e0)]
        by_cases e1 : q = 2 * len
        · subst e1; rw [hn.1]; simp
        · obtain rfl : q = 2 * len + 1 := by omega
          rw [hn.2]; simp

theorem and_one (q : Int) (h0 : 0 ≤ q) (h15 : q ≤ 15) : (bits BinOp.and IntKind.i64 q 1 == 1) = (q % 2 == 1) := by
  obtain ⟨k, rfl⟩ : ∃ k : Nat, q = k := ⟨q.toNat, by omega⟩
  have key : ∀ k : Fin 16, (bits BinOp.and IntKind.i64 ((k.val : Nat) : Int) 1 == 1) = (((k.val : Nat) : Int) % 2 == 1) := by decide +kernel
  exact key ⟨k, by omega⟩
set_option maxHeartbeats 1000000 in
set_option maxRecDepth 4000 in
theorem taken_any (how : Int) (x y : Bool) (w : World) (h0 : 0 ≤ how) (h15 : how ≤ 15) :
    Calls Try.prog 28 #[.int .i64 how, .bool x, .bool y] w fun e w' => e = .returned (.bool (howB how x y)) ∧ w' = w := by
  have e1 := and_one how h0 h15
  have e2 := and_one (how / 2) (by omega) (by omega)
  have e4 := and_one (how / 4) (by omega) (by omega)
  have e8 := and_one (how / 8) (by omega) (by omega)
  have E1 := hide e1
  have E2 := hide e2
  have E4 := hide e4
  have E8 := hide e8
  clear e1 e2 e4 e8
  cases x <;> cases y
  all_goals
    go_enter Try.func28, Try.ntmps28
    go_wp2
    go_ret
    refine ⟨?_, rfl⟩
    simp only [howB, ← E1.out, ← E2.out, ← E4.out, ← E8.out]
    simp
end Go.Proofs.Ytebbjmcjgjecmaa
