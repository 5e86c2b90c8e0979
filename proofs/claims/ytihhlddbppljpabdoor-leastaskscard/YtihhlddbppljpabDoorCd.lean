/- A queue of spots. -/
import Derived.Test.YtihhlddbppljpabDoorAt
import Derived.Test.YtihhlddbppljpabDoorBt
namespace Go.Proofs.YtihhlddbppljpabDoor
open Go.RowKit

/-- Cell q of a row of spots. -/
def spotC (M : Nat) (l : List Int) (q : Nat) : Value := .int .i64 (if q % 2 = 0 then (hiI M ((l.getD (q / 2) 0).toNat)) else (loI M ((l.getD (q / 2) 0).toNat)))
theorem spotC_fst (M : Nat) (l : List Int) (j : Nat) : spotC M l (2 * j) = .int .i64 (hiI M ((l.getD j 0).toNat)) := by unfold spotC; rw [if_pos (by omega), show 2 * j / 2 = j by omega]
theorem spotC_snd (M : Nat) (l : List Int) (j : Nat) : spotC M l (2 * j + 1) = .int .i64 (loI M ((l.getD j 0).toNat)) := by unfold spotC; rw [if_neg (by omega), show (2 * j + 1) / 2 = j by omega]
theorem spotC_drop (M : Nat) (l : List Int) (q : Nat) : spotC M (l.drop 1) q = spotC M l (q + 2) := by
  unfold spotC
  rw [show (q + 2) / 2 = q / 2 + 1 by omega, show (q + 2) % 2 = q % 2 by omega]
  simp [List.getD]
theorem spotC_old (M : Nat) (l : List Int) (x : Int) (q : Nat) (hq : q < 2 * l.length) : spotC M (l ++ [x]) q = spotC M l q := by
  unfold spotC
  rw [pre_getD (List.prefix_append _ _) (q / 2) (by omega)]
theorem spotC_new (M : Nat) (l : List Int) (x : Int) : spotC M (l ++ [x]) (2 * l.length) = .int .i64 (hiI M (x.toNat)) ∧ spotC M (l ++ [x]) (2 * l.length + 1) = .int .i64 (loI M (x.toNat)) := by
  rw [spotC_fst, spotC_snd]
  simp [List.getD]

/-- Block b holds, from off on, the spots l, and room for cap of them. -/
def QueS (M : Nat) (W : World) (b off len cap : Nat) (l : List Int) : Prop :=
  l.length = len ∧ len ≤ cap ∧ cap ≤ maxLen ∧ ∃ cur : Array Value, W.heap[b]? = some (.cells cur 67 (0, 0)) ∧ off + 2 * cap ≤ cur.size ∧ ∀ q, q < 2 * len → cur[off + q]? = some (spotC M l q)
theorem queS_kept {M : Nat} {W W' : World} {b off len cap : Nat} {l : List Int} (h : QueS M W b off len cap l) (e : W'.heap[b]? = W.heap[b]?) : QueS M W' b off len cap l := by
  obtain ⟨h1, h2, h3, cur, h4, h5⟩ := h
  exact ⟨h1, h2, h3, cur, e.trans h4, h5⟩
theorem queS_lt {M : Nat} {W : World} {b off len cap : Nat} {l : List Int} (h : QueS M W b off len cap l) : b < W.heap.size := by
  obtain ⟨h1, h2, h3, cur, h4, h5⟩ := h
  exact (Array.getElem?_eq_some_iff.1 h4).1
theorem queS_cell {M : Nat} {W : World} {b off len cap : Nat} {l : List Int} (h : QueS M W b off len cap l) (q : Nat) (hq : q < 2 * len) : W.cell? ⟨b, off + q, none⟩ = some (spotC M l q) := by
  obtain ⟨h1, h2, h3, cur, h4, h5, h6⟩ := h
  simp only [World.cell?, h4]
  exact h6 q hq
theorem queS_head {M : Nat} {W : World} {b off k cap : Nat} {l : List Int} (h : QueS M W b off (k + 1) cap l) : W.cell? ⟨b, off, none⟩ = some (.int .i64 (hiI M ((l.getD 0 0).toNat))) ∧ W.cell? ⟨b, off + 1, none⟩ = some (.int .i64 (loI M ((l.getD 0 0).toNat))) := by
  have h0 := queS_cell h 0 (by omega)
  have h1 := queS_cell h 1 (by omega)
  have e0 := spotC_fst M l 0
  have e1 := spotC_snd M l 0
  exact ⟨h0.trans (congrArg some e0), h1.trans (congrArg some e1)⟩
theorem queS_tail {M : Nat} {W : World} {b off k cap : Nat} {l : List Int} (h : QueS M W b off (k + 1) cap l) : QueS M W b (if cap = 1 then off else off + 2) k (cap - 1) (l.drop 1) := by
  obtain ⟨h1, h2, h3, cur, h4, h5, h6⟩ := h
  refine ⟨by rw [List.length_drop]; omega, by omega, by omega, cur, h4, by split <;> omega, fun q hq => ?_⟩
  rw [if_neg (by omega), spotC_drop, show off + 2 + q = off + (q + 2) by omega]
  exact h6 (q + 2) (by omega)
theorem queS_push {M : Nat} {W : World} {b off len cap : Nat} {l : List Int} (h : QueS M W b off len cap l) (hr : len + 1 ≤ cap) (x : Int) : QueS M (W.setCells b (off + len * 2) [.int .i64 (hiI M (x.toNat)), .int .i64 (loI M (x.toNat))]) b off (len + 1) cap (l ++ [x]) := by
  obtain ⟨h1, h2, h3, cur, h4, h5, h6⟩ := h
  refine ⟨by rw [List.length_append, List.length_singleton]; omega, hr, h3, (cur.setIfInBounds (off + len * 2) (.int .i64 (hiI M (x.toNat)))).setIfInBounds (off + len * 2 + 1) (.int .i64 (loI M (x.toNat))), ?_, by simpa using h5, fun q hq => ?_⟩
  · simp [World.setCells, World.setCell, Array.getElem?_modify, h4]
  · rw [Array.getElem?_setIfInBounds, Array.getElem?_setIfInBounds]
    have hn := spotC_new M l x
    rw [h1] at hn
    by_cases e1 : q = 2 * len + 1
    · subst e1
      rw [if_pos (by omega), if_pos (by simp; omega), hn.2]
    · rw [if_neg (by omega)]
      by_cases e0 : q = 2 * len
      · subst e0
        rw [if_pos (by omega), if_pos (by omega), hn.1]
      · rw [if_neg (by omega), spotC_old M l x q (by omega)]
        exact h6 q (by omega)
theorem info_spot : (Tryd.prog.info? 67).map (fun i => (i.zero, i.size, i.bytes)) = some (some (.agg #[.int .i64 0, .int .i64 0]), 2, 16) := by kernel_rfl
theorem grownBy_sets (W : World) (b o : Nat) (u v : Value) : W.grownBy (W.setCells b o [u, v]) (some b) := by
  have h1 := grownBy_set W ⟨b, o, none⟩ u
  have h2 := grownBy_set (W.setCell ⟨b, o, none⟩ u) ⟨b, o + 1, none⟩ v
  show W.grownBy ((W.setCell ⟨b, o, none⟩ u).setCell ⟨b, o + 1, none⟩ v) (some b)
  exact ⟨h2.os.trans h1.os, h2.tape.trans h1.tape, h2.output.trans h1.output, Nat.le_trans h1.size h2.size, fun k hk hne => (h2.block k (Nat.lt_of_lt_of_le hk h1.size) hne).trans (h1.block k hk hne)⟩

theorem wpList_append_queS (M : Nat) (w : World) {ops : Array Oper} {rest : List Oper} {o : Oper} {a : Act} {Q : Exit → Act → World → Prop}
    (hg : o.guard = none) (s x : Operand) (hop : o.op = Op.call { callee := Callee.builtin Builtin.append, args := #[s, x], argTypes := #[86, 86] })
    (b off len cap : Nat) (l : List Int) (hs : a.eval s = .slice (some ⟨b, off, none⟩) len cap) (hq : QueS M w b off len cap l) (ad : Addr) (y y0 y1 : Int) (hy0 : y0 = (hiI M (y.toNat))) (hy1 : y1 = (loI M (y.toNat))) (hx : a.eval x = .slice (some ad) 1 1)
    (hc : ∀ j u, [Value.int .i64 y0, .int .i64 y1][j]? = some u → w.cell? (ad.add j) = some u) (hlen : len ≤ 1000000)
    (hK : ∀ b' off' cap' w', QueS M w' b' off' (len + 1) cap' (l ++ [y]) → w.grownBy w' (some b) → (b' = b ∨ w.heap.size ≤ b') → wpList Tryd.prog ops Q rest (a.put o.dst (.slice (some ⟨b', off', none⟩) (len + 1) cap')) w') :
    wpList Tryd.prog ops Q (o :: rest) a w := by
  obtain ⟨i, hi, hz0, hz1, hz2⟩ := info_parts info_spot
  refine wpList_plain hg fun K hK' => ?_
  by_cases hr : len + 1 ≤ cap
  · have hlt : ∀ j, j < 2 → (w.cell? ⟨b, off + len * 2 + j, none⟩).isSome = true ∧ w.frozen? ⟨b, off + len * 2 + j, none⟩ = false := fun j hj => by
      obtain ⟨h1, h2, h3, cur, h4, h5, h6⟩ := hq
      simp only [World.cell?, World.frozen?, h4]
      have : off + len * 2 + j < cur.size := by omega
      simp [this]
    have hrun := run_append_room_cells (P := Tryd.prog) w 86 o.type 67 i Tryd.underlying86 hi b off len cap ad 1 1 [.int .i64 y0, .int .i64 y1] (by rw [hz1]; rfl) hc (fun u hu => by simp at hu; rcases hu with rfl | rfl <;> rfl) hr (by rw [hz1]; exact fun j hj => (hlt j hj).1) (by rw [hz1]; exact fun j hj => (hlt j hj).2)
    rw [hz1] at hrun
    unfold Oper.wp
    simp [execOp, hop, resolve, invoke, builtin, hs, hx, hrun, Result.andThen]
    exact hK' _ _ (hK _ _ _ _ (by rw [hy0, hy1]; exact queS_push hq hr y) (grownBy_sets w _ _ _ _) (.inl rfl))
  · have hol : ((List.range (2 * len)).map (spotC M l)).length = len * 2 := by simp; omega
    have holds : ∀ j u, ((List.range (2 * len)).map (spotC M l))[j]? = some u → w.cell? ((⟨b, off, none⟩ : Addr).add j) = some u := fun j u hj => by
      have hjl : j < 2 * len := by have := (List.getElem?_eq_some_iff.1 hj).1; simpa using this
      rw [Addr.add_lit, queS_cell hq j hjl]
      simpa [hjl] using hj
    obtain ⟨v', w', hrun, r1, r2⟩ := run_append_arg_grows (P := Tryd.prog) w 86 o.type 67 i (.agg #[.int .i64 0, .int .i64 0]) 2 16 Tryd.underlying86 hi hz0 hz1 hz2 rfl (by decide) ⟨b, off, none⟩ len cap _ hol holds ad 1 1 [.int .i64 y0, .int .i64 y1] rfl hc (by omega) (by unfold maxLen; omega) (by omega)
    obtain ⟨r3, r4⟩ := r1
    rcases r4 with ⟨_, r4⟩ | ⟨g', cap2, cur, rfl, hg', hh, hc1, hc2, hc3, ht⟩
    · omega
    · unfold Oper.wp
      simp [execOp, hop, resolve, invoke, builtin, hs, hx, hrun, Result.andThen]
      refine hK' _ _ (hK _ _ _ _ ⟨by rw [List.length_append, hq.1]; rfl, hc1, hc2, cur, hh, by omega, fun q hq2 => ?_⟩ ⟨r2.os, r2.tape, r2.output, r2.size, fun k hk _ => r2.block k hk (by simp)⟩ (.inr hg'))
      have h3 : (cur.toList.take ((len + 1) * 2))[q]? = ((List.range (2 * len)).map (spotC M l) ++ [.int .i64 y0, .int .i64 y1])[q]? := by rw [ht]
      rw [List.getElem?_take, if_pos (by omega), Array.getElem?_toList] at h3
      rw [Nat.zero_add, h3]
      have hn := spotC_new M l y
      rw [hq.1, ← hy0, ← hy1] at hn
      by_cases e0 : q < 2 * len
      · rw [List.getElem?_append_left (by simpa using e0), spotC_old M l y q (by rw [hq.1]; exact e0)]
        simp [e0]
      · rw [List.getElem?_append_right (by simpa using Nat.le_of_not_lt e0)]
        by_cases e1 : q = 2 * len
        · subst e1; rw [hn.1]; simp
        · obtain rfl : q = 2 * len + 1 := by omega
          rw [hn.2]; simp
theorem run_tailS (b off k cap : Nat) (wx : World) : (Instr.slice 86 (.slice (some ⟨b, off, none⟩) (k + 1) cap) (some (.int .i64 1)) none none).run Tryd.prog wx = .ok (.slice (some ⟨b, if cap = 1 then off else off + 2, none⟩) k (cap - 1)) wx := by
  obtain ⟨i, hi, hz0, hz1, hz2⟩ := info_parts info_spot
  unfold Instr.slice Instr.sliceBounds Instr.sliceBound
  simp only [Sem.run_bind, run_underlying Tryd.underlying86, Result.andThen_ok, Sem.run_pure, asIntOf]
  simp [sizeOf, typeInfo, hi, hz1, Addr.add_lit]
  rw [if_pos (by omega)]
  by_cases e : cap = 1
  · simp [e]
  · simp [e]
end Go.Proofs.YtihhlddbppljpabDoor
