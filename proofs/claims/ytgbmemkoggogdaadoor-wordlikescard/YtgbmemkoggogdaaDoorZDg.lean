/- 3 texts in one. -/
import Derived.Test.YtgbmemkoggogdaaDoorZAt
import Derived.Test.YtgbmemkoggogdaaDoorZNx
import Derived.Test.YtgbmemkoggogdaaDoorBt
import Derived.Test.YtgbmemkoggogdaaDoorZMp
/- Couples as keys, and a row of couples that grows. -/
namespace Go.Proofs.YtgbmemkoggogdaaDoor
open Go.RowKit

theorem sets_grown (W : World) (b o : Nat) (u v : Value) : W.grownBy (W.setCells b o [u, v]) (some b) := by
  have h1 := grownBy_set W ⟨b, o, none⟩ u
  have h2 := grownBy_set (W.setCell ⟨b, o, none⟩ u) ⟨b, o + 1, none⟩ v
  show W.grownBy ((W.setCell ⟨b, o, none⟩ u).setCell ⟨b, o + 1, none⟩ v) (some b)
  exact ⟨h2.os.trans h1.os, h2.tape.trans h1.tape, h2.output.trans h1.output, Nat.le_trans h1.size h2.size, fun k hk hne => (h2.block k (Nat.lt_of_lt_of_le hk h1.size) hne).trans (h1.block k hk hne)⟩
end Go.Proofs.YtgbmemkoggogdaaDoor

/- Spots in a row, and as keys. -/
namespace Go.Proofs.YtgbmemkoggogdaaDoor
open Go.RowKit

/-- So many spots there are. -/
def spotM : Nat := 4096
theorem spotM_eq : spotM = 4096 := rfl
def spA (n : Nat) : Int := ((n / 64 : Nat) : Int) - 2
def spB (n : Nat) : Int := ((n % 64 : Nat) : Int)
def spN (a c : Int) : Nat := ((a + 2) * 64 + c).toNat
theorem sp_back {a c : Int} (h1 : -2 ≤ a) (h2 : a < 62) (h3 : 0 ≤ c) (h4 : c < 64) : spA (spN a c) = a ∧ spB (spN a c) = c ∧ spN a c < 4096 := by
  unfold spA spB spN; omega
theorem sp_bd {n : Nat} (h : n < 4096) : -2 ≤ spA n ∧ spA n < 62 ∧ 0 ≤ spB n ∧ spB n < 64 := by unfold spA spB; omega
theorem sp_inj {n n' : Nat} (h1 : spA n = spA n') (h2 : spB n = spB n') : n = n' := by unfold spA at h1; unfold spB at h2; omega
/-- Cell q of a row of spots. -/
def stC (l : List Nat) (q : Nat) : Value := .int .i64 (if q % 2 = 0 then spA (l.getD (q / 2) 0) else spB (l.getD (q / 2) 0))
theorem stC_fst (l : List Nat) (i : Nat) : stC l (2 * i) = .int .i64 (spA (l.getD i 0)) := by
  unfold stC
  rw [if_pos (by omega), show 2 * i / 2 = i by omega]
theorem stC_snd (l : List Nat) (i : Nat) : stC l (2 * i + 1) = .int .i64 (spB (l.getD i 0)) := by
  unfold stC
  rw [if_neg (by omega), show (2 * i + 1) / 2 = i by omega]
theorem stC_old (l : List Nat) (x : Nat) (q : Nat) (hq : q < 2 * l.length) : stC (l ++ [x]) q = stC l q := by
  unfold stC
  rw [pre_getN (List.prefix_append _ _) (by omega : q / 2 < l.length)]
theorem stC_new (l : List Nat) (x : Nat) : stC (l ++ [x]) (2 * l.length) = .int .i64 (spA x) ∧ stC (l ++ [x]) (2 * l.length + 1) = .int .i64 (spB x) := by
  rw [stC_fst, stC_snd]
  simp [List.getD]
theorem spt_law : Maps.Keyed Tryd.prog 81 := Maps.Keyed.of_law (deep_law_laid prog_laid (m := 4) (by omega) (of_decide_eq_true (by kernel_rfl)) (by kernel_rfl) (by rw [Tryd.underlying81]))
theorem spt_cells : Tryd.prog.cellsOf 81 = 2 ∧ Tryd.prog.cellsOf 3 = 1 := ⟨by kernel_rfl, by kernel_rfl⟩
theorem spt_type : Tryd.prog.keyType 81 = true := by kernel_rfl
theorem spt_key {cs : Array Value} (hl : cs.size = 2) (h : ∀ v ∈ cs.toList, cellC v) : ∃ kl, keyOf Tryd.prog 81 (.agg cs) = some kl := by
  obtain ⟨h1, h3⟩ := spt_cells
  obtain ⟨L, hL⟩ := lits_arr Tryd.prog 81 3 2 (199 - 1) Tryd.underlying81 Tryd.underlying3 h1 h3 (cs := cs.toList) (by simp [hl]) h
  refine ⟨.string (keyBytes L), ?_⟩
  unfold keyOf
  simp only [Tryd.underlying81, spt_type, Value.formed, h1, hl, types_n, Value.cells, BEq.rfl, Bool.and_self, if_true]
  have e : Tryd.prog.keyLits (199 + 1) 81 cs.toList = some L := hL
  rw [e]
  rfl
/-- Block b holds the spots l, and room for cap of them. -/
def QueW (W : World) (b len cap : Nat) (l : List Nat) : Prop :=
  l.length = len ∧ len ≤ cap ∧ cap ≤ maxLen ∧ ∃ cur : Array Value, W.heap[b]? = some (.cells cur 81 (0, 0)) ∧ 2 * cap ≤ cur.size ∧ ∀ q, q < 2 * len → cur[q]? = some (stC l q)
theorem queW_kept {W W' : World} {b len cap : Nat} {l : List Nat} (h : QueW W b len cap l) (e : W'.heap[b]? = W.heap[b]?) : QueW W' b len cap l := by
  obtain ⟨h1, h2, h3, cur, h4, h5⟩ := h
  exact ⟨h1, h2, h3, cur, e.trans h4, h5⟩
theorem queW_lt {W : World} {b len cap : Nat} {l : List Nat} (h : QueW W b len cap l) : b < W.heap.size := by
  obtain ⟨h1, h2, h3, cur, h4, h5⟩ := h
  exact (Array.getElem?_eq_some_iff.1 h4).1
theorem queW_cell {W : World} {b len cap : Nat} {l : List Nat} (h : QueW W b len cap l) (q : Nat) (hq : q < 2 * len) : W.cell? ⟨b, q, none⟩ = some (stC l q) := by
  obtain ⟨h1, h2, h3, cur, h4, h5, h6⟩ := h
  simp only [World.cell?, h4]
  exact h6 q hq
theorem queW_at {W : World} {b len cap : Nat} {l : List Nat} (h : QueW W b len cap l) (i : Nat) (hi : i < len) : W.cell? ⟨b, i * 2, none⟩ = some (.int .i64 (spA (l.getD i 0))) ∧ W.cell? ⟨b, i * 2 + 1, none⟩ = some (.int .i64 (spB (l.getD i 0))) := by
  have h0 := queW_cell h (2 * i) (by omega)
  have h1 := queW_cell h (2 * i + 1) (by omega)
  rw [stC_fst, Nat.mul_comm] at h0
  rw [stC_snd, Nat.mul_comm] at h1
  exact ⟨h0, h1⟩
theorem queW_push {W : World} {b len cap : Nat} {l : List Nat} (h : QueW W b len cap l) (hr : len + 1 ≤ cap) (x : Nat) : QueW (W.setCells b (0 + len * 2) [.int .i64 (spA x), .int .i64 (spB x)]) b (len + 1) cap (l ++ [x]) := by
  obtain ⟨h1, h2, h3, cur, h4, h5, h6⟩ := h
  refine ⟨by rw [List.length_append, List.length_singleton]; omega, hr, h3, (cur.setIfInBounds (0 + len * 2) (.int .i64 (spA x))).setIfInBounds (0 + len * 2 + 1) (.int .i64 (spB x)), ?_, by simpa using h5, fun q hq => ?_⟩
  · simp [World.setCells, World.setCell, Array.getElem?_modify, h4]
  · rw [Array.getElem?_setIfInBounds, Array.getElem?_setIfInBounds]
    have hn := stC_new l x
    rw [h1] at hn
    by_cases e1 : q = 2 * len + 1
    · subst e1
      rw [if_pos (by omega), if_pos (by simp; omega), hn.2]
    · rw [if_neg (by omega)]
      by_cases e0 : q = 2 * len
      · subst e0
        rw [if_pos (by omega), if_pos (by omega), hn.1]
      · rw [if_neg (by omega), stC_old l x q (by omega)]
        exact h6 q (by omega)
theorem info_spt : (Tryd.prog.info? 81).map (fun i => (i.zero, i.size, i.bytes)) = some (some (.agg #[.int .i64 0, .int .i64 0]), 2, 16) := by kernel_rfl
theorem wpList_append_queW (w : World) {ops : Array Oper} {rest : List Oper} {o : Oper} {a : Act} {Q : Exit → Act → World → Prop}
    (hg : o.guard = none) (s x : Operand) (hop : o.op = Op.call { callee := Callee.builtin Builtin.append, args := #[s, x], argTypes := #[77, 77] })
    (b len cap : Nat) (l : List Nat) (hs : a.eval s = .slice (some ⟨b, 0, none⟩) len cap) (hq : QueW w b len cap l) (ad : Addr) (y : Nat) (y0 y1 : Int) (hy0 : y0 = (spA y)) (hy1 : y1 = (spB y)) (hx : a.eval x = .slice (some ad) 1 1)
    (hc : ∀ j u, [Value.int .i64 y0, .int .i64 y1][j]? = some u → w.cell? (ad.add j) = some u) (hlen : len ≤ 100000000)
    (hK : ∀ b' cap' w', QueW w' b' (len + 1) cap' (l ++ [y]) → w.grownBy w' (some b) → (b' = b ∨ w.heap.size ≤ b') → wpList Tryd.prog ops Q rest (a.put o.dst (.slice (some ⟨b', 0, none⟩) (len + 1) cap')) w') :
    wpList Tryd.prog ops Q (o :: rest) a w := by
  obtain ⟨i, hi, hz0, hz1, hz2⟩ := info_parts info_spt
  refine wpList_plain hg fun K hK' => ?_
  by_cases hr : len + 1 ≤ cap
  · obtain ⟨off, hoff⟩ : ∃ off : Nat, off = 0 := ⟨_, rfl⟩
    have hs' : a.eval s = .slice (some ⟨b, off, none⟩) len cap := by rw [hoff]; exact hs
    have hlt : ∀ j, j < 2 → (w.cell? ⟨b, off + len * 2 + j, none⟩).isSome = true ∧ w.frozen? ⟨b, off + len * 2 + j, none⟩ = false := fun j hj => by
      obtain ⟨h1, h2, h3, cur, h4, h5, h6⟩ := hq
      simp only [World.cell?, World.frozen?, h4]
      have : off + len * 2 + j < cur.size := by omega
      simp [this]
    have hrun := run_append_room_cells (P := Tryd.prog) w 77 o.type 81 i Tryd.underlying77 hi b off len cap ad 1 1 [.int .i64 y0, .int .i64 y1] (by rw [hz1]; rfl) hc (fun u hu => by simp at hu; rcases hu with rfl | rfl <;> rfl) hr (by rw [hz1]; exact fun j hj => (hlt j hj).1) (by rw [hz1]; exact fun j hj => (hlt j hj).2)
    rw [hz1] at hrun
    unfold Oper.wp
    simp [execOp, hop, resolve, invoke, builtin, hs', hx, hrun, Result.andThen]
    subst hoff
    exact hK' _ _ (hK _ _ _ (by rw [hy0, hy1]; exact queW_push hq hr y) (sets_grown w _ _ _ _) (.inl rfl))
  · have hol : ((List.range (2 * len)).map (stC l)).length = len * 2 := by simp; omega
    have holds : ∀ j u, ((List.range (2 * len)).map (stC l))[j]? = some u → w.cell? ((⟨b, 0, none⟩ : Addr).add j) = some u := fun j u hj => by
      have hjl : j < 2 * len := by have := (List.getElem?_eq_some_iff.1 hj).1; simpa using this
      rw [Addr.add_lit, Nat.zero_add, queW_cell hq j hjl]
      simpa [hjl] using hj
    obtain ⟨v', w', hrun, r1, r2⟩ := run_append_arg_grows (P := Tryd.prog) w 77 o.type 81 i (.agg #[.int .i64 0, .int .i64 0]) 2 16 Tryd.underlying77 hi hz0 hz1 hz2 rfl (by decide) ⟨b, 0, none⟩ len cap _ hol holds ad 1 1 [.int .i64 y0, .int .i64 y1] rfl hc (by omega) (by unfold maxLen; omega) (by omega)
    obtain ⟨r3, r4⟩ := r1
    rcases r4 with ⟨_, r4⟩ | ⟨g', cap2, cur, rfl, hg', hh, hc1, hc2, hc3, ht⟩
    · omega
    · unfold Oper.wp
      simp [execOp, hop, resolve, invoke, builtin, hs, hx, hrun, Result.andThen]
      refine hK' _ _ (hK _ _ _ ⟨by rw [List.length_append, hq.1]; rfl, hc1, hc2, cur, hh, by omega, fun q hq2 => ?_⟩ ⟨r2.os, r2.tape, r2.output, r2.size, fun k hk _ => r2.block k hk (by simp)⟩ (.inr hg'))
      have h3 : (cur.toList.take ((len + 1) * 2))[q]? = ((List.range (2 * len)).map (stC l) ++ [.int .i64 y0, .int .i64 y1])[q]? := by rw [ht]
      rw [List.getElem?_take, if_pos (by omega), Array.getElem?_toList] at h3
      rw [h3]
      have hn := stC_new l y
      rw [hq.1, ← hy0, ← hy1] at hn
      by_cases e0 : q < 2 * len
      · rw [List.getElem?_append_left (by simpa using e0), stC_old l y q (by rw [hq.1]; exact e0)]
        simp [e0]
      · rw [List.getElem?_append_right (by simpa using Nat.le_of_not_lt e0)]
        by_cases e1 : q = 2 * len
        · subst e1; rw [hn.1]; simp
        · obtain rfl : q = 2 * len + 1 := by omega
          rw [hn.2]; simp

/-- Spots as keys. -/
def spU (n : Nat) : Value := .agg #[.int .i64 (spA n), .int .i64 (spB n)]
theorem spU_inj {n n' : Nat} (e : spU n = spU n') : n = n' := by
  unfold spU at e
  simp only [Value.agg.injEq, Array.mk.injEq, List.cons.injEq, Value.int.injEq, true_and, and_true] at e
  exact sp_inj e.1 e.2
theorem spU_key {n : Nat} (h : n < 4096) : ∃ kl, keyOf Tryd.prog 81 (spU n) = some kl := by
  have hb := sp_bd h
  unfold spU
  refine spt_key rfl fun v hv => ?_
  have hv : v ∈ [Value.int .i64 (spA n), Value.int .i64 (spB n)] := hv
  rcases List.mem_cons.1 hv with rfl | hv
  · exact ⟨_, rfl, WalkArith.wf_i64 (by omega)⟩
  · rcases List.mem_cons.1 hv with rfl | hv
    · exact ⟨_, rfl, WalkArith.wf_i64 (by omega)⟩
    · cases hv
/-- Numbered spots. -/
def numW (L : List Nat) : List (Value × Value) := (List.range L.length).map fun i => (spU (L.getD i 0), Value.int .i64 (i : Int))
theorem numW_len (L : List Nat) : (numW L).length = L.length := by simp [numW]
theorem numW_new (L : List Nat) (M : Nat) : numW (L ++ [M]) = numW L ++ [(spU M, Value.int .i64 (L.length : Int))] := by
  unfold numW
  rw [List.length_append, List.length_singleton, List.range_succ, List.map_append]
  congr 1
  · refine List.map_congr_left fun i hi => ?_
    have := List.mem_range.1 hi
    simp [List.getD, List.getElem?_append_left this]
  · simp [List.getD]
theorem numW_mem {L : List Nat} {M : Nat} (h : M ∈ L) : (spU M, Value.int .i64 ((L.idxOf M : Nat) : Int)) ∈ numW L := by
  refine List.mem_map.2 ⟨L.idxOf M, List.mem_range.2 (List.idxOf_lt_length_of_mem h), ?_⟩
  rw [idx_get h]
theorem numW_not {L : List Nat} {M : Nat} (h : ¬ M ∈ L) : ¬ spU M ∈ (numW L).map Prod.fst := fun hx => by
  obtain ⟨p, hp, e⟩ := List.mem_map.1 hx
  obtain ⟨i, hi, rfl⟩ := List.mem_map.1 hp
  have hm := getN_mem (List.mem_range.1 hi)
  exact h (spU_inj e ▸ hm)
end Go.Proofs.YtgbmemkoggogdaaDoor

/- least.firstWord: contract, whatever closures are handed in. -/
namespace Go.Proofs.YtgbmemkoggogdaaDoor
open Go.RowKit

theorem two_new (w : World) (x y : Value) (t : TypeId) : ∀ j u, [x, y][j]? = some u → (w.alloc (.cells #[x, y] t)).cell? ((⟨w.heap.size, 0, none⟩ : Addr).add j) = some u := by
  intro j u h
  rw [Addr.add_lit, cell_of_row _ _ _ _ t (0, 0) (heap_alloc_last w _), Nat.zero_add]
  simpa using h
end Go.Proofs.YtgbmemkoggogdaaDoor
