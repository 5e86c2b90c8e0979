/- 2 texts in one. -/
import Derived.Test.YtebbjmcjgjecmaaBx
import Derived.Test.YtebbjmcjgjecmaaCf
import Derived.Test.YtebbjmcjgjecmaaZCd
import Derived.Test.YtebbjmcjgjecmaaZMp
/- pair.couples: what holds between two rounds. -/
namespace Go.Proofs.Ytebbjmcjgjecmaa
open Go.RowKit

/-- Behind i of the couples. -/
def CoAt (wb : World) (b t : Int) (P : List (List Int)) (Q : List Bool) (M i : Nat) (v : Value) (wx : World) : Prop :=
  ∃ bm cap, v = .slice (some ⟨bm, 0, none⟩) (outs P i).length cap ∧ QueC M wx bm (outs P i).length cap (outs P i) ∧
    MapAt Try.prog 55 wx (wb.heap.size + 2) (numF (spotV M) (outs P i)) ∧
    OutX wb b t (fun q => (coupN P).getD q []) (fun q => (coupE P Q).getD q false) i i [wb.heap.size + 2, bm] wx ∧ wb.heap.size + 2 < bm ∧ i ≤ (outs P i).length
/-- .. and behind l letters of the next one. -/
def CrAt (wb wq : World) (P : List (List Int)) (M m i l bm0 : Nat) (x0 x1 : Int) (row : List Int) (v : Value) (wx : World) : Prop :=
  ∃ bm cap, v = .slice (some ⟨bm, 0, none⟩) (rowO P i l).length cap ∧ QueC M wx bm (rowO P i l).length cap (rowO P i l) ∧
    MapAt Try.prog 55 wx (wb.heap.size + 2) (numF (spotV M) (rowO P i l)) ∧
    (wx.rowIs (wq.heap.size + 1) 3 m fun q => .int .i64 (if q < l then row.getD q 0 else 0)) ∧
    wx.heap[wq.heap.size]? = some (.cells #[.int .i64 x0, .int .i64 x1] 55 (0, 0)) ∧
    (bm = bm0 ∨ wq.heap.size + 1 < bm) ∧ (∀ x, x < wq.heap.size → x ≠ wb.heap.size + 2 → x ≠ bm0 → wx.heap[x]? = wq.heap[x]?) ∧ Below wb.heap.size wb wx ∧ wq.heap.size + 2 ≤ wx.heap.size

theorem crAt_start {wb wq W1 : World} {P : List (List Int)} {M m i bm0 cap : Nat} {x0 x1 : Int} {row : List Int} (hq : QueC M wq bm0 (outs P i).length cap (outs P i)) (hm : MapAt Try.prog 55 wq (wb.heap.size + 2) (numF (spotV M) (outs P i))) (hb : Below wb.heap.size wb wq)
    (h1 : W1 = (wq.alloc (.cells #[.int .i64 x0, .int .i64 x1] 55)).alloc (.cells (madeCells #[.int .i64 0] m) 3)) : CrAt wb wq P M m i 0 bm0 x0 x1 row (.slice (some ⟨bm0, 0, none⟩) (outs P i).length cap) W1 := by
  have hB : Below wq.heap.size wq W1 := by rw [h1]; exact below_two _ _ _
  have hl := queC_lt hq
  refine ⟨bm0, cap, by rw [rowO_zero], by rw [rowO_zero]; exact queC_kept hq (hB.block _ hl), by rw [rowO_zero]; exact hm.below hB, ?_, ?_, .inl rfl, fun x hx _ _ => hB.block x hx, hb.trans (hB.mono hb.size), by rw [h1]; simp⟩
  · rw [h1]
    have := (World.rowIs_made (wq.alloc (.cells #[.int .i64 x0, .int .i64 x1] 55)) (.int .i64 0) m 3).congr (g := fun q => .int .i64 (if q < 0 then row.getD q 0 else 0)) fun q _ => by simp
    rwa [World.size_alloc] at this
  · rw [h1]; exact heap_alloc2_fst _ _ _
theorem row_step {wx : World} {nb m l : Nat} {row : List Int} {num : Int} (h : wx.rowIs nb 3 m fun q => .int .i64 (if q < l then row.getD q 0 else 0)) (hn : row.getD l 0 = num) : (wx.setCell ⟨nb, l, none⟩ (.int .i64 num)).rowIs nb 3 m fun q => .int .i64 (if q < l + 1 then row.getD q 0 else 0) :=
  (h.set _ _).congr fun q _ => by
    by_cases e : q = l
    · subst e; rw [if_pos rfl, if_pos (by omega), hn]
    · rw [if_neg e]
      congr 1
      by_cases e2 : q < l
      · rw [if_pos e2, if_pos (by omega)]
      · rw [if_neg e2, if_neg (by omega)]
/-- One letter more, that leads to a couple that was met. -/
theorem crAt_known {wb wq wx wU : World} {P : List (List Int)} {M m i l bm0 : Nat} {x0 x1 : Int} {row : List Int} {v : Value} {num : Int} (h : CrAt wb wq P M m i l bm0 x0 x1 row v wx) (hmb : wb.heap.size + 2 < wq.heap.size) (hb0 : bm0 < wq.heap.size) (hU : Below wx.heap.size wx wU) (hs : rowO P i (l + 1) = rowO P i l) (hn : row.getD l 0 = num) :
    CrAt wb wq P M m i (l + 1) bm0 x0 x1 row v (wU.setCell ⟨wq.heap.size + 1, l, none⟩ (.int .i64 num)) := by
  obtain ⟨bm, cap, h1, h2, h3, h4, h5, h6, h7, h8, h9⟩ := h
  have hl := queC_lt h2
  have hk : ∀ x, x < wx.heap.size → x ≠ wq.heap.size + 1 → (wU.setCell ⟨wq.heap.size + 1, l, none⟩ (.int .i64 num)).heap[x]? = wx.heap[x]? := fun x hx hne => by
    rw [Below.heap_setCell _ _ _ _ hne, hU.block x hx]
  refine ⟨bm, cap, by rw [hs]; exact h1, by rw [hs]; exact queC_kept h2 (hk _ hl (by omega)), by rw [hs]; exact h3.of_block (hk _ h3.lt (by omega)), row_step (h4.of_block (hU.block _ h4.lt)) hn, (hk _ (by omega) (by omega)).trans h5, h6, fun x hx hne hne' => (hk x (by omega) (by omega)).trans (h7 x hx hne hne'), ?_, ?_⟩
  · exact (h8.trans (hU.mono h8.size)).setCell (by show _ ≤ wq.heap.size + 1; omega) _
  · have := hU.size
    simp [World.setCell]
    omega
/-- .. to one that is new. -/
theorem crAt_new {wb wq wx wU w5 w6 : World} {P : List (List Int)} {M m i l bm0 bm cap : Nat} {x0 x1 : Int} {row : List Int} {num : Nat} {x : Int} {o : Obj} {b' cap' : Nat} (h2 : QueC M wx bm (rowO P i l).length cap (rowO P i l)) (h4 : wx.rowIs (wq.heap.size + 1) 3 m fun q => .int .i64 (if q < l then row.getD q 0 else 0))
    (h5 : wx.heap[wq.heap.size]? = some (.cells #[.int .i64 x0, .int .i64 x1] 55 (0, 0))) (h6 : bm = bm0 ∨ wq.heap.size + 1 < bm) (h7 : ∀ x, x < wq.heap.size → x ≠ wb.heap.size + 2 → x ≠ bm0 → wx.heap[x]? = wq.heap[x]?) (h8 : Below wb.heap.size wb wx) (h9 : wq.heap.size + 2 ≤ wx.heap.size)
    (hmb : wb.heap.size + 2 < wq.heap.size) (hb0 : bm0 < wq.heap.size) (hb1 : wb.heap.size + 2 < bm0) (hU : Below wx.heap.size wx wU)
    (hm : MapAt Try.prog 55 w5 (wb.heap.size + 2) (numF (spotV M) (rowO P i l) ++ [(spotV M x, Value.int .i64 (num : Int))])) (ht : wU.mapTurned w5 (wb.heap.size + 2)) (hnew : rowO P i (l + 1) = rowO P i l ++ [x]) (hnum : num = (rowO P i l).length)
    (hq6 : QueC M w6 b' ((rowO P i l).length + 1) cap' (rowO P i l ++ [x])) (hg : (w5.alloc o).grownBy w6 (some bm)) (hb' : b' = bm ∨ (w5.alloc o).heap.size ≤ b') (hn : row.getD l 0 = (num : Int)) :
    (w6.cell? ⟨wq.heap.size + 1, l, none⟩ = wx.cell? ⟨wq.heap.size + 1, l, none⟩ ∧ w6.frozen? ⟨wq.heap.size + 1, l, none⟩ = false) ∧ CrAt wb wq P M m i (l + 1) bm0 x0 x1 row (.slice (some ⟨b', 0, none⟩) ((rowO P i l).length + 1) cap') (w6.setCell ⟨wq.heap.size + 1, l, none⟩ (.int .i64 (num : Int))) := by
  have hl := queC_lt h2
  have hsU := hU.size
  have hs5 := ht.grown.size
  have hs6 := hg.size
  rw [World.size_alloc] at hs6
  have hk : ∀ y, y < wx.heap.size → y ≠ bm → y ≠ wb.heap.size + 2 → w6.heap[y]? = wx.heap[y]? := fun y hy hne hne' => by
    rw [hg.block y (by simp; omega) (fun e => hne (by cases e; rfl)), Below.heap_alloc _ _ _ (by omega), ht.grown.block y (by omega) (fun e => hne' (by cases e; rfl)), hU.block y hy]
  have hr6 := h4.of_block (hk _ h4.lt (by omega) (by omega))
  have k0 : Below wb.heap.size wb wU := h8.trans (hU.mono h8.size)
  have k1 : Below wb.heap.size wb w5 := below_turned k0 ht (by omega) k0.size
  have k2 : Below wb.heap.size wb w6 := Below.grown (k1.alloc k1.size o) hg (by have := k1.size; simp; omega) (fun k hk => by cases hk; omega)
  have hbb : b' = bm ∨ wx.heap.size ≤ b' := by
    rcases hb' with h | h
    · exact .inl h
    · rw [World.size_alloc] at h; exact .inr (by omega)
  have hst : ∀ y, y ≠ wq.heap.size + 1 → (w6.setCell ⟨wq.heap.size + 1, l, none⟩ (.int .i64 (num : Int))).heap[y]? = w6.heap[y]? := fun y hy => Below.heap_setCell _ _ _ _ hy
  refine ⟨⟨World.cell?_of_block (a := ⟨wq.heap.size + 1, l, none⟩) (hk (wq.heap.size + 1) h4.lt (by omega) (by omega)), hr6.frozen l⟩, b', cap', by rw [hnew, List.length_append]; rfl, ?_, ?_, row_step hr6 hn, ?_, by omega, fun y hy hne hne' => ?_, k2.setCell (by show _ ≤ wq.heap.size + 1; omega) _, ?_⟩
  · rw [hnew, List.length_append]
    exact queC_kept hq6 (hst b' (by omega))
  · rw [hnew, ← numF_put, ← hnum]
    exact ((hm.alloc o).grown hg (fun e => by cases e; omega)).of_block (hst _ (by omega))
  · rw [hst _ (by omega), hk _ (by omega) (by omega) (by omega)]
    exact h5
  · rw [hst _ (by omega), hk y (by omega) (by omega) hne]
    exact h7 y hy hne hne'
  · simp [World.setCell]; omega

/-- The row is done. -/
theorem crAt_end {wb wq wr : World} {b t : Int} {P : List (List Int)} {Q : List Bool} {m i bm0 bm : Nat} (hO : OutX wb b t (fun q => (coupN P).getD q []) (fun q => (coupE P Q).getD q false) i i [wb.heap.size + 2, bm0] wq) (hl : bm < wr.heap.size)
    (h4 : wr.rowIs (wq.heap.size + 1) 3 m fun q => .int .i64 (if q < m then ((coupN P).getD i []).getD q 0 else 0)) (h6 : bm = bm0 ∨ wq.heap.size + 1 < bm) (h7 : ∀ x, x < wq.heap.size → x ≠ wb.heap.size + 2 → x ≠ bm0 → wr.heap[x]? = wq.heap[x]?) (h8 : Below wb.heap.size wb wr) (h9 : wq.heap.size + 2 ≤ wr.heap.size)
    (hmb : wb.heap.size + 2 < wq.heap.size) (hb0 : bm0 < wq.heap.size) (hb1 : wb.heap.size + 2 < bm0) (hrl : ((coupN P).getD i []).length = m) (hm36 : m ≤ 36) (hwf : ∀ z ∈ (coupN P).getD i [], (Lit.int .i64 z).wf = true) :
    ∃ (vN : Value) (vals : List Value), wr.cell? ⟨wb.heap.size, 2, none⟩ = some vN ∧ wr.ownsRow (wb.heap.size + 1) 31 1 vN i vals ∧ wb.heap.size + 1 ≤ wr.heap.size ∧
      ∀ (w3 : World) (o : Obj) (g' cap' : Nat), w3.ownsRow (wb.heap.size + 1) 31 1 (.slice (some ⟨g', 0, none⟩) (i + 1) cap') (i + 1) (vals ++ [.slice (some ⟨wq.heap.size + 1, 0, none⟩) m m]) → (wr.alloc o).grownBy w3 vN.ownBlock → (vN.ownBlock = some g' ∨ g' = wr.heap.size + 1) →
        (w3.cell? ⟨wb.heap.size, 2, none⟩ = some vN ∧ w3.frozen? ⟨wb.heap.size, 2, none⟩ = false) ∧ OutX wb b t (fun q => (coupN P).getD q []) (fun q => (coupE P Q).getD q false) (i + 1) i [wb.heap.size + 2, bm0, bm, wq.heap.size] (w3.setCell ⟨wb.heap.size, 2, none⟩ (.slice (some ⟨g', 0, none⟩) (i + 1) cap')) ∧ ∀ x, (x ∈ [wb.heap.size + 2, bm0, bm, wq.heap.size] ∨ (x < wb.heap.size)) → (w3.setCell ⟨wb.heap.size, 2, none⟩ (.slice (some ⟨g', 0, none⟩) (i + 1) cap')).heap[x]? = wr.heap[x]? := by
  have hX : ∀ x ∈ [wb.heap.size + 2, bm0, bm, wq.heap.size], wb.heap.size < x ∧ x < wr.heap.size ∧ (x = wb.heap.size + 2 ∨ x = bm0 ∨ wq.heap.size ≤ x) := fun x hx => by
    simp only [List.mem_cons, List.not_mem_nil, or_false] at hx
    omega
  have hO2 := outX_turn (X' := [wb.heap.size + 2, bm0, bm, wq.heap.size]) (W2 := wq) hO (fun _ _ _ => rfl) (fun x hx => by
    rcases (hX x hx).2.2 with h | h | h
    · exact .inl (by simp [h])
    · exact .inl (by simp [h])
    · exact .inr h) hO.2.1 (fun x hx => (hX x hx).1)
  have hs : Sl wr (some ⟨wq.heap.size + 1, 0, none⟩) m ((coupN P).getD i []) := sl_of_rowIs hrl (by unfold maxLen; omega) hwf (h4.congr fun q hq => by rw [if_pos hq])
  have hbm : Below wq.heap.size (maskW [wb.heap.size + 2, bm0, bm, wq.heap.size] wq) (maskW [wb.heap.size + 2, bm0, bm, wq.heap.size] wr) := mask_belows (by omega) (h8.os.trans hO.2.1.os.symm) (h8.tape.trans hO.2.1.tape.symm) (h8.output.trans hO.2.1.output.symm) (fun x hx hne => h7 x hx (fun e => hne (by simp [e])) (fun e => hne (by simp [e]))) (Nat.le_refl _)
  have hres := @outX_N wb b t (fun q => (coupN P).getD q []) (fun q => (coupE P Q).getD q false) i i [wb.heap.size + 2, bm0, bm, wq.heap.size] wq wr (wq.heap.size + 1) m hO2 hbm h8 (by simp only [hrl]; exact hs) (fun hx => by
    simp only [List.mem_cons, List.not_mem_nil, or_false] at hx
    omega) (by omega) (fun x hx => (hX x hx).2.1)
  simp only [hrl] at hres
  exact hres
/-- The next one. -/
theorem coAt_next {wb wr W7 : World} {b t : Int} {P : List (List Int)} {Q : List Bool} {M m i bm cap : Nat} {X : List Nat} (h2 : QueC M wr bm (rowO P i m).length cap (rowO P i m)) (h3 : MapAt Try.prog 55 wr (wb.heap.size + 2) (numF (spotV M) (rowO P i m))) (hO : OutX wb b t (fun q => (coupN P).getD q []) (fun q => (coupE P Q).getD q false) (i + 1) (i + 1) X W7)
    (hX : wb.heap.size + 2 ∈ X ∧ bm ∈ X) (hk : ∀ x ∈ X, W7.heap[x]? = wr.heap[x]?) (he : rowO P i m = outs P (i + 1)) (hbm : wb.heap.size + 2 < bm) (hi : i + 1 ≤ (outs P (i + 1)).length) : CoAt wb b t P Q M (i + 1) (.slice (some ⟨bm, 0, none⟩) (rowO P i m).length cap) W7 := by
  rw [he] at h2 h3 ⊢
  refine ⟨bm, cap, rfl, queC_kept h2 (hk _ hX.2), h3.of_block (hk _ hX.1), outX_turn hO (fun _ _ _ => rfl) (fun x hx => .inl ?_) hO.2.1 (fun x hx => ?_), hbm, hi⟩
  all_goals
    simp only [List.mem_cons, List.not_mem_nil, or_false] at hx
    rcases hx with rfl | rfl
  · exact hX.1
  · exact hX.2
  · omega
  · omega
end Go.Proofs.Ytebbjmcjgjecmaa

/- filbertlaw1.begun: an automaton that begins at another state: mathematics and contract. -/
namespace Go.Proofs.Ytebbjmcjgjecmaa
open Go.RowKit

theorem autoC_good {b t : Int} {N : List (List Int)} {n : Nat} (hM : codeM b t = 0) (hG : GoodN (manyU b t).toNat n N) (hn : n ≤ 80) : autoC b t N n = 0 := by
  have h1 := hG.1
  have h2 := hG.2.1
  unfold autoC
  rw [if_pos hM, if_neg (by omega), if_neg (by omega), if_pos (by omega)]
  exact rowsC_all fun j hj => by
    have := hG.2.2.2.2.2 j (by omega)
    exact rowC_good this.1 (by rw [h1]; exact this.2)

end Go.Proofs.Ytebbjmcjgjecmaa
