/- The states that are met, as a call keeps them; the reference's Met: contract. -/
import Derived.Test.YtihhlddbppljpacDoorAd
namespace Go.Proofs.YtihhlddbppljpacDoor
open Go.RowKit

theorem infoB : (Tryd.prog.info? 4).map (fun i => (i.zero, i.size, i.bytes)) = some (some (.bool false), 1, 1) := by kernel_rfl
theorem make_bools (n : Nat) (hn : n ≤ 1000000000000) (w : World) : (Instr.makeSlice 23 (.int .i64 (n : Int)) (.int .i64 (n : Int))).run Tryd.prog w = .ok (.slice (some ⟨w.heap.size, 0, none⟩) n n) (w.alloc (.cells (madeCells #[.bool false] n) 4)) :=
  run_make_row' 23 4 (.bool false) 1 Tryd.underlying23 infoB rfl .i64 .i64 n (by omega) (by omega) w

/-- Which were seen, block by block. -/
theorem seen_set {W : World} {S n : Nat} {sn : List Int} (h : W.rowIs S 4 n fun p => .bool (decide ((p : Int) ∈ sn))) (x : Nat) : (W.setCell ⟨S, x, none⟩ (.bool true)).rowIs S 4 n fun p => .bool (decide ((p : Int) ∈ sn ++ [(x : Int)])) := by
  refine (h.set x (.bool true)).congr fun p hp => ?_
  by_cases e : p = x
  · subst e; simp
  · rw [if_neg e]
    have : ¬ ((p : Int) = (x : Int)) := by omega
    simp [this]

def MetAt (w : World) (n : Nat) (sn o : List Int) (v : Value) (W : World) : Prop :=
  (W.rowIs w.heap.size 4 n fun p => .bool (decide ((p : Int) ∈ sn))) ∧ W.ownsRow w.heap.size 3 1 v o.length (o.map (Value.int .i64)) ∧ Below w.heap.size w W

theorem not_seen_block {W : World} {S n : Nat} {f : Nat → Value} (h : W.rowIs S 4 n f) {base k : Nat} {v : Value} {xs : List Value} (hr : W.ownsRow base 3 1 v k xs) : v.ownBlock ≠ some S := by
  obtain ⟨c, hc, _⟩ := h
  rcases hr.2 with ⟨rfl, _⟩ | ⟨g, cap, cur, rfl, _, hgb, _⟩
  · simp [Value.ownBlock]
  · intro e
    obtain rfl : g = S := by simpa [Value.ownBlock] using e
    rw [hc] at hgb
    simp at hgb
theorem metAt_seen {w : World} {n : Nat} {sn o : List Int} {v : Value} {W : World} (h : MetAt w n sn o v W) (x : Nat) : MetAt w n (sn ++ [(x : Int)]) o v (W.setCell ⟨w.heap.size, x, none⟩ (.bool true)) :=
  ⟨seen_set h.1 x, ownsRow_setCell_other h.2.1 (not_seen_block h.1 h.2.1) _, h.2.2.setCell (Nat.le_refl _) _⟩
theorem metAt_push {w : World} {n : Nat} {sn o : List Int} {v v' : Value} {W w3 : World} {ob : Obj} {x : Int} (h : MetAt w n sn o v W) (hown : w3.ownsRow w.heap.size 3 1 v' (o.length + 1) (o.map (Value.int .i64) ++ [.int .i64 x])) (hgrow : (W.alloc ob).grownBy w3 v.ownBlock) : MetAt w n sn (o ++ [x]) v' w3 := by
  refine ⟨(h.1.alloc ob).of_block (hgrow.block _ (by have := h.1.lt; simp; omega) (fun e => not_seen_block h.1 h.2.1 e.symm)), by rw [List.length_append, List.map_append]; exact hown, ?_⟩
  exact Below.grown (h.2.2.alloc h.2.2.size ob) hgrow (by have := h.2.2.size; simp; omega) (fun k hk => (h.2.1.lt k hk).1)
theorem owns_out {W : World} {base : Nat} {v : Value} {o : List Int} (hp : 0 < o.length) (h : W.ownsRow base 3 1 v o.length (o.map (Value.int .i64))) :
    ∃ g cap, v = .slice (some ⟨g, 0, none⟩) o.length cap ∧ base ≤ g ∧ ∀ i, i < o.length → W.cell? ⟨g, i, none⟩ = some (.int .i64 (o.getD i 0)) := by
  obtain ⟨k, hk⟩ : ∃ k, o.length = k + 1 := ⟨o.length - 1, by omega⟩
  rw [hk] at h ⊢
  exact owns_at hk h
theorem metAt_start {w : World} {n : Nat} : MetAt w n [0] [0] (.slice (some ⟨w.heap.size + 1, 0, none⟩) 1 1) ((w.alloc (.cells ((madeCells #[.bool false] n).setIfInBounds 0 (.bool true)) 4)).alloc (.cells #[.int .i64 0] 3)) := by
  refine ⟨World.rowIs.alloc ⟨_, heap_alloc_last w _, ?_, fun p hp => ?_⟩ _, ⟨by simp, Or.inr ⟨w.heap.size + 1, 1, #[.int .i64 0], rfl, by omega, ?_, by simp, by decide, by simp, by simp⟩⟩, ((Below.refl _ _).alloc (Nat.le_refl _) _).alloc (by simp) _⟩
  · obtain ⟨c, hb, hn, hc⟩ := World.rowIs_made w (.bool false) n 4
    rw [heap_alloc_last] at hb
    cases hb
    simpa using hn
  · obtain ⟨c, hb, hn, hc⟩ := (World.rowIs_made w (.bool false) n 4)
    rw [heap_alloc_last] at hb
    cases hb
    rw [Array.getElem?_setIfInBounds]
    by_cases e : p = 0
    · subst e; simp [hn, hp]
    · rw [if_neg (fun h => e h.symm), hc p hp]
      simp [e]
  · have := heap_alloc_last (w.alloc (.cells ((madeCells #[.bool false] n).setIfInBounds 0 (.bool true)) 4)) (.cells #[.int .i64 0] 3)
    simpa using this
theorem one_new_at (w : World) (x : Value) (t : TypeId) (H : Nat) (hH : w.heap.size = H) : ∀ j u, [x][j]? = some u → (w.alloc (.cells #[x] t)).cell? ((⟨H, 0, none⟩ : Addr).add j) = some u := by
  subst hH
  exact one_new w x t
theorem outs_pos (N : List (List Int)) (i : Nat) : 0 < (outs N i).length := by
  have := (outs_pre N 0 i).length_le
  rw [Nat.zero_add] at this
  simp [outs] at this
  omega
theorem okO_wf {n : Nat} (hn : n ≤ 6400) {o : List Int} (h : OkO n o) : ∀ x ∈ o, (Lit.int .i64 x).wf = true := fun x hx => Go.WalkArith.wf_i64 (by have := h.2 x hx; omega)
theorem metAt_end {w : World} {n : Nat} (hn : n ≤ 6400) {sn o : List Int} {v : Value} {W : World} (ho : OkO n o) (h : MetAt w n sn o v W) : GivesRow w o (.returned v) W := by
  have := nodup_len n o ho
  obtain ⟨a, cap, rfl, hs⟩ := sl_of_owns rfl (by unfold maxLen; omega) (okO_wf hn ho) h.2.1
  exact ⟨a, cap, rfl, hs, h.2.2⟩

set_option maxHeartbeats 4000000 in
set_option maxRecDepth 4000 in
theorem met_any (a : Option Addr) (n cap m : Nat) (N : List (List Int)) (w : World) (hs : Sl2 w a n N) (hG : GoodN m n N) :
    Calls Tryd.prog 22 #[.slice a n cap] w (GivesRow w (metL N)) := by
  obtain ⟨i0, hi0, hz0, hz1, hz2⟩ := info_parts info3
  have hmk := make_bools n (by have := hG.2.2.1; omega)
  have hn1 := hG.2.1
  have hn80 := hG.2.2.1
  have hm36 := hG.2.2.2.1
  have h0i : (0 : Int) < (n : Int) := by omega
  have HS := hide hs
  have HOK := hide (fun i => outs_ok hG i)
  have HLEN := hide (fun i => outs_len hG i)
  have HROW : Hid (∀ s, s < n → (N.getD s []).length = m ∧ ∀ j, j < m → 0 ≤ (N.getD s []).getD j 0 ∧ (N.getD s []).getD j 0 < (n : Int)) := hG.2.2.2.2.2
  have HSUC := hide (fun i => outs_succ N i)
  have HEND := hide (fun i => outs_end hG i)
  have HFIN : Hid (∀ sn v W, MetAt w n sn (metL N) v W → GivesRow w (metL N) (.returned v) W) := fun sn v W h => metAt_end hn80 (met_ok hG) h
  have HSZ : Hid (∀ sn o v W, MetAt w n sn o v W → w.heap.size ≤ W.heap.size) := fun _ _ _ _ h => h.2.2.size
  have HR0 : Hid (((w.alloc (.cells (madeCells #[.bool false] n) 4)).alloc (.cells #[.int .i64 0] 3)).rowIs w.heap.size 4 n fun _ => .bool false) := (World.rowIs_made w (.bool false) n 4).alloc _
  have hcell0 := HR0.out.cell (i := 0) (by omega)
  have hfz0 := HR0.out.frozen 0
  have HST := hide (@metAt_start w n)
  clear hs hG
  go_enter Tryd.func22, Tryd.ntmps22
  go_wp2
  clear hcell0 hfz0 HR0 hmk
  generalize (w.alloc (.cells ((madeCells #[.bool false] n).setIfInBounds 0 (.bool true)) 4)).alloc (.cells #[.int .i64 0] 3) = W0 at HST ⊢
  go_loopw [4, 5] (fun v u wx => ∃ i : Nat, i ≤ (outs N i).length ∧ u = .int .i64 i ∧ MetAt w n (outs N i) (outs N i) v wx) (fun _ u _ => n - (intOf u).toNat)
  case atStart => exact ⟨0, by omega, rfl, HST.out⟩
  case round =>
    obtain ⟨i, hi, rfl, hma⟩ := hrel
    have HMA := hide hma
    obtain ⟨g, vc, rfl, hgb, hoc⟩ := owns_out (outs_pos N i) hma.2.1
    have hln := HLEN.out i
    clear hma
    by_cases hlt : i < (outs N i).length
    · have hlti : (i : Int) < ((outs N i).length : Int) := by omega
      have hc1 := hoc i hlt
      have hsr := okO_get (HOK.out i) i hlt
      have HSUC' := hide (HSUC.out i hlt)
      obtain ⟨s, hs⟩ : ∃ s : Nat, (outs N i).getD i 0 = s := ⟨((outs N i).getD i 0).toNat, by omega⟩
      rw [hs] at hc1 hsr HSUC'
      rw [Int.toNat_natCast] at HSUC'
      have hsn : s < n := by omega
      have hsni : (s : Int) < (n : Int) := by omega
      obtain ⟨hrl, hrr⟩ := HROW.out s hsn
      obtain ⟨bn, on, a1, c1, rfl, hcn, hsl⟩ := sl2_cell (sl2_below HS.out HMA.out.2.2) s hsn
      have hsl0 : Sl w a1 (N.getD s []).length (N.getD s []) := by
        obtain ⟨_, _, a2, c2, e1, h1, h2⟩ := sl2_cell HS.out s hsn
        cases e1
        have h3 := (HMA.out.2.2.cell (p := ⟨bn, on + s, none⟩) (World.block_lt_of_cell? w _ h1)).trans h1
        rw [hcn] at h3
        cases h3
        exact h2
      have HSL := hide hsl0
      have HRR := hide hrr
      rw [hrl] at hcn HSL
      have HOKI := hide (HOK.out i)
      clear hsl hsl0 hrr hsr hs hoc
      have HRL := hide hrl
      clear hrl
      generalize hrow : N.getD s [] = row at HSL HRR HSUC' HRL
      clear hrow
      generalize hO : outs N i = O at HMA HSUC' HOKI hcn hc1 hln hlt hlti ⊢
      have HO := hide hO
      clear hO
      have HPRE := hide (fun q => (rowAdd_pre O (row.take q)).length_le)
      have HOKQ : Hid (∀ q, OkO n (rowAdd O (row.take q))) := fun q => okO_row HOKI.out _ fun x hx => by
        obtain ⟨j, hj, rfl⟩ := List.getElem_of_mem (List.mem_of_mem_take hx)
        have := HRR.out j (by rw [← HRL.out]; exact hj)
        rwa [getD_at _ j hj] at this
      have HTS := hide (fun q => rowAdd_take_succ O row q)
      have HALL : Hid (rowAdd O (row.take m) = rowAdd O row) := by show _ = _; rw [← HRL.out, rowAdd_all]
      rw [HRL.out] at HTS
      have HMA0 : Hid (MetAt w n (rowAdd O (row.take 0)) (rowAdd O (row.take 0)) (.slice (some ⟨g, 0, none⟩) O.length vc) wr) := HMA.out
      clear HMA
      go_wp2
      obtain ⟨wo, hwo⟩ : ∃ wo : World, wo = wr := ⟨_, rfl⟩
      rw [← hwo] at HMA0 ⊢
      clear hwo hcn hc1 wr
      go_loopw [4, 7] (fun v u wx => ∃ q : Nat, q ≤ m ∧ u = .int .i64 q ∧ MetAt w n (rowAdd O (row.take q)) (rowAdd O (row.take q)) v wx) (fun _ u _ => m - (intOf u).toNat)
      case atStart => exact ⟨0, by omega, rfl, HMA0.out⟩
      case round =>
        obtain ⟨q, hq, rfl, hma⟩ := hrel
        have HMA := hide hma
        have hql := HPRE.out q
        obtain ⟨g1, vc1, rfl, hgb1, hoc1⟩ := owns_out (show 0 < (rowAdd O (row.take q)).length by omega) hma.2.1
        clear hma hoc1
        by_cases hqt : q < m
        · have hqti : (q : Int) < (m : Int) := by omega
          obtain ⟨b1, o1, rfl, hcx⟩ := sl_cell (sl_below HSL.out HMA.out.2.2) q hqt
          have hxr := HRR.out q hqt
          have HTS' := hide (HTS.out q hqt)
          have hqn := nodup_len n _ (HOKQ.out q)
          obtain ⟨x, hx⟩ : ∃ x : Nat, row.getD q 0 = x := ⟨(row.getD q 0).toNat, by omega⟩
          rw [hx] at hcx hxr HTS'
          have hxn : x < n := by omega
          have hxni : (x : Int) < (n : Int) := by omega
          clear hx hxr
          have hcs := HMA.out.1.cell hxn
          have hfs := HMA.out.1.frozen x
          by_cases hin : (x : Int) ∈ rowAdd O (row.take q)
          · rw [addL_yes hin] at HTS'
            rw [decide_eq_true hin] at hcs
            clear hin
            generalize rowAdd O (row.take q) = Oq at HMA HTS' hql hqn ⊢
            go_wp2
            go_roundw
            case rel => exact ⟨q + 1, by omega, by go_num, by rw [HTS'.out]; exact HMA.out⟩
            case measure => simp [intOf]; omega
          · rw [addL_no hin] at HTS'
            rw [decide_eq_false hin] at hcs
            clear hin
            generalize rowAdd O (row.take q) = Oq at HMA HTS' hql hqn ⊢
            have HM2 := hide (metAt_seen HMA.out x)
            have HOWN := hide HM2.out.2.1
            have HS2 := hide (HSZ.out _ _ _ _ HM2.out)
            have hcx2 : (wr.setCell ⟨w.heap.size, x, none⟩ (.bool true)).cell? ⟨b1, o1 + q, none⟩ = some (.int .i64 x) := by
              obtain ⟨_, _, e1, h1⟩ := sl_cell (sl_below HSL.out HM2.out.2.2) q hqt
              cases e1
              obtain ⟨_, _, e2, h2⟩ := sl_cell (sl_below HSL.out HMA.out.2.2) q hqt
              cases e2
              rw [h1, ← h2]
              exact hcx
            go_wp2_with (at_builtin; refine wpList_append_own _ rfl _ _ 50 rfl w.heap.size 3 i0 (.int .i64 0) 1 8 Tryd.underlying50 hi0 hz0 hz1 hz2 rfl (by decide) _ Oq.length (Oq.map (Value.int .i64)) rfl (HOWN.out.alloc _) ⟨wr.heap.size, 0, none⟩ 1 1 [.int .i64 x] rfl rfl (one_new_at _ _ _ _ (by simp)) (fun u hu => by simp at hu; subst hu; rfl) (by unfold maxLen; omega) (by omega) (by have := HS2.out; simp at this ⊢; omega) ?_; intro v' w3 hown hgrow hnil)
            go_roundw
            case rel => exact ⟨q + 1, by omega, by go_num, by rw [HTS'.out]; exact metAt_push HM2.out hown hgrow⟩
            case measure => simp [intOf]; omega
        · have hqti : ¬ ((q : Int) < (m : Int)) := by omega
          obtain rfl : q = m := by omega
          rw [HALL.out] at HMA hql
          rw [HALL.out]
          go_wp2
          go_roundw
          case rel => exact ⟨i + 1, by rw [HSUC'.out]; omega, by go_num, by rw [HSUC'.out]; exact HMA.out⟩
          case measure => simp [intOf]; omega
    · have hlti : ¬ (i : Int) < ((outs N i).length : Int) := by omega
      have HE := hide (HEND.out i (by omega) (by omega))
      rw [HE.out] at HMA hlti hi
      rw [HE.out]
      have HF := hide (HFIN.out _ _ _ HMA.out)
      go_wp2
      go_ret
      exact HF.out
end Go.Proofs.YtihhlddbppljpacDoor
