/- least.merge: contract. -/
import Derived.Test.YtebbjmcjgjecmaaBp
import Derived.Test.YtebbjmcjgjecmaaZBv
namespace Go.Proofs.Ytebbjmcjgjecmaa
open Go.RowKit

theorem owns_shape {w : World} {base : Nat} {e : TypeId} {v : Value} {q : Nat} {xs : List Value} (h : w.ownsRow base e 1 v q xs) : ∃ ad cap, v = .slice ad q cap := by
  rcases h.2 with ⟨rfl, rfl⟩ | ⟨g, cap, cur, rfl, _⟩
  · exact ⟨_, _, rfl⟩
  · exact ⟨_, _, rfl⟩
theorem outAt_drew {wb : World} {b t : Int} {rows : Nat → List Int} {es : Nat → Bool} {qn qe : Nat} {W : World} (h : OutAt wb b t rows es qn qe W) (k : Nat) : OutAt wb b t rows es qn qe (W.drewN k) := outAt_below h (below_drewN (Below.refl _ _) k)
/-- The rep of a class that comes up. -/
theorem reps_at {R : Nat → Nat → Bool} {mt : List Int} {p : Nat} {s : Int} (h : repsL R (mt.take (p + 1)) = repsL R (mt.take p) ++ [s]) : (repsL R (mt.take p)).length < (repsL R mt).length ∧ (repsL R mt).getD (repsL R (mt.take p)).length 0 = s := by
  have hp := reps_prefix (R := R) (List.take_prefix (p + 1) mt)
  rw [h] at hp
  have hl := hp.length_le
  rw [List.length_append, List.length_singleton] at hl
  refine ⟨by omega, ?_⟩
  rw [pre_getD hp _ (by simp)]
  simp [List.getD]

set_option maxHeartbeats 8000000 in
set_option maxRecDepth 8000 in
theorem merge_any (b t : Int) (a : Option Addr) (n cap m : Nat) (N : List (List Int)) (a' : Option Addr) (cap' : Nat) (E : List Bool) (R : Nat → Nat → Bool) (hR : EqvB R) (ast : Option Addr) (cs : Nat) (ac : Option Addr) (cc : Nat) (w : World) (hs : Sl2 w a n N) (hG : GoodN m n N) (he : SlB w a' n E) (hst : Sl w ast (metL N).length (metL N)) (hc : Sl w ac n ((List.range n).map (freshF R (metL N) (metL N).length))) :
    Calls Try.prog 34 #[.agg #[.int .i64 b, .int .i64 t, .slice a n cap, .slice a' n cap'], .slice ast (metL N).length cs, .slice ac n cc] w (GivesAuto w b t (quoN R (metL N) N) (quoE R (metL N) E)) := by
  have hn1 := hG.2.1
  have hn64 := hG.2.2.1
  have hm36 := hG.2.2.2.1
  have hmk := make_ints m (by omega)
  have hB0 : Below w.heap.size w ((w.alloc (.cells #[.int .i64 b, .int .i64 t, .slice a n cap, .slice a' n cap'] 25)).alloc (.cells #[.int .i64 0, .int .i64 0, .slice none 0 0, .slice none 0 0] 25)) := ((Below.refl _ _).alloc (Nat.le_refl _) _).alloc (by simp) _
  have HB0 := hide hB0
  have HS := hide (sl2_below hs hB0)
  have HE := hide (slB_below he hB0)
  have HST := hide (sl_below hst hB0)
  have HC := hide (sl_below hc hB0)
  have HBX := hide (fun W (h : Below _ _ W) => (@two_boxes w W (.int .i64 b) (.int .i64 t) (.slice a n cap) (.slice a' n cap') (.int .i64 0) (.int .i64 0) (.slice none 0 0) (.slice none 0 0) 25 h).1)
  have HOLD := hide (heap_alloc_last (w.alloc (.cells #[.int .i64 b, .int .i64 t, .slice a n cap, .slice a' n cap'] 25)) (.cells #[.int .i64 0, .int .i64 0, .slice none 0 0, .slice none 0 0] 25))
  rw [World.size_alloc] at HOLD
  have HMO := hide (met_ok hG)
  have HCS := hide (fun p => @cls_step R hR (metL N) p)
  have HQN := hide (fun q h => @quoN_get N R q h)
  have HQE := hide (fun q h => @quoE_get N E R q h)
  have HLQ := hide (@quoN_length N R)
  have HLE := hide (@quoE_length N E R)
  have HMC := hide (fun s (hs : s ∈ metL N) x hx => met_closed hG s hs x hx)
  have HROW : Hid (∀ s, s < n → (N.getD s []).length = m ∧ ∀ j, j < m → 0 ≤ (N.getD s []).getD j 0 ∧ (N.getD s []).getD j 0 < (n : Int)) := hG.2.2.2.2.2
  have HML := met_len hG
  have HCV : Hid (∀ x ∈ metL N, ((List.range n).map (freshF R (metL N) (metL N).length)).getD x.toNat 0 = ((clsL R (repsL R (metL N)) x : Nat) : Int)) := fun x hx => by
    have h0 := met_lt hG hx
    have h1 := ((met_ok hG).2 x hx).1
    rw [show ((List.range n).map (freshF R (metL N) (metL N).length)).getD x.toNat 0 = freshF R (metL N) (metL N).length x.toNat by simp [List.getD, h0]]
    unfold freshF
    rw [List.take_length, show ((x.toNat : Nat) : Int) = x by omega, if_pos hx]
  clear hs hst hc he hG hB0
  generalize hC' : (List.range n).map (freshF R (metL N) (metL N).length) = C' at HC HCV
  clear hC'
  have HQ1 := hide (rfl : quoN R (metL N) N = quoN R (metL N) N)
  generalize hQN : quoN R (metL N) N = QN at HQN HLQ ⊢
  generalize hQE : quoE R (metL N) E = QE at HQE HLE ⊢
  clear hQN hQE HQ1
  have HRC : Hid ((repsL R (metL N)).length ≤ n) := Nat.le_trans (reps_count _ _) HML
  have HRMEM : Hid (∀ r ∈ repsL R (metL N), r ∈ metL N) := fun r hr => reps_mem _ _ r hr
  generalize hmt : metL N = mt at HST HMO HCS HQN HQE HLQ HLE HMC HML HCV HRC HRMEM ⊢
  clear hmt
  obtain ⟨j0, hj0, hy0, hy1, hy2⟩ := info_parts infoS2
  obtain ⟨l0, hl0, hv0, hv1, hv2⟩ := info_parts infoBo
  generalize hW0 : (w.alloc (.cells #[.int .i64 b, .int .i64 t, .slice a n cap, .slice a' n cap'] 25)).alloc (.cells #[.int .i64 0, .int .i64 0, .slice none 0 0, .slice none 0 0] 25) = wb at HB0 HS HST HE HC HBX HOLD
  have HSZ0 : Hid (wb.heap.size = w.heap.size + 2) := by show _ = _; rw [← hW0]; simp
  have HOS := hide (outAt_start wb b t (fun q => QN.getD q []) (fun q => QE.getD q false))
  obtain ⟨hx0, hx1, hx2, hx3⟩ := HBX.out wb (Below.refl _ _)
  go_enter Try.func34, Try.ntmps34
  go_wp2
  clear hW0 hx0 hx1 hx2 hx3
  generalize wb.alloc (.cells #[.int .i64 b, .int .i64 t, .slice none 0 0, .slice none 0 0] 25) = wB at HOS ⊢
  go_loopw [20] (fun i wx => ∃ p : Nat, p ≤ mt.length ∧ i = .int .i64 p ∧ OutAt wb b t (fun q => QN.getD q []) (fun q => QE.getD q false) (repsL R (mt.take p)).length (repsL R (mt.take p)).length wx) (fun i _ => mt.length - (intOf i).toNat)
  case atStart => exact ⟨0, by omega, rfl, by simpa [repsL] using HOS.out⟩
  case round =>
    obtain ⟨p, hp, rfl, hout⟩ := hrel
    have HOUT := hide hout
    have HBB : Hid (Below wb.heap.size wb wr) := by obtain ⟨_, _, _, _, _, _, _, h⟩ := hout; exact h
    clear hout
    by_cases hlt : p < mt.length
    · have hlti : (p : Int) < (mt.length : Int) := by omega
      obtain ⟨bs, os, rfl, hcm⟩ := sl_cell (sl_below HST.out HBB.out) p hlt
      have hsm : mt.getD p 0 ∈ mt := by rw [getD_at _ p hlt]; exact List.getElem_mem _
      have hsr := HMO.out.2 _ hsm
      obtain ⟨s, hs⟩ : ∃ s : Nat, mt.getD p 0 = s := ⟨(mt.getD p 0).toNat, by omega⟩
      obtain ⟨hst1, hst2⟩ := HCS.out p hlt
      rw [hs] at hcm hsm hsr hst1 hst2
      have HSMEM := hide hsm
      have hsn : s < n := by omega
      have hsni : (s : Int) < (n : Int) := by omega
      obtain ⟨bc, oc, rfl, hcc⟩ := sl_cell (sl_below HC.out HBB.out) s hsn
      have hcv := HCV.out (s : Int) hsm
      rw [Int.toNat_natCast] at hcv
      rw [hcv, hst1] at hcc
      have HREPN := hide (fun h => @reps_at R mt p (s : Int) h)
      have hqn : (repsL R (mt.take p)).length ≤ n := Nat.le_trans (reps_prefix (R := R) (List.take_prefix p mt)).length_le HRC.out
      have hcle : clsL R (repsL R (mt.take p)) (s : Int) ≤ (repsL R (mt.take p)).length := List.findIdx_le_length
      have HST2 := hide hst2
      obtain ⟨vN0, vE0, vals0, hbx0, hown0, -, -, -⟩ := HOUT.out
      obtain ⟨adN, cpN, rfl⟩ := owns_shape hown0
      have hlN : wr.cell? ⟨wb.heap.size, 2, none⟩ = some (.slice adN (repsL R (mt.take p)).length cpN) := by simp [World.cell?, hbx0]
      clear hs hsm hsr hst1 hst2 hcv hown0 hbx0
      generalize hcls : clsL R (repsL R (mt.take p)) (s : Int) = cl at hcc hcle HST2
      clear hcls
      generalize hrep : repsL R (mt.take p) = rp at HREPN hqn hcle HST2 HOUT hlN
      by_cases hcl : cl < rp.length
      · have hcli : (cl : Int) < (rp.length : Int) := by omega
        have HR1 : Hid (repsL R (mt.take (p + 1)) = rp) := by show _ = _; rw [HST2.out, if_pos hcl]
        clear hrep HREPN
        go_wp2
        go_quiet (fail)
        go_wp2
        go_roundw
        case rel => exact ⟨p + 1, by omega, by go_num, by rw [HR1.out]; exact outAt_drew HOUT.out nq⟩
        case measure => simp [intOf]; omega
      · have hcli : ¬ ((cl : Int) < (rp.length : Int)) := by omega
        obtain rfl : cl = rp.length := by omega
        have HR1 : Hid (repsL R (mt.take (p + 1)) = rp ++ [(s : Int)]) := by show _ = _; rw [HST2.out, if_neg hcl]
        obtain ⟨hq1, hq2⟩ := HREPN.out HR1.out
        have HQ1 := hide hq1
        have HRQ := hide (HQN.out rp.length hq1)
        have HEQ := hide (HQE.out rp.length hq1)
        rw [hq2, Int.toNat_natCast] at HRQ HEQ
        have hqn1 : rp.length + 1 ≤ n := Nat.le_trans hq1 HRC.out
        have hrow := HROW.out s hsn
        have HRV := hide hrow.2
        have HRL := hide hrow.1
        obtain ⟨bn, on, an, cn, rfl, hcn, hsn0⟩ := sl2_cell (sl2_below HS.out HBB.out) s hsn
        rw [hrow.1] at hcn hsn0
        have HSN0 := hide hsn0
        have HCN := hide hcn
        obtain ⟨hx0, hx1, hx2, hx3⟩ := HBX.out wr HBB.out
        have HX2 := hide hx2
        have HX3 := hide hx3
        have HRLEN : Hid ((QN.getD rp.length []).length = m) := by show _ = _; rw [HRQ.out, List.length_map, HRL.out]
        have HRG : Hid (∀ l, l < m → ∃ y : Nat, (N.getD s []).getD l 0 = y ∧ y < n ∧ C'.getD y 0 = (QN.getD rp.length []).getD l 0) := by
          intro l hl
          have hv := HRV.out l hl
          refine ⟨((N.getD s []).getD l 0).toNat, by omega, by omega, ?_⟩
          have hm1 : (N.getD s []).getD l 0 ∈ mt := HMC.out (s : Int) HSMEM.out _ (by rw [Int.toNat_natCast, getD_at _ l (by have := HRL.out; omega)]; exact List.getElem_mem _)
          rw [HCV.out _ hm1, HRQ.out, getD_at (List.map _ _) l (by rw [List.length_map]; have := HRL.out; omega), List.getElem_map, getD_at _ l (by have := HRL.out; omega)]
        generalize hrow : QN.getD rp.length [] = row at HRLEN HRG
        have HROWQ := hide hrow
        clear hrow hq1 hq2 HRQ hrep HREPN HST2 hsn0 hcl hcle hx0 hx1
        go_wp2
        go_quiet (fail)
        have hB1 : Below wr.heap.size wr (wr.drewN nq) := below_drewN (Below.refl _ _) nq
        have HOUT1 := hide (outAt_drew HOUT.out nq)
        have HBB1 := hide (HBB.out.trans (hB1.mono HBB.out.size))
        have hcn1 : (wr.drewN nq).cell? ⟨bn, on + s, none⟩ = some (.slice an m cn) := HCN.out
        have hx21 : (wr.drewN nq).cell? ⟨w.heap.size, 2, none⟩ = some (.slice (some ⟨bn, on, none⟩) n cap) := HX2.out
        have HSN1 : Hid (Sl (wr.drewN nq) an m (N.getD s [])) := sl_below HSN0.out hB1
        clear hB1 hlN hcn hx2 hx3 HOUT HBB HCN HX2 HX3 HSN0 hcm hcc
        generalize wr.drewN nq = wd at HOUT1 HBB1 hcn1 hx21 HSN1 ⊢
        have hBd := (Below.refl wd.heap.size wd).alloc (Nat.le_refl _) (.cells (madeCells #[.int .i64 0] m) 3)
        have hcn2 : (wd.alloc (.cells (madeCells #[.int .i64 0] m) 3)).cell? ⟨bn, on + s, none⟩ = some (.slice an m cn) := (hBd.cell (p := ⟨bn, on + s, none⟩) (World.block_lt_of_cell? wd _ hcn1)).trans hcn1
        have hx22 : (wd.alloc (.cells (madeCells #[.int .i64 0] m) 3)).cell? ⟨w.heap.size, 2, none⟩ = some (.slice (some ⟨bn, on, none⟩) n cap) := (hBd.cell (p := ⟨w.heap.size, 2, none⟩) (World.block_lt_of_cell? wd _ hx21)).trans hx21
        have HI0 : Hid (((wd.alloc (.cells (madeCells #[.int .i64 0] m) 3)).rowIs wd.heap.size 3 m fun q => .int .i64 (if q < 0 then row.getD q 0 else 0)) ∧ Below wd.heap.size wd (wd.alloc (.cells (madeCells #[.int .i64 0] m) 3))) :=
          ⟨(World.rowIs_made wd (.int .i64 0) m 3).congr fun q _ => by simp, hBd⟩
        clear hBd
        go_wp2
        clear hcn1 hx21 hcn2 hx22
        generalize wd.alloc (.cells (madeCells #[.int .i64 0] m) 3) = wI at HI0 ⊢
        go_loopw [45] (fun i wx => ∃ l : Nat, l ≤ m ∧ i = .int .i64 l ∧ (wx.rowIs wd.heap.size 3 m fun q => .int .i64 (if q < l then row.getD q 0 else 0)) ∧ Below wd.heap.size wd wx) (fun i _ => m - (intOf i).toNat)
        case atStart => exact ⟨0, by omega, rfl, HI0.out⟩
        case round =>
          obtain ⟨l, hl, rfl, hrw, hbw⟩ := hrel
          have HRW := hide hrw
          have HBW := hide hbw
          clear hrw hbw
          by_cases hlt2 : l < m
          · have hlti2 : (l : Int) < (m : Int) := by omega
            obtain ⟨y, hy1', hyn, hy3⟩ := HRG.out l hlt2
            obtain ⟨by', oy', rfl, hcy⟩ := sl_cell (sl_below HSN1.out HBW.out) l hlt2
            rw [hy1'] at hcy
            obtain ⟨_, _, ec, hcc⟩ := sl_cell (sl_below HC.out (HBB1.out.trans (HBW.out.mono HBB1.out.size))) y hyn
            cases ec
            rw [hy3] at hcc
            have hyi : (y : Int) < (n : Int) := by omega
            have hcz := HRW.out.cell (i := l) hlt2
            have hfz := HRW.out.frozen l
            have HGL := hide (rfl : row.getD l 0 = row.getD l 0)
            clear hy1' hy3
            generalize hz : row.getD l 0 = z at hcc
            have HZ := hide hz
            clear hz HGL
            rw [if_neg (Nat.lt_irrefl _)] at hcz
            go_wp2
            go_roundw
            case rel =>
              refine ⟨l + 1, by omega, by go_num, (HRW.out.set _ _).congr fun q hq => ?_, HBW.out.setCell (Nat.le_refl _) _⟩
              by_cases e : q = l
              · subst e; rw [if_pos rfl, if_pos (by omega), HZ.out]
              · rw [if_neg e]
                congr 1
                by_cases e2 : q < l
                · rw [if_pos e2, if_pos (by omega)]
                · rw [if_neg e2, if_neg (by omega)]
            case measure => simp [intOf]; omega
          · have hlti2 : ¬ (l : Int) < (m : Int) := by omega
            obtain rfl : m = l := by omega
            have hwf : ∀ z ∈ row, (Lit.int .i64 z).wf = true := fun z hz => by
              obtain ⟨i, hi, rfl⟩ := List.getElem_of_mem hz
              obtain ⟨y, _, hyn, hy3⟩ := HRG.out i (by have := HRLEN.out; omega)
              rw [getD_at _ i hi] at hy3
              rw [← hy3]
              exact HC.out.2.2.1 _ (by rw [getD_at _ y (by rw [HC.out.1]; exact hyn)]; exact List.getElem_mem _)
            have hsr : Sl wr (some ⟨wd.heap.size, 0, none⟩) m row := sl_of_rowIs HRLEN.out (by unfold maxLen; omega) hwf (HRW.out.congr fun q hq => by rw [if_pos hq])
            have HON : Hid (∃ (vN : Value) (vals : List Value), _ ∧ _) := @outAt_N wb b t (fun q => QN.getD q []) (fun q => QE.getD q false) rp.length rp.length wd wr (some ⟨wd.heap.size, 0, none⟩) m HOUT1.out HBW.out (by simp only [HROWQ.out]; rw [HRLEN.out]; exact ⟨hsr, fun ad had => by cases had; exact Nat.le_refl _⟩)
            simp only [HROWQ.out] at HON
            rw [HRLEN.out] at HON
            obtain ⟨vN, vals, hcN, hoN, hszN, hnx⟩ := HON.out
            have HNX := hide hnx
            have HOWN := hide hoN
            have HSZ := hide hszN
            clear hnx hoN hszN HON hsr hwf HRW
            go_wp2_with (at_builtin; refine wpList_append_lies _ rfl _ _ 22 rfl (wb.heap.size + 1) 31 j0 (.slice none 0 0) 1 24 Try.underlying22 hj0 hy0 hy1 hy2 rfl (by decide) vN rp.length vals rfl (HOWN.out.alloc _) ⟨wr.heap.size, 0, none⟩ 1 1 [.slice (some ⟨wd.heap.size, 0, none⟩) m m] rfl rfl (one_new _ _ _) (fun u hu => by simp at hu; subst hu; rfl) (by omega) (by unfold maxLen; omega) (by omega) (by have := HSZ.out; simp; omega) (wr.heap.size + 1) (by simp) ?_; intro g' cg w3 hown3 hgrow3 hat3 hlt3; obtain ⟨⟨hn1', hn2'⟩, hn3'⟩ := HNX.out w3 _ g' cg hown3 hgrow3 hat3; have HN3 := hide hn3'; clear hown3 hgrow3 hat3 hn3')
            generalize w3.setCell ⟨wb.heap.size, 2, none⟩ (.slice (some ⟨g', 0, none⟩) (rp.length + 1) cg) = w5 at HN3 ⊢
            have HB5 : Hid (Below wb.heap.size wb w5) := by obtain ⟨_, _, _, _, _, _, _, h⟩ := HN3.out; exact h
            clear hn1' hn2' hcN HNX HOWN HSZ HBW hlt3
            obtain ⟨vE, hcE, hoE, hszE, hnx⟩ := outAt_E HN3.out
            obtain ⟨be, oe, rfl, hce⟩ := slB_cell (slB_below HE.out HB5.out) s hsn
            obtain ⟨-, -, -, hx3⟩ := HBX.out w5 HB5.out
            rw [← HEQ.out] at hce
            have HNX := hide hnx
            have HOWN := hide hoE
            have HSZ := hide hszE
            clear hnx hoE hszE
            generalize QE.getD rp.length false = ev at hce HNX
            have hcE2 : (w5.alloc (.cells #[.bool ev] 4)).cell? ⟨wb.heap.size, 3, none⟩ = some vE := (((Below.refl w5.heap.size w5).alloc (Nat.le_refl _) _).cell (p := ⟨wb.heap.size, 3, none⟩) (World.block_lt_of_cell? w5 _ hcE)).trans hcE
            go_region_law (first | (refine step_append_lies _ rfl (.tmp 65) (.tmp 71) 23 rfl (wb.heap.size + 1) 4 l0 (.bool false) 1 1 Try.underlying23 hl0 hv0 hv1 hv2 rfl (by decide) vE rp.length _ (by simp [Act.eval]) (World.ownsRow.alloc (w := w5.drew) HOWN.out _) ⟨w5.heap.size, 0, none⟩ 1 1 [.bool ev] (by simp [Act.eval]) rfl (one_new_at _ _ _ _ (by simp)) (fun u hu => by simp at hu; subst hu; rfl) (by omega) (by unfold maxLen; omega) (by omega) (by have := HSZ.out; simp; omega) (w5.heap.size + 1) (by simp) ?_; intro g5 cg5 w6 hown5 hgrow5 hat5 hlt5; obtain ⟨⟨hm1, hm2⟩, hm3⟩ := HNX.out w6 _ g5 cg5 hown5 ⟨hgrow5.os, hgrow5.tape, hgrow5.output, hgrow5.size, hgrow5.block⟩ hat5; have HM3 := hide hm3; clear hm3 hown5 hgrow5 hat5 hlt5))
            all_goals
              go_wp2
              go_roundw
              case rel => exact ⟨p + 1, by omega, by go_num, by rw [HR1.out, List.length_append, List.length_singleton]; exact HM3.out⟩
              case measure => simp [intOf]; omega
    · have hlti : ¬ ((p : Int) < (mt.length : Int)) := by omega
      obtain rfl : p = mt.length := by omega
      rw [List.take_length] at HOUT
      have HEND := hide (@outAt_end wb b t (fun q => QN.getD q []) (fun q => QE.getD q false) (repsL R mt).length wr HOUT.out (by unfold maxLen; have := HRC.out; omega) QN HLQ.out (fun _ _ => rfl) QE HLE.out (fun _ _ => rfl))
      rw [← HLQ.out] at HEND
      obtain ⟨ax, cx, ax', cx', hbox, hbE, hsN⟩ := HEND.out
      have HSN := hide hsN
      have hold : wr.heap[w.heap.size + 1]? = some (.cells #[.int .i64 0, .int .i64 0, .slice none 0 0, .slice none 0 0] 25 (0, 0)) := (hbE.block (w.heap.size + 1) (by have := HSZ0.out; omega)).trans HOLD.out
      have HBE := hide (below_step HB0.out hbE)
      have hx0 : wr.cell? ⟨wb.heap.size, 0, none⟩ = some (.int .i64 b) := by simp [World.cell?, hbox]
      have hx1 : wr.cell? ⟨wb.heap.size, 1, none⟩ = some (.int .i64 t) := by simp [World.cell?, hbox]
      have hx2 : wr.cell? ⟨wb.heap.size, 2, none⟩ = some (.slice ax QN.length cx) := by simp [World.cell?, hbox]
      have hx3 : wr.cell? ⟨wb.heap.size, 3, none⟩ = some (.slice ax' QN.length cx') := by simp [World.cell?, hbox]
      have ho0 : wr.cell? ⟨w.heap.size + 1, 0, none⟩ = some (.int .i64 0) := by simp [World.cell?, hold]
      have ho1 : wr.cell? ⟨w.heap.size + 1, 1, none⟩ = some (.int .i64 0) := by simp [World.cell?, hold]
      have ho2 : wr.cell? ⟨w.heap.size + 1, 2, none⟩ = some (.slice none 0 0) := by simp [World.cell?, hold]
      have ho3 : wr.cell? ⟨w.heap.size + 1, 3, none⟩ = some (.slice none 0 0) := by simp [World.cell?, hold]
      have hf : ∀ i, wr.frozen? ⟨w.heap.size + 1, i, none⟩ = false := fun i => by simp [World.frozen?, hold]
      have HHOLD := hide hold
      clear hbox hsN hbE HEND hold
      go_wp2
      have hset := set_all (v0 := .int .i64 b) (v1 := .int .i64 t) (v2 := .slice ax QN.length cx) (v3 := .slice ax' QN.length cx') HHOLD.out
      have hbel : Below w.heap.size w ((((wr.setCell ⟨w.heap.size + 1, 0, none⟩ (.int .i64 b)).setCell ⟨w.heap.size + 1, 1, none⟩ (.int .i64 t)).setCell ⟨w.heap.size + 1, 2, none⟩ (.slice ax QN.length cx)).setCell ⟨w.heap.size + 1, 3, none⟩ (.slice ax' QN.length cx')) := (((HBE.out.setCell (by simp) _).setCell (by simp) _).setCell (by simp) _).setCell (by simp) _
      have hfin : AutoNew w ax QN.length QN ax' QE ((((wr.setCell ⟨w.heap.size + 1, 0, none⟩ (.int .i64 b)).setCell ⟨w.heap.size + 1, 1, none⟩ (.int .i64 t)).setCell ⟨w.heap.size + 1, 2, none⟩ (.slice ax QN.length cx)).setCell ⟨w.heap.size + 1, 3, none⟩ (.slice ax' QN.length cx')) := fun W' hW' => HSN.out W' (fun x hx hxl => by
        have hne : x ≠ w.heap.size + 1 := by have := HSZ0.out; omega
        rw [hW' x (by have := HSZ0.out; omega) (by simp [World.setCell]; exact hxl), Below.heap_setCell _ _ _ _ hne, Below.heap_setCell _ _ _ _ hne, Below.heap_setCell _ _ _ _ hne, Below.heap_setCell _ _ _ _ hne])
      generalize (((wr.setCell ⟨w.heap.size + 1, 0, none⟩ (.int .i64 b)).setCell ⟨w.heap.size + 1, 1, none⟩ (.int .i64 t)).setCell ⟨w.heap.size + 1, 2, none⟩ (.slice ax QN.length cx)).setCell ⟨w.heap.size + 1, 3, none⟩ (.slice ax' QN.length cx') = wZ at hset hbel hfin ⊢
      have z0 : wZ.cell? ⟨w.heap.size + 1, 0, none⟩ = some (.int .i64 b) := by simp [World.cell?, hset]
      have z1 : wZ.cell? ⟨w.heap.size + 1, 1, none⟩ = some (.int .i64 t) := by simp [World.cell?, hset]
      have z2 : wZ.cell? ⟨w.heap.size + 1, 2, none⟩ = some (.slice ax QN.length cx) := by simp [World.cell?, hset]
      have z3 : wZ.cell? ⟨w.heap.size + 1, 3, none⟩ = some (.slice ax' QN.length cx') := by simp [World.cell?, hset]
      exact bodyPost_ret (v := .agg #[.int .i64 b, .int .i64 t, .slice ax QN.length cx, .slice ax' QN.length cx']) (by simp [results, Try.results34, go_sem, z0, z1, z2, z3]) rfl ⟨ax, cx, ax', cx', rfl, hfin, hbel⟩
end Go.Proofs.Ytebbjmcjgjecmaa
