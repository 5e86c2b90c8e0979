/- pair.couples: contract. -/
import Derived.Deep.RegionHeldLaw
import Derived.Deep.RegionLaw
import Derived.Test.YtebbjmcjgjecmaaDb
import Derived.Test.YtebbjmcjgjecmaaZDh
namespace Go.Proofs.Ytebbjmcjgjecmaa
open Go.RowKit

theorem coAt_start (wb : World) (b t : Int) (P : List (List Int)) (Q : List Bool) (M : Nat) {wm : World} (hm : MapAt Try.prog 55 wm (wb.heap.size + 2) ([] ++ [(Value.agg #[.int .i64 0, .int .i64 0], Value.int .i64 0)]))
    (ht : (((wb.alloc (.cells #[.int .i64 b, .int .i64 t, .slice none 0 0, .slice none 0 0] 25)).alloc (.cells #[.int .i64 0, .int .i64 0] 55)).alloc (.map #[] 0)).mapTurned wm (wb.heap.size + 2)) :
    CoAt wb b t P Q M 0 (.slice (some ⟨wm.heap.size, 0, none⟩) 1 1) (wm.alloc (.cells #[.int .i64 0, .int .i64 0] 55)) := by
  have hsz : wb.heap.size + 3 ≤ wm.heap.size := by have := ht.grown.size; simp at this; omega
  have h00 : hiI M 0 = 0 ∧ loI M 0 = 0 := by simp [hiI, loI]
  have hbw : Below wb.heap.size wb wm := below_turned (below_three wb _ _ _) ht (by omega) (by simp; omega)
  refine ⟨wm.heap.size, 1, by simp [outs], ⟨rfl, by simp [outs], by decide, #[.int .i64 0, .int .i64 0], heap_alloc_last _ _, by simp, fun q hq => ?_⟩, ?_, ?_, by omega, by simp [outs]⟩
  · simp [outs] at hq
    rcases (show q = 0 ∨ q = 1 by omega) with rfl | rfl
    · simp [spotC, outs, List.getD, h00.1]
    · simp [spotC, outs, List.getD, h00.2]
  · have e : numF (spotV M) (outs P 0) = [] ++ [(Value.agg #[.int .i64 0, .int .i64 0], Value.int .i64 0)] := by simp [numF, outs, spotV, List.range_succ, h00.1, h00.2]
    rw [e]
    exact hm.alloc _
  · refine outX_turn (outX_start wb b t _ _) (fun x hx _ => ?_) (fun x hx => .inr ?_) (hbw.alloc hbw.size _) (fun x hx => ?_)
    · rw [World.size_alloc] at hx
      rw [Below.heap_alloc _ _ _ (by omega), ht.grown.block x (by simp; omega) (fun e => by have := Option.some.inj e; omega), Below.heap_alloc _ _ _ (by simp; omega), Below.heap_alloc _ _ _ (by simp; omega)]
    · simp only [List.mem_cons, List.not_mem_nil, or_false] at hx
      rw [World.size_alloc]; omega
    · simp only [List.mem_cons, List.not_mem_nil, or_false] at hx
      omega

set_option maxHeartbeats 16000000 in
set_option maxRecDepth 8000 in
theorem couples_any (b t : Int) (a : Option Addr) (n cap : Nat) (a' : Option Addr) (cap' m : Nat) (N : List (List Int)) (E : List Bool) (b2 t2 : Int) (a2 : Option Addr) (n2 cap2 : Nat) (a2' : Option Addr) (cap2' : Nat) (N2 : List (List Int)) (E2 : List Bool) (how : Int) (w : World)
    (hs : Sl2 w a n N) (he : SlB w a' n E) (hs2 : Sl2 w a2 n2 N2) (he2 : SlB w a2' n2 E2) (hG : GoodN m n N) (hG2 : GoodN m n2 N2) (hn : n * n2 ≤ 4000000) (h0 : 0 ≤ how) (h15 : how ≤ 15) :
    Calls Try.prog 18 #[.agg #[.int .i64 b, .int .i64 t, .slice a n cap, .slice a' n cap'], .agg #[.int .i64 b2, .int .i64 t2, .slice a2 n2 cap2, .slice a2' n2 cap2'], .int .i64 how] w (GivesAuto w b t (coupN (prodN N N2 m)) (coupE (prodN N N2 m) (prodE how n n2 E E2))) := by
  have hP := prod_good hG hG2 hn
  have hm36 := hG.2.2.2.1
  have hn64 := hG.2.2.1
  have hn264 := hG2.2.2.1
  have hmk := make_ints m (by omega)
  have hmm := @run_makeMap Try.prog
  have hB0 := below_three w (.cells #[.int .i64 b, .int .i64 t, .slice a n cap, .slice a' n cap'] 25) (.cells #[.int .i64 b2, .int .i64 t2, .slice a2 n2 cap2, .slice a2' n2 cap2'] 25) (.cells #[.int .i64 0, .int .i64 0, .slice none 0 0, .slice none 0 0] 25)
  have HB0 := hide hB0
  have HS := hide (sl2_below hs hB0)
  have HE := hide (slB_below he hB0)
  have HS2 := hide (sl2_below hs2 hB0)
  have HE2 := hide (slB_below he2 hB0)
  have HBX := hide (fun W (h : Below _ _ W) => And.intro (two_boxes (@three_boxes w W (.int .i64 b) (.int .i64 t) (.slice a n cap) (.slice a' n cap') (.int .i64 b2) (.int .i64 t2) (.slice a2 n2 cap2) (.slice a2' n2 cap2') 25 (.cells #[.int .i64 0, .int .i64 0, .slice none 0 0, .slice none 0 0] 25) h).2) (@three_boxes w W (.int .i64 b) (.int .i64 t) (.slice a n cap) (.slice a' n cap') (.int .i64 b2) (.int .i64 t2) (.slice a2 n2 cap2) (.slice a2' n2 cap2') 25 (.cells #[.int .i64 0, .int .i64 0, .slice none 0 0, .slice none 0 0] 25) h).1)
  have HG := hide hG
  have HG2 := hide hG2
  have HP := hide hP
  have HTK := hide (fun x y W => taken_any how x y W h0 h15)
  have HPE : Hid (∀ s, s < n * n2 → (prodE how n n2 E E2).getD s false = howB how (E.getD (s / n2) false) (E2.getD (s % n2) false)) := fun s h => prodE_get h
  have HPC : Hid (∀ s l, s < n * n2 → l < m → nxt (prodN N N2 m) s l = nxt N (s / n2) l * n2 + nxt N2 (s % n2) l) := fun s l h1 h2 => prod_nxt hG hG2 h1 h2
  clear hs he hs2 he2 hG hG2 hP hB0
  generalize prodN N N2 m = P at HP HPC ⊢
  generalize prodE how n n2 E E2 = Q at HPE ⊢
  obtain ⟨kl0, hkl0⟩ := coupV_key n2 0 (by decide)
  have hkz : keyOf Try.prog 55 (Value.agg #[.int .i64 0, .int .i64 0]) = some kl0 := by
    have : spotV n2 0 = Value.agg #[.int .i64 0, .int .i64 0] := by simp [spotV, hiI, loI]
    rw [← this]; exact hkl0
  generalize hW0 : ((w.alloc (.cells #[.int .i64 b, .int .i64 t, .slice a n cap, .slice a' n cap'] 25)).alloc (.cells #[.int .i64 b2, .int .i64 t2, .slice a2 n2 cap2, .slice a2' n2 cap2'] 25)).alloc (.cells #[.int .i64 0, .int .i64 0, .slice none 0 0, .slice none 0 0] 25) = wb at HB0 HS HE HS2 HE2 HBX
  have HSZ0 : Hid (wb.heap.size = w.heap.size + 3) := by show _ = _; rw [← hW0]; simp
  obtain ⟨⟨⟨p0, p1, p2, p3⟩, ⟨q0, q1, q2, q3⟩⟩, hold⟩ := HBX.out wb (Below.refl _ _)
  have HOLD := hide hold
  have hm0 := mapAt_made ((wb.alloc (.cells #[.int .i64 b, .int .i64 t, .slice none 0 0, .slice none 0 0] 25)).alloc (.cells #[.int .i64 0, .int .i64 0] 55)) Try.prog 55
  simp only [World.size_alloc, Nat.add_assoc, Nat.reduceAdd] at hm0
  obtain ⟨wm, hins, hmp, htn⟩ := hm0.put couple_law Try.underlying56 (val := .int .i64 0) (by decide) hkz (by simp)
  have H0 := hide (coAt_start wb b t P Q n2 hmp htn)
  have hblk : wm.heap[wb.heap.size + 1]? = some (.cells #[.int .i64 0, .int .i64 0] 55 (0, 0)) := (htn.grown.block (wb.heap.size + 1) (by simp) (by simp)).trans (by have := heap_alloc2_fst (wb.alloc (.cells #[.int .i64 b, .int .i64 t, .slice none 0 0, .slice none 0 0] 25)) (.cells #[.int .i64 0, .int .i64 0] 55) (.map #[] 0); rwa [World.size_alloc] at this)
  have hst0 : wm.cell? ⟨wb.heap.size + 1, 0, none⟩ = some (.int .i64 0) := by simp [World.cell?, hblk]
  have hst1 : wm.cell? ⟨wb.heap.size + 1, 1, none⟩ = some (.int .i64 0) := by simp [World.cell?, hblk]
  clear hm0 hmp htn hkl0 hkz hblk hold
  obtain ⟨j0, hj0, hy0, hy1, hy2⟩ := info_parts infoS2
  obtain ⟨l0, hl0, hv0, hv1, hv2⟩ := info_parts infoBo
  go_enter Try.func18, Try.ntmps18
  go_wp2
  clear hins hst0 hst1 hW0 p0 p1 p2 p3 q0 q1 q2 q3
  generalize wm.alloc (.cells #[.int .i64 0, .int .i64 0] 55) = w0 at H0 ⊢
  go_loopg [10, 11] (n * n2 + 1) (fun g v iv wx => ∃ i : Nat, g = n * n2 + 1 - i ∧ iv = .int .i64 i ∧ CoAt wb b t P Q n2 i v wx)
  case atStart => exact ⟨0, rfl, rfl, H0.out⟩
  case round =>
    obtain ⟨i, hgi, rfl, hco⟩ := hrel
    have HGI := hide hgi
    obtain ⟨bm0, cpm, rfl, hq, hmp, hO, hbm, hil⟩ := hco
    have HQ := hide hq
    have HMP := hide hmp
    have HO := hide hO
    have HBM := hide hbm
    have hole := outs_len HP.out i
    have HBW : Hid (Below wb.heap.size wb wr) := hO.2.1
    clear hgi hq hmp hO hbm H0
    by_cases hlt : i < (outs P i).length
    · have hlti : (i : Int) < ((outs P i).length : Int) := by omega
      have hsr := okO_get (outs_ok HP.out i) i hlt
      obtain ⟨s, hs⟩ : ∃ s : Nat, (outs P i).getD i 0 = (s : Int) := ⟨((outs P i).getD i 0).toNat, by omega⟩
      have hsn : s < n * n2 := by omega
      obtain ⟨ch0, ch1⟩ := queC_at HQ.out i hlt
      rw [hs, Int.toNat_natCast] at ch0 ch1
      obtain ⟨hxl, hyl⟩ := parts_lt hsn
      have HPC1 := hide (fun l h => HPC.out s l hsn h)
      have HPE1 := hide (HPE.out s hsn)
      rw [show hiI n2 s = ((s / n2 : Nat) : Int) from rfl] at ch0
      rw [show loI n2 s = ((s % n2 : Nat) : Int) from rfl] at ch1
      generalize s / n2 = x at ch0 hxl HPC1 HPE1
      generalize s % n2 = y at ch1 hyl HPC1 HPE1
      have hpre := outs_met HP.out i (Nat.le_of_lt hlt)
      have hmi : i < (metL P).length := Nat.lt_of_lt_of_le hlt hpre.length_le
      have hmg : (metL P).getD i 0 = (s : Int) := (pre_getD hpre i hlt).trans hs
      have HSI := hide hs
      have hrow := coup_row HP.out hmi
      rw [hmg, Int.toNat_natCast] at hrow
      have hes := coup_end HP.out Q hmi
      rw [hmg, Int.toNat_natCast, HPE1.out] at hes
      have HES := hide hes
      have hPr := (HP.out.2.2.2.2.2 s hsn)
      have HRLEN : Hid (((coupN P).getD i []).length = m) := by show _ = _; rw [hrow, List.length_map]; exact hPr.1
      have HRG : Hid (∀ l, l < m → ((coupN P).getD i []).getD l 0 = ((posL (metL P) ((nxt P s l : Nat) : Int) : Nat) : Int)) := fun l hl => by
        rw [hrow, getD_at _ l (by rw [List.length_map, hPr.1]; exact hl), List.getElem_map, ← getD_at _ l (by rw [hPr.1]; exact hl), (nxt_cell HP.out hsn hl).2]
      have HWF : Hid (∀ z ∈ (coupN P).getD i [], (Lit.int .i64 z).wf = true) := fun z hz => by
        obtain ⟨l, hl, rfl⟩ := List.getElem_of_mem hz
        have hlm : l < m := by have := HRLEN.out; omega
        have h1 := (coup_good HP.out).2.2.2.2.2 i hmi
        have h2 := h1.2 l hlm
        rw [getD_at _ l hl] at h2
        have h3 := met_len HP.out
        exact WalkArith.wf_i64 (by omega)
      have hxi : (x : Int) < (n : Int) := by omega
      obtain ⟨bn, on, an, cn, rfl, hcn, hsn0⟩ := sl2_cell (sl2_below HS.out HBW.out) x hxl
      rw [(HG.out.2.2.2.2.2 x hxl).1] at hcn hsn0
      have HSN := hide hsn0
      have HCN := hide hcn
      obtain ⟨⟨⟨-, -, p2, -⟩, -⟩, -⟩ := HBX.out wr HBW.out
      clear hsr hs hsn0 hrow hes hPr hpre hmg
      have hBd := (Below.refl wr.heap.size wr).alloc (Nat.le_refl _) (.cells #[.int .i64 (x : Int), .int .i64 (y : Int)] 55)
      have hat := heap_alloc_last wr (.cells #[.int .i64 (x : Int), .int .i64 (y : Int)] 55)
      have hcn2 : (wr.alloc (.cells #[.int .i64 (x : Int), .int .i64 (y : Int)] 55)).cell? ⟨bn, on + x, none⟩ = some (.slice an m cn) := (hBd.cell (p := ⟨bn, on + x, none⟩) (World.block_lt_of_cell? wr _ hcn)).trans hcn
      have hp22 : (wr.alloc (.cells #[.int .i64 (x : Int), .int .i64 (y : Int)] 55)).cell? ⟨w.heap.size, 2, none⟩ = some (.slice (some ⟨bn, on, none⟩) n cap) := (hBd.cell (p := ⟨w.heap.size, 2, none⟩) (World.block_lt_of_cell? wr _ p2)).trans p2
      have ha0 : (wr.alloc (.cells #[.int .i64 (x : Int), .int .i64 (y : Int)] 55)).cell? ⟨wr.heap.size, 0, none⟩ = some (.int .i64 (x : Int)) := cell_of_row _ _ 0 _ _ (0, 0) hat
      have H1 := hide (@crAt_start wb wr _ P n2 m i bm0 cpm (x : Int) (y : Int) ((coupN P).getD i []) HQ.out HMP.out HBW.out rfl)
      clear hBd hat
      go_wp2
      obtain ⟨wq, hwq⟩ : ∃ wq : World, wq = wr := ⟨_, rfl⟩
      rw [← hwq] at H1 HQ HMP HO HBW ⊢
      clear hwq ch0 ch1 hcn hcn2 hp22 ha0 p2 HSN HCN wr
      have HMB : Hid (wb.heap.size + 2 < wq.heap.size) := HMP.out.lt
      have HB0' : Hid (bm0 < wq.heap.size) := queC_lt HQ.out
      generalize (wq.alloc (.cells #[.int .i64 (x : Int), .int .i64 (y : Int)] 55)).alloc (.cells (madeCells #[.int .i64 0] m) 3) = w1 at H1 ⊢
      go_loopw [48, 10] (fun lv v wx => ∃ l : Nat, l ≤ m ∧ lv = .int .i64 l ∧ CrAt wb wq P n2 m i l bm0 (x : Int) (y : Int) ((coupN P).getD i []) v wx) (fun lv _ _ => m - (intOf lv).toNat)
      case atStart => exact ⟨0, by omega, rfl, H1.out⟩
      case round =>
        obtain ⟨l, hl, rfl, hcr⟩ := hrel
        have HCR := hide hcr
        obtain ⟨bm, cpl, rfl, hq, hmp, hrw, hat, hbm', hkp, hbw, hsz⟩ := hcr
        have HQl := hide hq
        have HMl := hide hmp
        have HRW := hide hrw
        have HAT := hide hat
        have HBMl := hide hbm'
        have HKP := hide hkp
        have HBl := hide hbw
        have HSZl := hide hsz
        have ca0 : wr.cell? ⟨wq.heap.size, 0, none⟩ = some (.int .i64 (x : Int)) := cell_of_row _ _ 0 _ _ (0, 0) hat
        have ca1 : wr.cell? ⟨wq.heap.size, 1, none⟩ = some (.int .i64 (y : Int)) := cell_of_row _ _ 1 _ _ (0, 0) hat
        clear hq hmp hrw hat hbm' hkp hbw hsz H1
        by_cases hlt2 : l < m
        · have hlti2 : (l : Int) < (m : Int) := by omega
          have hxi : (x : Int) < (n : Int) := by omega
          have hyi : (y : Int) < (n2 : Int) := by omega
          obtain ⟨⟨⟨-, -, p2, -⟩, ⟨-, -, q2, -⟩⟩, -⟩ := HBX.out wr HBl.out
          obtain ⟨_, _, an1, cn1, e, hcn, hsn1⟩ := sl2_cell (sl2_below HS.out HBl.out) x hxl
          cases e
          rw [(HG.out.2.2.2.2.2 x hxl).1] at hcn hsn1
          obtain ⟨b1, o1, rfl, hcx⟩ := sl_cell hsn1 l hlt2
          obtain ⟨bn2, on2, an2, cn2, rfl, hcn2, hsn2⟩ := sl2_cell (sl2_below HS2.out HBl.out) y hyl
          rw [(HG2.out.2.2.2.2.2 y hyl).1] at hcn2 hsn2
          obtain ⟨b3, o3, rfl, hcy⟩ := sl_cell hsn2 l hlt2
          have hun := nxt_cell HG.out hxl hlt2
          have hvn := nxt_cell HG2.out hyl hlt2
          rw [hun.2] at hcx
          rw [hvn.2] at hcy
          have hun1 := hun.1
          have hvn1 := hvn.1
          have HPCl := hide (HPC1.out l hlt2)
          have HRGl := hide (HRG.out l hlt2)
          have hzn := (nxt_cell HP.out hsn hlt2)
          have HZV : Hid ((P.getD ((outs P i).getD i 0).toNat []).getD l 0 = ((nxt P s l : Nat) : Int)) := by show _ = _; rw [HSI.out, Int.toNat_natCast]; exact hzn.2
          have hzl : nxt P s l < n * n2 := hzn.1
          clear hun hvn hzn hsn1 hsn2
          generalize nxt N x l = u at hcx HPCl hun1
          generalize nxt N2 y l = v at hcy HPCl hvn1
          generalize nxt P s l = z at HPCl HRGl HZV hzl
          have hspz : spotV n2 (z : Int) = .agg #[.int .i64 (u : Int), .int .i64 (v : Int)] := by
            have hpp := pair_parts hun1 hvn1
            rw [← HPCl.out] at hpp
            unfold spotV hiI loI
            rw [Int.toNat_natCast, hpp.1, hpp.2]
          obtain ⟨kl, hkl⟩ := coupV_key n2 (z : Int) (by rw [Int.toNat_natCast]; omega)
          rw [hspz] at hkl
          have HKL := hide hkl
          have HSPZ := hide hspz
          clear hkl hspz
          have k1 := World.new_ne wr _ p2
          have k2 := World.new_ne wr _ q2
          have k3 := World.new_ne wr _ ca0
          have k4 := World.new_ne wr _ ca1
          have k5 := World.new_ne wr _ hcn
          have k6 := World.new_ne wr _ hcn2
          have k7 := World.new_ne wr _ hcx
          have k8 := World.new_ne wr _ hcy
          go_wp2
          go_region_held_law (fun W => W.cell? ⟨w.heap.size, 2, none⟩ = some (.slice (some ⟨bn, on, none⟩) n cap) ∧ W.cell? ⟨w.heap.size + 1, 2, none⟩ = some (.slice (some ⟨bn2, on2, none⟩) n2 cap2) ∧ W.cell? ⟨wq.heap.size, 0, none⟩ = some (.int .i64 (x : Int)) ∧ W.cell? ⟨wq.heap.size, 1, none⟩ = some (.int .i64 (y : Int)) ∧ W.cell? ⟨bn, on + x, none⟩ = some (.slice (some ⟨b1, o1, none⟩) m cn1) ∧ W.cell? ⟨bn2, on2 + y, none⟩ = some (.slice (some ⟨b3, o3, none⟩) m cn2) ∧ W.cell? ⟨b1, o1 + l, none⟩ = some (.int .i64 (u : Int)) ∧ W.cell? ⟨b3, o3 + l, none⟩ = some (.int .i64 (v : Int))) (go_keep) (fail)
          obtain ⟨WT, hWT⟩ : ∃ WT, (wr.alloc (.cells #[.int .i64 (u : Int), .int .i64 (v : Int)] 55)).drew = WT := ⟨_, rfl⟩
          have hBT : Below wr.heap.size wr WT := by rw [← hWT]; exact ((Below.refl _ _).alloc (Nat.le_refl _) _).drew
          have hT : WT.heap[wr.heap.size]? = some (.cells #[.int .i64 (u : Int), .int .i64 (v : Int)] 55 (0, 0)) := by rw [← hWT]; exact heap_alloc_last _ _
          have ct0 : WT.cell? ⟨wr.heap.size, 0, none⟩ = some (.int .i64 (u : Int)) := cell_of_row _ _ 0 _ _ (0, 0) hT
          have ct1 : WT.cell? ⟨wr.heap.size, 1, none⟩ = some (.int .i64 (v : Int)) := cell_of_row _ _ 1 _ _ (0, 0) hT
          have HBT := hide hBT
          have HT := hide hT
          have HMT := hide (HMl.out.below hBT)
          have HQT := hide (queC_kept HQl.out (hBT.block _ (queC_lt HQl.out)))
          have HRT := hide (HRW.out.of_block (hBT.block _ HRW.out.lt))
          have hle : (rowO P i l).length ≤ 4000000 := Nat.le_trans (rowO_le HP.out hlt l) hn
          have hrlen : (numF (spotV n2) (rowO P i l)).length ≤ 4000000 := by rw [numF_len]; exact hle
          have hPl : l < (P.getD ((outs P i).getD i 0).toNat []).length := by rw [HSI.out, Int.toNat_natCast, (HP.out.2.2.2.2.2 s hsn).1]; exact hlt2
          rw [hWT]
          clear hWT hBT hT p2 q2 ca0 ca1 hcn hcn2 hcx hcy k1 k2 k3 k4 k5 k6 k7 k8
          by_cases hmet : (z : Int) ∈ rowO P i l
          · have HSAME : Hid (rowO P i (l + 1) = rowO P i l) := by show _ = _; rw [rowO_succ hPl, HZV.out, addL_yes hmet]
            have hent := numF_pos (M := n2) (rowO_ok HP.out hlt l) hmet
            rw [← pos_pre (rowO_met HP.out hlt l) hmet, HSPZ.out] at hent
            have HENT := hide hent
            have hcz := HRT.out.cell (i := l) hlt2
            have hfz := HRT.out.frozen l
            have hKN := fun (num : Int) h => @crAt_known wb wq wr WT P n2 m i l bm0 (x : Int) (y : Int) ((coupN P).getD i []) _ num HCR.out HMB.out HB0'.out HBT.out HSAME.out h
            have HKN := hide (hKN _ HRGl.out)
            clear hent hKN hmet hPl
            generalize posL (metL P) (z : Int) = num at HENT HKN HRGl
            go_wp2_with (at_lookup; refine wpList_look_yes _ rfl _ _ 56 rfl 55 3 couple_law Try.underlying56 (zero_int _) (wb.heap.size + 2) _ rfl HMT.out _ kl rfl HKL.out _ HENT.out ?_)
            go_roundw
            case rel => exact ⟨l + 1, by omega, by go_num, HKN.out⟩
            case measure => simp [intOf]; omega
          · have hnew : rowO P i (l + 1) = rowO P i l ++ [(z : Int)] := by rw [rowO_succ hPl, HZV.out, addL_no hmet]
            have HNM := hide (numF_not (M := n2) (rowO_ok HP.out hlt l) (show 0 ≤ (z : Int) by omega) hmet)
            rw [HSPZ.out] at HNM
            have hnum : ((coupN P).getD i []).getD l 0 = (((rowO P i l).length : Nat) : Int) := by
              have h1 := pos_new (rowO_ok HP.out hlt l) (show 0 ≤ (z : Int) by omega) hmet
              have h2 := pos_pre (x := (z : Int)) (rowO_met HP.out hlt (l + 1)) (by rw [hnew]; simp)
              rw [HRGl.out, h2, hnew, h1]
            have HPUSH := hide (fun w5 w6 o b' cap' h1 h2 h3 h4 h5 => @crAt_new wb wq wr WT w5 w6 P n2 m i l bm0 bm cpl (x : Int) (y : Int) ((coupN P).getD i []) (rowO P i l).length (z : Int) o b' cap' HQl.out HRW.out HAT.out HBMl.out HKP.out HBl.out HSZl.out HMB.out HB0'.out HBM.out HBT.out h1 h2 hnew rfl h3 h4 h5 hnum)
            rw [HSPZ.out] at HPUSH
            have hcz0 := HRW.out.cell (i := l) hlt2
            rw [if_neg (Nat.lt_irrefl _)] at hcz0
            have HCZ := hide hcz0
            have HY0 : Hid ((u : Int) = hiI n2 ((z : Int)).toNat) := by
              have h := HSPZ.out
              unfold spotV at h
              injection h with h
              have h0 := congrArg (fun a : Array Value => a[0]?) h
              simp only [List.getElem?_toArray, List.getElem?_cons_zero, Option.some.injEq, Value.int.injEq, true_and] at h0
              exact h0.symm
            have HY1 : Hid ((v : Int) = loI n2 ((z : Int)).toNat) := by
              have h := HSPZ.out
              unfold spotV at h
              injection h with h
              have h0 := congrArg (fun a : Array Value => a[1]?) h
              simp only [List.getElem?_toArray, List.getElem?_cons_zero, List.getElem?_cons_succ, Option.some.injEq, Value.int.injEq, true_and] at h0
              exact h0.symm
            have HTB : Hid (wr.heap.size ≠ wb.heap.size + 2) := by have := HMl.out.lt; show _ ≠ _; omega
            have HBQ : Hid (bm ≠ wb.heap.size + 2) := by
              have h1 := HBM.out
              have h2 := HMB.out
              have h3 := HBMl.out
              show _ ≠ _
              omega
            clear hmet hnew hnum hcz0 hPl
            go_wp2_with (first
              | (at_lookup; refine wpList_look_no _ rfl _ _ 56 rfl 55 3 couple_law Try.underlying56 (zero_int _) (wb.heap.size + 2) _ rfl HMT.out _ kl rfl HKL.out HNM.out ?_)
              | (at_mapUpdate; refine wpList_put_at _ rfl _ _ _ 56 rfl 55 3 couple_law Try.underlying56 (wb.heap.size + 2) _ rfl HMT.out (by unfold maxLen; omega) (.agg #[.int .i64 (u : Int), .int .i64 (v : Int)]) (.int .i64 (((rowO P i l).length : Nat) : Int)) kl rfl rfl HKL.out HNM.out ?_; intro w5 hmp5 htn5; have HM5 := hide hmp5; have HT5 := hide htn5; have h5t := (htn5.grown.block wr.heap.size (Array.getElem?_eq_some_iff.1 HT.out).1 (fun e => HTB.out (Option.some.inj e))).trans HT.out; have cv0 : w5.cell? ⟨wr.heap.size, 0, none⟩ = some (.int .i64 (u : Int)) := cell_of_row _ _ 0 _ _ (0, 0) h5t; have cv1 : w5.cell? ⟨wr.heap.size, 1, none⟩ = some (.int .i64 (v : Int)) := cell_of_row _ _ 1 _ _ (0, 0) h5t; have HQ5 := hide (queC_kept HQT.out (htn5.grown.block bm (queC_lt HQT.out) (fun e => HBQ.out (Option.some.inj e)))); clear hmp5 htn5 h5t)
              | (at_builtin; refine wpList_append_queC n2 _ rfl _ _ rfl bm (rowO P i l).length cpl (rowO P i l) rfl (queC_kept HQ5.out (Below.heap_alloc _ _ _ (queC_lt HQ5.out))) ⟨w5.heap.size, 0, none⟩ (z : Int) (u : Int) (v : Int) HY0.out HY1.out rfl (two_new _ _ _ _) (by omega) ?_; intro b6 cap6 w6 hq6 hg6 hb6; obtain ⟨⟨hc6, hf6⟩, hn6⟩ := HPUSH.out w5 w6 _ b6 cap6 HM5.out HT5.out hq6 hg6 hb6; rw [HCZ.out] at hc6; have HN6 := hide hn6; clear hq6 hg6 hb6 hn6))
            go_roundw
            case rel => exact ⟨l + 1, by omega, by go_num, HN6.out⟩
            case measure => simp [intOf]; omega
        · have hlti2 : ¬ ((l : Int) < (m : Int)) := by omega
          obtain rfl : m = l := by omega
          obtain ⟨vN, vals, hcN, hoN, hszN, hnx⟩ := crAt_end HO.out (queC_lt HQl.out) HRW.out HBMl.out HKP.out HBl.out HSZl.out HMB.out HB0'.out HBM.out HRLEN.out hm36 HWF.out
          have HNX := hide hnx
          have HOWN := hide hoN
          have HSZ := hide hszN
          have HXL : Hid (∀ x ∈ [wb.heap.size + 2, bm0, bm, wq.heap.size], x < wr.heap.size) := fun x hx => by
            simp only [List.mem_cons, List.not_mem_nil, or_false] at hx
            have h1 := HMB.out
            have h2 := HB0'.out
            have h3 := queC_lt HQl.out
            have h4 := HSZl.out
            omega
          have HREND : Hid (rowO P i m = outs P (i + 1)) := by
            have h := rowO_end hlt
            rw [HSI.out, Int.toNat_natCast, (HP.out.2.2.2.2.2 s hsn).1] at h
            exact h
          have HBMX : Hid (wb.heap.size + 2 < bm) := by
            have h1 := HBM.out
            have h2 := HMB.out
            have h3 := HBMl.out
            show _ < _
            omega
          have HILN : Hid (i + 1 ≤ (outs P (i + 1)).length) := Nat.le_trans hlt (outs_pre P i 1).length_le
          clear hnx hoN hszN ca0 ca1
          go_wp2_with (at_builtin; refine wpList_append_lies _ rfl _ _ 22 rfl (wb.heap.size + 1) 31 j0 (.slice none 0 0) 1 24 Try.underlying22 hj0 hy0 hy1 hy2 rfl (by decide) vN i vals rfl (HOWN.out.alloc _) ⟨wr.heap.size, 0, none⟩ 1 1 [.slice (some ⟨wq.heap.size + 1, 0, none⟩) m m] rfl rfl (one_new _ _ _) (fun u hu => by simp at hu; subst hu; rfl) (by omega) (by unfold maxLen; omega) (by omega) (by have := HSZ.out; simp; omega) (wr.heap.size + 1) (by simp) ?_; intro g' cg w3 hown3 hgrow3 hat3 hlt3; obtain ⟨⟨hn1', hn2'⟩, hn3', hn4'⟩ := HNX.out w3 _ g' cg hown3 hgrow3 hat3; have HN3 := hide hn3'; have HN4 := hide hn4'; clear hown3 hgrow3 hat3 hn3' hn4')
          generalize w3.setCell ⟨wb.heap.size, 2, none⟩ (.slice (some ⟨g', 0, none⟩) (i + 1) cg) = w5 at HN3 HN4 ⊢
          have HB5 : Hid (Below wb.heap.size wb w5) := HN3.out.2.1
          have hat5 := (HN4.out wq.heap.size (.inl (by simp))).trans HAT.out
          have HAT5 := hide hat5
          have ca0 : w5.cell? ⟨wq.heap.size, 0, none⟩ = some (.int .i64 (x : Int)) := cell_of_row _ _ 0 _ _ (0, 0) hat5
          have ca1 : w5.cell? ⟨wq.heap.size, 1, none⟩ = some (.int .i64 (y : Int)) := cell_of_row _ _ 1 _ _ (0, 0) hat5
          have HX5 : Hid (∀ x ∈ [wb.heap.size + 2, bm0, bm, wq.heap.size], x < w5.heap.size) := fun x hx => by
            have h := HN4.out x (.inl hx)
            rw [Array.getElem?_eq_getElem (HXL.out x hx)] at h
            exact (Array.getElem?_eq_some_iff.1 h).1
          clear hn1' hn2' hcN HNX HOWN HSZ hlt3 hat5
          obtain ⟨vE, hcE, hoE, hszE, hnx⟩ := outX_E HN3.out HX5.out
          obtain ⟨be, oe, rfl, hce⟩ := slB_cell (slB_below HE.out HB5.out) x hxl
          obtain ⟨be2, oe2, rfl, hce2⟩ := slB_cell (slB_below HE2.out HB5.out) y hyl
          obtain ⟨⟨⟨-, -, -, p3⟩, ⟨-, -, -, q3⟩⟩, -⟩ := HBX.out w5 HB5.out
          have hxi : (x : Int) < (n : Int) := by omega
          have hyi : (y : Int) < (n2 : Int) := by omega
          simp only [HES.out] at hnx
          have HNX := hide hnx
          have HOWN := hide hoE
          have HSZ := hide hszE
          have HEC := hide (fun W (h : Below wb.heap.size wb W) => slB_cell (slB_below HE.out h) x hxl)
          have HEC2 := hide (fun W (h : Below wb.heap.size wb W) => slB_cell (slB_below HE2.out h) y hyl)
          clear hnx hoE hszE
          have HTKl := hide (fun W => HTK.out (E.getD x false) (E2.getD y false) W)
          generalize E.getD x false = ex at hce HNX HEC HTKl
          generalize E2.getD y false = ey at hce2 HNX HEC2 HTKl
          generalize howB how ex ey = ev at HNX HTKl
          have hcE2 : (w5.alloc (.cells #[.bool ev] 4)).cell? ⟨wb.heap.size, 3, none⟩ = some vE := (((Below.refl w5.heap.size w5).alloc (Nat.le_refl _) _).cell (p := ⟨wb.heap.size, 3, none⟩) (World.block_lt_of_cell? w5 _ hcE)).trans hcE
          have k1 := World.new_ne w5 _ p3
          have k2 := World.new_ne w5 _ q3
          have k3 := World.new_ne w5 _ ca0
          have k4 := World.new_ne w5 _ ca1
          have k5 := World.new_ne w5 _ hce
          have k6 := World.new_ne w5 _ hce2
          go_wp2
          have hbe : be < wb.heap.size := by
            obtain ⟨_, _, e, hc⟩ := slB_cell HE.out x hxl
            cases e
            exact World.block_lt_of_cell? wb _ hc
          have hbe2 : be2 < wb.heap.size := by
            obtain ⟨_, _, e, hc⟩ := slB_cell HE2.out y hyl
            cases e
            exact World.block_lt_of_cell? wb _ hc
          have HSS : Hid (∀ W : World, (∀ x, x < wb.heap.size ∨ x = wq.heap.size → W.heap[x]? = w5.heap[x]?) → W.cell? ⟨w.heap.size, 3, none⟩ = some (.slice (some ⟨be, oe, none⟩) n cap') ∧ W.cell? ⟨w.heap.size + 1, 3, none⟩ = some (.slice (some ⟨be2, oe2, none⟩) n2 cap2') ∧ W.cell? ⟨wq.heap.size, 0, none⟩ = some (.int .i64 (x : Int)) ∧ W.cell? ⟨wq.heap.size, 1, none⟩ = some (.int .i64 (y : Int)) ∧ W.cell? ⟨be, oe + x, none⟩ = some (.bool ex) ∧ W.cell? ⟨be2, oe2 + y, none⟩ = some (.bool ey)) := fun W h => by
            have hz := HSZ0.out
            exact ⟨(World.cell?_of_block (a := ⟨w.heap.size, 3, none⟩) (h w.heap.size (.inl (by omega)))).trans p3, (World.cell?_of_block (a := ⟨w.heap.size + 1, 3, none⟩) (h (w.heap.size + 1) (.inl (by omega)))).trans q3, (World.cell?_of_block (a := ⟨wq.heap.size, 0, none⟩) (h wq.heap.size (.inr rfl))).trans ca0, (World.cell?_of_block (a := ⟨wq.heap.size, 1, none⟩) (h wq.heap.size (.inr rfl))).trans ca1, (World.cell?_of_block (a := ⟨be, oe + x, none⟩) (h be (.inl hbe))).trans hce, (World.cell?_of_block (a := ⟨be2, oe2 + y, none⟩) (h be2 (.inl hbe2))).trans hce2⟩
          have HSA : Hid (∀ o x, x < wb.heap.size ∨ x = wq.heap.size → (w5.drew.alloc o).heap[x]? = w5.heap[x]?) := fun o x hx => by
            refine Below.heap_alloc w5.drew _ _ ?_
            have h1 := HB5.out.size
            have h2 := HX5.out wq.heap.size (by simp)
            show x < w5.heap.size
            omega
          refine wp_region_held_drew (S := (fun W => W.cell? ⟨w.heap.size, 3, none⟩ = some (.slice (some ⟨be, oe, none⟩) n cap') ∧ W.cell? ⟨w.heap.size + 1, 3, none⟩ = some (.slice (some ⟨be2, oe2, none⟩) n2 cap2') ∧ W.cell? ⟨wq.heap.size, 0, none⟩ = some (.int .i64 (x : Int)) ∧ W.cell? ⟨wq.heap.size, 1, none⟩ = some (.int .i64 (y : Int)) ∧ W.cell? ⟨be, oe + x, none⟩ = some (.bool ex) ∧ W.cell? ⟨be2, oe2 + y, none⟩ = some (.bool ey))) (by kernel_rfl) ⟨p3, q3, ca0, ca1, hce, hce2⟩ (fun hHeld => ?_)
          refine wpAnyH_take (i := 0) (v := .pointer (some ⟨wb.heap.size, 3, none⟩)) rfl (by kernel_rfl) (by kernel_rfl) (by kernel_rfl) (fun _ _ _ h => h) (Or.inl ⟨by rfl, fun W hSW => ?_⟩) hHeld ?_
          · obtain ⟨r1, r2, r3, r4, r5, r6⟩ := hSW; go_simp
          simp only [List.getElem_toArray, List.getElem_cons_zero, Act.put, List.setIfInBounds_toArray, List.set_cons_zero, List.set_cons_succ]
          refine wpAnyH_take (i := 2) (v := .int .i64 how) rfl (by kernel_rfl) (by kernel_rfl) (by kernel_rfl) (fun _ _ _ h => h) (Or.inl ⟨by rfl, fun W hSW => ?_⟩) hHeld ?_
          · obtain ⟨r1, r2, r3, r4, r5, r6⟩ := hSW; go_simp
          simp only [List.getElem_toArray, List.getElem_cons_zero, List.getElem_cons_succ, Act.put, List.setIfInBounds_toArray, List.set_cons_zero, List.set_cons_succ]
          refine wpAnyH_take (i := 3) (v := .pointer (some ⟨w.heap.size, 3, none⟩)) rfl (by kernel_rfl) (by kernel_rfl) (by kernel_rfl) (fun _ _ _ h => h) (Or.inl ⟨by rfl, fun W hSW => ?_⟩) hHeld ?_
          · obtain ⟨r1, r2, r3, r4, r5, r6⟩ := hSW; go_simp
          simp only [List.getElem_toArray, List.getElem_cons_zero, List.getElem_cons_succ, Act.put, List.setIfInBounds_toArray, List.set_cons_zero, List.set_cons_succ]
          refine wpAnyH_take (i := 4) (v := .slice (some ⟨be, oe, none⟩) n cap') rfl (by kernel_rfl) (by kernel_rfl) (by kernel_rfl) (fun _ _ _ h => h) (Or.inl ⟨by rfl, fun W hSW => ?_⟩) hHeld ?_
          · obtain ⟨r1, r2, r3, r4, r5, r6⟩ := hSW; go_simp
          simp only [List.getElem_toArray, List.getElem_cons_zero, List.getElem_cons_succ, Act.put, List.setIfInBounds_toArray, List.set_cons_zero, List.set_cons_succ]
          refine wpAnyH_take (i := 5) (v := .pointer (some ⟨wq.heap.size, 0, none⟩)) rfl (by kernel_rfl) (by kernel_rfl) (by kernel_rfl) (fun _ _ _ h => h) (Or.inl ⟨by rfl, fun W hSW => ?_⟩) hHeld ?_
          · obtain ⟨r1, r2, r3, r4, r5, r6⟩ := hSW; go_simp
          simp only [List.getElem_toArray, List.getElem_cons_zero, List.getElem_cons_succ, Act.put, List.setIfInBounds_toArray, List.set_cons_zero, List.set_cons_succ]
          refine wpAnyH_take (i := 6) (v := .int .i64 (x : Int)) rfl (by kernel_rfl) (by kernel_rfl) (by kernel_rfl) (fun _ _ _ h => h) (Or.inl ⟨by rfl, fun W hSW => ?_⟩) hHeld ?_
          · obtain ⟨r1, r2, r3, r4, r5, r6⟩ := hSW; go_simp
          simp only [List.getElem_toArray, List.getElem_cons_zero, List.getElem_cons_succ, Act.put, List.setIfInBounds_toArray, List.set_cons_zero, List.set_cons_succ]
          refine wpAnyH_take (i := 7) (v := .pointer (some ⟨be, oe + x, none⟩)) rfl (by kernel_rfl) (by kernel_rfl) (by kernel_rfl) (fun _ _ _ h => h) (Or.inl ⟨by rfl, fun W hSW => ?_⟩) hHeld ?_
          · obtain ⟨r1, r2, r3, r4, r5, r6⟩ := hSW; go_simp
          simp only [List.getElem_toArray, List.getElem_cons_zero, List.getElem_cons_succ, Act.put, List.setIfInBounds_toArray, List.set_cons_zero, List.set_cons_succ]
          refine wpAnyH_take (i := 8) (v := .bool ex) rfl (by kernel_rfl) (by kernel_rfl) (by kernel_rfl) (fun _ _ _ h => h) (Or.inl ⟨by rfl, fun W hSW => ?_⟩) hHeld ?_
          · obtain ⟨r1, r2, r3, r4, r5, r6⟩ := hSW; go_simp
          simp only [List.getElem_toArray, List.getElem_cons_zero, List.getElem_cons_succ, Act.put, List.setIfInBounds_toArray, List.set_cons_zero, List.set_cons_succ]
          refine wpAnyH_take (i := 9) (v := .pointer (some ⟨w.heap.size + 1, 3, none⟩)) rfl (by kernel_rfl) (by kernel_rfl) (by kernel_rfl) (fun _ _ _ h => h) (Or.inl ⟨by rfl, fun W hSW => ?_⟩) hHeld ?_
          · obtain ⟨r1, r2, r3, r4, r5, r6⟩ := hSW; go_simp
          simp only [List.getElem_toArray, List.getElem_cons_zero, List.getElem_cons_succ, Act.put, List.setIfInBounds_toArray, List.set_cons_zero, List.set_cons_succ]
          refine wpAnyH_take (i := 10) (v := .slice (some ⟨be2, oe2, none⟩) n2 cap2') rfl (by kernel_rfl) (by kernel_rfl) (by kernel_rfl) (fun _ _ _ h => h) (Or.inl ⟨by rfl, fun W hSW => ?_⟩) hHeld ?_
          · obtain ⟨r1, r2, r3, r4, r5, r6⟩ := hSW; go_simp
          simp only [List.getElem_toArray, List.getElem_cons_zero, List.getElem_cons_succ, Act.put, List.setIfInBounds_toArray, List.set_cons_zero, List.set_cons_succ]
          refine wpAnyH_take (i := 11) (v := .pointer (some ⟨wq.heap.size, 1, none⟩)) rfl (by kernel_rfl) (by kernel_rfl) (by kernel_rfl) (fun _ _ _ h => h) (Or.inl ⟨by rfl, fun W hSW => ?_⟩) hHeld ?_
          · obtain ⟨r1, r2, r3, r4, r5, r6⟩ := hSW; go_simp
          simp only [List.getElem_toArray, List.getElem_cons_zero, List.getElem_cons_succ, Act.put, List.setIfInBounds_toArray, List.set_cons_zero, List.set_cons_succ]
          refine wpAnyH_take (i := 12) (v := .int .i64 (y : Int)) rfl (by kernel_rfl) (by kernel_rfl) (by kernel_rfl) (fun _ _ _ h => h) (Or.inl ⟨by rfl, fun W hSW => ?_⟩) hHeld ?_
          · obtain ⟨r1, r2, r3, r4, r5, r6⟩ := hSW; go_simp
          simp only [List.getElem_toArray, List.getElem_cons_zero, List.getElem_cons_succ, Act.put, List.setIfInBounds_toArray, List.set_cons_zero, List.set_cons_succ]
          refine wpAnyH_take (i := 13) (v := .pointer (some ⟨be2, oe2 + y, none⟩)) rfl (by kernel_rfl) (by kernel_rfl) (by kernel_rfl) (fun _ _ _ h => h) (Or.inl ⟨by rfl, fun W hSW => ?_⟩) hHeld ?_
          · obtain ⟨r1, r2, r3, r4, r5, r6⟩ := hSW; go_simp
          simp only [List.getElem_toArray, List.getElem_cons_zero, List.getElem_cons_succ, Act.put, List.setIfInBounds_toArray, List.set_cons_zero, List.set_cons_succ]
          refine wpAnyH_take (i := 14) (v := .bool ey) rfl (by kernel_rfl) (by kernel_rfl) (by kernel_rfl) (fun _ _ _ h => h) (Or.inl ⟨by rfl, fun W hSW => ?_⟩) hHeld ?_
          · obtain ⟨r1, r2, r3, r4, r5, r6⟩ := hSW; go_simp
          simp only [List.getElem_toArray, List.getElem_cons_zero, List.getElem_cons_succ, Act.put, List.setIfInBounds_toArray, List.set_cons_zero, List.set_cons_succ]
          refine wpAnyH_ready (rs := [1, 15]) (by kernel_rfl) (by simp) (AllReadyH.cons rfl (fun K hK => ?_) (AllReadyH.cons rfl (fun K hK => ?_) AllReadyH.nil))
          · go_simp
            refine hK.out _ _ hHeld (fun _ => ?_)
            clear hK K
            refine wpAnyH_ready (rs := [15]) (by kernel_rfl) (by simp) (AllReadyH.cons rfl (fun K hK => ?_) AllReadyH.nil)
            go_simp
            go_wp2_with (go_at_call 28; refine (HTKl.out _).mono ?_; rintro e w' ⟨rfl, rfl⟩)
            refine hK.out _ _ hHeld (fun _ => ?_)
            clear hK K
            refine wpAnyH_ready (rs := [16]) (by kernel_rfl) (by simp) (AllReadyH.cons rfl (fun K hK => ?_) AllReadyH.nil)
            go_simp
            refine hK.out _ _ (HSS.out _ (HSA.out _)) (fun _ => ?_)
            clear hK K
            refine wpAnyH_ready (rs := [17]) (by kernel_rfl) (by simp) (AllReadyH.cons rfl (fun K hK => ?_) AllReadyH.nil)
            refine step_append_lies _ rfl (.tmp 99) (.tmp 114) 23 rfl (wb.heap.size + 1) 4 l0 (.bool false) 1 1 Try.underlying23 hl0 hv0 hv1 hv2 rfl (by decide) vE i _ (by simp [Act.eval]) (World.ownsRow.alloc (w := w5.drew) HOWN.out _) ⟨w5.heap.size, 0, none⟩ 1 1 [.bool ev] (by simp [Act.eval]) rfl (one_new_at _ _ _ _ (by simp)) (fun u hu => by simp at hu; subst hu; rfl) (by omega) (by unfold maxLen; omega) (by omega) (by have := HSZ.out; simp; omega) (w5.heap.size + 1) (by simp) ?_
            intro g5 cg5 w6 hown5 hgrow5 hat5 hlt5
            obtain ⟨⟨hm1, hm2⟩, hm3, hm4⟩ := HNX.out w6 _ g5 cg5 hown5 ⟨hgrow5.os, hgrow5.tape, hgrow5.output, hgrow5.size, hgrow5.block⟩ hat5
            have HM3 := hide hm3
            have HM4 := hide hm4
            have HS6 := hide (HSS.out w6 (fun z hz => by rw [← hm4 z (hz.elim .inr (fun e => .inl (by simp [e])))]; exact (Below.heap_setCell _ _ _ _ (by have h1 := HMB.out; show z ≠ wb.heap.size; omega)).symm))
            have HS7 := hide (HSS.out _ (fun z hz => hm4 z (hz.elim .inr (fun e => .inl (by simp [e])))))
            clear hm3 hm4 hown5 hgrow5 hat5 hlt5
            refine hK.out _ _ HS6.out (fun _ => ?_)
            clear hK K
            simp only [List.getElem_toArray, List.getElem_cons_zero, List.getElem_cons_succ, Act.put, List.setIfInBounds_toArray, List.set_cons_zero, List.set_cons_succ]
            refine wpAnyH_take (i := 18) (v := .pointer (some ⟨wb.heap.size, 3, none⟩)) rfl (by kernel_rfl) (by kernel_rfl) (by kernel_rfl) (fun _ _ _ h => h) (Or.inl ⟨by rfl, fun W hSW => ?_⟩) HS6.out ?_
            · obtain ⟨r1, r2, r3, r4, r5, r6⟩ := hSW; go_simp
            simp only [List.getElem_toArray, List.getElem_cons_zero, List.getElem_cons_succ, Act.put, List.setIfInBounds_toArray, List.set_cons_zero, List.set_cons_succ]
            refine wpAnyH_ready (rs := [19]) (by kernel_rfl) (by simp) (AllReadyH.cons rfl (fun K hK => ?_) AllReadyH.nil)
            go_simp
            refine hK.out _ _ HS7.out (fun _ => ?_)
            clear hK K
            refine wpAnyH_done (by kernel_rfl) ?_ _
            go_wp2
            go_roundg (n * n2 + 1 - (i + 1))
            case rel => exact ⟨i + 1, rfl, by go_num, coAt_next HQl.out HMl.out HM3.out ⟨by simp, by simp⟩ (fun z hz => (HM4.out z (.inl hz)).trans (HN4.out z (.inl hz))) HREND.out HBMX.out HILN.out⟩
            case measure => have h1 := HGI.out; omega
          · go_simp
            go_wp2_with (go_at_call 28; refine (HTKl.out _).mono ?_; rintro e w' ⟨rfl, rfl⟩)
            refine hK.out _ _ hHeld (fun _ => ?_)
            clear hK K
            refine wpAnyH_ready (rs := [1, 16]) (by kernel_rfl) (by simp) (AllReadyH.cons rfl (fun K hK => ?_) (AllReadyH.cons rfl (fun K hK => ?_) AllReadyH.nil))
            · go_simp
              refine hK.out _ _ hHeld (fun _ => ?_)
              clear hK K
              refine wpAnyH_ready (rs := [16]) (by kernel_rfl) (by simp) (AllReadyH.cons rfl (fun K hK => ?_) AllReadyH.nil)
              go_simp
              refine hK.out _ _ (HSS.out _ (HSA.out _)) (fun _ => ?_)
              clear hK K
              refine wpAnyH_ready (rs := [17]) (by kernel_rfl) (by simp) (AllReadyH.cons rfl (fun K hK => ?_) AllReadyH.nil)
              refine step_append_lies _ rfl (.tmp 99) (.tmp 114) 23 rfl (wb.heap.size + 1) 4 l0 (.bool false) 1 1 Try.underlying23 hl0 hv0 hv1 hv2 rfl (by decide) vE i _ (by simp [Act.eval]) (World.ownsRow.alloc (w := w5.drew) HOWN.out _) ⟨w5.heap.size, 0, none⟩ 1 1 [.bool ev] (by simp [Act.eval]) rfl (one_new_at _ _ _ _ (by simp)) (fun u hu => by simp at hu; subst hu; rfl) (by omega) (by unfold maxLen; omega) (by omega) (by have := HSZ.out; simp; omega) (w5.heap.size + 1) (by simp) ?_
              intro g5 cg5 w6 hown5 hgrow5 hat5 hlt5
              obtain ⟨⟨hm1, hm2⟩, hm3, hm4⟩ := HNX.out w6 _ g5 cg5 hown5 ⟨hgrow5.os, hgrow5.tape, hgrow5.output, hgrow5.size, hgrow5.block⟩ hat5
              have HM3 := hide hm3
              have HM4 := hide hm4
              have HS6 := hide (HSS.out w6 (fun z hz => by rw [← hm4 z (hz.elim .inr (fun e => .inl (by simp [e])))]; exact (Below.heap_setCell _ _ _ _ (by have h1 := HMB.out; show z ≠ wb.heap.size; omega)).symm))
              have HS7 := hide (HSS.out _ (fun z hz => hm4 z (hz.elim .inr (fun e => .inl (by simp [e])))))
              clear hm3 hm4 hown5 hgrow5 hat5 hlt5
              refine hK.out _ _ HS6.out (fun _ => ?_)
              clear hK K
              simp only [List.getElem_toArray, List.getElem_cons_zero, List.getElem_cons_succ, Act.put, List.setIfInBounds_toArray, List.set_cons_zero, List.set_cons_succ]
              refine wpAnyH_take (i := 18) (v := .pointer (some ⟨wb.heap.size, 3, none⟩)) rfl (by kernel_rfl) (by kernel_rfl) (by kernel_rfl) (fun _ _ _ h => h) (Or.inl ⟨by rfl, fun W hSW => ?_⟩) HS6.out ?_
              · obtain ⟨r1, r2, r3, r4, r5, r6⟩ := hSW; go_simp
              simp only [List.getElem_toArray, List.getElem_cons_zero, List.getElem_cons_succ, Act.put, List.setIfInBounds_toArray, List.set_cons_zero, List.set_cons_succ]
              refine wpAnyH_ready (rs := [19]) (by kernel_rfl) (by simp) (AllReadyH.cons rfl (fun K hK => ?_) AllReadyH.nil)
              go_simp
              refine hK.out _ _ HS7.out (fun _ => ?_)
              clear hK K
              refine wpAnyH_done (by kernel_rfl) ?_ _
              go_wp2
              go_roundg (n * n2 + 1 - (i + 1))
              case rel => exact ⟨i + 1, rfl, by go_num, coAt_next HQl.out HMl.out HM3.out ⟨by simp, by simp⟩ (fun z hz => (HM4.out z (.inl hz)).trans (HN4.out z (.inl hz))) HREND.out HBMX.out HILN.out⟩
              case measure => have h1 := HGI.out; omega
            · go_simp
              refine hK.out _ _ (HSS.out _ (HSA.out _)) (fun _ => ?_)
              clear hK K
              refine wpAnyH_ready (rs := [1]) (by kernel_rfl) (by simp) (AllReadyH.cons rfl (fun K hK => ?_) AllReadyH.nil)
              go_simp
              refine hK.out _ _ (HSS.out _ (HSA.out _)) (fun _ => ?_)
              clear hK K
              refine wpAnyH_ready (rs := [17]) (by kernel_rfl) (by simp) (AllReadyH.cons rfl (fun K hK => ?_) AllReadyH.nil)
              refine step_append_lies _ rfl (.tmp 99) (.tmp 114) 23 rfl (wb.heap.size + 1) 4 l0 (.bool false) 1 1 Try.underlying23 hl0 hv0 hv1 hv2 rfl (by decide) vE i _ (by simp [Act.eval]) (World.ownsRow.alloc (w := w5.drew) HOWN.out _) ⟨w5.heap.size, 0, none⟩ 1 1 [.bool ev] (by simp [Act.eval]) rfl (one_new_at _ _ _ _ (by simp)) (fun u hu => by simp at hu; subst hu; rfl) (by omega) (by unfold maxLen; omega) (by omega) (by have := HSZ.out; simp; omega) (w5.heap.size + 1) (by simp) ?_
              intro g5 cg5 w6 hown5 hgrow5 hat5 hlt5
              obtain ⟨⟨hm1, hm2⟩, hm3, hm4⟩ := HNX.out w6 _ g5 cg5 hown5 ⟨hgrow5.os, hgrow5.tape, hgrow5.output, hgrow5.size, hgrow5.block⟩ hat5
              have HM3 := hide hm3
              have HM4 := hide hm4
              have HS6 := hide (HSS.out w6 (fun z hz => by rw [← hm4 z (hz.elim .inr (fun e => .inl (by simp [e])))]; exact (Below.heap_setCell _ _ _ _ (by have h1 := HMB.out; show z ≠ wb.heap.size; omega)).symm))
              have HS7 := hide (HSS.out _ (fun z hz => hm4 z (hz.elim .inr (fun e => .inl (by simp [e])))))
              clear hm3 hm4 hown5 hgrow5 hat5 hlt5
              refine hK.out _ _ HS6.out (fun _ => ?_)
              clear hK K
              simp only [List.getElem_toArray, List.getElem_cons_zero, List.getElem_cons_succ, Act.put, List.setIfInBounds_toArray, List.set_cons_zero, List.set_cons_succ]
              refine wpAnyH_take (i := 18) (v := .pointer (some ⟨wb.heap.size, 3, none⟩)) rfl (by kernel_rfl) (by kernel_rfl) (by kernel_rfl) (fun _ _ _ h => h) (Or.inl ⟨by rfl, fun W hSW => ?_⟩) HS6.out ?_
              · obtain ⟨r1, r2, r3, r4, r5, r6⟩ := hSW; go_simp
              simp only [List.getElem_toArray, List.getElem_cons_zero, List.getElem_cons_succ, Act.put, List.setIfInBounds_toArray, List.set_cons_zero, List.set_cons_succ]
              refine wpAnyH_ready (rs := [19]) (by kernel_rfl) (by simp) (AllReadyH.cons rfl (fun K hK => ?_) AllReadyH.nil)
              go_simp
              refine hK.out _ _ HS7.out (fun _ => ?_)
              clear hK K
              refine wpAnyH_done (by kernel_rfl) ?_ _
              go_wp2
              go_roundg (n * n2 + 1 - (i + 1))
              case rel => exact ⟨i + 1, rfl, by go_num, coAt_next HQl.out HMl.out HM3.out ⟨by simp, by simp⟩ (fun z hz => (HM4.out z (.inl hz)).trans (HN4.out z (.inl hz))) HREND.out HBMX.out HILN.out⟩
              case measure => have h1 := HGI.out; omega
    · have hlti : ¬ ((i : Int) < ((outs P i).length : Int)) := by omega
      have hle : (outs P i).length = i := by omega
      have hmeq : outs P i = metL P := outs_end HP.out i (by omega) (by omega)
      have hcl : (coupN P).length = i := by rw [coup_len HP.out, ← hmeq]; exact hle
      have hcl' : (coupE P Q).length = i := by rw [coupE_len HP.out, ← hmeq]; exact hle
      have HEND := hide (outX_end HO.out (by unfold maxLen; omega) (coupN P) hcl (fun _ _ => rfl) (coupE P Q) hcl' (fun _ _ => rfl))
      rw [← hcl] at HEND
      obtain ⟨ax, cx, ax', cx', hbox, hbE, hsN⟩ := HEND.out
      have HSN := hide hsN
      obtain ⟨-, hold⟩ := HBX.out wr hbE
      have HHOLD := hide hold
      have HBE := hide (below_step HB0.out hbE)
      obtain ⟨⟨hx0, hx1, hx2, hx3⟩, -⟩ := box_cells hbox
      obtain ⟨⟨o0, o1, o2, o3⟩, of⟩ := box_cells hold
      clear hbox hsN hbE HEND hold hmeq hcl hcl' HO HQ HMP
      go_wp2
      obtain ⟨⟨hset, hsz, hoth⟩, hbel⟩ := box_set (v0 := .int .i64 b) (v1 := .int .i64 t) (v2 := .slice ax (coupN P).length cx) (v3 := .slice ax' (coupN P).length cx') HHOLD.out rfl
      have hfin : AutoNew w ax (coupN P).length (coupN P) ax' (coupE P Q) ((((wr.setCell ⟨w.heap.size + 2, 0, none⟩ (.int .i64 b)).setCell ⟨w.heap.size + 2, 1, none⟩ (.int .i64 t)).setCell ⟨w.heap.size + 2, 2, none⟩ (.slice ax (coupN P).length cx)).setCell ⟨w.heap.size + 2, 3, none⟩ (.slice ax' (coupN P).length cx')) := fun W' hW' => HSN.out W' (fun x hx hxl => by
        have h2 := HSZ0.out
        rw [hW' x (by omega) (by rw [hsz]; exact hxl), hoth x (by omega)])
      have hb := hbel w w.heap.size HBE.out (by omega)
      obtain ⟨⟨z0, z1, z2, z3⟩, -⟩ := box_cells hset
      exact bodyPost_ret (v := .agg #[.int .i64 b, .int .i64 t, .slice ax (coupN P).length cx, .slice ax' (coupN P).length cx']) (by simp [results, Try.results18, go_sem, z0, z1, z2, z3]) rfl ⟨ax, cx, ax', cx', rfl, hfin, hb⟩
end Go.Proofs.Ytebbjmcjgjecmaa
