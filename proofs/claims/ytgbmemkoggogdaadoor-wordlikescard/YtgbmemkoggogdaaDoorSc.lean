/- word.meet, whatever closure is handed in: contract. -/
import Derived.Deep.DeepCutAuto
import Derived.Deep.RegionLaw
import Derived.Test.YtgbmemkoggogdaaDoorZDg
import Derived.Test.YtgbmemkoggogdaaDoorZCf
import Derived.Test.YtgbmemkoggogdaaDoorZHh
import Derived.Test.YtgbmemkoggogdaaDoorZMp
import Derived.Test.YtgbmemkoggogdaaDoorZPe
namespace Go.Proofs.YtgbmemkoggogdaaDoor
open Go.RowKit

def MeetR (w : World) (L : List Nat) (N : List (List Int)) (e : Ending) (w' : World) : Prop :=
  ∃ g cq aN cN, e = .returned (.tuple #[.slice (some ⟨g, 0, none⟩) L.length cq, .slice aN N.length cN]) ∧ MetNew w g cq L aN N.length N w' ∧ Below w.heap.size w w'
set_option maxHeartbeats 16000000 in
set_option maxRecDepth 20000 in
theorem meet_any (f : FuncId) (cs : Array Value) (m f0 : Nat) (d : Nat → Nat → Nat) (w : World) (h0 : f0 < 4096) (h1 : 1 ≤ m) (h36 : m ≤ 36)
    (hen : ∀ (args : Array Value) (W : World), (callFunc f args).run Tryd.prog W = .ok (.enter f args) W)
    (hlt : ∀ i, ∀ x ∈ outG d m f0 i, x < 4096)
    (hF : ∀ (W : World) (s l i : Nat), Below w.heap.size w W → s ∈ outG d m f0 i → l < m → Calls Tryd.prog f (#[spU s, .int .i64 (l : Int)] ++ cs) W (fun e W' => e = .returned (spU (d s l)) ∧ Below W.heap.size W W')) :
    Calls Tryd.prog 37 #[spU f0, .int .i64 (m : Int), .func (.func f) #[] cs] w (MeetR w (outG d m f0 spotM) (gN d m (outG d m f0 spotM))) := by
  obtain ⟨B, hB⟩ : ∃ B : Nat, B = spotM := ⟨_, rfl⟩
  rw [← hB]
  rw [spotM_eq] at hB
  have HBE := hide hB
  rw [← hB] at hlt
  have HFEW : Hid (∀ i, (outG d m f0 i).length ≤ B) := fun i => by
    have := nodup_sub (K := List.range B) (outG_nodup d m f0 i) (fun x hx => List.mem_range.2 (hlt i x hx))
    rwa [List.length_range] at this
  have HLT : Hid (∀ i, ∀ x ∈ outG d m f0 i, x < 4096) := fun i x hx => by have := hlt i x hx; omega
  have HSTAY : Hid (∀ i, (outG d m f0 i).length ≤ i → i ≤ B → outG d m f0 B = outG d m f0 i) := fun i h hi => by
    have := outG_stay h (B - i)
    rwa [show i + (B - i) = B by omega] at this
  have hBle : B ≤ 4096 := by omega
  clear hB
  have HF := hide hF
  have HEN := hide hen
  have HO0 : Hid (outG d m f0 0 = [f0]) := rfl
  have hkey := spU_key (n := f0) (by omega)
  clear hF hen hlt
  have hmk := make_ints m (by omega)
  have hmm := @run_makeMap Tryd.prog
  obtain ⟨kl0, hkl0⟩ := hkey
  have HXC := hide (heap_alloc_last w (.cells #[.int .i64 (spA f0), .int .i64 (spB f0)] 81))
  have HBC := hide ((Below.refl w.heap.size w).alloc (Nat.le_refl _) (.cells #[.int .i64 (spA f0), .int .i64 (spB f0)] 81))
  generalize hwv : w.alloc (.cells #[.int .i64 (spA f0), .int .i64 (spB f0)] 81) = w1 at HXC HBC
  have hm0 := mapAt_made w1 Tryd.prog 81
  obtain ⟨wp, hins, hmp, htn⟩ := hm0.put spt_law Tryd.underlying105 (val := .int .i64 0) (by decide) hkl0 (by simp)
  have HST := hide (fun rows => @mtI_start w wp f0 rows w1 HBC.out hmp htn)
  have hxw : (w1.alloc (.map #[] 0)).heap[w.heap.size]? = some (.cells #[.int .i64 (spA f0), .int .i64 (spB f0)] 81 (0, 0)) := (Below.heap_alloc _ _ _ (Array.getElem?_eq_some_iff.1 HXC.out).1).trans HXC.out
  have hxp : wp.heap[w.heap.size]? = some (.cells #[.int .i64 (spA f0), .int .i64 (spB f0)] 81 (0, 0)) := (htn.grown.block w.heap.size (Nat.lt_trans (Array.getElem?_eq_some_iff.1 HXC.out).1 (by simp)) (fun e => by have h1 := Option.some.inj e; have h2 := (Array.getElem?_eq_some_iff.1 HXC.out).1; omega)).trans hxw
  obtain ⟨⟨q0, q1⟩, -⟩ := box2_cells hxw
  obtain ⟨⟨r0, r1⟩, -⟩ := box2_cells hxp
  have hls := (Array.getElem?_eq_some_iff.1 HXC.out).1
  clear hmp htn hm0 hxw hxp
  unfold spU at hins ⊢
  go_enter Tryd.func37, Tryd.ntmps37
  go_wp2
  clear q0 q1 r0 r1 hins hkl0 hwv hls
  obtain ⟨RW, hRW⟩ : ∃ RW, RW = foundR d m f0 := ⟨_, rfl⟩
  obtain ⟨col0, hsp0⟩ := HST.out RW
  have HSP0 := hide hsp0
  have HRW : Hid (foundR d m f0 = RW) := hRW.symm
  clear hRW HST hsp0 HBC HXC
  generalize hmbq : w1.heap.size = mb at HSP0 ⊢
  clear hmbq
  generalize hw0 : wp.alloc (.cells #[.int .i64 (spA f0), .int .i64 (spB f0)] 81) = w0 at HSP0 ⊢
  clear hw0
  go_loopg [9, 10] (B + 1) (fun g v vN wx => ∃ (i bq cq : Nat) (col : Nat → Nat) (vals : List Value), g = B + 1 - i ∧ v = .slice (some ⟨bq, 0, none⟩) (outG d m f0 i).length cq ∧ i ≤ (outG d m f0 i).length ∧ MtI w RW col (outG d m f0 i) i mb bq cq vN vals wx)
  case atStart => exact ⟨0, wp.heap.size, 1, col0, [], rfl, rfl, Nat.zero_le _, HSP0.out⟩
  case round =>
    obtain ⟨i, bq, cq, col, vals, hgi, rfl, hil, hsp⟩ := hrel
    have HGI := hide hgi
    have HSP := hide hsp
    have hlenB := HFEW.out i
    obtain ⟨aN, cN, hvN⟩ := owns_sl hsp.nx.own
    rw [hsp.rw_.1] at hvN
    subst hvN
    clear hgi hsp HSP0
    by_cases hlt : i < (outG d m f0 i).length
    · have hlti : (i : Int) < ((outG d m f0 i).length : Int) := by omega
      obtain ⟨c0, c1⟩ := queW_at HSP.out.que i hlt
      have HSUC := hide (outG_nextH hlt)
      have HIDX := hide (fun l hl => found_idx (d := d) (m := m) (f := f0) (i := i) (l := l) hlt hl)
      have HRWG : Hid (∀ l, l < m → (RW i).getD l 0 = (((outG d m f0 (i + 1)).idxOf (d ((outG d m f0 i).getD i 0) l) : Nat) : Int)) := fun l hl => by
        rw [← HRW.out]; exact foundR_get hl
      have HRWL : Hid ((RW i).length = m) := by show _ = _; rw [← HRW.out]; exact foundR_len _ _ _ _
      have HRWW : Hid (∀ x ∈ RW i, (Lit.int .i64 x).wf = true) := fun x hx => by
        rw [← HRW.out] at hx
        obtain ⟨l, hl, rfl⟩ := List.mem_map.1 hx
        have h2 := HFEW.out (i + 1)
        have h3 := List.idxOf_le_length (a := d ((outG d m f0 i).getD i 0) l) (l := outG d m f0 (i + 1))
        exact WalkArith.wf_i64 (by omega)
      have HMI : Hid ((outG d m f0 i).getD i 0 ∈ outG d m f0 i) := getN_mem hlt
      have HPG : Hid (∀ l, l ≤ m → i < (rowG d (outG d m f0 i) ((outG d m f0 i).getD i 0) l).length ∧ (rowG d (outG d m f0 i) ((outG d m f0 i).getD i 0) l).length ≤ B + 36) := fun l hl => by
        have h1 := rowG_from d (outG d m f0 i) ((outG d m f0 i).getD i 0) l
        exact ⟨Nat.lt_of_lt_of_le hlt h1.length_le, by have := rowG_lenH d (outG d m f0 i) ((outG d m f0 i).getD i 0) l; omega⟩
      have HDL : Hid (∀ l, l < m → d ((outG d m f0 i).getD i 0) l < 4096) := fun l hl => HLT.out (i + 1) _ (by rw [outG_nextH hlt]; exact rowG_mem.2 (.inr ⟨l, hl, rfl⟩))
      have HRS := hide (fun l => rowG_succ d (outG d m f0 i) ((outG d m f0 i).getD i 0) l)
      obtain ⟨colx, hsx⟩ := mtX_start (RW i) ((outG d m f0 i).getD i 0) m HSP.out
      have HSX := hide hsx
      clear hsx HSP
      obtain ⟨OI, hOI⟩ : ∃ OI, OI = outG d m f0 i := ⟨_, rfl⟩
      rw [← hOI] at c0 c1 HSUC HIDX HRWG HMI HPG HDL HRS HSX hlt hlti hil hlenB ⊢
      have HOI := hide hOI
      clear hOI
      obtain ⟨sI, hsI⟩ : ∃ sI, sI = OI.getD i 0 := ⟨_, rfl⟩
      rw [← hsI] at c0 c1 HSUC HIDX HRWG HMI HPG HDL HRS HSX
      have HSI := hide hsI
      clear hsI
      have HR0 : Hid (rowG d OI sI 0 = OI) := rfl
      go_wp2
      clear c0 c1
      obtain ⟨wq, hwq⟩ : ∃ wq : World, wq = wr := ⟨_, rfl⟩
      rw [← hwq] at HSX ⊢
      clear hwq wr
      generalize hwz : (wq.alloc (.cells #[.int .i64 (spA sI), .int .i64 (spB sI)] 81)).alloc (.cells (madeCells #[.int .i64 0] m) 3) = wz at HSX ⊢
      clear hwz
      go_loopw [9, 35] (fun v u wx => ∃ (l bq' cq' : Nat) (col' : Nat → Nat), l ≤ m ∧ u = .int .i64 l ∧ v = .slice (some ⟨bq', 0, none⟩) (rowG d OI sI l).length cq' ∧ MtX w RW col' (rowG d OI sI l) i mb bq' cq' (.slice aN i cN) vals wq.heap.size sI m (wq.heap.size + 1) (RW i) l wx) (fun _ u _ => m - (intOf u).toNat)
      case atStart => exact ⟨0, bq, cq, colx, by omega, rfl, by rw [HR0.out], by rw [HR0.out]; exact HSX.out⟩
      case round =>
        obtain ⟨l, bq', cq', col', hl, rfl, rfl, hx⟩ := hrel
        have HX := hide hx
        obtain ⟨⟨a0, a1⟩, -⟩ := box2_cells hx.at_
        have hpg := HPG.out l hl
        clear hx HSX
        by_cases hlm : l < m
        · have hlmi : (l : Int) < (m : Int) := by omega
          have HC1 := hide (HF.out wr sI l i HX.out.sp.bel (by rw [← HOI.out]; exact HMI.out) hlm)
          have HRSl := hide (HRS.out l)
          have HIDl := hide (HIDX.out l hlm)
          have HRWl := hide (HRWG.out l hlm)
          have hM2 := HDL.out l hlm
          obtain ⟨kl, hkl⟩ := spU_key hM2
          have HKL := hide hkl
          clear hkl hM2
          obtain ⟨M2, hM2⟩ : ∃ M2, M2 = d sI l := ⟨_, rfl⟩
          rw [← hM2] at HC1 HRSl HIDl HRWl HKL
          clear hM2
          have he := HEN.out
          unfold spU at HC1 HKL
          go_wp2_with fail
          clear he a0 a1
          refine HC1.out.mono ?_
          rintro e w2 ⟨rfl, hb2⟩
          have hb3 := hb2.alloc hb2.size (.cells #[.int .i64 (spA M2), .int .i64 (spB M2)] 81)
          have HXP := hide (heap_alloc_last w2 (.cells #[.int .i64 (spA M2), .int .i64 (spB M2)] 81))
          have HXW := hide (mtX_below HX.out hb3)
          clear hb2 hb3 HC1 HX
          obtain ⟨⟨x0, x1⟩, -⟩ := box2_cells HXP.out
          by_cases hin : M2 ∈ rowG d OI sI l
          · have HMEM := hide (numW_mem hin)
            have HAD : Hid (rowG d OI sI (l + 1) = rowG d OI sI l) := by show _ = _; rw [HRSl.out]; exact addG_old hin
            have HNUM : Hid ((((rowG d OI sI l).idxOf M2 : Nat) : Int) = (RW i).getD l 0) := by
              show _ = _
              rw [HRWl.out, ← HIDl.out, addG_old hin]
            rw [HNUM.out] at HMEM
            obtain ⟨hcz, hfz⟩ := mtX_cell HXW.out hlm
            have HMW := hide HXW.out.sp.map
            have HSET := hide (fun z hz => @mtX_set _ _ _ _ _ _ _ _ _ _ _ _ _ _ _ _ _ z HXW.out hz)
            obtain ⟨z, hz⟩ : ∃ z, z = (RW i).getD l 0 := ⟨_, rfl⟩
            rw [← hz] at HMEM
            have HZ := hide hz.symm
            clear hin hz HNUM
            unfold spU at HMEM
            go_wp2_with (at_lookup; refine wpList_look_yes _ rfl _ _ 105 rfl 81 3 spt_law Tryd.underlying105 (zeroI_any _) mb _ rfl HMW.out _ _ rfl HKL.out _ HMEM.out ?_)
            have HFIN := hide (HSET.out z HZ.out)
            go_roundw
            case rel => exact ⟨l + 1, bq', cq', _, by omega, by go_num, by rw [HAD.out], by rw [HAD.out]; exact HFIN.out⟩
            case measure => simp [intOf]; omega
          · have HNM := hide (numW_not hin)
            have HAD : Hid (rowG d OI sI (l + 1) = rowG d OI sI l ++ [M2]) := by show _ = _; rw [HRSl.out]; exact addG_new hin
            have HNUM : Hid (((rowG d OI sI l).length : Int) = (RW i).getD l 0) := by
              show _ = _
              rw [HRWl.out, ← HIDl.out, addG_new hin]
              have : (rowG d OI sI l ++ [M2]).idxOf M2 = (rowG d OI sI l).length := by rw [List.idxOf_append, if_neg hin]; simp
              rw [this]
            have HNEW := hide (fun w5 w6 o b' cap' k1 k2 k3 k4 k5 => @mtX_new w RW _ (rowG d OI sI l) i mb bq' cq' _ vals _ sI m _ (RW i) l _ M2 w5 w6 o b' cap' HXW.out k1 k2 k3 k4 k5)
            have HMW := hide HXW.out.sp.map
            have HPL := hide (Array.getElem?_eq_some_iff.1 HXP.out).1
            have HPM : Hid (w2.heap.size ≠ mb) := fun e => by
              obtain ⟨es, clock, h⟩ := HMW.out.isMap
              rw [← e, HXP.out] at h
              cases h
            have HQM : Hid (mb ≠ bq') := fun e => by have := HXW.out.sp.mcl; rw [e, HXW.out.sp.qcl] at this; omega
            have HQX := hide (fun W h => queW_kept (W' := W) HXW.out.sp.que h)
            have HBQL := hide (queW_lt HXW.out.sp.que)
            clear hin
            unfold spU at HNM HNEW
            go_wp2_with (first
              | (at_lookup; refine wpList_look_no _ rfl _ _ 105 rfl 81 3 spt_law Tryd.underlying105 (zeroI_any _) mb _ rfl HMW.out _ _ rfl HKL.out HNM.out ?_)
              | (at_mapUpdate; refine wpList_put_at _ rfl _ _ _ 105 rfl 81 3 spt_law Tryd.underlying105 mb _ rfl HMW.out (by rw [numW_len]; unfold maxLen; omega) (Value.agg #[.int .i64 (spA M2), .int .i64 (spB M2)]) (.int .i64 ((rowG d OI sI l).length : Int)) _ rfl rfl HKL.out HNM.out ?_; intro w5 hmp htn; have HMP5 := hide hmp; have HTN5 := hide htn; have hxp5 := (htn.grown.block w2.heap.size HPL.out (fun e => HPM.out (by cases e; rfl))).trans HXP.out; obtain ⟨⟨y0, y1⟩, -⟩ := box2_cells hxp5; clear hmp htn hxp5)
              | (at_builtin; refine wpList_append_queW _ rfl _ _ rfl bq' (rowG d OI sI l).length cq' (rowG d OI sI l) rfl (HQX.out _ ((Below.heap_alloc _ _ _ (Nat.lt_of_lt_of_le HBQL.out HTN5.out.grown.size)).trans (HTN5.out.grown.block bq' HBQL.out (fun e => HQM.out (by cases e; rfl))))) ⟨w5.heap.size, 0, none⟩ M2 (spA M2) (spB M2) rfl rfl rfl (two_new _ _ _ _) (by omega) ?_; intro b6 cap6 w6 hq6 hg6 hb6; have HX6 := hide (HNEW.out w5 w6 _ b6 cap6 HMP5.out HTN5.out hq6 hg6 hb6); obtain ⟨hcz, hfz⟩ := mtX_cell HX6.out hlm; clear hq6 hg6 hb6))
            have HFIN := hide (mtX_set HX6.out HNUM.out.symm)
            go_roundw
            case rel => exact ⟨l + 1, b6, cap6, _, by omega, by go_num, by rw [HAD.out, List.length_append, List.length_singleton], by rw [HAD.out]; exact HFIN.out⟩
            case measure => simp [intOf]; omega
        · have hlmi : ¬ (l : Int) < (m : Int) := by omega
          obtain rfl : l = m := by omega
          clear a0 a1
          rw [← HSUC.out] at HX hpg ⊢
          obtain ⟨OS, hOS⟩ : ∃ OS, OS = outG d l f0 (i + 1) := ⟨_, rfl⟩
          rw [← hOS] at HX hpg ⊢
          have HOS : Hid (outG d l f0 (i + 1) = OS) := hOS.symm
          clear hOS
          have HOWN : Hid (wr.ownsRow w.heap.size 23 1 (.slice aN i cN) i vals) := by have h := HX.out.sp.nx.own; rw [HX.out.sp.rw_.1] at h; exact h
          have HLB : Hid (w.heap.size ≤ wr.heap.size) := HX.out.sp.bel.size
          have HNN := hide (fun w3 o g' cap' k1 k2 k3 => @mtX_N w RW col' OS i mb bq' cq' _ vals _ sI l _ wr w3 o g' cap' HX.out HRWL.out (by unfold maxLen; omega) HRWW.out k1 k2 k3)
          obtain ⟨j0, hj0, hy0, hy1, hy2⟩ := info_parts infoS2
          go_wp2_with (at_builtin; refine wpList_append_lies _ rfl _ _ 22 rfl w.heap.size 23 j0 (.slice none 0 0) 1 24 Tryd.underlying22 hj0 hy0 hy1 hy2 rfl (by decide) (.slice aN i cN) i vals rfl (HOWN.out.alloc _) ⟨wr.heap.size, 0, none⟩ 1 1 [.slice (some ⟨wq.heap.size + 1, 0, none⟩) l l] rfl rfl (one_new _ _ _) (fun u hu => by simp at hu; subst hu; rfl) (by omega) (by unfold maxLen; omega) (by omega) (by have := HLB.out; simp; omega) (wr.heap.size + 1) (by simp) ?_; intro g' cg w5 hown5 hgrow5 hat5 hlt5; have HI5 := hide (HNN.out w5 _ g' cg hown5 hgrow5 (by simpa using hat5)); clear hown5 hgrow5 hat5 hlt5)
          go_roundg (B + 1 - (i + 1))
          case measure => have := HGI.out; omega
          case rel => exact ⟨i + 1, bq', cq', _, _, rfl, by rw [HOS.out], by rw [HOS.out]; omega, by rw [HOS.out]; exact HI5.out⟩
    · have hlti : ¬ (i : Int) < ((outG d m f0 i).length : Int) := by omega
      have HEQ : Hid ((outG d m f0 i).length = i) := by show _ = _; omega
      have HOB := hide (HSTAY.out i (Nat.le_of_eq HEQ.out) (by omega))
      have HFI := hide (mtI_end HSP.out (by unfold maxLen; omega) (gN d m (outG d m f0 i)) (by rw [gN_len]; exact HEQ.out) (fun j hj => by rw [← HRW.out]; exact found_end (Nat.le_of_eq HEQ.out) hil j hj))
      go_wp2
      go_ret2
      refine ⟨bq, cq, aN, cN, ?_, ?_, HSP.out.bel⟩
      · rw [HOB.out, gN_len, HEQ.out]; rfl
      · rw [HOB.out, gN_len, HEQ.out]; exact HFI.out
end Go.Proofs.YtgbmemkoggogdaaDoor
