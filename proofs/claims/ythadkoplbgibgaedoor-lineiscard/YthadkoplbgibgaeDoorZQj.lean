/- 2 texts in one. -/
import Derived.Deep.DeepCutAuto
import Derived.Deep.RegionLaw
import Derived.Shelf.Abstract
import Derived.Test.YthadkoplbgibgaeDoorZMp
import Derived.Test.YthadkoplbgibgaeDoorZKm
import Derived.Test.YthadkoplbgibgaeDoorQi
import Derived.Test.YthadkoplbgibgaeDoorZLp
import Derived.Test.YthadkoplbgibgaeDoorBy
import Derived.Test.YthadkoplbgibgaeDoorZCf
/- line.spread, whatever closures are handed in: contract. -/
namespace Go.Proofs.YthadkoplbgibgaeDoor
open Go.RowKit

def SpreadR (w : World) (N : List (List Int)) (E : List Bool) (e : Ending) (w' : World) : Prop :=
  ∃ aN cN aE cE, e = .returned (.tuple #[.slice aN N.length cN, .slice aE N.length cE]) ∧ AutoNew w aN N.length N aE E w' ∧ Below w.heap.size w w'
set_option maxHeartbeats 16000000 in
set_option maxRecDepth 20000 in
theorem lnSpread_any (f fe : FuncId) (cs : Array Value) (wv : Value) (m f0 B : Nat) (d : Nat → Nat → Nat) (p : Nat → Bool) (w : World) (hf0 : f0 = 1506816) (h1 : 1 ≤ m) (h36 : m ≤ 36) (hB : B ≤ 3013824)
    (hen : ∀ (args : Array Value) (W : World), (callFunc f args).run Tryd.prog W = .ok (.enter f args) W) (hen2 : ∀ (args : Array Value) (W : World), (callFunc fe args).run Tryd.prog W = .ok (.enter fe args) W)
    (hlt : ∀ i, ∀ x ∈ outG d m f0 i, x < B)
    (hF : ∀ (W : World) (s l i : Nat), Below w.heap.size w W → s ∈ outG d m f0 i → l < m → Calls Tryd.prog f (#[ptU s, .int .i64 (l : Int)] ++ cs) W (fun e W' => e = .returned (ptU (d s l)) ∧ Below W.heap.size W W'))
    (hE : ∀ (W : World) (s : Nat), Calls Tryd.prog fe #[wv, ptU s] W (fun e W' => e = .returned (.bool (p s)) ∧ Below W.heap.size W W')) :
    Calls Tryd.prog 36 #[.int .i64 (m : Int), .func (.func f) #[] cs, .func (.func fe) #[wv] #[]] w (SpreadR w (gN d m (outG d m f0 B)) (gE p (outG d m f0 B))) := by
  have HFEW : Hid (∀ i, (outG d m f0 i).length ≤ B) := fun i => by
    have := nodup_sub (K := List.range B) (outG_nodup d m f0 i) (fun x hx => List.mem_range.2 (hlt i x hx))
    rwa [List.length_range] at this
  have HLT : Hid (∀ i, ∀ x ∈ outG d m f0 i, x < 3013824) := fun i x hx => Nat.lt_of_lt_of_le (hlt i x hx) hB
  have HSTAY : Hid (∀ i, (outG d m f0 i).length ≤ i → i ≤ B → outG d m f0 B = outG d m f0 i) := fun i h hi => by
    have := outG_stay h (B - i)
    rwa [show i + (B - i) = B by omega] at this
  have HF := hide hF
  have HEF := hide hE
  have HEN := hide hen
  have HEN2 := hide hen2
  have HO0 : Hid (outG d m f0 0 = [f0]) := rfl
  have hkey := ptU_key (n := f0) (by omega)
  have hU0 : unpt f0 = ⟨0, 0, 0, 0⟩ := by rw [hf0]; exact lp_start.1
  have HU0 := hide hU0
  have HPU0 : Hid (ptU f0 = .agg #[.int .i64 0, .int .i64 0, .int .i64 0, .int .i64 0]) := by show _ = _; unfold ptU; rw [hU0]
  clear hF hE hen hen2 hlt hf0 hU0
  have hmk := make_ints m (by omega)
  have hmm := @run_makeMap Tryd.prog
  obtain ⟨kl0, hkl0⟩ := hkey
  have HXC := hide (heap_alloc_last w (.cells #[.int .i64 0, .int .i64 0, .int .i64 0, .int .i64 0] 92))
  have HBC := hide ((Below.refl w.heap.size w).alloc (Nat.le_refl _) (.cells #[.int .i64 0, .int .i64 0, .int .i64 0, .int .i64 0] 92))
  generalize hwv : w.alloc (.cells #[.int .i64 0, .int .i64 0, .int .i64 0, .int .i64 0] 92) = w1 at HXC HBC
  have hm0 := mapAt_made w1 Tryd.prog 92
  obtain ⟨wp, hins, hmp, htn⟩ := hm0.put ptP_law Tryd.underlying95 (val := .int .i64 0) (by decide) hkl0 (by simp)
  have HST := hide (fun rows es => @spI_start w wp f0 rows es w1 HBC.out hmp htn)
  have hxw : (w1.alloc (.map #[] 0)).heap[w.heap.size]? = some (.cells #[.int .i64 0, .int .i64 0, .int .i64 0, .int .i64 0] 92 (0, 0)) := (Below.heap_alloc _ _ _ (Array.getElem?_eq_some_iff.1 HXC.out).1).trans HXC.out
  have hxp : wp.heap[w.heap.size]? = some (.cells #[.int .i64 0, .int .i64 0, .int .i64 0, .int .i64 0] 92 (0, 0)) := (htn.grown.block w.heap.size (Nat.lt_trans (Array.getElem?_eq_some_iff.1 HXC.out).1 (by simp)) (fun e => by have h1 := Option.some.inj e; have h2 := (Array.getElem?_eq_some_iff.1 HXC.out).1; omega)).trans hxw
  obtain ⟨⟨q0, q1, q2, q3⟩, -⟩ := box_cells hxw
  obtain ⟨⟨r0, r1, r2, r3⟩, -⟩ := box_cells hxp
  rw [HPU0.out] at hins
  have hls := (Array.getElem?_eq_some_iff.1 HXC.out).1
  rw [HU0.out] at HST
  clear hmp htn hm0 hxw hxp
  go_enter Tryd.func36, Tryd.ntmps36
  go_wp2
  clear q0 q1 q2 q3 r0 r1 r2 r3 hins hkl0 hwv hls
  obtain ⟨RW, hRW⟩ : ∃ RW, RW = foundR d m f0 := ⟨_, rfl⟩
  obtain ⟨ES, hES⟩ : ∃ ES, ES = fun j => p ((outG d m f0 j).getD j 0) := ⟨_, rfl⟩
  obtain ⟨col0, hsp0⟩ := HST.out RW ES
  have HSP0 := hide hsp0
  have HRW : Hid (foundR d m f0 = RW) := hRW.symm
  have HES : Hid ((fun j => p ((outG d m f0 j).getD j 0)) = ES) := hES.symm
  clear hRW hES HST hsp0 HBC HXC HU0 HPU0
  generalize hmbq : w1.heap.size = mb at HSP0 ⊢
  clear hmbq
  generalize hw0 : wp.alloc (.cells #[.int .i64 0, .int .i64 0, .int .i64 0, .int .i64 0] 92) = w0 at HSP0 ⊢
  clear hw0
  go_loopg [10, 11, 12] (B + 1) (fun g v vN vE wx => ∃ (i bq cq : Nat) (col : Nat → Nat) (vals : List Value), g = B + 1 - i ∧ v = .slice (some ⟨bq, 0, none⟩) (outG d m f0 i).length cq ∧ i ≤ (outG d m f0 i).length ∧ SpI w RW ES col (outG d m f0 i) i i mb bq cq vN vE vals wx)
  case atStart => exact ⟨0, wp.heap.size, 1, col0, [], rfl, rfl, Nat.zero_le _, HSP0.out⟩
  case round =>
    obtain ⟨i, bq, cq, col, vals, hgi, rfl, hil, hsp⟩ := hrel
    have HGI := hide hgi
    have HSP := hide hsp
    have hlenB := HFEW.out i
    obtain ⟨aN, cN, hvN⟩ := owns_sl hsp.nx.own
    obtain ⟨aE, cE, hvE⟩ := owns_sl hsp.en.own
    rw [hsp.rw_.1] at hvN
    simp only [List.length_map, List.length_range] at hvE
    subst hvN
    subst hvE
    clear hgi hsp HSP0
    by_cases hlt : i < (outG d m f0 i).length
    · have hlti : (i : Int) < ((outG d m f0 i).length : Int) := by omega
      obtain ⟨c0, c1, c2, c3⟩ := queP_at HSP.out.que i hlt
      have HSUC := hide (outG_nextH hlt)
      have HIDX := hide (fun l hl => found_idx (d := d) (m := m) (f := f0) (i := i) (l := l) hlt hl)
      have HRWG : Hid (∀ l, l < m → (RW i).getD l 0 = (((outG d m f0 (i + 1)).idxOf (d ((outG d m f0 i).getD i 0) l) : Nat) : Int)) := fun l hl => by
        rw [← HRW.out]; exact foundR_get hl
      have HRWL : Hid ((RW i).length = m) := by show _ = _; rw [← HRW.out]; exact foundR_len _ _ _ _
      have HRWW : Hid (∀ x ∈ RW i, (Lit.int .i64 x).wf = true) := fun x hx => by
        rw [← HRW.out] at hx
        obtain ⟨l, hl, rfl⟩ := List.mem_map.1 hx
        have h2 := HFEW.out (i + 1)
        have h3 := List.idxOf_le_length (a := d ((outG d m f0 i).getD i 0) l) (l := outG d m f0 (i + 1))
        exact WalkArith.wf_i64 (by omega)
      have HMI : Hid ((outG d m f0 i).getD i 0 ∈ outG d m f0 i) := getN_mem hlt
      have HPG : Hid (∀ l, l ≤ m → i < (rowG d (outG d m f0 i) ((outG d m f0 i).getD i 0) l).length ∧ (rowG d (outG d m f0 i) ((outG d m f0 i).getD i 0) l).length ≤ B + 36) := fun l hl => by
        have h1 := rowG_from d (outG d m f0 i) ((outG d m f0 i).getD i 0) l
        exact ⟨Nat.lt_of_lt_of_le hlt h1.length_le, by have := rowG_lenH d (outG d m f0 i) ((outG d m f0 i).getD i 0) l; omega⟩
      have HDL : Hid (∀ l, l < m → d ((outG d m f0 i).getD i 0) l < 3013824) := fun l hl => HLT.out (i + 1) _ (by rw [outG_nextH hlt]; exact rowG_mem.2 (.inr ⟨l, hl, rfl⟩))
      have HRS := hide (fun l => rowG_succ d (outG d m f0 i) ((outG d m f0 i).getD i 0) l)
      obtain ⟨colx, hsx⟩ := spX_start (RW i) ((outG d m f0 i).getD i 0) m HSP.out
      have HSX := hide hsx
      clear hsx HSP
      obtain ⟨OI, hOI⟩ : ∃ OI, OI = outG d m f0 i := ⟨_, rfl⟩
      rw [← hOI] at c0 c1 c2 c3 HSUC HIDX HRWG HMI HPG HDL HRS HSX hlt hlti hil hlenB ⊢
      have HOI := hide hOI
      clear hOI
      obtain ⟨sI, hsI⟩ : ∃ sI, sI = OI.getD i 0 := ⟨_, rfl⟩
      rw [← hsI] at c0 c1 c2 c3 HSUC HIDX HRWG HMI HPG HDL HRS HSX
      have HSI := hide hsI
      clear hsI
      have HR0 : Hid (rowG d OI sI 0 = OI) := rfl
      go_wp2
      clear c0 c1 c2 c3
      obtain ⟨wq, hwq⟩ : ∃ wq : World, wq = wr := ⟨_, rfl⟩
      rw [← hwq] at HSX ⊢
      clear hwq wr
      generalize hwz : (wq.alloc (.cells #[.int .i64 (unpt sI).f, .int .i64 (unpt sI).s, .int .i64 (unpt sI).y, .int .i64 (unpt sI).l] 92)).alloc (.cells (madeCells #[.int .i64 0] m) 3) = wz at HSX ⊢
      clear hwz
      go_loopw [10, 37] (fun v u wx => ∃ (l bq' cq' : Nat) (col' : Nat → Nat), l ≤ m ∧ u = .int .i64 l ∧ v = .slice (some ⟨bq', 0, none⟩) (rowG d OI sI l).length cq' ∧ SpX w RW ES col' (rowG d OI sI l) i i mb bq' cq' (.slice aN i cN) (.slice aE i cE) vals wq.heap.size sI m (wq.heap.size + 1) (RW i) l wx) (fun _ u _ => m - (intOf u).toNat)
      case atStart => exact ⟨0, bq, cq, colx, by omega, rfl, by rw [HR0.out], by rw [HR0.out]; exact HSX.out⟩
      case round =>
        obtain ⟨l, bq', cq', col', hl, rfl, rfl, hx⟩ := hrel
        have HX := hide hx
        obtain ⟨⟨a0, a1, a2, a3⟩, -⟩ := box_cells hx.at_
        have hpg := HPG.out l hl
        clear hx HSX
        by_cases hlm : l < m
        · have hlmi : (l : Int) < (m : Int) := by omega
          have HC1 := hide (HF.out wr sI l i HX.out.sp.bel (by rw [← HOI.out]; exact HMI.out) hlm)
          have HRSl := hide (HRS.out l)
          have HIDl := hide (HIDX.out l hlm)
          have HRWl := hide (HRWG.out l hlm)
          have hM2 := HDL.out l hlm
          obtain ⟨kl, hkl⟩ := ptU_key hM2
          have HKL := hide hkl
          clear hkl hM2
          obtain ⟨M2, hM2⟩ : ∃ M2, M2 = d sI l := ⟨_, rfl⟩
          rw [← hM2] at HC1 HRSl HIDl HRWl HKL
          clear hM2
          have he := HEN.out
          unfold ptU at HC1 HKL
          go_wp2_with fail
          clear he a0 a1 a2 a3
          refine HC1.out.mono ?_
          rintro e w2 ⟨rfl, hb2⟩
          have hb3 := hb2.alloc hb2.size (.cells #[.int .i64 (unpt M2).f, .int .i64 (unpt M2).s, .int .i64 (unpt M2).y, .int .i64 (unpt M2).l] 92)
          have HXP := hide (heap_alloc_last w2 (.cells #[.int .i64 (unpt M2).f, .int .i64 (unpt M2).s, .int .i64 (unpt M2).y, .int .i64 (unpt M2).l] 92))
          have HXW := hide (spX_below HX.out hb3)
          clear hb2 hb3 HC1 HX
          obtain ⟨⟨x0, x1, x2, x3⟩, -⟩ := box_cells HXP.out
          by_cases hin : M2 ∈ rowG d OI sI l
          · have HMEM := hide (numP_mem hin)
            have HAD : Hid (rowG d OI sI (l + 1) = rowG d OI sI l) := by show _ = _; rw [HRSl.out]; exact addG_old hin
            have HNUM : Hid ((((rowG d OI sI l).idxOf M2 : Nat) : Int) = (RW i).getD l 0) := by
              show _ = _
              rw [HRWl.out, ← HIDl.out, addG_old hin]
            rw [HNUM.out] at HMEM
            obtain ⟨hcz, hfz⟩ := spX_cell HXW.out hlm
            have HMW := hide HXW.out.sp.map
            have HSET := hide (fun z hz => @spX_set _ _ _ _ _ _ _ _ _ _ _ _ _ _ _ _ _ _ _ _ z HXW.out hz)
            obtain ⟨z, hz⟩ : ∃ z, z = (RW i).getD l 0 := ⟨_, rfl⟩
            rw [← hz] at HMEM
            have HZ := hide hz.symm
            clear hin hz HNUM
            unfold ptU at HMEM
            go_wp2_with (at_lookup; refine wpList_look_yes _ rfl _ _ 95 rfl 92 3 ptP_law Tryd.underlying95 (zeroI_any _) mb _ rfl HMW.out _ _ rfl HKL.out _ HMEM.out ?_)
            have HFIN := hide (HSET.out z HZ.out)
            go_roundw
            case rel => exact ⟨l + 1, bq', cq', _, by omega, by go_num, by rw [HAD.out], by rw [HAD.out]; exact HFIN.out⟩
            case measure => simp [intOf]; omega
          · have HNM := hide (numP_not hin)
            have HAD : Hid (rowG d OI sI (l + 1) = rowG d OI sI l ++ [M2]) := by show _ = _; rw [HRSl.out]; exact addG_new hin
            have HNUM : Hid (((rowG d OI sI l).length : Int) = (RW i).getD l 0) := by
              show _ = _
              rw [HRWl.out, ← HIDl.out, addG_new hin]
              have : (rowG d OI sI l ++ [M2]).idxOf M2 = (rowG d OI sI l).length := by rw [List.idxOf_append, if_neg hin]; simp
              rw [this]
            have HNEW := hide (fun w5 w6 o b' cap' k1 k2 k3 k4 k5 => @spX_new w RW ES _ (rowG d OI sI l) i i mb bq' cq' _ _ vals _ sI m _ (RW i) l _ M2 w5 w6 o b' cap' HXW.out k1 k2 k3 k4 k5)
            have HMW := hide HXW.out.sp.map
            have HPL := hide (Array.getElem?_eq_some_iff.1 HXP.out).1
            have HPM : Hid (w2.heap.size ≠ mb) := fun e => by
              obtain ⟨es, clock, h⟩ := HMW.out.isMap
              rw [← e, HXP.out] at h
              cases h
            have HQM : Hid (mb ≠ bq') := fun e => by have := HXW.out.sp.mcl; rw [e, HXW.out.sp.qcl] at this; omega
            have HQX := hide (fun W h => queP_kept (W' := W) HXW.out.sp.que h)
            have HBQL := hide (queP_lt HXW.out.sp.que)
            clear hin
            unfold ptU at HNM HNEW
            go_wp2_with (first
              | (at_lookup; refine wpList_look_no _ rfl _ _ 95 rfl 92 3 ptP_law Tryd.underlying95 (zeroI_any _) mb _ rfl HMW.out _ _ rfl HKL.out HNM.out ?_)
              | (at_mapUpdate; refine wpList_put_at _ rfl _ _ _ 95 rfl 92 3 ptP_law Tryd.underlying95 mb _ rfl HMW.out (by rw [numP_len]; unfold maxLen; omega) (Value.agg #[.int .i64 (unpt M2).f, .int .i64 (unpt M2).s, .int .i64 (unpt M2).y, .int .i64 (unpt M2).l]) (.int .i64 ((rowG d OI sI l).length : Int)) _ rfl rfl HKL.out HNM.out ?_; intro w5 hmp htn; have HMP5 := hide hmp; have HTN5 := hide htn; have hxp5 := (htn.grown.block w2.heap.size HPL.out (fun e => HPM.out (by cases e; rfl))).trans HXP.out; obtain ⟨⟨y0, y1, y2, y3⟩, -⟩ := box_cells hxp5; clear hmp htn hxp5)
              | (at_builtin; refine wpList_append_queP _ rfl _ _ rfl bq' (rowG d OI sI l).length cq' (rowG d OI sI l) rfl (HQX.out _ ((Below.heap_alloc _ _ _ (Nat.lt_of_lt_of_le HBQL.out HTN5.out.grown.size)).trans (HTN5.out.grown.block bq' HBQL.out (fun e => HQM.out (by cases e; rfl))))) ⟨w5.heap.size, 0, none⟩ M2 (unpt M2).f (unpt M2).s (unpt M2).y (unpt M2).l rfl rfl rfl rfl rfl (four_new _ _ _ _ _ _) (by omega) ?_; intro b6 cap6 w6 hq6 hg6 hb6; have HX6 := hide (HNEW.out w5 w6 _ b6 cap6 HMP5.out HTN5.out hq6 hg6 hb6); obtain ⟨hcz, hfz⟩ := spX_cell HX6.out hlm; clear hq6 hg6 hb6))
            have HFIN := hide (spX_set HX6.out HNUM.out.symm)
            go_roundw
            case rel => exact ⟨l + 1, b6, cap6, _, by omega, by go_num, by rw [HAD.out, List.length_append, List.length_singleton], by rw [HAD.out]; exact HFIN.out⟩
            case measure => simp [intOf]; omega
        · have hlmi : ¬ (l : Int) < (m : Int) := by omega
          obtain rfl : l = m := by omega
          clear a0 a1 a2 a3
          rw [← HSUC.out] at HX hpg ⊢
          obtain ⟨OS, hOS⟩ : ∃ OS, OS = outG d l f0 (i + 1) := ⟨_, rfl⟩
          rw [← hOS] at HX hpg ⊢
          have HOS : Hid (outG d l f0 (i + 1) = OS) := hOS.symm
          clear hOS
          have HOWN : Hid (wr.ownsRow w.heap.size 40 1 (.slice aN i cN) i vals) := by have h := HX.out.sp.nx.own; rw [HX.out.sp.rw_.1] at h; exact h
          have HLB : Hid (w.heap.size ≤ wr.heap.size) := HX.out.sp.bel.size
          have HNN := hide (fun w3 o g' cap' k1 k2 k3 => @spX_N w RW ES col' OS i i mb bq' cq' _ _ vals _ sI l _ wr w3 o g' cap' HX.out HRWL.out (by unfold maxLen; omega) HRWW.out k1 k2 k3)
          have HAT := hide (fun w3 o k => @spX_at w RW ES col' OS i i mb bq' cq' _ _ vals _ sI l _ (RW i) l wr w3 o HX.out k)
          obtain ⟨j0, hj0, hy0, hy1, hy2⟩ := info_parts infoS2
          have he2 := HEN2.out
          go_wp2_with (at_builtin; refine wpList_append_lies _ rfl _ _ 22 rfl w.heap.size 40 j0 (.slice none 0 0) 1 24 Tryd.underlying22 hj0 hy0 hy1 hy2 rfl (by decide) (.slice aN i cN) i vals rfl (HOWN.out.alloc _) ⟨wr.heap.size, 0, none⟩ 1 1 [.slice (some ⟨wq.heap.size + 1, 0, none⟩) l l] rfl rfl (one_new _ _ _) (fun u hu => by simp at hu; subst hu; rfl) (by omega) (by unfold maxLen; omega) (by omega) (by have := HLB.out; simp; omega) (wr.heap.size + 1) (by simp) ?_; intro g' cg w5 hown5 hgrow5 hat5 hlt5; have HI5 := hide (HNN.out w5 _ g' cg hown5 hgrow5 (by simpa using hat5)); have hat := HAT.out w5 _ hgrow5; obtain ⟨⟨a0, a1, a2, a3⟩, -⟩ := box_cells hat; clear hown5 hgrow5 hat5 hlt5 hat)
          have HC := hide (HEF.out w5 sI)
          unfold ptU at HC
          have HPE : Hid (p sI = ES i) := by
            show _ = _
            rw [← HES.out]
            show p sI = p ((outG d l f0 i).getD i 0)
            rw [← HOI.out, ← HSI.out]
          rw [HPE.out] at HC
          clear he2 a0 a1 a2 a3
          refine HC.out.mono ?_
          rintro e w6 ⟨rfl, hb6⟩
          have HI6 := hide (spI_below HI5.out hb6)
          clear hb6 HC
          have HOWE : Hid (w6.ownsRow w.heap.size 4 1 (.slice aE i cE) i ((List.range i).map fun j => .bool (ES j))) := by have h := HI6.out.en.own; rw [List.length_map, List.length_range] at h; exact h
          have HLB6 : Hid (w.heap.size ≤ w6.heap.size) := HI6.out.bel.size
          have HNE6 := hide (fun w7 o g2 cap2 k1 k2 k3 => @spI_E w RW ES _ OS (i + 1) i mb bq' cq' _ _ _ w6 w7 o g2 cap2 HI6.out k1 k2 k3)
          obtain ⟨l0, hl0, hv0, hv1, hv2⟩ := info_parts infoBo
          go_wp2_with (at_builtin; refine wpList_append_lies _ rfl _ _ 23 rfl w.heap.size 4 l0 (.bool false) 1 1 Tryd.underlying23 hl0 hv0 hv1 hv2 rfl (by decide) (.slice aE i cE) i _ rfl (HOWE.out.alloc _) ⟨w6.heap.size, 0, none⟩ 1 1 [.bool (ES i)] rfl rfl (one_new _ _ _) (fun u hu => by simp at hu; subst hu; rfl) (by omega) (by unfold maxLen; omega) (by omega) (by have := HLB6.out; simp; omega) (w6.heap.size + 1) (by simp) ?_; intro g2 cap2 w7 hown7 hgrow7 hat7 hlt7; have HI7 := hide (HNE6.out w7 _ g2 cap2 hown7 hgrow7 (by simpa using hat7)); clear hown7 hgrow7 hat7 hlt7)
          go_roundg (B + 1 - (i + 1))
          case measure => have := HGI.out; omega
          case rel => exact ⟨i + 1, bq', cq', _, _, rfl, by rw [HOS.out], by rw [HOS.out]; omega, by rw [HOS.out]; exact HI7.out⟩
    · have hlti : ¬ (i : Int) < ((outG d m f0 i).length : Int) := by omega
      have HEQ : Hid ((outG d m f0 i).length = i) := by show _ = _; omega
      have HOB := hide (HSTAY.out i (Nat.le_of_eq HEQ.out) (by omega))
      have HFI := hide (spI_end HSP.out (by unfold maxLen; omega) (gN d m (outG d m f0 i)) (by rw [gN_len]; exact HEQ.out) (fun j hj => by rw [← HRW.out]; exact found_end (Nat.le_of_eq HEQ.out) hil j hj) (gE p (outG d m f0 i)) (by rw [gE_len]; exact HEQ.out) (fun j hj => by rw [← HES.out]; exact found_ends p (Nat.le_of_eq HEQ.out) hil j hj))
      go_wp2
      go_ret2
      refine ⟨aN, cN, aE, cE, ?_, ?_, HSP.out.bel⟩
      · rw [HOB.out, gN_len, HEQ.out]; rfl
      · rw [HOB.out, gN_len, HEQ.out]; exact HFI.out
end Go.Proofs.YthadkoplbgibgaeDoor

/- line.Of: contract. -/
namespace Go.Proofs.YthadkoplbgibgaeDoor
open Go.RowKit

theorem ptU_pt {b : Int} {q : LPt} (h : LpOk b q) : ptU (ptN q) = ptV q := by
  unfold ptU ptV
  rw [(unpt_pt h).1]
theorem lp_ok {b : Int} {C : List Int} {c : Int} (h : lnF b C c = 0) (less : Bool) {i s : Nat} (hs : s ∈ outG (lpD b C c less) (lnM b C) 1506816 i) : LpOk b (unpt s) ∧ s < 3013824 := by
  obtain ⟨u, hu, rfl⟩ := outG_reach hs
  exact ⟨(lp_run h less u hu).1.1, lp_few h less u hu⟩
theorem ckC_lnF {b : Int} {C : List Int} {c : Int} (hM : codeM b (C.length : Int) = 0) : lnF b C c = ckC C c := by unfold lnF ckC; rw [if_pos hM]
/-- By whichever closure it goes, all points are found. -/
theorem lnSpread_all {b : Int} {C : List Int} {c : Int} (h : lnF b C c = 0) (less : Bool) (f : FuncId) (cs : Array Value) (w : World) (hen : ∀ (args : Array Value) (W : World), (callFunc f args).run Tryd.prog W = .ok (.enter f args) W) (hst : StepF b (lnM b C) (lpStep b C c less) f cs w) :
    Calls Tryd.prog 36 #[.int .i64 (lnM b C : Int), .func (.func f) #[] cs, .func (.func 37) #[.agg #[.int .i64 (-c), .bool less]] #[]] w (SpreadR w (lpN b C c less) (lpE b C c less)) := by
  obtain ⟨hM, h12, hc⟩ := lnF_zero h
  obtain ⟨h1, h2, -⟩ := codeM_zero hM
  obtain ⟨m1, m36⟩ := manyU_bd hM
  exact lnSpread_any f 37 cs (.agg #[.int .i64 (-c), .bool less]) (lnM b C) 1506816 3013824 (lpD b C c less) (fun s => lpEnd c less (unpt s)) w rfl m1 m36 (Nat.le_refl _) hen (enters_of Tryd.func37 (by kernel_rfl) rfl) (fun i x hx => (lp_ok h less hx).2)
    (fun W s l i hW hs hl => by
      have hp := (lp_ok h less hs).1
      have hq := lpStep_ok (c := c) (less := less) h1 h2 h12 hc (Nat.lt_of_lt_of_le hl (Nat.le_trans m36 (by decide))) hp
      have hcall := hst W (unpt s) l hW hp hl
      unfold GivesPt at hcall
      have e : ptU (lpD b C c less s l) = ptV (lpStep b C c less (unpt s) l) := ptU_pt hq
      rw [e]
      exact hcall)
    (fun W s => lnEnds_any c less (unpt s) W)
set_option maxHeartbeats 16000000 in
set_option maxRecDepth 8000 in
theorem line_saysQ : LineSays := by
  intro b a n cap C c less w hs
  have hL := hs.1
  have HS := hide hs
  have HMC := hide (fun W => many_u b (n : Int) W)
  have HX0 := hide (heap_alloc_last w (.cells #[.int .i64 0, .int .i64 0, .slice none 0 0, .slice none 0 0] 25))
  have HB0 := hide ((Below.refl w.heap.size w).alloc (Nat.le_refl _) (.cells #[.int .i64 0, .int .i64 0, .slice none 0 0, .slice none 0 0] 25))
  have HSZ0 : Hid ((w.alloc (.cells #[.int .i64 0, .int .i64 0, .slice none 0 0, .slice none 0 0] 25)).heap.size = w.heap.size + 1) := by show _ = _; simp
  have HN : Hid (∀ (e : Ending) (w' : World), lnF b C c ≠ 0 → PairR w 0 0 [] [] (lnF b C c) e w' → PairR w (okI (lnC b C c less) b) (okI (lnC b C c less) (n : Int)) (lnN b C c less) (lnE b C c less) (lnC b C c less) e w') := fun e w' h1 h3 => by
    have hc : lnC b C c less = lnF b C c := by unfold lnC; rw [if_neg h1]
    unfold lnN lnE
    rw [hc, if_neg h1, if_neg h1]
    unfold okI
    rw [if_neg h1, if_neg h1]
    exact h3
  generalize hwb : w.alloc (.cells #[.int .i64 0, .int .i64 0, .slice none 0 0, .slice none 0 0] 25) = wb at HX0 HB0 HSZ0
  by_cases hM : codeM b (n : Int) = 0
  · rw [hM, errV_zero] at HMC
    obtain ⟨h1, h2, h3, h4, h5, h6⟩ := codeM_zero hM
    obtain ⟨m1, m36⟩ := manyU_bd hM
    have hM' : codeM b (C.length : Int) = 0 := by rw [hL]; exact hM
    have hmm : lnM b C = (manyU b (n : Int)).toNat := by unfold lnM; rw [hL]
    have HCK := hide (lnCheck_any a n cap C c wb (sl_below hs HB0.out) (by omega))
    have hFck := ckC_lnF (c := c) hM'
    rw [← hFck] at HCK
    clear hFck
    by_cases hF : lnF b C c = 0
    · obtain ⟨-, h12, hc⟩ := lnF_zero hF
      rw [hF, errV_zero] at HCK
      have hmI : manyU b (n : Int) = ((lnM b C : Nat) : Int) := by rw [hmm]; omega
      have HLO := hide (fun W h => lnLoads_any b a n cap C W h hM h12)
      rw [← hmm, hmI] at HLO
      rw [hmI] at HMC
      have HWH := hide (fun W h => lnWhole_any a n cap C W h h12 (by omega))
      have HPS := hide (fun g W h => lnPlainStep_any b C c less (lnM b C) g W h1 h2 h12 h)
      have HFS : Hid (b = 1 → ∀ (g : Nat) (W : World), LdAt b C (lnM b C) (lnM b C) g W → Calls Tryd.prog 35 #[.slice (some ⟨g, 0, none⟩) (lnM b C) (lnM b C), loadV (upA C) (dnA C), .agg #[.int .i64 (-c), .bool less]] W (StepR W b (lnM b C) (lpFib C c less) 55)) := fun hb g W h => by
        subst hb
        exact lnFibStep_any C c less (lnM 1 C) g W h12 (by rw [hmm]; exact m36) h
      have HSP := hide (fun f cs W h1 h2 => lnSpread_all hF less f cs W h1 h2)
      have HST1 : Hid (b ≠ 1 → lpStep b C c less = lpPlain b C c less) := fun h => by funext p x; unfold lpStep; rw [if_neg h]
      have HST2 : Hid (b = 1 → lpStep b C c less = lpFib C c less) := fun h => by funext p x; unfold lpStep; rw [if_pos h]
      obtain ⟨hG, hlang⟩ := lp_all hF less
      obtain ⟨hs1, hs2⟩ := ln_same hF hG hlang
      have HK80 : Hid (leastK (lpN b C c less) (lpE b C c less) (lnM b C) = leastK (lnP b C) (lnQ b C c less) (lnM b C)) := by
        show _ = _
        rw [← leastN_len, ← leastN_len, hs1]
      have HY : Hid (∀ (e : Ending) (w' : World), leastK (lpN b C c less) (lpE b C c less) (lnM b C) ≤ 80 → PairR w b (n : Int) (leastN (lpN b C c less) (lpE b C c less) (lnM b C)) (leastE (lpN b C c less) (lpE b C c less) (lnM b C)) 0 e w' → PairR w (okI (lnC b C c less) b) (okI (lnC b C c less) (n : Int)) (lnN b C c less) (lnE b C c less) (lnC b C c less) e w') := fun e w' h1 h3 => by
        have hc : lnC b C c less = 0 := by unfold lnC; rw [if_pos hF, if_pos (by rw [← HK80.out]; exact h1)]
        unfold lnN lnE
        rw [if_pos hc, if_pos hc, hc, ← hs1, ← hs2]
        exact h3
      have HZ : Hid (∀ (e : Ending) (w' : World), 80 < leastK (lpN b C c less) (lpE b C c less) (lnM b C) → PairR w 0 0 [] [] 3 e w' → PairR w (okI (lnC b C c less) b) (okI (lnC b C c less) (n : Int)) (lnN b C c less) (lnE b C c less) (lnC b C c less) e w') := fun e w' h1 h3 => by
        have hc : lnC b C c less = 3 := by unfold lnC; rw [if_pos hF, if_neg (by rw [← HK80.out]; omega)]
        unfold lnN lnE
        rw [hc, if_neg (by decide), if_neg (by decide)]
        exact h3
      have hGN : GoodN (manyU b (n : Int)).toNat (lpN b C c less).length (lpN b C c less) := by rw [← hmm]; exact hG
      have HLW := hide (fun aN cN aE cE W k1 k2 => leastw_any b (n : Int) aN (lpN b C c less).length cN _ (lpN b C c less) aE cE (lpE b C c less) W k1 k2 hG (autoM_good hM hGN (by have := hG.2.2.1; omega)))
      unfold LeastR LeastU at HLW
      unfold LoadsR at HLO
      unfold StepR at HPS HFS
      unfold SpreadR at HSP
      unfold loadV at HWH HPS HFS
      clear HN hM hM' hmm hmI hs hL hF hG hGN hlang hs1 hs2 HK80 h1 h2 h3 h4 h5 h6 h12
      generalize lnM b C = m at *
      generalize hNg : lpN b C c less = SN at *
      generalize hEg : lpE b C c less = SE at *
      clear hNg hEg
      generalize okI (lnC b C c less) b = OB at HY HZ ⊢
      generalize okI (lnC b C c less) (n : Int) = OT at HY HZ ⊢
      generalize lnN b C c less = RN at HY HZ ⊢
      generalize lnE b C c less = RE at HY HZ ⊢
      generalize lnC b C c less = RC at HY HZ ⊢
      go_enter Tryd.func14, Tryd.ntmps14
      go_wp2_with (first
        | (go_at_call 20; refine (HMC.out _).mono ?_; rintro e w1 ⟨rfl, hw1⟩; rw [hw1]; clear hw1 w1)
        | (go_at_call 31; refine HCK.out.mono ?_; rintro e w1 ⟨rfl, hw1⟩; rw [hw1]; clear hw1 w1)
        | (go_at_call 32; refine (HLO.out _ (sl_below HS.out HB0.out)).mono ?_; rintro e w1 ⟨g, rfl, hg, hld, hb1⟩; have HLD1 := hide hld; have HB1 := hide hb1; clear hg hld hb1))
      clear hwb
      have HV3 := hide (heap_alloc_last w1 (.cells #[.int .i64 (-c), .bool less] 67))
      have HA3 := hide ((Below.refl w1.heap.size w1).alloc (Nat.le_refl _) (.cells #[.int .i64 (-c), .bool less] 67))
      generalize w1.alloc (.cells #[.int .i64 (-c), .bool less] 67) = W3 at HV3 HA3 ⊢
      have HL3 : Hid (LdAt b C m m g W3) := HLD1.out.of_block (HA3.out.block _ HLD1.out.lt)
      have HC3 : Hid (Below wb.heap.size wb W3) := below_step HB1.out HA3.out
      have HSW : Hid (∀ W, Below W3.heap.size W3 W → Sl W a n C) := fun W hW => sl_below HS.out (below_step HB0.out (below_step HC3.out hW))
      clear HLD1 HA3 HB1
      go_cut [15] (fun s15 wx => ∃ cs, s15 = .func (.func 53) #[] cs ∧ Below W3.heap.size W3 wx ∧ StepF b m (lpPlain b C c less) 53 cs wx)
      case first =>
        obtain ⟨⟨v0, v1⟩, -⟩ := box2_cells HV3.out
        go_region_with (first
          | (go_at_call 34; refine (HWH.out _ (HSW.out _ (by first | exact (Below.refl _ _).drew | exact below_drewN (Below.refl _ _) _))).mono ?_; rintro e w4 ⟨rfl, hb4⟩; have HB4 : Hid (Below W3.heap.size W3 w4) := ⟨hb4.os, hb4.tape, hb4.output, hb4.size, hb4.block⟩; obtain ⟨⟨u0, u1⟩, -⟩ := box2_cells ((HB4.out.block _ (Array.getElem?_eq_some_iff.1 HV3.out).1).trans HV3.out); have HL4 : Hid (LdAt b C m m g w4) := HL3.out.of_block (HB4.out.block _ HL3.out.lt); clear hb4)
          | (go_at_call 33; refine (HPS.out g _ HL4.out).mono ?_; rintro e w5 ⟨cs, rfl, hb5, hst⟩; have HB5 := hide (below_step HB4.out hb5); have HST5 := hide hst; clear hb5 hst))
        all_goals
          go_wp2_with fail
          go_meet
          exact ⟨_, rfl, HB5.out, HST5.out⟩
      case rest =>
        obtain ⟨cs0, rfl, hb4, hst4⟩ := hcut
        have HB4 := hide hb4
        have HST4 := hide hst4
        clear hb4 hst4
        by_cases hb : b = 1
        · have HS2 := hide (HST2.out hb)
          obtain ⟨wo, hwo⟩ : ∃ wo : World, wo = wc := ⟨_, rfl⟩
          rw [← hwo] at HB4 HST4 ⊢
          clear hwo wc
          rw [HS2.out] at HSP
          have hb1 : (b == 1) = true := by simp [hb]
          have HFB := hide (HFS.out hb)
          have HSX : Hid (∀ W, Below wo.heap.size wo W → Sl W a n C) := fun W hW => HSW.out W (below_step HB4.out hW)
          have HVX := hide ((HB4.out.block _ (Array.getElem?_eq_some_iff.1 HV3.out).1).trans HV3.out)
          have HLX : Hid (LdAt b C m m g wo) := HL3.out.of_block (HB4.out.block _ HL3.out.lt)
          have HBZ := hide hb
          clear hb
          go_wp2_with fail
          go_cut [15] (fun s15 wx => ∃ cs, s15 = .func (.func 55) #[] cs ∧ Below wo.heap.size wo wx ∧ StepF b m (lpFib C c less) 55 cs wx)
          case first =>
            obtain ⟨⟨v0, v1⟩, -⟩ := box2_cells HVX.out
            go_region_with (first
              | (go_at_call 34; refine (HWH.out _ (HSX.out _ (by first | exact (Below.refl _ _).drew | exact below_drewN (Below.refl _ _) _))).mono ?_; rintro e w4 ⟨rfl, hb4⟩; have HB4' : Hid (Below wo.heap.size wo w4) := ⟨hb4.os, hb4.tape, hb4.output, hb4.size, hb4.block⟩; obtain ⟨⟨u0, u1⟩, -⟩ := box2_cells ((HB4'.out.block _ (Array.getElem?_eq_some_iff.1 HVX.out).1).trans HVX.out); have HL4 : Hid (LdAt b C m m g w4) := HLX.out.of_block (HB4'.out.block _ HLX.out.lt); clear hb4)
              | (go_at_call 35; refine (HFB.out g _ HL4.out).mono ?_; rintro e w5 ⟨cs, rfl, hb5, hst⟩; have HB5 := hide (below_step HB4'.out hb5); have HST5 := hide hst; clear hb5 hst))
            all_goals
              go_wp2_with fail
              go_meet
              exact ⟨_, rfl, HB5.out, HST5.out⟩
          case rest =>
            obtain ⟨cs1, rfl, hb6, hst6⟩ := hcut
            have HB6 := hide (below_step HB4.out hb6)
            have HST6 := hide hst6
            clear hb6 hst6
            have HXA := hide (heap_alloc_last wc (.cells #[.int .i64 b, .int .i64 (n : Int), .slice none 0 0, .slice none 0 0] 25))
            have HA7 := hide ((Below.refl wc.heap.size wc).alloc (Nat.le_refl _) (.cells #[.int .i64 b, .int .i64 (n : Int), .slice none 0 0, .slice none 0 0] 25))
            have HB7 := hide (below_step HB6.out HA7.out)
            obtain ⟨⟨v0, v1⟩, -⟩ := box2_cells ((HB7.out.block _ (Array.getElem?_eq_some_iff.1 HV3.out).1).trans HV3.out)
            have HC := hide (HSP.out 55 cs1 _ (enters_of Tryd.func55 (by kernel_rfl) rfl) (stepF_below HST6.out HA7.out))
            go_wp2_with fail
            generalize wc.alloc (.cells #[.int .i64 b, .int .i64 (n : Int), .slice none 0 0, .slice none 0 0] 25) = w7 at HXA HA7 HB7 HC v0 v1 ⊢
            have HBX : Hid (wc.heap.size < w7.heap.size) := (Array.getElem?_eq_some_iff.1 HXA.out).1
            clear v0 v1
            refine HC.out.mono ?_
            rintro e w8 ⟨aN, cN, aE, cE, rfl, hnew, hb8⟩
            have hx8 := (hb8.block _ HBX.out).trans HXA.out
            have HX8 := hide hx8
            obtain ⟨⟨q0, q1, q2, q3⟩, qf⟩ := box_cells hx8
            have HB8 : Hid (Below wb.heap.size wb w8) := below_step HC3.out (below_step HB7.out hb8)
            have HNEW := hide hnew
            clear hx8 hnew hb8 HC
            go_wp2_with fail
            have HBG : Hid (wb.heap.size ≤ wc.heap.size) := Nat.le_trans HC3.out.size HB6.out.size
            have HB9 : Hid (Below wb.heap.size wb ((w8.setCell ⟨wc.heap.size, 2, none⟩ (.slice aN SN.length cN)).setCell ⟨wc.heap.size, 3, none⟩ (.slice aE SN.length cE))) := (HB8.out.setCell HBG.out _).setCell HBG.out _
            obtain ⟨hn1, hn2⟩ := HNEW.out ((w8.setCell ⟨wc.heap.size, 2, none⟩ (.slice aN SN.length cN)).setCell ⟨wc.heap.size, 3, none⟩ (.slice aE SN.length cE)) (fun x hx hxl => by
              have h1 := HBX.out
              rw [Below.heap_setCell _ _ _ _ (show x ≠ wc.heap.size by omega), Below.heap_setCell _ _ _ _ (show x ≠ wc.heap.size by omega)])
            have HL9 := hide (HLW.out aN cN aE cE _ hn1 hn2)
            clear q0 q1 q2 q3 qf hn1 hn2 HX8 HNEW
            generalize (w8.setCell ⟨wc.heap.size, 2, none⟩ (.slice aN SN.length cN)).setCell ⟨wc.heap.size, 3, none⟩ (.slice aE SN.length cE) = w9 at HB9 HL9 ⊢
            generalize leastN SN SE m = LN at HL9 HY
            generalize leastE SN SE m = LE at HL9 HY
            generalize leastK SN SE m = LK at HL9 HY HZ
            refine HL9.out.mono ?_
            rintro e w10 ⟨hy2, hn2⟩
            by_cases hK : LK ≤ 80
            · obtain ⟨a1, c1, a2, c2, rfl, hnw, hb2⟩ := hy2 hK
              have HBF := hide (below_step HB9.out hb2)
              have hr := (HBF.out.block w.heap.size (by rw [HSZ0.out]; omega)).trans HX0.out
              obtain ⟨⟨r0, r1, r2, r3⟩, rf⟩ := box_cells hr
              have HR := hide hr
              have HNW := hide hnw
              have HSW9 : Hid (w.heap.size + 1 ≤ w9.heap.size) := by have h1 := HB9.out.size; have h2 := HSZ0.out; show _ ≤ _; omega
              have HYS := hide (fun e w' => HY.out e w' hK)
              clear hr hnw hb2 hy2 hn2
              go_wp2
              obtain ⟨⟨hset, hsz, hoth⟩, hbel⟩ := box_set (v0 := .int .i64 b) (v1 := .int .i64 (n : Int)) (v2 := .slice a1 LN.length c1) (v3 := .slice a2 LN.length c2) HR.out rfl
              have hfin : AutoNew w a1 LN.length LN a2 LE ((((w10.setCell ⟨w.heap.size, 0, none⟩ (.int .i64 b)).setCell ⟨w.heap.size, 1, none⟩ (.int .i64 (n : Int))).setCell ⟨w.heap.size, 2, none⟩ (.slice a1 LN.length c1)).setCell ⟨w.heap.size, 3, none⟩ (.slice a2 LN.length c2)) := fun W' hW' => HNW.out W' (fun x hx hxl => by
                have h1 := HSW9.out
                rw [hW' x (by omega) (by rw [hsz]; exact hxl), hoth x (by omega)])
              have hb := hbel w w.heap.size (below_step HB0.out HBF.out) (Nat.le_refl _)
              obtain ⟨⟨z0, z1, z2, z3⟩, -⟩ := box_cells hset
              exact bodyPost_ret (v := .tuple #[.agg #[.int .i64 b, .int .i64 (n : Int), .slice a1 LN.length c1, .slice a2 LN.length c2], .nilIface]) (by simp [results, Tryd.results14, go_sem, z0, z1, z2, z3]) rfl (HYS.out _ _ ⟨a1, c1, a2, c2, rfl, hfin, hb⟩)
            · obtain ⟨rfl, hb2⟩ := hn2 (by omega)
              have HBF := hide (below_step HB9.out hb2)
              have hr := (HBF.out.block w.heap.size (by rw [HSZ0.out]; omega)).trans HX0.out
              obtain ⟨⟨r0, r1, r2, r3⟩, rf⟩ := box_cells hr
              have HR := hide hr
              have HZS := hide (fun e w' => HZ.out e w' (by omega))
              clear hr hb2 hy2 hn2
              go_wp2
              obtain ⟨⟨hset, hsz, hoth⟩, hbel⟩ := box_set (v0 := .int .i64 0) (v1 := .int .i64 0) (v2 := .slice none 0 0) (v3 := .slice none 0 0) HR.out rfl
              have hb := hbel w w.heap.size (below_step HB0.out HBF.out) (Nat.le_refl _)
              obtain ⟨⟨z0, z1, z2, z3⟩, -⟩ := box_cells hset
              exact bodyPost_ret (v := .tuple #[.agg #[.int .i64 0, .int .i64 0, .slice none 0 0, .slice none 0 0], .iface 26 (.int .i64 3)]) (by simp [results, Tryd.results14, go_sem, z0, z1, z2, z3]) rfl (HZS.out _ _ ⟨none, 0, none, 0, rfl, autoNew_nil _ _, hb⟩)
        · have hb1 : (b == 1) = false := by simp [hb]
          have HS1 := hide (HST1.out hb)
          rw [HS1.out] at HSP
          have HXA := hide (heap_alloc_last wc (.cells #[.int .i64 b, .int .i64 (n : Int), .slice none 0 0, .slice none 0 0] 25))
          have HA7 := hide ((Below.refl wc.heap.size wc).alloc (Nat.le_refl _) (.cells #[.int .i64 b, .int .i64 (n : Int), .slice none 0 0, .slice none 0 0] 25))
          have HB7 := hide (below_step HB4.out HA7.out)
          obtain ⟨⟨v0, v1⟩, -⟩ := box2_cells ((HB7.out.block _ (Array.getElem?_eq_some_iff.1 HV3.out).1).trans HV3.out)
          have HC := hide (HSP.out 53 cs0 _ (enters_of Tryd.func53 (by kernel_rfl) rfl) (stepF_below HST4.out HA7.out))
          go_wp2_with fail
          generalize wc.alloc (.cells #[.int .i64 b, .int .i64 (n : Int), .slice none 0 0, .slice none 0 0] 25) = w7 at HXA HA7 HB7 HC v0 v1 ⊢
          have HBX : Hid (wc.heap.size < w7.heap.size) := (Array.getElem?_eq_some_iff.1 HXA.out).1
          clear v0 v1
          refine HC.out.mono ?_
          rintro e w8 ⟨aN, cN, aE, cE, rfl, hnew, hb8⟩
          have hx8 := (hb8.block _ HBX.out).trans HXA.out
          have HX8 := hide hx8
          obtain ⟨⟨q0, q1, q2, q3⟩, qf⟩ := box_cells hx8
          have HB8 : Hid (Below wb.heap.size wb w8) := below_step HC3.out (below_step HB7.out hb8)
          have HNEW := hide hnew
          clear hx8 hnew hb8 HC
          go_wp2_with fail
          have HBG : Hid (wb.heap.size ≤ wc.heap.size) := Nat.le_trans HC3.out.size HB4.out.size
          have HB9 : Hid (Below wb.heap.size wb ((w8.setCell ⟨wc.heap.size, 2, none⟩ (.slice aN SN.length cN)).setCell ⟨wc.heap.size, 3, none⟩ (.slice aE SN.length cE))) := (HB8.out.setCell HBG.out _).setCell HBG.out _
          obtain ⟨hn1, hn2⟩ := HNEW.out ((w8.setCell ⟨wc.heap.size, 2, none⟩ (.slice aN SN.length cN)).setCell ⟨wc.heap.size, 3, none⟩ (.slice aE SN.length cE)) (fun x hx hxl => by
            have h1 := HBX.out
            rw [Below.heap_setCell _ _ _ _ (show x ≠ wc.heap.size by omega), Below.heap_setCell _ _ _ _ (show x ≠ wc.heap.size by omega)])
          have HL9 := hide (HLW.out aN cN aE cE _ hn1 hn2)
          clear q0 q1 q2 q3 qf hn1 hn2 HX8 HNEW
          generalize (w8.setCell ⟨wc.heap.size, 2, none⟩ (.slice aN SN.length cN)).setCell ⟨wc.heap.size, 3, none⟩ (.slice aE SN.length cE) = w9 at HB9 HL9 ⊢
          generalize leastN SN SE m = LN at HL9 HY
          generalize leastE SN SE m = LE at HL9 HY
          generalize leastK SN SE m = LK at HL9 HY HZ
          refine HL9.out.mono ?_
          rintro e w10 ⟨hy2, hn2⟩
          by_cases hK : LK ≤ 80
          · obtain ⟨a1, c1, a2, c2, rfl, hnw, hb2⟩ := hy2 hK
            have HBF := hide (below_step HB9.out hb2)
            have hr := (HBF.out.block w.heap.size (by rw [HSZ0.out]; omega)).trans HX0.out
            obtain ⟨⟨r0, r1, r2, r3⟩, rf⟩ := box_cells hr
            have HR := hide hr
            have HNW := hide hnw
            have HSW9 : Hid (w.heap.size + 1 ≤ w9.heap.size) := by have h1 := HB9.out.size; have h2 := HSZ0.out; show _ ≤ _; omega
            have HYS := hide (fun e w' => HY.out e w' hK)
            clear hr hnw hb2 hy2 hn2
            go_wp2
            obtain ⟨⟨hset, hsz, hoth⟩, hbel⟩ := box_set (v0 := .int .i64 b) (v1 := .int .i64 (n : Int)) (v2 := .slice a1 LN.length c1) (v3 := .slice a2 LN.length c2) HR.out rfl
            have hfin : AutoNew w a1 LN.length LN a2 LE ((((w10.setCell ⟨w.heap.size, 0, none⟩ (.int .i64 b)).setCell ⟨w.heap.size, 1, none⟩ (.int .i64 (n : Int))).setCell ⟨w.heap.size, 2, none⟩ (.slice a1 LN.length c1)).setCell ⟨w.heap.size, 3, none⟩ (.slice a2 LN.length c2)) := fun W' hW' => HNW.out W' (fun x hx hxl => by
              have h1 := HSW9.out
              rw [hW' x (by omega) (by rw [hsz]; exact hxl), hoth x (by omega)])
            have hb := hbel w w.heap.size (below_step HB0.out HBF.out) (Nat.le_refl _)
            obtain ⟨⟨z0, z1, z2, z3⟩, -⟩ := box_cells hset
            exact bodyPost_ret (v := .tuple #[.agg #[.int .i64 b, .int .i64 (n : Int), .slice a1 LN.length c1, .slice a2 LN.length c2], .nilIface]) (by simp [results, Tryd.results14, go_sem, z0, z1, z2, z3]) rfl (HYS.out _ _ ⟨a1, c1, a2, c2, rfl, hfin, hb⟩)
          · obtain ⟨rfl, hb2⟩ := hn2 (by omega)
            have HBF := hide (below_step HB9.out hb2)
            have hr := (HBF.out.block w.heap.size (by rw [HSZ0.out]; omega)).trans HX0.out
            obtain ⟨⟨r0, r1, r2, r3⟩, rf⟩ := box_cells hr
            have HR := hide hr
            have HZS := hide (fun e w' => HZ.out e w' (by omega))
            clear hr hb2 hy2 hn2
            go_wp2
            obtain ⟨⟨hset, hsz, hoth⟩, hbel⟩ := box_set (v0 := .int .i64 0) (v1 := .int .i64 0) (v2 := .slice none 0 0) (v3 := .slice none 0 0) HR.out rfl
            have hb := hbel w w.heap.size (below_step HB0.out HBF.out) (Nat.le_refl _)
            obtain ⟨⟨z0, z1, z2, z3⟩, -⟩ := box_cells hset
            exact bodyPost_ret (v := .tuple #[.agg #[.int .i64 0, .int .i64 0, .slice none 0 0, .slice none 0 0], .iface 26 (.int .i64 3)]) (by simp [results, Tryd.results14, go_sem, z0, z1, z2, z3]) rfl (HZS.out _ _ ⟨none, 0, none, 0, rfl, autoNew_nil _ _, hb⟩)
    · have HFN := hide (fun e w' => HN.out e w' hF)
      rw [errV_no hF] at HCK
      have HNE := hide hF
      clear hF HN hM hM' hmm hs hL
      generalize lnF b C c = F at HCK HFN HNE
      generalize okI (lnC b C c less) b = OB at HFN ⊢
      generalize okI (lnC b C c less) (n : Int) = OT at HFN ⊢
      generalize lnN b C c less = RN at HFN ⊢
      generalize lnE b C c less = RE at HFN ⊢
      generalize lnC b C c less = RC at HFN ⊢
      obtain ⟨⟨r0, r1, r2, r3⟩, rf⟩ := box_cells HX0.out
      go_enter Tryd.func14, Tryd.ntmps14
      go_wp2_with (first
        | (go_at_call 20; refine (HMC.out _).mono ?_; rintro e w1 ⟨rfl, hw1⟩; rw [hw1]; clear hw1 w1)
        | (go_at_call 31; refine HCK.out.mono ?_; rintro e w1 ⟨rfl, hw1⟩; rw [hw1]; clear hw1 w1))
      obtain ⟨⟨hset, -, -⟩, hbel⟩ := box_set (v0 := .int .i64 0) (v1 := .int .i64 0) (v2 := .slice none 0 0) (v3 := .slice none 0 0) HX0.out rfl
      have hb := hbel w w.heap.size HB0.out (Nat.le_refl _)
      obtain ⟨⟨z0, z1, z2, z3⟩, -⟩ := box_cells hset
      exact bodyPost_ret (v := .tuple #[.agg #[.int .i64 0, .int .i64 0, .slice none 0 0, .slice none 0 0], .iface 26 (.int .i64 F)]) (by simp [results, Tryd.results14, go_sem, z0, z1, z2, z3]) rfl (HFN.out _ _ ⟨none, 0, none, 0, by rw [errV_no HNE.out]; rfl, autoNew_nil _ _, hb⟩)
  · have hF : lnF b C c = codeM b (n : Int) := by unfold lnF; rw [hL, if_neg hM]
    have HFN := hide (fun e w' => HN.out e w' (by rw [hF]; exact hM))
    rw [hF] at HFN
    rw [errV_no hM] at HMC
    have HNE := hide hM
    clear hF HN hM hs hL
    generalize codeM b (n : Int) = F at HMC HFN HNE
    generalize manyU b (n : Int) = mu at HMC
    generalize okI (lnC b C c less) b = OB at HFN ⊢
    generalize okI (lnC b C c less) (n : Int) = OT at HFN ⊢
    generalize lnN b C c less = RN at HFN ⊢
    generalize lnE b C c less = RE at HFN ⊢
    generalize lnC b C c less = RC at HFN ⊢
    obtain ⟨⟨r0, r1, r2, r3⟩, rf⟩ := box_cells HX0.out
    go_enter Tryd.func14, Tryd.ntmps14
    go_wp2_with (go_at_call 20; refine (HMC.out _).mono ?_; rintro e w1 ⟨rfl, hw1⟩; rw [hw1]; clear hw1 w1)
    obtain ⟨⟨hset, -, -⟩, hbel⟩ := box_set (v0 := .int .i64 0) (v1 := .int .i64 0) (v2 := .slice none 0 0) (v3 := .slice none 0 0) HX0.out rfl
    have hb := hbel w w.heap.size HB0.out (Nat.le_refl _)
    obtain ⟨⟨z0, z1, z2, z3⟩, -⟩ := box_cells hset
    exact bodyPost_ret (v := .tuple #[.agg #[.int .i64 0, .int .i64 0, .slice none 0 0, .slice none 0 0], .iface 26 (.int .i64 F)]) (by simp [results, Tryd.results14, go_sem, z0, z1, z2, z3]) rfl (HFN.out _ _ ⟨none, 0, none, 0, by rw [errV_no HNE.out]; rfl, autoNew_nil _ _, hb⟩)
end Go.Proofs.YthadkoplbgibgaeDoor
