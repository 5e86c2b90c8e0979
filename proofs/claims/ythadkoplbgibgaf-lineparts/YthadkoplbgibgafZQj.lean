/- 3 texts in one. -/
import Derived.Deep.DeepCutAuto
import Derived.Deep.RegionLaw
import Derived.Shelf.Abstract
import Derived.Deep.AppendLies
import Derived.Test.YthadkoplbgibgafZMp
import Derived.Test.YthadkoplbgibgafZKm
import Derived.Test.YthadkoplbgibgafQi
import Derived.Test.YthadkoplbgibgafZLp
import Derived.Test.YthadkoplbgibgafBy
import Derived.Test.YthadkoplbgibgafZCf
import Derived.Test.YthadkoplbgibgafZHh
import Derived.Test.YthadkoplbgibgafZDj
/- line.spread, whatever closures are handed in: contract. -/
namespace Go.Proofs.Ythadkoplbgibgaf
open Go.RowKit

def SpreadR (w : World) (N : List (List Int)) (E : List Bool) (e : Ending) (w' : World) : Prop :=
  ∃ aN cN aE cE, e = .returned (.tuple #[.slice aN N.length cN, .slice aE N.length cE]) ∧ AutoNew w aN N.length N aE E w' ∧ Below w.heap.size w w'
set_option maxHeartbeats 16000000 in
set_option maxRecDepth 20000 in
theorem lnSpread_any (f fe : FuncId) (cs : Array Value) (wv : Value) (m f0 B : Nat) (d : Nat → Nat → Nat) (p : Nat → Bool) (w : World) (hf0 : f0 = 1506816) (h1 : 1 ≤ m) (h36 : m ≤ 36) (hB : B ≤ 3013824)
    (hen : ∀ (args : Array Value) (W : World), (callFunc f args).run Try.prog W = .ok (.enter f args) W) (hen2 : ∀ (args : Array Value) (W : World), (callFunc fe args).run Try.prog W = .ok (.enter fe args) W)
    (hlt : ∀ i, ∀ x ∈ outG d m f0 i, x < B)
    (hF : ∀ (W : World) (s l i : Nat), Below w.heap.size w W → s ∈ outG d m f0 i → l < m → Calls Try.prog f (#[ptU s, .int .i64 (l : Int)] ++ cs) W (fun e W' => e = .returned (ptU (d s l)) ∧ Below W.heap.size W W'))
    (hE : ∀ (W : World) (s : Nat), Calls Try.prog fe #[wv, ptU s] W (fun e W' => e = .returned (.bool (p s)) ∧ Below W.heap.size W W')) :
    Calls Try.prog 21 #[.int .i64 (m : Int), .func (.func f) #[] cs, .func (.func fe) #[wv] #[]] w (SpreadR w (gN d m (outG d m f0 B)) (gE p (outG d m f0 B))) := by
  have HFEW : Hid (∀ i, (outG d m f0 i).length ≤ B) := fun i => by
    have := nodup_sub (K := List.range B) (outG_nodup d m f0 i) (fun x hx => List.mem_range.2 (hlt i x hx))
    rwa [List.length_range] at this
  have HLT : Hid (∀ i, ∀ x ∈ outG d m f0 i, x < 3013824) := fun i x hx => Nat.lt_of_lt_of_le (hlt i x hx) hB
  have HSTAY : Hid (∀ i, (outG d m f0 i).length ≤ i → i ≤ B → outG d m f0 B = outG d m f0 i) := fun i h hi => by
    have := outG_stay h (B - i)
    rwa [show i + (B - i) = B by omega] at this
  have HF := hide hF
  have HEF := hide hE
  have HEN := hide hen
  have HEN2 := hide hen2
  have HO0 : Hid (outG d m f0 0 = [f0]) := rfl
  have hkey := ptU_key (n := f0) (by omega)
  have hU0 : unpt f0 = ⟨0, 0, 0, 0⟩ := by rw [hf0]; exact lp_start.1
  have HU0 := hide hU0
  have HPU0 : Hid (ptU f0 = .agg #[.int .i64 0, .int .i64 0, .int .i64 0, .int .i64 0]) := by show _ = _; unfold ptU; rw [hU0]
  clear hF hE hen hen2 hlt hf0 hU0
  have hmk := make_ints m (by omega)
  have hmm := @run_makeMap Try.prog
  obtain ⟨kl0, hkl0⟩ := hkey
  have HXC := hide (heap_alloc_last w (.cells #[.int .i64 0, .int .i64 0, .int .i64 0, .int .i64 0] 89))
  have HBC := hide ((Below.refl w.heap.size w).alloc (Nat.le_refl _) (.cells #[.int .i64 0, .int .i64 0, .int .i64 0, .int .i64 0] 89))
  generalize hwv : w.alloc (.cells #[.int .i64 0, .int .i64 0, .int .i64 0, .int .i64 0] 89) = w1 at HXC HBC
  have hm0 := mapAt_made w1 Try.prog 89
  obtain ⟨wp, hins, hmp, htn⟩ := hm0.put ptP_law Try.underlying92 (val := .int .i64 0) (by decide) hkl0 (by simp)
  have HST := hide (fun rows es => @spI_start w wp f0 rows es w1 HBC.out hmp htn)
  have hxw : (w1.alloc (.map #[] 0)).heap[w.heap.size]? = some (.cells #[.int .i64 0, .int .i64 0, .int .i64 0, .int .i64 0] 89 (0, 0)) := (Below.heap_alloc _ _ _ (Array.getElem?_eq_some_iff.1 HXC.out).1).trans HXC.out
  have hxp : wp.heap[w.heap.size]? = some (.cells #[.int .i64 0, .int .i64 0, .int .i64 0, .int .i64 0] 89 (0, 0)) := (htn.grown.block w.heap.size (Nat.lt_trans (Array.getElem?_eq_some_iff.1 HXC.out).1 (by simp)) (fun e => by have h1 := Option.some.inj e; have h2 := (Array.getElem?_eq_some_iff.1 HXC.out).1; omega)).trans hxw
  obtain ⟨⟨q0, q1, q2, q3⟩, -⟩ := box_cells hxw
  obtain ⟨⟨r0, r1, r2, r3⟩, -⟩ := box_cells hxp
  rw [HPU0.out] at hins
  have hls := (Array.getElem?_eq_some_iff.1 HXC.out).1
  rw [HU0.out] at HST
  clear hmp htn hm0 hxw hxp
  go_enter Try.func21, Try.ntmps21
  go_wp2
  clear q0 q1 q2 q3 r0 r1 r2 r3 hins hkl0 hwv hls
  obtain ⟨RW, hRW⟩ : ∃ RW, RW = foundR d m f0 := ⟨_, rfl⟩
  obtain ⟨ES, hES⟩ : ∃ ES, ES = fun j => p ((outG d m f0 j).getD j 0) := ⟨_, rfl⟩
  obtain ⟨col0, hsp0⟩ := HST.out RW ES
  have HSP0 := hide hsp0
  have HRW : Hid (foundR d m f0 = RW) := hRW.symm
  have HES : Hid ((fun j => p ((outG d m f0 j).getD j 0)) = ES) := hES.symm
  clear hRW hES HST hsp0 HBC HXC HU0 HPU0
  generalize hmbq : w1.heap.size = mb at HSP0 ⊢
  clear hmbq
  generalize hw0 : wp.alloc (.cells #[.int .i64 0, .int .i64 0, .int .i64 0, .int .i64 0] 89) = w0 at HSP0 ⊢
  clear hw0
  go_loopg [10, 11, 12] (B + 1) (fun g v vN vE wx => ∃ (i bq cq : Nat) (col : Nat → Nat) (vals : List Value), g = B + 1 - i ∧ v = .slice (some ⟨bq, 0, none⟩) (outG d m f0 i).length cq ∧ i ≤ (outG d m f0 i).length ∧ SpI w RW ES col (outG d m f0 i) i i mb bq cq vN vE vals wx)
  case atStart => exact ⟨0, wp.heap.size, 1, col0, [], rfl, rfl, Nat.zero_le _, HSP0.out⟩
  case round =>
    obtain ⟨i, bq, cq, col, vals, hgi, rfl, hil, hsp⟩ := hrel
    have HGI := hide hgi
    have HSP := hide hsp
    have hlenB := HFEW.out i
    obtain ⟨aN, cN, hvN⟩ := owns_sl hsp.nx.own
    obtain ⟨aE, cE, hvE⟩ := owns_sl hsp.en.own
    rw [hsp.rw_.1] at hvN
    simp only [List.length_map, List.length_range] at hvE
    subst hvN
    subst hvE
    clear hgi hsp HSP0
    by_cases hlt : i < (outG d m f0 i).length
    · have hlti : (i : Int) < ((outG d m f0 i).length : Int) := by omega
      obtain ⟨c0, c1, c2, c3⟩ := queP_at HSP.out.que i hlt
      have HSUC := hide (outG_nextH hlt)
      have HIDX := hide (fun l hl => found_idx (d := d) (m := m) (f := f0) (i := i) (l := l) hlt hl)
      have HRWG : Hid (∀ l, l < m → (RW i).getD l 0 = (((outG d m f0 (i + 1)).idxOf (d ((outG d m f0 i).getD i 0) l) : Nat) : Int)) := fun l hl => by
        rw [← HRW.out]; exact foundR_get hl
      have HRWL : Hid ((RW i).length = m) := by show _ = _; rw [← HRW.out]; exact foundR_len _ _ _ _
      have HRWW : Hid (∀ x ∈ RW i, (Lit.int .i64 x).wf = true) := fun x hx => by
        rw [← HRW.out] at hx
        obtain ⟨l, hl, rfl⟩ := List.mem_map.1 hx
        have h2 := HFEW.out (i + 1)
        have h3 := List.idxOf_le_length (a := d ((outG d m f0 i).getD i 0) l) (l := outG d m f0 (i + 1))
        exact WalkArith.wf_i64 (by omega)
      have HMI : Hid ((outG d m f0 i).getD i 0 ∈ outG d m f0 i) := getN_mem hlt
      have HPG : Hid (∀ l, l ≤ m → i < (rowG d (outG d m f0 i) ((outG d m f0 i).getD i 0) l).length ∧ (rowG d (outG d m f0 i) ((outG d m f0 i).getD i 0) l).length ≤ B + 36) := fun l hl => by
        have h1 := rowG_from d (outG d m f0 i) ((outG d m f0 i).getD i 0) l
        exact ⟨Nat.lt_of_lt_of_le hlt h1.length_le, by have := rowG_lenH d (outG d m f0 i) ((outG d m f0 i).getD i 0) l; omega⟩
      have HDL : Hid (∀ l, l < m → d ((outG d m f0 i).getD i 0) l < 3013824) := fun l hl => HLT.out (i + 1) _ (by rw [outG_nextH hlt]; exact rowG_mem.2 (.inr ⟨l, hl, rfl⟩))
      have HRS := hide (fun l => rowG_succ d (outG d m f0 i) ((outG d m f0 i).getD i 0) l)
      obtain ⟨colx, hsx⟩ := spX_start (RW i) ((outG d m f0 i).getD i 0) m HSP.out
      have HSX := hide hsx
      clear hsx HSP
      obtain ⟨OI, hOI⟩ : ∃ OI, OI = outG d m f0 i := ⟨_, rfl⟩
      rw [← hOI] at c0 c1 c2 c3 HSUC HIDX HRWG HMI HPG HDL HRS HSX hlt hlti hil hlenB ⊢
      have HOI := hide hOI
      clear hOI
      obtain ⟨sI, hsI⟩ : ∃ sI, sI = OI.getD i 0 := ⟨_, rfl⟩
      rw [← hsI] at c0 c1 c2 c3 HSUC HIDX HRWG HMI HPG HDL HRS HSX
      have HSI := hide hsI
      clear hsI
      have HR0 : Hid (rowG d OI sI 0 = OI) := rfl
      go_wp2
      clear c0 c1 c2 c3
      obtain ⟨wq, hwq⟩ : ∃ wq : World, wq = wr := ⟨_, rfl⟩
      rw [← hwq] at HSX ⊢
      clear hwq wr
      generalize hwz : (wq.alloc (.cells #[.int .i64 (unpt sI).f, .int .i64 (unpt sI).s, .int .i64 (unpt sI).y, .int .i64 (unpt sI).l] 89)).alloc (.cells (madeCells #[.int .i64 0] m) 3) = wz at HSX ⊢
      clear hwz
      go_loopw [10, 37] (fun v u wx => ∃ (l bq' cq' : Nat) (col' : Nat → Nat), l ≤ m ∧ u = .int .i64 l ∧ v = .slice (some ⟨bq', 0, none⟩) (rowG d OI sI l).length cq' ∧ SpX w RW ES col' (rowG d OI sI l) i i mb bq' cq' (.slice aN i cN) (.slice aE i cE) vals wq.heap.size sI m (wq.heap.size + 1) (RW i) l wx) (fun _ u _ => m - (intOf u).toNat)
      case atStart => exact ⟨0, bq, cq, colx, by omega, rfl, by rw [HR0.out], by rw [HR0.out]; exact HSX.out⟩
      case round =>
        obtain ⟨l, bq', cq', col', hl, rfl, rfl, hx⟩ := hrel
        have HX := hide hx
        obtain ⟨⟨a0, a1, a2, a3⟩, -⟩ := box_cells hx.at_
        have hpg := HPG.out l hl
        clear hx HSX
        by_cases hlm : l < m
        · have hlmi : (l : Int) < (m : Int) := by omega
          have HC1 := hide (HF.out wr sI l i HX.out.sp.bel (by rw [← HOI.out]; exact HMI.out) hlm)
          have HRSl := hide (HRS.out l)
          have HIDl := hide (HIDX.out l hlm)
          have HRWl := hide (HRWG.out l hlm)
          have hM2 := HDL.out l hlm
          obtain ⟨kl, hkl⟩ := ptU_key hM2
          have HKL := hide hkl
          clear hkl hM2
          obtain ⟨M2, hM2⟩ : ∃ M2, M2 = d sI l := ⟨_, rfl⟩
          rw [← hM2] at HC1 HRSl HIDl HRWl HKL
          clear hM2
          have he := HEN.out
          unfold ptU at HC1 HKL
          go_wp2_with fail
          clear he a0 a1 a2 a3
          refine HC1.out.mono ?_
          rintro e w2 ⟨rfl, hb2⟩
          have hb3 := hb2.alloc hb2.size (.cells #[.int .i64 (unpt M2).f, .int .i64 (unpt M2).s, .int .i64 (unpt M2).y, .int .i64 (unpt M2).l] 89)
          have HXP := hide (heap_alloc_last w2 (.cells #[.int .i64 (unpt M2).f, .int .i64 (unpt M2).s, .int .i64 (unpt M2).y, .int .i64 (unpt M2).l] 89))
          have HXW := hide (spX_below HX.out hb3)
          clear hb2 hb3 HC1 HX
          obtain ⟨⟨x0, x1, x2, x3⟩, -⟩ := box_cells HXP.out
          by_cases hin : M2 ∈ rowG d OI sI l
          · have HMEM := hide (numP_mem hin)
            have HAD : Hid (rowG d OI sI (l + 1) = rowG d OI sI l) := by show _ = _; rw [HRSl.out]; exact addG_old hin
            have HNUM : Hid ((((rowG d OI sI l).idxOf M2 : Nat) : Int) = (RW i).getD l 0) := by
              show _ = _
              rw [HRWl.out, ← HIDl.out, addG_old hin]
            rw [HNUM.out] at HMEM
            obtain ⟨hcz, hfz⟩ := spX_cell HXW.out hlm
            have HMW := hide HXW.out.sp.map
            have HSET := hide (fun z hz => @spX_set _ _ _ _ _ _ _ _ _ _ _ _ _ _ _ _ _ _ _ _ z HXW.out hz)
            obtain ⟨z, hz⟩ : ∃ z, z = (RW i).getD l 0 := ⟨_, rfl⟩
            rw [← hz] at HMEM
            have HZ := hide hz.symm
            clear hin hz HNUM
            unfold ptU at HMEM
            go_wp2_with (at_lookup; refine wpList_look_yes _ rfl _ _ 92 rfl 89 3 ptP_law Try.underlying92 (zeroI_any _) mb _ rfl HMW.out _ _ rfl HKL.out _ HMEM.out ?_)
            have HFIN := hide (HSET.out z HZ.out)
            go_roundw
            case rel => exact ⟨l + 1, bq', cq', _, by omega, by go_num, by rw [HAD.out], by rw [HAD.out]; exact HFIN.out⟩
            case measure => simp [intOf]; omega
          · have HNM := hide (numP_not hin)
            have HAD : Hid (rowG d OI sI (l + 1) = rowG d OI sI l ++ [M2]) := by show _ = _; rw [HRSl.out]; exact addG_new hin
            have HNUM : Hid (((rowG d OI sI l).length : Int) = (RW i).getD l 0) := by
              show _ = _
              rw [HRWl.out, ← HIDl.out, addG_new hin]
              have : (rowG d OI sI l ++ [M2]).idxOf M2 = (rowG d OI sI l).length := by rw [List.idxOf_append, if_neg hin]; simp
              rw [this]
            have HNEW := hide (fun w5 w6 o b' cap' k1 k2 k3 k4 k5 => @spX_new w RW ES _ (rowG d OI sI l) i i mb bq' cq' _ _ vals _ sI m _ (RW i) l _ M2 w5 w6 o b' cap' HXW.out k1 k2 k3 k4 k5)
            have HMW := hide HXW.out.sp.map
            have HPL := hide (Array.getElem?_eq_some_iff.1 HXP.out).1
            have HPM : Hid (w2.heap.size ≠ mb) := fun e => by
              obtain ⟨es, clock, h⟩ := HMW.out.isMap
              rw [← e, HXP.out] at h
              cases h
            have HQM : Hid (mb ≠ bq') := fun e => by have := HXW.out.sp.mcl; rw [e, HXW.out.sp.qcl] at this; omega
            have HQX := hide (fun W h => queP_kept (W' := W) HXW.out.sp.que h)
            have HBQL := hide (queP_lt HXW.out.sp.que)
            clear hin
            unfold ptU at HNM HNEW
            go_wp2_with (first
              | (at_lookup; refine wpList_look_no _ rfl _ _ 92 rfl 89 3 ptP_law Try.underlying92 (zeroI_any _) mb _ rfl HMW.out _ _ rfl HKL.out HNM.out ?_)
              | (at_mapUpdate; refine wpList_put_at _ rfl _ _ _ 92 rfl 89 3 ptP_law Try.underlying92 mb _ rfl HMW.out (by rw [numP_len]; unfold maxLen; omega) (Value.agg #[.int .i64 (unpt M2).f, .int .i64 (unpt M2).s, .int .i64 (unpt M2).y, .int .i64 (unpt M2).l]) (.int .i64 ((rowG d OI sI l).length : Int)) _ rfl rfl HKL.out HNM.out ?_; intro w5 hmp htn; have HMP5 := hide hmp; have HTN5 := hide htn; have hxp5 := (htn.grown.block w2.heap.size HPL.out (fun e => HPM.out (by cases e; rfl))).trans HXP.out; obtain ⟨⟨y0, y1, y2, y3⟩, -⟩ := box_cells hxp5; clear hmp htn hxp5)
              | (at_builtin; refine wpList_append_queP _ rfl _ _ rfl bq' (rowG d OI sI l).length cq' (rowG d OI sI l) rfl (HQX.out _ ((Below.heap_alloc _ _ _ (Nat.lt_of_lt_of_le HBQL.out HTN5.out.grown.size)).trans (HTN5.out.grown.block bq' HBQL.out (fun e => HQM.out (by cases e; rfl))))) ⟨w5.heap.size, 0, none⟩ M2 (unpt M2).f (unpt M2).s (unpt M2).y (unpt M2).l rfl rfl rfl rfl rfl (four_new _ _ _ _ _ _) (by omega) ?_; intro b6 cap6 w6 hq6 hg6 hb6; have HX6 := hide (HNEW.out w5 w6 _ b6 cap6 HMP5.out HTN5.out hq6 hg6 hb6); obtain ⟨hcz, hfz⟩ := spX_cell HX6.out hlm; clear hq6 hg6 hb6))
            have HFIN := hide (spX_set HX6.out HNUM.out.symm)
            go_roundw
            case rel => exact ⟨l + 1, b6, cap6, _, by omega, by go_num, by rw [HAD.out, List.length_append, List.length_singleton], by rw [HAD.out]; exact HFIN.out⟩
            case measure => simp [intOf]; omega
        · have hlmi : ¬ (l : Int) < (m : Int) := by omega
          obtain rfl : l = m := by omega
          clear a0 a1 a2 a3
          rw [← HSUC.out] at HX hpg ⊢
          obtain ⟨OS, hOS⟩ : ∃ OS, OS = outG d l f0 (i + 1) := ⟨_, rfl⟩
          rw [← hOS] at HX hpg ⊢
          have HOS : Hid (outG d l f0 (i + 1) = OS) := hOS.symm
          clear hOS
          have HOWN : Hid (wr.ownsRow w.heap.size 22 1 (.slice aN i cN) i vals) := by have h := HX.out.sp.nx.own; rw [HX.out.sp.rw_.1] at h; exact h
          have HLB : Hid (w.heap.size ≤ wr.heap.size) := HX.out.sp.bel.size
          have HNN := hide (fun w3 o g' cap' k1 k2 k3 => @spX_N w RW ES col' OS i i mb bq' cq' _ _ vals _ sI l _ wr w3 o g' cap' HX.out HRWL.out (by unfold maxLen; omega) HRWW.out k1 k2 k3)
          have HAT := hide (fun w3 o k => @spX_at w RW ES col' OS i i mb bq' cq' _ _ vals _ sI l _ (RW i) l wr w3 o HX.out k)
          obtain ⟨j0, hj0, hy0, hy1, hy2⟩ := info_parts infoS2
          have he2 := HEN2.out
          go_wp2_with (at_builtin; refine wpList_append_lies _ rfl _ _ 23 rfl w.heap.size 22 j0 (.slice none 0 0) 1 24 Try.underlying23 hj0 hy0 hy1 hy2 rfl (by decide) (.slice aN i cN) i vals rfl (HOWN.out.alloc _) ⟨wr.heap.size, 0, none⟩ 1 1 [.slice (some ⟨wq.heap.size + 1, 0, none⟩) l l] rfl rfl (one_new _ _ _) (fun u hu => by simp at hu; subst hu; rfl) (by omega) (by unfold maxLen; omega) (by omega) (by have := HLB.out; simp; omega) (wr.heap.size + 1) (by simp) ?_; intro g' cg w5 hown5 hgrow5 hat5 hlt5; have HI5 := hide (HNN.out w5 _ g' cg hown5 hgrow5 (by simpa using hat5)); have hat := HAT.out w5 _ hgrow5; obtain ⟨⟨a0, a1, a2, a3⟩, -⟩ := box_cells hat; clear hown5 hgrow5 hat5 hlt5 hat)
          have HC := hide (HEF.out w5 sI)
          unfold ptU at HC
          have HPE : Hid (p sI = ES i) := by
            show _ = _
            rw [← HES.out]
            show p sI = p ((outG d l f0 i).getD i 0)
            rw [← HOI.out, ← HSI.out]
          rw [HPE.out] at HC
          clear he2 a0 a1 a2 a3
          refine HC.out.mono ?_
          rintro e w6 ⟨rfl, hb6⟩
          have HI6 := hide (spI_below HI5.out hb6)
          clear hb6 HC
          have HOWE : Hid (w6.ownsRow w.heap.size 4 1 (.slice aE i cE) i ((List.range i).map fun j => .bool (ES j))) := by have h := HI6.out.en.own; rw [List.length_map, List.length_range] at h; exact h
          have HLB6 : Hid (w.heap.size ≤ w6.heap.size) := HI6.out.bel.size
          have HNE6 := hide (fun w7 o g2 cap2 k1 k2 k3 => @spI_E w RW ES _ OS (i + 1) i mb bq' cq' _ _ _ w6 w7 o g2 cap2 HI6.out k1 k2 k3)
          obtain ⟨l0, hl0, hv0, hv1, hv2⟩ := info_parts infoBo
          go_wp2_with (at_builtin; refine wpList_append_lies _ rfl _ _ 24 rfl w.heap.size 4 l0 (.bool false) 1 1 Try.underlying24 hl0 hv0 hv1 hv2 rfl (by decide) (.slice aE i cE) i _ rfl (HOWE.out.alloc _) ⟨w6.heap.size, 0, none⟩ 1 1 [.bool (ES i)] rfl rfl (one_new _ _ _) (fun u hu => by simp at hu; subst hu; rfl) (by omega) (by unfold maxLen; omega) (by omega) (by have := HLB6.out; simp; omega) (w6.heap.size + 1) (by simp) ?_; intro g2 cap2 w7 hown7 hgrow7 hat7 hlt7; have HI7 := hide (HNE6.out w7 _ g2 cap2 hown7 hgrow7 (by simpa using hat7)); clear hown7 hgrow7 hat7 hlt7)
          go_roundg (B + 1 - (i + 1))
          case measure => have := HGI.out; omega
          case rel => exact ⟨i + 1, bq', cq', _, _, rfl, by rw [HOS.out], by rw [HOS.out]; omega, by rw [HOS.out]; exact HI7.out⟩
    · have hlti : ¬ (i : Int) < ((outG d m f0 i).length : Int) := by omega
      have HEQ : Hid ((outG d m f0 i).length = i) := by show _ = _; omega
      have HOB := hide (HSTAY.out i (Nat.le_of_eq HEQ.out) (by omega))
      have HFI := hide (spI_end HSP.out (by unfold maxLen; omega) (gN d m (outG d m f0 i)) (by rw [gN_len]; exact HEQ.out) (fun j hj => by rw [← HRW.out]; exact found_end (Nat.le_of_eq HEQ.out) hil j hj) (gE p (outG d m f0 i)) (by rw [gE_len]; exact HEQ.out) (fun j hj => by rw [← HES.out]; exact found_ends p (Nat.le_of_eq HEQ.out) hil j hj))
      go_wp2
      go_ret2
      refine ⟨aN, cN, aE, cE, ?_, ?_, HSP.out.bel⟩
      · rw [HOB.out, gN_len, HEQ.out]; rfl
      · rw [HOB.out, gN_len, HEQ.out]; exact HFI.out
end Go.Proofs.Ythadkoplbgibgaf

/- line.Of: contract. -/
namespace Go.Proofs.Ythadkoplbgibgaf
open Go.RowKit

theorem ptU_pt {b : Int} {q : LPt} (h : LpOk b q) : ptU (ptN q) = ptV q := by
  unfold ptU ptV
  rw [(unpt_pt h).1]
theorem lp_ok {b : Int} {C : List Int} {c : Int} (h : lnF b C c = 0) (less : Bool) {i s : Nat} (hs : s ∈ outG (lpD b C c less) (lnM b C) 1506816 i) : LpOk b (unpt s) ∧ s < 3013824 := by
  obtain ⟨u, hu, rfl⟩ := outG_reach hs
  exact ⟨(lp_run h less u hu).1.1, lp_few h less u hu⟩
theorem ckC_lnF {b : Int} {C : List Int} {c : Int} (hM : codeM b (C.length : Int) = 0) : lnF b C c = ckC C c := by unfold lnF ckC; rw [if_pos hM]
/-- By whichever closure it goes, all points are found. -/
theorem lnSpread_all {b : Int} {C : List Int} {c : Int} (h : lnF b C c = 0) (less : Bool) (f : FuncId) (cs : Array Value) (w : World) (hen : ∀ (args : Array Value) (W : World), (callFunc f args).run Try.prog W = .ok (.enter f args) W) (hst : StepF b (lnM b C) (lpStep b C c less) f cs w) :
    Calls Try.prog 21 #[.int .i64 (lnM b C : Int), .func (.func f) #[] cs, .func (.func 22) #[.agg #[.int .i64 (-c), .bool less]] #[]] w (SpreadR w (lpN b C c less) (lpE b C c less)) := by
  obtain ⟨hM, h12, hc⟩ := lnF_zero h
  obtain ⟨h1, h2, -⟩ := codeM_zero hM
  obtain ⟨m1, m36⟩ := manyU_bd hM
  exact lnSpread_any f 22 cs (.agg #[.int .i64 (-c), .bool less]) (lnM b C) 1506816 3013824 (lpD b C c less) (fun s => lpEnd c less (unpt s)) w rfl m1 m36 (Nat.le_refl _) hen (enters_of Try.func22 (by kernel_rfl) rfl) (fun i x hx => (lp_ok h less hx).2)
    (fun W s l i hW hs hl => by
      have hp := (lp_ok h less hs).1
      have hq := lpStep_ok (c := c) (less := less) h1 h2 h12 hc (Nat.lt_of_lt_of_le hl (Nat.le_trans m36 (by decide))) hp
      have hcall := hst W (unpt s) l hW hp hl
      unfold GivesPt at hcall
      have e : ptU (lpD b C c less s l) = ptV (lpStep b C c less (unpt s) l) := ptU_pt hq
      rw [e]
      exact hcall)
    (fun W s => lnEnds_any c less (unpt s) W)
set_option maxHeartbeats 16000000 in
set_option maxRecDepth 8000 in
theorem line_saysQ : LineSays := by
  intro b a n cap C c less w hs
  have hL := hs.1
  have HS := hide hs
  have HMC := hide (fun W => many_u b (n : Int) W)
  have HX0 := hide (heap_alloc_last w (.cells #[.int .i64 0, .int .i64 0, .slice none 0 0, .slice none 0 0] 26))
  have HB0 := hide ((Below.refl w.heap.size w).alloc (Nat.le_refl _) (.cells #[.int .i64 0, .int .i64 0, .slice none 0 0, .slice none 0 0] 26))
  have HSZ0 : Hid ((w.alloc (.cells #[.int .i64 0, .int .i64 0, .slice none 0 0, .slice none 0 0] 26)).heap.size = w.heap.size + 1) := by show _ = _; simp
  have HN : Hid (∀ (e : Ending) (w' : World), lnF b C c ≠ 0 → PairR w 0 0 [] [] (lnF b C c) e w' → PairR w (okI (lnC b C c less) b) (okI (lnC b C c less) (n : Int)) (lnN b C c less) (lnE b C c less) (lnC b C c less) e w') := fun e w' h1 h3 => by
    have hc : lnC b C c less = lnF b C c := by unfold lnC; rw [if_neg h1]
    unfold lnN lnE
    rw [hc, if_neg h1, if_neg h1]
    unfold okI
    rw [if_neg h1, if_neg h1]
    exact h3
  generalize hwb : w.alloc (.cells #[.int .i64 0, .int .i64 0, .slice none 0 0, .slice none 0 0] 26) = wb at HX0 HB0 HSZ0
  by_cases hM : codeM b (n : Int) = 0
  · rw [hM, errV_zero] at HMC
    obtain ⟨h1, h2, h3, h4, h5, h6⟩ := codeM_zero hM
    obtain ⟨m1, m36⟩ := manyU_bd hM
    have hM' : codeM b (C.length : Int) = 0 := by rw [hL]; exact hM
    have hmm : lnM b C = (manyU b (n : Int)).toNat := by unfold lnM; rw [hL]
    have HCK := hide (lnCheck_any a n cap C c wb (sl_below hs HB0.out) (by omega))
    have hFck := ckC_lnF (c := c) hM'
    rw [← hFck] at HCK
    clear hFck
    by_cases hF : lnF b C c = 0
    · obtain ⟨-, h12, hc⟩ := lnF_zero hF
      rw [hF, errV_zero] at HCK
      have hmI : manyU b (n : Int) = ((lnM b C : Nat) : Int) := by rw [hmm]; omega
      have HLO := hide (fun W h => lnLoads_any b a n cap C W h hM h12)
      rw [← hmm, hmI] at HLO
      rw [hmI] at HMC
      have HWH := hide (fun W h => lnWhole_any a n cap C W h h12 (by omega))
      have HPS := hide (fun g W h => lnPlainStep_any b C c less (lnM b C) g W h1 h2 h12 h)
      have HFS : Hid (b = 1 → ∀ (g : Nat) (W : World), LdAt b C (lnM b C) (lnM b C) g W → Calls Try.prog 20 #[.slice (some ⟨g, 0, none⟩) (lnM b C) (lnM b C), loadV (upA C) (dnA C), .agg #[.int .i64 (-c), .bool less]] W (StepR W b (lnM b C) (lpFib C c less) 47)) := fun hb g W h => by
        subst hb
        exact lnFibStep_any C c less (lnM 1 C) g W h12 (by rw [hmm]; exact m36) h
      have HSP := hide (fun f cs W h1 h2 => lnSpread_all hF less f cs W h1 h2)
      have HST1 : Hid (b ≠ 1 → lpStep b C c less = lpPlain b C c less) := fun h => by funext p x; unfold lpStep; rw [if_neg h]
      have HST2 : Hid (b = 1 → lpStep b C c less = lpFib C c less) := fun h => by funext p x; unfold lpStep; rw [if_pos h]
      obtain ⟨hG, hlang⟩ := lp_all hF less
      obtain ⟨hs1, hs2⟩ := ln_same hF hG hlang
      have HK80 : Hid (leastK (lpN b C c less) (lpE b C c less) (lnM b C) = leastK (lnP b C) (lnQ b C c less) (lnM b C)) := by
        show _ = _
        rw [← leastN_len, ← leastN_len, hs1]
      have HY : Hid (∀ (e : Ending) (w' : World), leastK (lpN b C c less) (lpE b C c less) (lnM b C) ≤ 80 → PairR w b (n : Int) (leastN (lpN b C c less) (lpE b C c less) (lnM b C)) (leastE (lpN b C c less) (lpE b C c less) (lnM b C)) 0 e w' → PairR w (okI (lnC b C c less) b) (okI (lnC b C c less) (n : Int)) (lnN b C c less) (lnE b C c less) (lnC b C c less) e w') := fun e w' h1 h3 => by
        have hc : lnC b C c less = 0 := by unfold lnC; rw [if_pos hF, if_pos (by rw [← HK80.out]; exact h1)]
        unfold lnN lnE
        rw [if_pos hc, if_pos hc, hc, ← hs1, ← hs2]
        exact h3
      have HZ : Hid (∀ (e : Ending) (w' : World), 80 < leastK (lpN b C c less) (lpE b C c less) (lnM b C) → PairR w 0 0 [] [] 3 e w' → PairR w (okI (lnC b C c less) b) (okI (lnC b C c less) (n : Int)) (lnN b C c less) (lnE b C c less) (lnC b C c less) e w') := fun e w' h1 h3 => by
        have hc : lnC b C c less = 3 := by unfold lnC; rw [if_pos hF, if_neg (by rw [← HK80.out]; omega)]
        unfold lnN lnE
        rw [hc, if_neg (by decide), if_neg (by decide)]
        exact h3
      have hGN : GoodN (manyU b (n : Int)).toNat (lpN b C c less).length (lpN b C c less) := by rw [← hmm]; exact hG
      have HLW := hide (fun aN cN aE cE W k1 k2 => leastw_any b (n : Int) aN (lpN b C c less).length cN _ (lpN b C c less) aE cE (lpE b C c less) W k1 k2 hG (autoM_good hM hGN (by have := hG.2.2.1; omega)))
      unfold LeastR LeastU at HLW
      unfold LoadsR at HLO
      unfold StepR at HPS HFS
      unfold SpreadR at HSP
      unfold loadV at HWH HPS HFS
      clear HN hM hM' hmm hmI hs hL hF hG hGN hlang hs1 hs2 HK80 h1 h2 h3 h4 h5 h6 h12
      generalize lnM b C = m at *
      generalize hNg : lpN b C c less = SN at *
      generalize hEg : lpE b C c less = SE at *
      clear hNg hEg
      generalize okI (lnC b C c less) b = OB at HY HZ ⊢
      generalize okI (lnC b C c less) (n : Int) = OT at HY HZ ⊢
      generalize lnN b C c less = RN at HY HZ ⊢
      generalize lnE b C c less = RE at HY HZ ⊢
      generalize lnC b C c less = RC at HY HZ ⊢
      go_enter Try.func5, Try.ntmps5
      go_wp2_with (first
        | (go_at_call 15; refine (HMC.out _).mono ?_; rintro e w1 ⟨rfl, hw1⟩; rw [hw1]; clear hw1 w1)
        | (go_at_call 16; refine HCK.out.mono ?_; rintro e w1 ⟨rfl, hw1⟩; rw [hw1]; clear hw1 w1)
        | (go_at_call 17; refine (HLO.out _ (sl_below HS.out HB0.out)).mono ?_; rintro e w1 ⟨g, rfl, hg, hld, hb1⟩; have HLD1 := hide hld; have HB1 := hide hb1; clear hg hld hb1))
      clear hwb
      have HV3 := hide (heap_alloc_last w1 (.cells #[.int .i64 (-c), .bool less] 53))
      have HA3 := hide ((Below.refl w1.heap.size w1).alloc (Nat.le_refl _) (.cells #[.int .i64 (-c), .bool less] 53))
      generalize w1.alloc (.cells #[.int .i64 (-c), .bool less] 53) = W3 at HV3 HA3 ⊢
      have HL3 : Hid (LdAt b C m m g W3) := HLD1.out.of_block (HA3.out.block _ HLD1.out.lt)
      have HC3 : Hid (Below wb.heap.size wb W3) := below_step HB1.out HA3.out
      have HSW : Hid (∀ W, Below W3.heap.size W3 W → Sl W a n C) := fun W hW => sl_below HS.out (below_step HB0.out (below_step HC3.out hW))
      clear HLD1 HA3 HB1
      go_cut [15] (fun s15 wx => ∃ cs, s15 = .func (.func 45) #[] cs ∧ Below W3.heap.size W3 wx ∧ StepF b m (lpPlain b C c less) 45 cs wx)
      case first =>
        obtain ⟨⟨v0, v1⟩, -⟩ := box2_cells HV3.out
        go_region_with (first
          | (go_at_call 19; refine (HWH.out _ (HSW.out _ (by first | exact (Below.refl _ _).drew | exact below_drewN (Below.refl _ _) _))).mono ?_; rintro e w4 ⟨rfl, hb4⟩; have HB4 : Hid (Below W3.heap.size W3 w4) := ⟨hb4.os, hb4.tape, hb4.output, hb4.size, hb4.block⟩; obtain ⟨⟨u0, u1⟩, -⟩ := box2_cells ((HB4.out.block _ (Array.getElem?_eq_some_iff.1 HV3.out).1).trans HV3.out); have HL4 : Hid (LdAt b C m m g w4) := HL3.out.of_block (HB4.out.block _ HL3.out.lt); clear hb4)
          | (go_at_call 18; refine (HPS.out g _ HL4.out).mono ?_; rintro e w5 ⟨cs, rfl, hb5, hst⟩; have HB5 := hide (below_step HB4.out hb5); have HST5 := hide hst; clear hb5 hst))
        all_goals
          go_wp2_with fail
          go_meet
          exact ⟨_, rfl, HB5.out, HST5.out⟩
      case rest =>
        obtain ⟨cs0, rfl, hb4, hst4⟩ := hcut
        have HB4 := hide hb4
        have HST4 := hide hst4
        clear hb4 hst4
        by_cases hb : b = 1
        · have HS2 := hide (HST2.out hb)
          obtain ⟨wo, hwo⟩ : ∃ wo : World, wo = wc := ⟨_, rfl⟩
          rw [← hwo] at HB4 HST4 ⊢
          clear hwo wc
          rw [HS2.out] at HSP
          have hb1 : (b == 1) = true := by simp [hb]
          have HFB := hide (HFS.out hb)
          have HSX : Hid (∀ W, Below wo.heap.size wo W → Sl W a n C) := fun W hW => HSW.out W (below_step HB4.out hW)
          have HVX := hide ((HB4.out.block _ (Array.getElem?_eq_some_iff.1 HV3.out).1).trans HV3.out)
          have HLX : Hid (LdAt b C m m g wo) := HL3.out.of_block (HB4.out.block _ HL3.out.lt)
          have HBZ := hide hb
          clear hb
          go_wp2_with fail
          go_cut [15] (fun s15 wx => ∃ cs, s15 = .func (.func 47) #[] cs ∧ Below wo.heap.size wo wx ∧ StepF b m (lpFib C c less) 47 cs wx)
          case first =>
            obtain ⟨⟨v0, v1⟩, -⟩ := box2_cells HVX.out
            go_region_with (first
              | (go_at_call 19; refine (HWH.out _ (HSX.out _ (by first | exact (Below.refl _ _).drew | exact below_drewN (Below.refl _ _) _))).mono ?_; rintro e w4 ⟨rfl, hb4⟩; have HB4' : Hid (Below wo.heap.size wo w4) := ⟨hb4.os, hb4.tape, hb4.output, hb4.size, hb4.block⟩; obtain ⟨⟨u0, u1⟩, -⟩ := box2_cells ((HB4'.out.block _ (Array.getElem?_eq_some_iff.1 HVX.out).1).trans HVX.out); have HL4 : Hid (LdAt b C m m g w4) := HLX.out.of_block (HB4'.out.block _ HLX.out.lt); clear hb4)
              | (go_at_call 20; refine (HFB.out g _ HL4.out).mono ?_; rintro e w5 ⟨cs, rfl, hb5, hst⟩; have HB5 := hide (below_step HB4'.out hb5); have HST5 := hide hst; clear hb5 hst))
            all_goals
              go_wp2_with fail
              go_meet
              exact ⟨_, rfl, HB5.out, HST5.out⟩
          case rest =>
            obtain ⟨cs1, rfl, hb6, hst6⟩ := hcut
            have HB6 := hide (below_step HB4.out hb6)
            have HST6 := hide hst6
            clear hb6 hst6
            have HXA := hide (heap_alloc_last wc (.cells #[.int .i64 b, .int .i64 (n : Int), .slice none 0 0, .slice none 0 0] 26))
            have HA7 := hide ((Below.refl wc.heap.size wc).alloc (Nat.le_refl _) (.cells #[.int .i64 b, .int .i64 (n : Int), .slice none 0 0, .slice none 0 0] 26))
            have HB7 := hide (below_step HB6.out HA7.out)
            obtain ⟨⟨v0, v1⟩, -⟩ := box2_cells ((HB7.out.block _ (Array.getElem?_eq_some_iff.1 HV3.out).1).trans HV3.out)
            have HC := hide (HSP.out 47 cs1 _ (enters_of Try.func47 (by kernel_rfl) rfl) (stepF_below HST6.out HA7.out))
            go_wp2_with fail
            generalize wc.alloc (.cells #[.int .i64 b, .int .i64 (n : Int), .slice none 0 0, .slice none 0 0] 26) = w7 at HXA HA7 HB7 HC v0 v1 ⊢
            have HBX : Hid (wc.heap.size < w7.heap.size) := (Array.getElem?_eq_some_iff.1 HXA.out).1
            clear v0 v1
            refine HC.out.mono ?_
            rintro e w8 ⟨aN, cN, aE, cE, rfl, hnew, hb8⟩
            have hx8 := (hb8.block _ HBX.out).trans HXA.out
            have HX8 := hide hx8
            obtain ⟨⟨q0, q1, q2, q3⟩, qf⟩ := box_cells hx8
            have HB8 : Hid (Below wb.heap.size wb w8) := below_step HC3.out (below_step HB7.out hb8)
            have HNEW := hide hnew
            clear hx8 hnew hb8 HC
            go_wp2_with fail
            have HBG : Hid (wb.heap.size ≤ wc.heap.size) := Nat.le_trans HC3.out.size HB6.out.size
            have HB9 : Hid (Below wb.heap.size wb ((w8.setCell ⟨wc.heap.size, 2, none⟩ (.slice aN SN.length cN)).setCell ⟨wc.heap.size, 3, none⟩ (.slice aE SN.length cE))) := (HB8.out.setCell HBG.out _).setCell HBG.out _
            obtain ⟨hn1, hn2⟩ := HNEW.out ((w8.setCell ⟨wc.heap.size, 2, none⟩ (.slice aN SN.length cN)).setCell ⟨wc.heap.size, 3, none⟩ (.slice aE SN.length cE)) (fun x hx hxl => by
              have h1 := HBX.out
              rw [Below.heap_setCell _ _ _ _ (show x ≠ wc.heap.size by omega), Below.heap_setCell _ _ _ _ (show x ≠ wc.heap.size by omega)])
            have HL9 := hide (HLW.out aN cN aE cE _ hn1 hn2)
            clear q0 q1 q2 q3 qf hn1 hn2 HX8 HNEW
            generalize (w8.setCell ⟨wc.heap.size, 2, none⟩ (.slice aN SN.length cN)).setCell ⟨wc.heap.size, 3, none⟩ (.slice aE SN.length cE) = w9 at HB9 HL9 ⊢
            generalize leastN SN SE m = LN at HL9 HY
            generalize leastE SN SE m = LE at HL9 HY
            generalize leastK SN SE m = LK at HL9 HY HZ
            refine HL9.out.mono ?_
            rintro e w10 ⟨hy2, hn2⟩
            by_cases hK : LK ≤ 80
            · obtain ⟨a1, c1, a2, c2, rfl, hnw, hb2⟩ := hy2 hK
              have HBF := hide (below_step HB9.out hb2)
              have hr := (HBF.out.block w.heap.size (by rw [HSZ0.out]; omega)).trans HX0.out
              obtain ⟨⟨r0, r1, r2, r3⟩, rf⟩ := box_cells hr
              have HR := hide hr
              have HNW := hide hnw
              have HSW9 : Hid (w.heap.size + 1 ≤ w9.heap.size) := by have h1 := HB9.out.size; have h2 := HSZ0.out; show _ ≤ _; omega
              have HYS := hide (fun e w' => HY.out e w' hK)
              clear hr hnw hb2 hy2 hn2
              go_wp2
              obtain ⟨⟨hset, hsz, hoth⟩, hbel⟩ := box_set (v0 := .int .i64 b) (v1 := .int .i64 (n : Int)) (v2 := .slice a1 LN.length c1) (v3 := .slice a2 LN.length c2) HR.out rfl
              have hfin : AutoNew w a1 LN.length LN a2 LE ((((w10.setCell ⟨w.heap.size, 0, none⟩ (.int .i64 b)).setCell ⟨w.heap.size, 1, none⟩ (.int .i64 (n : Int))).setCell ⟨w.heap.size, 2, none⟩ (.slice a1 LN.length c1)).setCell ⟨w.heap.size, 3, none⟩ (.slice a2 LN.length c2)) := fun W' hW' => HNW.out W' (fun x hx hxl => by
                have h1 := HSW9.out
                rw [hW' x (by omega) (by rw [hsz]; exact hxl), hoth x (by omega)])
              have hb := hbel w w.heap.size (below_step HB0.out HBF.out) (Nat.le_refl _)
              obtain ⟨⟨z0, z1, z2, z3⟩, -⟩ := box_cells hset
              exact bodyPost_ret (v := .tuple #[.agg #[.int .i64 b, .int .i64 (n : Int), .slice a1 LN.length c1, .slice a2 LN.length c2], .nilIface]) (by simp [results, Try.results5, go_sem, z0, z1, z2, z3]) rfl (HYS.out _ _ ⟨a1, c1, a2, c2, rfl, hfin, hb⟩)
            · obtain ⟨rfl, hb2⟩ := hn2 (by omega)
              have HBF := hide (below_step HB9.out hb2)
              have hr := (HBF.out.block w.heap.size (by rw [HSZ0.out]; omega)).trans HX0.out
              obtain ⟨⟨r0, r1, r2, r3⟩, rf⟩ := box_cells hr
              have HR := hide hr
              have HZS := hide (fun e w' => HZ.out e w' (by omega))
              clear hr hb2 hy2 hn2
              go_wp2
              obtain ⟨⟨hset, hsz, hoth⟩, hbel⟩ := box_set (v0 := .int .i64 0) (v1 := .int .i64 0) (v2 := .slice none 0 0) (v3 := .slice none 0 0) HR.out rfl
              have hb := hbel w w.heap.size (below_step HB0.out HBF.out) (Nat.le_refl _)
              obtain ⟨⟨z0, z1, z2, z3⟩, -⟩ := box_cells hset
              exact bodyPost_ret (v := .tuple #[.agg #[.int .i64 0, .int .i64 0, .slice none 0 0, .slice none 0 0], .iface 66 (.int .i64 3)]) (by simp [results, Try.results5, go_sem, z0, z1, z2, z3]) rfl (HZS.out _ _ ⟨none, 0, none, 0, rfl, autoNew_nil _ _, hb⟩)
        · have hb1 : (b == 1) = false := by simp [hb]
          have HS1 := hide (HST1.out hb)
          rw [HS1.out] at HSP
          have HXA := hide (heap_alloc_last wc (.cells #[.int .i64 b, .int .i64 (n : Int), .slice none 0 0, .slice none 0 0] 26))
          have HA7 := hide ((Below.refl wc.heap.size wc).alloc (Nat.le_refl _) (.cells #[.int .i64 b, .int .i64 (n : Int), .slice none 0 0, .slice none 0 0] 26))
          have HB7 := hide (below_step HB4.out HA7.out)
          obtain ⟨⟨v0, v1⟩, -⟩ := box2_cells ((HB7.out.block _ (Array.getElem?_eq_some_iff.1 HV3.out).1).trans HV3.out)
          have HC := hide (HSP.out 45 cs0 _ (enters_of Try.func45 (by kernel_rfl) rfl) (stepF_below HST4.out HA7.out))
          go_wp2_with fail
          generalize wc.alloc (.cells #[.int .i64 b, .int .i64 (n : Int), .slice none 0 0, .slice none 0 0] 26) = w7 at HXA HA7 HB7 HC v0 v1 ⊢
          have HBX : Hid (wc.heap.size < w7.heap.size) := (Array.getElem?_eq_some_iff.1 HXA.out).1
          clear v0 v1
          refine HC.out.mono ?_
          rintro e w8 ⟨aN, cN, aE, cE, rfl, hnew, hb8⟩
          have hx8 := (hb8.block _ HBX.out).trans HXA.out
          have HX8 := hide hx8
          obtain ⟨⟨q0, q1, q2, q3⟩, qf⟩ := box_cells hx8
          have HB8 : Hid (Below wb.heap.size wb w8) := below_step HC3.out (below_step HB7.out hb8)
          have HNEW := hide hnew
          clear hx8 hnew hb8 HC
          go_wp2_with fail
          have HBG : Hid (wb.heap.size ≤ wc.heap.size) := Nat.le_trans HC3.out.size HB4.out.size
          have HB9 : Hid (Below wb.heap.size wb ((w8.setCell ⟨wc.heap.size, 2, none⟩ (.slice aN SN.length cN)).setCell ⟨wc.heap.size, 3, none⟩ (.slice aE SN.length cE))) := (HB8.out.setCell HBG.out _).setCell HBG.out _
          obtain ⟨hn1, hn2⟩ := HNEW.out ((w8.setCell ⟨wc.heap.size, 2, none⟩ (.slice aN SN.length cN)).setCell ⟨wc.heap.size, 3, none⟩ (.slice aE SN.length cE)) (fun x hx hxl => by
            have h1 := HBX.out
            rw [Below.heap_setCell _ _ _ _ (show x ≠ wc.heap.size by omega), Below.heap_setCell _ _ _ _ (show x ≠ wc.heap.size by omega)])
          have HL9 := hide (HLW.out aN cN aE cE _ hn1 hn2)
          clear q0 q1 q2 q3 qf hn1 hn2 HX8 HNEW
          generalize (w8.setCell ⟨wc.heap.size, 2, none⟩ (.slice aN SN.length cN)).setCell ⟨wc.heap.size, 3, none⟩ (.slice aE SN.length cE) = w9 at HB9 HL9 ⊢
          generalize leastN SN SE m = LN at HL9 HY
          generalize leastE SN SE m = LE at HL9 HY
          generalize leastK SN SE m = LK at HL9 HY HZ
          refine HL9.out.mono ?_
          rintro e w10 ⟨hy2, hn2⟩
          by_cases hK : LK ≤ 80
          · obtain ⟨a1, c1, a2, c2, rfl, hnw, hb2⟩ := hy2 hK
            have HBF := hide (below_step HB9.out hb2)
            have hr := (HBF.out.block w.heap.size (by rw [HSZ0.out]; omega)).trans HX0.out
            obtain ⟨⟨r0, r1, r2, r3⟩, rf⟩ := box_cells hr
            have HR := hide hr
            have HNW := hide hnw
            have HSW9 : Hid (w.heap.size + 1 ≤ w9.heap.size) := by have h1 := HB9.out.size; have h2 := HSZ0.out; show _ ≤ _; omega
            have HYS := hide (fun e w' => HY.out e w' hK)
            clear hr hnw hb2 hy2 hn2
            go_wp2
            obtain ⟨⟨hset, hsz, hoth⟩, hbel⟩ := box_set (v0 := .int .i64 b) (v1 := .int .i64 (n : Int)) (v2 := .slice a1 LN.length c1) (v3 := .slice a2 LN.length c2) HR.out rfl
            have hfin : AutoNew w a1 LN.length LN a2 LE ((((w10.setCell ⟨w.heap.size, 0, none⟩ (.int .i64 b)).setCell ⟨w.heap.size, 1, none⟩ (.int .i64 (n : Int))).setCell ⟨w.heap.size, 2, none⟩ (.slice a1 LN.length c1)).setCell ⟨w.heap.size, 3, none⟩ (.slice a2 LN.length c2)) := fun W' hW' => HNW.out W' (fun x hx hxl => by
              have h1 := HSW9.out
              rw [hW' x (by omega) (by rw [hsz]; exact hxl), hoth x (by omega)])
            have hb := hbel w w.heap.size (below_step HB0.out HBF.out) (Nat.le_refl _)
            obtain ⟨⟨z0, z1, z2, z3⟩, -⟩ := box_cells hset
            exact bodyPost_ret (v := .tuple #[.agg #[.int .i64 b, .int .i64 (n : Int), .slice a1 LN.length c1, .slice a2 LN.length c2], .nilIface]) (by simp [results, Try.results5, go_sem, z0, z1, z2, z3]) rfl (HYS.out _ _ ⟨a1, c1, a2, c2, rfl, hfin, hb⟩)
          · obtain ⟨rfl, hb2⟩ := hn2 (by omega)
            have HBF := hide (below_step HB9.out hb2)
            have hr := (HBF.out.block w.heap.size (by rw [HSZ0.out]; omega)).trans HX0.out
            obtain ⟨⟨r0, r1, r2, r3⟩, rf⟩ := box_cells hr
            have HR := hide hr
            have HZS := hide (fun e w' => HZ.out e w' (by omega))
            clear hr hb2 hy2 hn2
            go_wp2
            obtain ⟨⟨hset, hsz, hoth⟩, hbel⟩ := box_set (v0 := .int .i64 0) (v1 := .int .i64 0) (v2 := .slice none 0 0) (v3 := .slice none 0 0) HR.out rfl
            have hb := hbel w w.heap.size (below_step HB0.out HBF.out) (Nat.le_refl _)
            obtain ⟨⟨z0, z1, z2, z3⟩, -⟩ := box_cells hset
            exact bodyPost_ret (v := .tuple #[.agg #[.int .i64 0, .int .i64 0, .slice none 0 0, .slice none 0 0], .iface 66 (.int .i64 3)]) (by simp [results, Try.results5, go_sem, z0, z1, z2, z3]) rfl (HZS.out _ _ ⟨none, 0, none, 0, rfl, autoNew_nil _ _, hb⟩)
    · have HFN := hide (fun e w' => HN.out e w' hF)
      rw [errV_no hF] at HCK
      have HNE := hide hF
      clear hF HN hM hM' hmm hs hL
      generalize lnF b C c = F at HCK HFN HNE
      generalize okI (lnC b C c less) b = OB at HFN ⊢
      generalize okI (lnC b C c less) (n : Int) = OT at HFN ⊢
      generalize lnN b C c less = RN at HFN ⊢
      generalize lnE b C c less = RE at HFN ⊢
      generalize lnC b C c less = RC at HFN ⊢
      obtain ⟨⟨r0, r1, r2, r3⟩, rf⟩ := box_cells HX0.out
      go_enter Try.func5, Try.ntmps5
      go_wp2_with (first
        | (go_at_call 15; refine (HMC.out _).mono ?_; rintro e w1 ⟨rfl, hw1⟩; rw [hw1]; clear hw1 w1)
        | (go_at_call 16; refine HCK.out.mono ?_; rintro e w1 ⟨rfl, hw1⟩; rw [hw1]; clear hw1 w1))
      obtain ⟨⟨hset, -, -⟩, hbel⟩ := box_set (v0 := .int .i64 0) (v1 := .int .i64 0) (v2 := .slice none 0 0) (v3 := .slice none 0 0) HX0.out rfl
      have hb := hbel w w.heap.size HB0.out (Nat.le_refl _)
      obtain ⟨⟨z0, z1, z2, z3⟩, -⟩ := box_cells hset
      exact bodyPost_ret (v := .tuple #[.agg #[.int .i64 0, .int .i64 0, .slice none 0 0, .slice none 0 0], .iface 66 (.int .i64 F)]) (by simp [results, Try.results5, go_sem, z0, z1, z2, z3]) rfl (HFN.out _ _ ⟨none, 0, none, 0, by rw [errV_no HNE.out]; rfl, autoNew_nil _ _, hb⟩)
  · have hF : lnF b C c = codeM b (n : Int) := by unfold lnF; rw [hL, if_neg hM]
    have HFN := hide (fun e w' => HN.out e w' (by rw [hF]; exact hM))
    rw [hF] at HFN
    rw [errV_no hM] at HMC
    have HNE := hide hM
    clear hF HN hM hs hL
    generalize codeM b (n : Int) = F at HMC HFN HNE
    generalize manyU b (n : Int) = mu at HMC
    generalize okI (lnC b C c less) b = OB at HFN ⊢
    generalize okI (lnC b C c less) (n : Int) = OT at HFN ⊢
    generalize lnN b C c less = RN at HFN ⊢
    generalize lnE b C c less = RE at HFN ⊢
    generalize lnC b C c less = RC at HFN ⊢
    obtain ⟨⟨r0, r1, r2, r3⟩, rf⟩ := box_cells HX0.out
    go_enter Try.func5, Try.ntmps5
    go_wp2_with (go_at_call 15; refine (HMC.out _).mono ?_; rintro e w1 ⟨rfl, hw1⟩; rw [hw1]; clear hw1 w1)
    obtain ⟨⟨hset, -, -⟩, hbel⟩ := box_set (v0 := .int .i64 0) (v1 := .int .i64 0) (v2 := .slice none 0 0) (v3 := .slice none 0 0) HX0.out rfl
    have hb := hbel w w.heap.size HB0.out (Nat.le_refl _)
    obtain ⟨⟨z0, z1, z2, z3⟩, -⟩ := box_cells hset
    exact bodyPost_ret (v := .tuple #[.agg #[.int .i64 0, .int .i64 0, .slice none 0 0, .slice none 0 0], .iface 66 (.int .i64 F)]) (by simp [results, Try.results5, go_sem, z0, z1, z2, z3]) rfl (HFN.out _ _ ⟨none, 0, none, 0, by rw [errV_no HNE.out]; rfl, autoNew_nil _ _, hb⟩)
end Go.Proofs.Ythadkoplbgibgaf

/- right.All: contract. -/
namespace Go.Proofs.Ythadkoplbgibgaf
open Go.RowKit

theorem fillAt_over {w : World} {T : List Int} {m k : Nat} {wx : World} (v : Value) (h : FillAt w T m k wx) : FillAt w T m (k + 1) ((wx.setCell ⟨w.heap.size, k, none⟩ v).setCell ⟨w.heap.size, k, none⟩ (.int .i64 (T.getD k 0))) := by
  refine ⟨((h.1.set k v).set k _).congr fun p hp => ?_, (h.2.setCell (Nat.le_refl _) _).setCell (Nat.le_refl _) _⟩
  by_cases e : p = k
  · subst e; rw [if_pos rfl, if_pos (by omega)]
  · rw [if_neg e, if_neg e]
    by_cases e2 : p < k
    · rw [if_pos e2, if_pos (by omega)]
    · rw [if_neg e2, if_neg (by omega)]
/-- Behind i rows. -/
def DaAt (wb : World) (m : Nat) (b t : Int) (i : Nat) (wx : World) : Prop := ∃ G, AutSt wb.heap.size wb.heap.size m b t (daR b m) (daF m) i i G wx ∧ Below wb.heap.size wb wx

set_option maxHeartbeats 16000000 in
set_option maxRecDepth 8000 in
theorem all_ok (b t : Int) (m : Nat) (w : World) (hM : codeM b t = 0) (hmu : manyU b t = (m : Int)) :
    Calls Try.prog 6 #[.int .i64 b, .int .i64 t] w (LeastU w b t (daN b m) (daE m) m) := by
  obtain ⟨m1, m36⟩ := manyU_bd hM
  have hAU := da_auto hM
  rw [hmu, Int.toNat_natCast] at m1 m36 hAU
  have HB0 := hide ((Below.refl w.heap.size w).alloc (Nat.le_refl _) (.cells #[.int .i64 0, .int .i64 0, .slice none 0 0, .slice none 0 0] 26))
  have HX1 := hide (heap_alloc_last w (.cells #[.int .i64 0, .int .i64 0, .slice none 0 0, .slice none 0 0] 26))
  have HSZ : Hid ((w.alloc (.cells #[.int .i64 0, .int .i64 0, .slice none 0 0, .slice none 0 0] 26)).heap.size = w.heap.size + 1) := by show _ = _; simp
  generalize hwb : w.alloc (.cells #[.int .i64 0, .int .i64 0, .slice none 0 0, .slice none 0 0] 26) = wb at HB0 HX1 HSZ
  have HMC := hide (many_u b t wb)
  rw [hM, errV_zero, hmu] at HMC
  have hA0 : AutI wb.heap.size wb.heap.size m b t (daR b m) (daF m) 0 0 (fun x => x = wb.heap.size) (wb.alloc (.cells #[.int .i64 b, .int .i64 t, .slice none 0 0, .slice none 0 0] 26)) (.slice none 0 0) (.slice none 0 0) [] := autI_start _ _ (by simp) (Nat.le_refl _) (heap_alloc_last wb _)
  have HD0 : Hid (DaAt wb m b t 0 (wb.alloc (.cells #[.int .i64 b, .int .i64 t, .slice none 0 0, .slice none 0 0] 26))) := ⟨_, ⟨_, _, _, hA0⟩, (Below.refl _ _).alloc (Nat.le_refl _) _⟩
  have HLE := hide (fun W a c a' c' h1 h2 => least_ok b t a (m + 1) c (daN b m) a' c' (daE m) W h1 h2 hAU)
  rw [hmu, Int.toNat_natCast] at HLE
  have HSL : Hid (∀ (G : Nat → Prop) (W : World) (vN vE : Value) (vals : List Value), AutI wb.heap.size wb.heap.size m b t (daR b m) (daF m) (m + 1) (m + 1) G W vN vE vals → ∃ a c a' c', vN = .slice a (m + 1) c ∧ vE = .slice a' (m + 1) c' ∧ Sl2 W a (m + 1) (daN b m) ∧ SlB W a' (m + 1) (daE m)) := fun G W vN vE vals h => by
    have hl := daN_len b m
    have hgd := da_good b m1 m36
    have h2 : AutI wb.heap.size wb.heap.size m b t (fun j => (daN b m).getD j []) (fun j => (daE m).getD j false) (daN b m).length (daN b m).length G W vN vE vals := by
      rw [hl]
      exact autI_congr h (fun j hj => (daN_get hj).symm) (fun j hj => (daE_get hj).symm)
    have h3 := autI_sl2 h2 (by omega) m36 (fun j hj => by rw [hl] at hj; exact (good_wf hgd j hj).1) (fun j hj => by rw [hl] at hj; exact (good_wf hgd j hj).2) (by rw [daE_len, hl])
    rw [hl] at h3
    exact h3
  unfold LeastU at HLE ⊢
  have HCL := hide (fun x y (hx : x < m) (hy : y < m) W => clash_any b x y W (by omega) (by omega))
  have HIN := hide (fun j l (hj : j < m) (hl : l < m) => @daR_in b m j l hj hl)
  have HOUT : Hid (daR b m m = List.replicate m (m : Int)) := by show _ = _; unfold daR; rw [if_neg (Nat.lt_irrefl _)]
  have HST := hide (fun W => stay_any (m : Int) m W (by omega))
  unfold StayR at HST
  have hmk := make_ints m (by omega)
  obtain ⟨j0, hj0, hy0, hy1, hy2⟩ := info_parts infoSl
  obtain ⟨l0, hl0, hv0, hv1, hv2⟩ := info_parts infoB
  have HFT : Hid (∀ i, i < m → daF m i = true) := fun i hi => by unfold daF; simp [hi]
  have HFF : Hid (daF m m = false) := by show _ = _; unfold daF; simp
  clear hAU hA0 hM hmu
  generalize daN b m = DN at HLE HSL ⊢
  generalize daE m = DE at HLE HSL ⊢
  generalize leastN DN DE m = LN at HLE ⊢
  generalize leastE DN DE m = LE at HLE ⊢
  go_enter Try.func6, Try.ntmps6
  go_wp2_with fail
  clear hwb
  refine HMC.out.mono ?_
  rintro e w' ⟨rfl, hw⟩
  rw [hw]
  clear hw w' HMC
  go_wp2
  generalize wb.alloc (.cells #[.int .i64 b, .int .i64 t, .slice none 0 0, .slice none 0 0] 26) = W1 at HD0 ⊢
  go_loopg [28] m (fun g u wx => ∃ i : Nat, g = m - i ∧ i ≤ m ∧ u = .int .i64 i ∧ DaAt wb m b t i wx)
  case atStart => exact ⟨0, rfl, by omega, rfl, HD0.out⟩
  case round =>
    obtain ⟨i, hgi, hi, rfl, hda⟩ := hrel
    have HGI := hide hgi
    have HDA := hide hda
    clear hgi hda HD0
    by_cases hlt : i < m
    · have hlti : (i : Int) < (m : Int) := by omega
      have HFS := hide (fillAt_start wr (daR b m i) m)
      have HCI := hide (fun y (hy : y < m) W => HCL.out i y hlt hy W)
      have HII := hide (fun l (hl : l < m) => HIN.out i l hlt hl)
      have HFTI := hide (HFT.out i hlt)
      go_wp2
      obtain ⟨wq, hwq⟩ : ∃ wq : World, wq = wr := ⟨_, rfl⟩
      rw [← hwq] at HDA HFS ⊢
      clear hwq wr
      generalize wq.alloc (.cells (madeCells #[.int .i64 0] m) 3) = w1 at HFS ⊢
      generalize hRI : daR b m i = RI at HFS HII
      have HRI := hide hRI
      clear hRI
      go_loopw [34] (fun u wx => ∃ l : Nat, l ≤ m ∧ u = .int .i64 l ∧ FillAt wq RI m l wx) (fun u _ => m - (intOf u).toNat)
      case atStart => exact ⟨0, by omega, rfl, HFS.out⟩
      case round =>
        obtain ⟨l, hl, rfl, hfl⟩ := hrel
        have HFL := hide hfl
        clear hfl HFS
        by_cases hlm : l < m
        · have hlmi : (l : Int) < (m : Int) := by omega
          have hcell := HFL.out.1.cell hlm
          have hfz := HFL.out.1.frozen l
          rw [if_neg (Nat.lt_irrefl _)] at hcell
          have HC := hide (fun W => HCI.out l hlm W)
          have HV := hide (HII.out l hlm)
          have HN1 := hide (fillAt_step HFL.out)
          have HN2 := hide (fillAt_over (.int .i64 (l : Int)) HFL.out)
          rw [HV.out] at HN1 HN2
          have HC2 := hide ((HFL.out.1.set l (.int .i64 (l : Int))).cell hlm)
          have HF2 := hide ((HFL.out.1.set l (.int .i64 (l : Int))).frozen l)
          rw [if_pos rfl] at HC2
          by_cases hc : clB b i l = true
          · rw [hc] at HC
            rw [if_pos hc] at HN2
            clear hc HN1
            go_wp2_with fail
            have hc2 := HC2.out
            have hf2 := HF2.out
            clear hcell hfz
            generalize wr.setCell ⟨wq.heap.size, l, none⟩ (.int .i64 (l : Int)) = w2 at HN2 hc2 hf2 ⊢
            refine (HC.out w2).mono ?_
            rintro e w' ⟨rfl, hw⟩
            rw [hw]
            clear hw w'
            go_wp2
            go_roundw
            case rel => exact ⟨l + 1, by omega, by go_num, HN2.out⟩
            case measure => simp [intOf]; omega
          · have hc2 : clB b i l = false := by simpa using hc
            rw [hc2] at HC
            rw [if_neg hc] at HN1
            clear hc hc2 HN2
            go_wp2_with fail
            clear hcell hfz
            generalize wr.setCell ⟨wq.heap.size, l, none⟩ (.int .i64 (l : Int)) = w2 at HN1 ⊢
            refine (HC.out w2).mono ?_
            rintro e w' ⟨rfl, hw⟩
            rw [hw]
            clear hw w'
            go_wp2
            go_roundw
            case rel => exact ⟨l + 1, by omega, by go_num, HN1.out⟩
            case measure => simp [intOf]; omega
        · have hlmi : ¬ (l : Int) < (m : Int) := by omega
          obtain rfl : m = l := by omega
          obtain ⟨G, ⟨vN, vE, vals, hA0⟩, hbw⟩ := HDA.out
          have hA := autI_keep hA0 (fun x hx => HFL.out.2.block x (hA0.lt x hx).2) HFL.out.2.size
          have hcN : wr.cell? ⟨wb.heap.size, 2, none⟩ = some vN := (box_cells hA.box).1.2.2.1
          have HNN := hide (fun w3 o g' cap' k1 k2 k3 => @autI_N wb.heap.size wb.heap.size m b t (daR b m) (daF m) i i G wr w3 vN vE vals wq.heap.size o g' cap' hA (HFL.out.1.congr fun q hq => by rw [if_pos hq, HRI.out]) ⟨fun h => by have := (hA0.lt _ h).2; omega, hbw.size⟩ k1 k2 k3)
          have HOWN := hide hA.ownN
          have HLB : Hid (wb.heap.size ≤ wr.heap.size) := hA.hb
          have HA := hide hA
          have HBW : Hid (Below wb.heap.size wb wr) := hbw.trans (HFL.out.2.mono hbw.size)
          clear hA hA0 hbw
          go_upto_region 18 with (at_builtin; refine wpList_append_lies _ rfl _ _ 23 rfl wb.heap.size 22 j0 (.slice none 0 0) 1 24 Try.underlying23 hj0 hy0 hy1 hy2 rfl (by decide) vN i vals rfl (HOWN.out.alloc _) ⟨wr.heap.size, 0, none⟩ 1 1 [.slice (some ⟨wq.heap.size, 0, none⟩) m m] rfl rfl (one_new _ _ _) (fun u hu => by simp at hu; subst hu; rfl) (by omega) (by unfold maxLen; omega) (by omega) (by have := HLB.out; simp; omega) (wr.heap.size + 1) (by simp) ?_; intro g' cg w3 hown3 hgrow3 hat3 hlt3; obtain ⟨⟨hn1', hn2'⟩, hn3', hn4'⟩ := HNN.out w3 _ g' cg hown3 hgrow3 (by rw [World.size_alloc]; exact hat3); have HN3 := hide hn3'; have HN4 := hide hn4'; clear hown3 hgrow3 hat3 hn3' hn4')
          clear hcN hn1' hn2' hlt3
          generalize w3.setCell ⟨wb.heap.size, 2, none⟩ (.slice (some ⟨g', 0, none⟩) (i + 1) cg) = w5 at HN3 HN4 ⊢
          have HB5 : Hid (Below wb.heap.size wb w5) := below_tch HBW.out HN4.out (fun x hx => (HA.out.lt x hx).1) HA.out.hb
          have hcE : w5.cell? ⟨wb.heap.size, 3, none⟩ = some vE := (box_cells HN3.out.box).1.2.2.2
          have HNE := hide (fun w6 o g2 cap2 k1 k2 k3 => @autI_E wb.heap.size wb.heap.size m b t (daR b m) (daF m) (i + 1) i _ w5 w6 _ vE _ o g2 cap2 HN3.out k1 k2 k3)
          rw [HFTI.out] at HNE
          have HOE := hide HN3.out.ownE
          have HS5 : Hid (wb.heap.size ≤ w5.heap.size) := HN3.out.hb
          go_wp2_with (at_builtin; refine wpList_append_lies _ rfl _ _ 24 rfl wb.heap.size 4 l0 (.bool false) 1 1 Try.underlying24 hl0 hv0 hv1 hv2 rfl (by decide) vE i _ rfl (HOE.out.alloc _) ⟨w5.heap.size, 0, none⟩ 1 1 [.bool true] rfl rfl (one_new _ _ _) (fun u hu => by simp at hu; subst hu; rfl) (by omega) (by unfold maxLen; omega) (by omega) (by have := HS5.out; simp; omega) (w5.heap.size + 1) (by simp) ?_; intro g2 cap2 w7 hown7 hgrow7 hat7 hlt7; obtain ⟨⟨m1', m2'⟩, m3', m4'⟩ := HNE.out w7 _ g2 cap2 hown7 hgrow7 (by rw [World.size_alloc]; exact hat7); have HM3 := hide m3'; have HM4 := hide m4'; clear m3' m4' hown7 hgrow7 hat7 hlt7)
          go_roundg (m - (i + 1))
          case measure => have := HGI.out; omega
          case rel => exact ⟨i + 1, rfl, by omega, by go_num, _, ⟨_, _, _, HM3.out⟩, below_tch HB5.out HM4.out (fun x hx => (HN3.out.lt x hx).1) HN3.out.hb⟩
    · have hlti : ¬ (i : Int) < (m : Int) := by omega
      obtain rfl : i = m := by omega
      obtain ⟨G, ⟨vN, vE, vals, hA⟩, hbw⟩ := HDA.out
      have hcN : wr.cell? ⟨wb.heap.size, 2, none⟩ = some vN := (box_cells hA.box).1.2.2.1
      have HA := hide hA
      have HBW := hide hbw
      have HC2 : Hid (∀ w2, Below wr.heap.size wr w2 → w2.cell? ⟨wb.heap.size, 2, none⟩ = some vN) := fun w2 hb => (hb.cell (p := ⟨wb.heap.size, 2, none⟩) (World.block_lt_of_cell? wr _ hcN)).trans hcN
      have HON : Hid (∀ w2, Below wr.heap.size wr w2 → w2.ownsRow wb.heap.size 22 1 vN i vals) := fun w2 hb => ownsRow_of_block HA.out.ownN (fun x hx => hb.block x (HA.out.ownN.lt x hx).2)
      have HNN : Hid (∀ w2 gc, Below wr.heap.size wr w2 → wr.heap.size ≤ gc → (w2.rowIs gc 3 i fun k => .int .i64 ((List.replicate i (i : Int)).getD k 0)) → ∀ w3 o g' cap' k1 k2 k3, _) := fun w2 gc hb hgc hr w3 o g' cap' k1 k2 k3 => @autI_N wb.heap.size wb.heap.size i b t (daR b i) (daF i) i i G w2 w3 vN vE vals gc o g' cap' (autI_keep HA.out (fun x hx => hb.block x (HA.out.lt x hx).2) hb.size) (by rw [HOUT.out]; exact hr) ⟨fun h => by have := (HA.out.lt _ h).2; omega, Nat.le_trans HA.out.hb hgc⟩ k1 k2 k3
      have HCS := hide (HST.out wr.drew)
      have HLB : Hid (wb.heap.size ≤ wr.heap.size) := hA.hb
      clear hA hbw
      go_wp2_with fail
      go_region_law (first
        | (refine step_append_lies _ rfl (.tmp 63) (.tmp 67) 23 rfl wb.heap.size 22 j0 (.slice none 0 0) 1 24 Try.underlying23 hj0 hy0 hy1 hy2 rfl (by decide) vN i vals (by simp [Act.eval]) ((HON.out w2 HB2.out).alloc _) ⟨w2.heap.size, 0, none⟩ 1 1 [.slice (some ⟨gc, 0, none⟩) i i] (by simp [Act.eval]) rfl (one_new _ _ _) (fun u hu => by simp at hu; subst hu; rfl) (by omega) (by unfold maxLen; omega) (by omega) (by have := HLB.out; have := HB2.out.size; simp; omega) (w2.heap.size + 1) (by simp) ?_; intro g' cg w3 hown3 hgrow3 hat3 hlt3; obtain ⟨⟨hn1', hn2'⟩, hn3', hn4'⟩ := HNN.out w2 gc HB2.out HGC.out HRC.out w3 _ g' cg hown3 hgrow3 (by rw [World.size_alloc]; exact hat3); have HN3 := hide hn3'; have HN4 := hide hn4'; clear hown3 hgrow3 hat3 hn3' hn4' hlt3)
        | (go_simp; go_at_call 25; refine HCS.out.mono ?_; rintro e w2 ⟨gc, rfl, hgc, hrc, hb2⟩; have HB2 := hide ((Below.refl wr.heap.size wr).drew.trans hb2); have HGC : Hid (wr.heap.size ≤ gc) := hgc; have HRC := hide hrc; have hcB := HC2.out w2 HB2.out; have hcB2 := HC2.out (w2.alloc (.cells #[.slice (some ⟨gc, 0, none⟩) i i] 22)) (HB2.out.trans (((Below.refl w2.heap.size w2).alloc (Nat.le_refl _) _).mono HB2.out.size)); clear hgc hrc hb2))
      all_goals
        clear hcN hcB hcB2 hn1' hn2'
        generalize w3.setCell ⟨wb.heap.size, 2, none⟩ (.slice (some ⟨g', 0, none⟩) (i + 1) cg) = w5 at HN3 HN4 ⊢
        have HB5 : Hid (Below wb.heap.size wb w5) := below_tch (HBW.out.trans (HB2.out.mono HBW.out.size)) HN4.out (fun x hx => (HA.out.lt x hx).1) (Nat.le_trans HLB.out HB2.out.size)
        have hcE : w5.cell? ⟨wb.heap.size, 3, none⟩ = some vE := (box_cells HN3.out.box).1.2.2.2
        have HNE := hide (fun w6 o g2 cap2 k1 k2 k3 => @autI_E wb.heap.size wb.heap.size i b t (daR b i) (daF i) (i + 1) i _ w5 w6 _ vE _ o g2 cap2 HN3.out k1 k2 k3)
        rw [HFF.out] at HNE
        have HOE := hide HN3.out.ownE
        have HS5 : Hid (wb.heap.size ≤ w5.heap.size) := HN3.out.hb
        go_upto_region 22 with (at_builtin; refine wpList_append_lies _ rfl _ _ 24 rfl wb.heap.size 4 l0 (.bool false) 1 1 Try.underlying24 hl0 hv0 hv1 hv2 rfl (by decide) vE i _ rfl (HOE.out.alloc _) ⟨w5.heap.size, 0, none⟩ 1 1 [.bool false] rfl rfl (one_new _ _ _) (fun u hu => by simp at hu; subst hu; rfl) (by omega) (by unfold maxLen; omega) (by omega) (by have := HS5.out; simp; omega) (w5.heap.size + 1) (by simp) ?_; intro g2 cap2 w7 hown7 hgrow7 hat7 hlt7; obtain ⟨⟨m1', m2'⟩, m3', m4'⟩ := HNE.out w7 _ g2 cap2 hown7 hgrow7 (by rw [World.size_alloc]; exact hat7); have HM3 := hide m3'; have HM4 := hide m4'; clear m3' m4' hown7 hgrow7 hat7 hlt7)
        clear hcE m1' m2'
        generalize w7.setCell ⟨wb.heap.size, 3, none⟩ (.slice (some ⟨g2, 0, none⟩) (i + 1) cap2) = w8 at HM3 HM4 ⊢
        have HB8 : Hid (Below wb.heap.size wb w8) := below_tch HB5.out HM4.out (fun x hx => (HN3.out.lt x hx).1) HN3.out.hb
        obtain ⟨⟨x0, x1, x2, x3⟩, -⟩ := box_cells HM3.out.box
        obtain ⟨aN, cN, aE, cE, e1, e2, hs2, hsB⟩ := HSL.out _ _ _ _ _ HM3.out
        cases e1
        cases e2
        have HL := hide (HLE.out w8 _ cg _ cap2 hs2 hsB)
        clear hs2 hsB
        go_wp2_with fail
        refine HL.out.mono ?_
        rintro e w9 ⟨ay, cy, ay', cy', rfl, hnew, hb9⟩
        have hb9' := HB8.out.trans (hb9.mono HB8.out.size)
        have hr := (hb9'.block w.heap.size (by rw [HSZ.out]; omega)).trans HX1.out
        obtain ⟨⟨r0, r1, r2, r3⟩, rf⟩ := box_cells hr
        have HR := hide hr
        have HNW := hide hnew
        have HB9 : Hid (Below w.heap.size w w9) := HB0.out.trans (hb9'.mono HB0.out.size)
        have HS8 : Hid (w.heap.size < w8.heap.size ∧ w8.heap.size ≤ w9.heap.size) := ⟨by have := HB8.out.size; have := HSZ.out; omega, hb9.size⟩
        clear hr hnew hb9 hb9' x0 x1 x2 x3 HL
        go_wp2
        obtain ⟨⟨hset, hsz, hoth⟩, hbel⟩ := box_set (v0 := .int .i64 b) (v1 := .int .i64 t) (v2 := .slice ay LN.length cy) (v3 := .slice ay' LN.length cy') HR.out rfl
        have hb := hbel w w.heap.size HB9.out (by omega)
        obtain ⟨⟨z0, z1, z2, z3⟩, -⟩ := box_cells hset
        exact bodyPost_ret (v := .tuple #[.agg #[.int .i64 b, .int .i64 t, .slice ay LN.length cy, .slice ay' LN.length cy'], .nilIface]) (by simp [results, Try.results6, go_sem, z0, z1, z2, z3]) rfl ⟨ay, cy, ay', cy', rfl, fun W' hW' => HNW.out W' (fun x hx hxl => by
          have h8 := HS8.out
          rw [hW' x (by omega) (by rw [hsz]; exact hxl), hoth x (by omega)]), hb⟩

set_option maxHeartbeats 4000000 in
set_option maxRecDepth 8000 in
theorem all_bad (b t : Int) (w : World) (hM : codeM b t ≠ 0) : Calls Try.prog 6 #[.int .i64 b, .int .i64 t] w (PairR w 0 0 [] [] (codeM b t)) := by
  have HB0 := hide ((Below.refl w.heap.size w).alloc (Nat.le_refl _) (.cells #[.int .i64 0, .int .i64 0, .slice none 0 0, .slice none 0 0] 26))
  have HX1 := hide (heap_alloc_last w (.cells #[.int .i64 0, .int .i64 0, .slice none 0 0, .slice none 0 0] 26))
  generalize hwb : w.alloc (.cells #[.int .i64 0, .int .i64 0, .slice none 0 0, .slice none 0 0] 26) = wb at HB0 HX1
  have HMC := hide (many_u b t wb)
  unfold PairR
  rw [errV_no hM] at HMC ⊢
  clear hM
  generalize codeM b t = c at HMC ⊢
  generalize manyU b t = mu at HMC
  obtain ⟨⟨p0, p1, p2, p3⟩, pf⟩ := box_cells HX1.out
  go_enter Try.func6, Try.ntmps6
  go_wp2_with fail
  clear hwb
  refine HMC.out.mono ?_
  rintro e w' ⟨rfl, hw⟩
  rw [hw]
  clear hw w'
  go_wp2
  obtain ⟨⟨hset, -, -⟩, hbel⟩ := box_set (v0 := .int .i64 0) (v1 := .int .i64 0) (v2 := .slice none 0 0) (v3 := .slice none 0 0) HX1.out rfl
  obtain ⟨⟨z0, z1, z2, z3⟩, -⟩ := box_cells hset
  exact bodyPost_ret (v := .tuple #[.agg #[.int .i64 0, .int .i64 0, .slice none 0 0, .slice none 0 0], .iface 66 (.int .i64 c)]) (by simp [results, Try.results6, go_sem, z0, z1, z2, z3]) rfl ⟨none, 0, none, 0, rfl, autoNew_nil _ _, hbel _ _ HB0.out (by omega)⟩
/-- What right.All answers. -/
theorem all_says : AllSays := fun b t w => by
  by_cases hM : codeM b t = 0
  · obtain ⟨m, hm⟩ : ∃ m : Nat, manyU b t = (m : Int) := ⟨(manyU b t).toNat, by have := manyU_bd hM; omega⟩
    have h := all_ok b t m w hM hm
    have hl := da_least hM
    rw [hm, Int.toNat_natCast] at hl
    unfold LeastU at h
    rw [hl.1, hl.2] at h
    unfold PairR okI
    rw [if_pos hM, if_pos hM, errV_yes hM]
    exact h
  · have h := all_bad b t w hM
    have e1 : alN b t = [] := by unfold alN; rw [if_neg hM]
    have e2 : alE b t = [] := by unfold alE; rw [if_neg hM]
    unfold okI
    rw [if_neg hM, if_neg hM, e1, e2]
    exact h
end Go.Proofs.Ythadkoplbgibgaf
