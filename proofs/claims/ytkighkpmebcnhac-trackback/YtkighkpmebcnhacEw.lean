/- The walk of the law TrackBack. -/
import Derived.Test.YtkighkpmebcnhacEk
import Derived.Test.YtkighkpmebcnhacEs
import Derived.Test.YtkighkpmebcnhacEv
namespace Go.Proofs.Ytkighkpmebcnhac
open Go.RowKit

/-- What stands from the least automaton on: the automaton in its box, and the least one in its own. -/
structure TbAt (w W : World) (b t : Int) (a : Option Addr) (n cap : Nat) (a' : Option Addr) (cap' : Nat) (N : List (List Int)) (E : List Bool) (Mb : Nat) (am : Option Addr) (cm : Nat) (am' : Option Addr) (cm' : Nat) (LN : List (List Int)) (LE : List Bool) : Prop where
  below : Below w.heap.size w W
  auto : AutoAt W w.heap.size b t a n cap a' n cap' N E
  box : W.heap[Mb]? = some (.cells #[.int .i64 b, .int .i64 t, .slice am LN.length cm, .slice am' LN.length cm'] 25 (0, 0))
  next : Sl2 W am LN.length LN
  ends : SlB W am' LN.length LE
theorem tbAt_step {w W W' : World} {b t : Int} {a : Option Addr} {n cap : Nat} {a' : Option Addr} {cap' : Nat} {N : List (List Int)} {E : List Bool} {Mb : Nat} {am : Option Addr} {cm : Nat} {am' : Option Addr} {cm' : Nat} {LN : List (List Int)} {LE : List Bool} (h : TbAt w W b t a n cap a' cap' N E Mb am cm am' cm' LN LE) (hb : Below W.heap.size W W') : TbAt w W' b t a n cap a' cap' N E Mb am cm am' cm' LN LE :=
  ⟨below_step h.below hb, autoAt_below h.auto hb, (hb.block _ (Array.getElem?_eq_some_iff.1 h.box).1).trans h.box, sl2_below h.next hb, slB_below h.ends hb⟩

set_option maxHeartbeats 32000000 in
set_option maxRecDepth 8000 in
theorem trackback_ok (b : Int) (kt : Nat) (a : Option Addr) (n cap : Nat) (a' : Option Addr) (cap' : Nat) (N : List (List Int)) (E : List Bool) (turn : Int) (w : World) (hs : Sl2 w a n N) (he : SlB w a' n E) (hA : autoC b (kt : Int) N n = 0) (hc : (Lit.int .i64 turn).wf = true) :
    Calls Try.prog 6 #[.agg #[.int .i64 b, .int .i64 (kt : Int), .slice a n cap, .slice a' n cap'], .int .i64 turn] w fun e w' => e = .returned (.bool true) ∧ Below w.heap.size w w' := by
  obtain ⟨hM, -, -, -⟩ := autoC_zero hA
  obtain ⟨h1, h2, h3, h4, -, -⟩ := codeM_zero hM
  have hk5 : kt ≤ 5 := by omega
  have HPK := hide (fun W (hk : 0 < kt) => pick_any turn kt W hk hk5 hc)
  have HPL := hide (fun hk : 0 < kt => pickN_lt turn hk)
  obtain ⟨p, hp⟩ : ∃ p, p = pickN turn kt := ⟨_, rfl⟩
  rw [← hp] at HPK HPL
  clear hp
  obtain ⟨XN, XE, hx1, hx2, hx3, hx4, hx5, hx6⟩ := turn_well E hA HPL.out
  have HLE := hide (fun W k1 k2 => least_ok b (kt : Int) a n cap N a' cap' E W k1 k2 hA)
  unfold LeastU at HLE
  have HFS := hide (fun u1 c1 u1' c1' W k1 k2 => fix_u 2 1 u1 2 c1 u1' 2 c1' [[0, 1], [1, 0]] [false, true] 0 1 W k1 k2)
  unfold PairR at HFS
  rw [fact_fix.1, show okI 0 2 = 2 from rfl, show okI 0 (1 - 1) = 0 from rfl, errV_zero] at HFS
  have hFN := fact_fix.2
  generalize fixN 2 1 [[0, 1], [1, 0]] [false, true] 2 0 1 = FN at HFS hFN
  generalize fixE 2 1 [[0, 1], [1, 0]] [false, true] 2 0 1 = FE at HFS
  rw [hFN] at HFS
  clear hFN
  have HS1 := hide (fun ar cr W k1 k2 k3 => spread_u b (kt : Int) a n cap a' n cap' N E (kt : Int) ar kt cr (toL kt p) W k1 k2 k3)
  rw [hx1, hx2, hx3] at HS1
  unfold PairR okI at HS1
  rw [if_pos rfl, if_pos rfl, errV_zero] at HS1
  have HS2 := hide (fun ax cx ax' cx' ar cr W k1 k2 k3 => spread_u b (kt : Int) ax XN.length cx ax' XN.length cx' XN XE (kt : Int) ar kt cr (backL kt p) W k1 k2 k3)
  rw [hx4, hx5, hx6] at HS2
  unfold PairR okI at HS2
  rw [if_pos rfl, if_pos rfl, errV_zero] at HS2
  have HS3 := hide (fun ar cr W k1 k2 k3 => spread_u b (kt : Int) a n cap a' n cap' N E ((kt : Int) + 1) ar kt cr (firstL kt) W k1 k2 k3)
  unfold PairR at HS3
  have HMW := hide (fun h => more_well E hA h)
  have HMN := hide (fun h => more_no hA h)
  have hB0 := (Below.refl w.heap.size w).alloc (Nat.le_refl _) (.cells #[.int .i64 b, .int .i64 (kt : Int), .slice a n cap, .slice a' n cap'] 25)
  have HB0 := hide hB0
  have HA0 := hide (autoAt_new (b := b) (t := (kt : Int)) (cap := cap) (cap' := cap') (T := 25) hs he)
  clear hs he hA hM hB0 hx1 hx2 hx3 hx4 hx5 hx6 h3 h4 hc
  generalize leastN N E (manyU b (kt : Int)).toNat = LN at HLE HS2 HMW
  generalize leastE N E (manyU b (kt : Int)).toNat = LE at HLE HS2 HMW
  generalize hW0 : w.alloc (.cells #[.int .i64 b, .int .i64 (kt : Int), .slice a n cap, .slice a' n cap'] 25) = w0 at HB0 HA0
  obtain ⟨p0, p1, p2, p3⟩ := HA0.out.1
  go_enter Try.func6, Try.ntmps6
  go_wp2_with fail
  clear hW0 p0 p1 p2 p3
  refine (HLE.out w0 HA0.out.2.1 HA0.out.2.2).mono ?_
  rintro e w1 ⟨am, cm, am', cm', rfl, hnew, hb1⟩
  have hbz := (Below.refl w1.heap.size w1).alloc (Nat.le_refl _) (.cells #[.int .i64 b, .int .i64 (kt : Int), .slice am LN.length cm, .slice am' LN.length cm'] 25)
  have H2 : Hid (TbAt w _ b (kt : Int) a n cap a' cap' N E w1.heap.size am cm am' cm' LN LE) := ⟨below_step HB0.out (below_step hb1 hbz), autoAt_below HA0.out (below_step hb1 hbz), heap_alloc_last w1 (.cells #[.int .i64 b, .int .i64 (kt : Int), .slice am LN.length cm, .slice am' LN.length cm'] 25), (hnew.below hbz).here.1, (hnew.below hbz).here.2⟩
  clear hnew hb1 hbz HLE HA0 HB0
  go_wp2_with fail
  generalize w1.alloc (.cells #[.int .i64 b, .int .i64 (kt : Int), .slice am LN.length cm, .slice am' LN.length cm'] 25) = w2 at H2 ⊢
  refine (twos_any w2).mono ?_
  rintro e w3 ⟨u1, c1, u1', c1', rfl, hs3, he3, hb3⟩
  have HC := hide (HFS.out u1 c1 u1' c1' w3 hs3 he3)
  have HB3 := hide hb3
  clear hs3 he3 hb3 HFS
  go_wp2_with fail
  refine HC.out.mono ?_
  rintro e w4 ⟨af, cf, af', cf', rfl, -, hb4⟩
  have hbz := (Below.refl w4.heap.size w4).alloc (Nat.le_refl _) (.cells #[.int .i64 2, .int .i64 0, .slice af 2 cf, .slice af' 2 cf'] 25)
  have HB5 := hide (below_step (below_step HB3.out hb4) hbz)
  have H5 := hide (tbAt_step H2.out HB5.out)
  obtain ⟨⟨f0, f1, f2, f3⟩, -⟩ := box_cells (heap_alloc_last w4 (.cells #[.int .i64 2, .int .i64 0, .slice af 2 cf, .slice af' 2 cf'] 25))
  obtain ⟨p0, p1, p2, p3⟩ := H5.out.auto.1
  clear hb4 hbz HC HB3
  go_wp2
  clear f0 f1 f2 f3 p0 p1 p2 p3
  generalize w4.alloc (.cells #[.int .i64 2, .int .i64 0, .slice af 2 cf, .slice af' 2 cf'] 25) = w5 at HB5 H5 ⊢
  obtain ⟨i0, hi0, hz0, hz1, hz2⟩ := info_parts info3
  have HTT := hide (fun i h => @toL_take kt p i h)
  have HBT := hide (fun i h => @backL_take kt p i h)
  have HTL := hide (toL_len kt p)
  have HBL := hide (backL_len kt p)
  have HTW : Hid (∀ x ∈ toL kt p, (Lit.int .i64 x).wf = true) := small_wf hk5 (toL_len kt p) (fun i hi => by have := @toL_rng kt p i hi; omega)
  have HBW : Hid (∀ x ∈ backL kt p, (Lit.int .i64 x).wf = true) := small_wf hk5 (backL_len kt p) (fun i hi => by have := @backL_rng kt p i hi; omega)
  generalize toL kt p = TO at HTT HTL HTW HS1
  generalize backL kt p = BK at HBT HBL HBW HS2
  go_loopw [10, 11, 12] (fun v v' iv wx => ∃ i : Nat, i ≤ kt ∧ iv = .int .i64 i ∧ TwoR w5 (TO.take i) (BK.take i) v v' wx) (fun _ _ iv _ => kt - (intOf iv).toNat)
  case atStart => exact ⟨0, by omega, rfl, twoR_nil w5⟩
  case round =>
    obtain ⟨i, hi, rfl, htr⟩ := hrel
    have HTR := hide htr
    clear htr
    by_cases hlt : i < kt
    · have hlti : (i : Int) < (kt : Int) := by omega
      have hpk := HPL.out (by omega)
      have HP := hide (fun W => HPK.out W (by omega))
      have hk0 : ((kt : Int) == 0) = false := by simp; omega
      have hip : (0 : Int) ≤ (i : Int) + (p : Int) := by omega
      have hiq : (0 : Int) ≤ (i : Int) + (kt : Int) - (p : Int) := by omega
      have HT1 : Hid (TO.take (i + 1) = TO.take i ++ [((i : Int) + (p : Int)) % (kt : Int)]) := by
        show _ = _
        rw [HTT.out i hlt]
        simp
      have HT2 : Hid (BK.take (i + 1) = BK.take i ++ [((i : Int) + (kt : Int) - (p : Int)) % (kt : Int)]) := by
        show _ = _
        rw [HBT.out i hlt]
        congr 2
        rw [Int.natCast_emod]
        congr 1
        omega
      have HTLi : Hid ((TO.take i).length = i) := by show _ = _; rw [List.length_take]; have := HTL.out; omega
      have HBLi : Hid ((BK.take i).length = i) := by show _ = _; rw [List.length_take]; have := HBL.out; omega
      have HOWN := hide HTR.out.1
      rw [HTLi.out] at HOWN
      have HSZ := hide HTR.out.2.2.2.size
      go_wp2_with (first
        | (go_at_call 19; refine (HP.out _).mono ?_; rintro e w' ⟨rfl, hw⟩; rw [hw]; clear hw w')
        | (at_builtin; refine wpList_append_own_at _ rfl _ _ 26 rfl w5.heap.size 3 i0 (.int .i64 0) 1 8 Try.underlying26 hi0 hz0 hz1 hz2 rfl (by decide) _ i ((TO.take i).map (Value.int .i64)) rfl (HOWN.out.alloc _) ⟨wr.heap.size, 0, none⟩ 1 1 [.int .i64 (((i : Int) + (p : Int)) % (kt : Int))] rfl rfl (one_new _ _ _) (fun u hu => by simp at hu; subst hu; rfl) (by unfold maxLen; omega) (by omega) (by have := HSZ.out; simp; omega) ?_; intro v3 w6 hown hgrow _ hat; have HX := hide (twoR_swap (twoR_left2 HTR.out (by rw [HTLi.out]; exact hown) hgrow hat)); have HOX := hide HX.out.1; rw [HBLi.out] at HOX; have HSX := hide HX.out.2.2.2.size; clear hown hgrow hat HOWN)
        | (at_builtin; refine wpList_append_own_at _ rfl _ _ 26 rfl w5.heap.size 3 i0 (.int .i64 0) 1 8 Try.underlying26 hi0 hz0 hz1 hz2 rfl (by decide) _ i ((BK.take i).map (Value.int .i64)) rfl (HOX.out.alloc _) ⟨w6.heap.size, 0, none⟩ 1 1 [.int .i64 (((i : Int) + (kt : Int) - (p : Int)) % (kt : Int))] rfl rfl (one_new _ _ _) (fun u hu => by simp at hu; subst hu; rfl) (by unfold maxLen; omega) (by omega) (by have := HSX.out; simp; omega) ?_; intro v4 w7 hown hgrow _ hat; have HY := hide (twoR_swap (twoR_left2 HX.out (by rw [HBLi.out]; exact hown) hgrow hat)); clear hown hgrow hat HOX HX))
      rw [← HT1.out, ← HT2.out] at HY
      go_roundw
      case rel => exact ⟨i + 1, by omega, by go_num, HY.out⟩
      case measure => simp [intOf]; omega
    · have hlti : ¬ (i : Int) < (kt : Int) := by omega
      obtain rfl : kt = i := by omega
      have HF1 : Hid (TO.take kt = TO) := List.take_of_length_le (by have := HTL.out; omega)
      have HF2 : Hid (BK.take kt = BK) := List.take_of_length_le (by have := HBL.out; omega)
      rw [HF1.out, HF2.out] at HTR
      obtain ⟨ar, cr, rfl, hsr⟩ := sl_of_owns rfl (by unfold maxLen; have := HTL.out; omega) HTW.out HTR.out.1
      obtain ⟨ak, ck, rfl, hsk⟩ := sl_of_owns rfl (by unfold maxLen; have := HBL.out; omega) HBW.out HTR.out.2.1
      have hsr1 := hsr.1
      have hsk1 := hsk.1
      rw [HTL.out] at hsr1 ⊢
      rw [HBL.out] at hsk1 ⊢
      have H6 := hide (tbAt_step H5.out HTR.out.2.2.2)
      have HSK := hide hsk1
      obtain ⟨p0, p1, p2, p3⟩ := H6.out.auto.1
      have HC := hide (HS1.out ar cr wr H6.out.auto.2.1 H6.out.auto.2.2 hsr1)
      clear hsr hsk hsr1 hsk1 HS1 HTT HBT HTW HBW HTR HPK HF1 HF2 H5 H2
      go_wp2_with fail
      clear p0 p1 p2 p3
      refine HC.out.mono ?_
      rintro e w7 ⟨ax, cx, ax', cx', rfl, hnew, hb7⟩
      have hbz := (Below.refl w7.heap.size w7).alloc (Nat.le_refl _) (.cells #[.int .i64 b, .int .i64 (kt : Int), .slice ax XN.length cx, .slice ax' XN.length cx'] 25)
      have HB8 := hide (below_step hb7 hbz)
      have HL6 := hide hb7.size
      have H8 := hide (tbAt_step H6.out HB8.out)
      have HX8 := hide (heap_alloc_last w7 (.cells #[.int .i64 b, .int .i64 (kt : Int), .slice ax XN.length cx, .slice ax' XN.length cx'] 25))
      have hxx := (hnew.below hbz).here
      have HC2 := hide (HS2.out ax cx ax' cx' ak ck _ hxx.1 hxx.2 (sl_below HSK.out HB8.out))
      obtain ⟨⟨q0, q1, q2, q3⟩, -⟩ := box_cells HX8.out
      clear hnew hb7 hbz hxx HC HS2 HSK
      go_wp2_with fail
      clear q0 q1 q2 q3
      generalize w7.alloc (.cells #[.int .i64 b, .int .i64 (kt : Int), .slice ax XN.length cx, .slice ax' XN.length cx'] 25) = w8 at HB8 H8 HX8 HC2 ⊢
      refine HC2.out.mono ?_
      rintro e w9 ⟨ay, cy, ay', cy', rfl, hnew, hb9⟩
      have hbz := (Below.refl w9.heap.size w9).alloc (Nat.le_refl _) (.cells #[.int .i64 b, .int .i64 (kt : Int), .slice ay LN.length cy, .slice ay' LN.length cy'] 25)
      have HB10 := hide (below_step hb9 hbz)
      have HK10 := hide (below_step HB8.out HB10.out)
      have H10 := hide (tbAt_step H8.out HB10.out)
      have HX10 := hide ((HB10.out.block _ (Array.getElem?_eq_some_iff.1 HX8.out).1).trans HX8.out)
      have HY10 := hide (heap_alloc_last w9 (.cells #[.int .i64 b, .int .i64 (kt : Int), .slice ay LN.length cy, .slice ay' LN.length cy'] 25))
      have HNY := hide (hnew.below hbz).here
      have HXL : Hid (w7.heap.size < w9.heap.size) := Nat.lt_of_lt_of_le (Array.getElem?_eq_some_iff.1 HX8.out).1 hb9.size
      obtain ⟨⟨q0, q1, q2, q3⟩, -⟩ := box_cells HY10.out
      obtain ⟨⟨m0, m1, m2, m3⟩, -⟩ := box_cells H10.out.box
      clear hnew hb9 hbz HC2 H8 HX8
      go_wp2_with fail
      generalize w9.alloc (.cells #[.int .i64 b, .int .i64 (kt : Int), .slice ay LN.length cy, .slice ay' LN.length cy'] 25) = w10 at HB10 HK10 H10 HX10 HY10 HNY q0 q1 q2 q3 m0 m1 m2 m3 ⊢
      refine (autos_eq b (kt : Int) ay LN.length cy ay' LN.length cy' am cm am' cm' LN LE w10 HNY.out.1 HNY.out.2 H10.out.next H10.out.ends).mono ?_
      rintro e w11 ⟨rfl, hb11⟩
      have H11 := hide (tbAt_step H10.out hb11)
      have HK11 := hide (below_step HK10.out hb11)
      have HX11 := hide ((hb11.block _ (Array.getElem?_eq_some_iff.1 HX10.out).1).trans HX10.out)
      have HY11 := hide ((hb11.block _ (Array.getElem?_eq_some_iff.1 HY10.out).1).trans HY10.out)
      clear hb11 q0 q1 q2 q3 m0 m1 m2 m3 H10 HX10 HY10 HNY HB10 HB8 HK10
      go_wp2
      have HFT := hide (fun i h => @firstL_take kt i h)
      have HFL := hide (firstL_len kt)
      have HFW : Hid (∀ x ∈ firstL kt, (Lit.int .i64 x).wf = true) := small_wf hk5 (firstL_len kt) (fun i hi => by rw [firstL_get hi]; omega)
      generalize firstL kt = FI at HFT HFL HFW HS3 HMW HMN
      have HLET := hide (fun W => letters_u b ((kt : Int) + 1) W)
      go_loopw [18, 19] (fun v iv wx => ∃ i : Nat, i ≤ kt ∧ iv = .int .i64 i ∧ Grow w11 (FI.take i) v wx) (fun _ iv _ => kt - (intOf iv).toNat)
      case atStart => exact ⟨0, by omega, rfl, grow_nil w11⟩
      case round =>
        obtain ⟨i, hi, rfl, hgr⟩ := hrel
        have HGR := hide hgr
        clear hgr
        by_cases hlt : i < kt
        · have hlti : (i : Int) < (kt : Int) := by omega
          have HT1 := hide (HFT.out i hlt)
          have HTLi : Hid ((FI.take i).length = i) := by show _ = _; rw [List.length_take]; have := HFL.out; omega
          have HOWN := hide HGR.out.1
          rw [HTLi.out] at HOWN
          have HSZ := hide HGR.out.2.size
          go_wp2_with (at_builtin; refine wpList_append_own _ rfl _ _ 26 rfl w11.heap.size 3 i0 (.int .i64 0) 1 8 Try.underlying26 hi0 hz0 hz1 hz2 rfl (by decide) _ i ((FI.take i).map (Value.int .i64)) rfl (HOWN.out.alloc _) ⟨wr.heap.size, 0, none⟩ 1 1 [.int .i64 (i : Int)] rfl rfl (one_new _ _ _) (fun u hu => by simp at hu; subst hu; rfl) (by unfold maxLen; omega) (by omega) (by have := HSZ.out; simp; omega) ?_; intro v3 w6 hown hgrow _)
          go_roundw
          case rel => exact ⟨i + 1, by omega, by go_num, by rw [HT1.out]; exact grow_push HGR.out (by rw [HTLi.out]; exact hown) hgrow⟩
          case measure => simp [intOf]; omega
        · have hlti : ¬ (i : Int) < (kt : Int) := by omega
          obtain rfl : kt = i := by omega
          have HF1 : Hid (FI.take kt = FI) := List.take_of_length_le (by have := HFL.out; omega)
          rw [HF1.out] at HGR
          obtain ⟨ar, cr, rfl, hsr⟩ := sl_of_owns rfl (by unfold maxLen; have := HFL.out; omega) HFW.out HGR.out.1
          have hsr1 := hsr.1
          rw [HFL.out] at hsr1 ⊢
          have hb12 := HGR.out.2
          have H12 := hide (tbAt_step H11.out hb12)
          have HK12 := hide (below_step HK11.out hb12)
          have HX12 := hide ((hb12.block _ (Array.getElem?_eq_some_iff.1 HX11.out).1).trans HX11.out)
          have HY12 := hide ((hb12.block _ (Array.getElem?_eq_some_iff.1 HY11.out).1).trans HY11.out)
          obtain ⟨p0, p1, p2, p3⟩ := H12.out.auto.1
          have HC := hide (HS3.out ar cr wr H12.out.auto.2.1 H12.out.auto.2.2 hsr1)
          clear hsr hsr1 hb12 HS3 HFT HFW HGR HF1 H11 HX11 HY11
          have hX12l := (Array.getElem?_eq_some_iff.1 HX12.out).1
          have hY12l := (Array.getElem?_eq_some_iff.1 HY12.out).1
          have HXL12 := hide hX12l
          have HYL12 := hide hY12l
          clear hX12l hY12l
          by_cases hM : codeM b ((kt : Int) + 1) = 0
          · obtain ⟨ZN, ZE, hz1', hz2', hz3', hz4', hz5', hz6'⟩ := HMW.out hM
            rw [hz1', hz2', hz3'] at HC
            unfold okI at HC
            rw [if_pos rfl, if_pos rfl, errV_zero] at HC
            have HFX := hide (fun az cz az' cz' W k1 k2 => fix_u b ((kt : Int) + 1) az ZN.length cz az' ZN.length cz' ZN ZE (kt : Int) 0 W k1 k2)
            rw [hz4', hz5', hz6'] at HFX
            unfold PairR okI at HFX
            rw [if_pos rfl, if_pos rfl, errV_zero, show (kt : Int) + 1 - 1 = (kt : Int) by omega] at HFX
            clear hz1' hz2' hz3' hz4' hz5' hz6' HMW HMN hM HLET
            go_wp2_with fail
            clear p0 p1 p2 p3
            refine HC.out.mono ?_
            rintro e w13 ⟨az, cz, az', cz', rfl, hnewZ, hb13⟩
            have HX13 := hide ((hb13.block _ HXL12.out).trans HX12.out)
            have HY13 := hide ((hb13.block _ HYL12.out).trans HY12.out)
            have HK13 := hide (below_step HK12.out hb13)
            have HNZ := hide hnewZ
            have HZL : Hid (w7.heap.size ≠ w9.heap.size) := by show _ ≠ _; have := HXL.out; omega
            clear hb13 hnewZ HC H12 HX12 HY12 HK12
            obtain ⟨w14, hw14⟩ : ∃ w14, (((w13.setCell ⟨w7.heap.size, 0, none⟩ (.int .i64 b)).setCell ⟨w7.heap.size, 1, none⟩ (.int .i64 ((kt : Int) + 1))).setCell ⟨w7.heap.size, 2, none⟩ (.slice az ZN.length cz)).setCell ⟨w7.heap.size, 3, none⟩ (.slice az' ZN.length cz') = w14 := ⟨_, rfl⟩
            obtain ⟨⟨hbx14, hsz14, hkp14⟩, hbl14⟩ := box_set HX13.out hw14.symm
            have HK14 := hide (hbl14 _ _ HK13.out HL6.out)
            have HY14 := hide ((hkp14 _ (Ne.symm HZL.out)).trans HY13.out)
            have HZ14 : Hid (Sl2 w14 az ZN.length ZN ∧ SlB w14 az' ZN.length ZE) := HNZ.out w14 (fun z hz hzl => hkp14 z (by have := HXL12.out; omega))
            have HYL14 : Hid (w9.heap.size < w14.heap.size) := (Array.getElem?_eq_some_iff.1 HY14.out).1
            obtain ⟨⟨x0, x1, x2, x3⟩, xf⟩ := box_cells HX13.out
            obtain ⟨⟨q0, q1, q2, q3⟩, -⟩ := box_cells hbx14
            have HC2 := hide (HFX.out az cz az' cz' w14 HZ14.out.1 HZ14.out.2)
            clear hbx14 hsz14 hkp14 hbl14 HX13 HY13 HNZ HK13
            go_wp2_with fail
            clear x0 x1 x2 x3 xf q0 q1 q2 q3 hw14
            refine HC2.out.mono ?_
            rintro e w15 ⟨av, cv, av', cv', rfl, hnewV, hb15⟩
            have HY15 := hide ((hb15.block _ HYL14.out).trans HY14.out)
            have HK15 := hide (below_step HK14.out hb15)
            have HNV := hide hnewV
            clear hb15 hnewV HC2 HY14 HK14
            obtain ⟨w16, hw16⟩ : ∃ w16, (((w15.setCell ⟨w9.heap.size, 0, none⟩ (.int .i64 b)).setCell ⟨w9.heap.size, 1, none⟩ (.int .i64 (kt : Int))).setCell ⟨w9.heap.size, 2, none⟩ (.slice av LN.length cv)).setCell ⟨w9.heap.size, 3, none⟩ (.slice av' LN.length cv') = w16 := ⟨_, rfl⟩
            obtain ⟨⟨hbx16, hsz16, hkp16⟩, hbl16⟩ := box_set HY15.out hw16.symm
            have HK16 := hide (hbl16 _ _ HK15.out (by have h1 := HL6.out; have h2 := HXL.out; omega))
            have H16 := hide (tbAt_step H6.out HK16.out)
            have HV16 : Hid (Sl2 w16 av LN.length LN ∧ SlB w16 av' LN.length LE) := HNV.out w16 (fun z hz hzl => hkp16 z (by have := HYL14.out; omega))
            obtain ⟨⟨y0, y1, y2, y3⟩, yf⟩ := box_cells HY15.out
            obtain ⟨⟨q0, q1, q2, q3⟩, -⟩ := box_cells hbx16
            obtain ⟨⟨m0, m1, m2, m3⟩, -⟩ := box_cells H16.out.box
            clear hbx16 hsz16 hkp16 hbl16 HNV HK15
            go_wp2_with fail
            clear y0 y1 y2 y3 yf q0 q1 q2 q3 m0 m1 m2 m3 hw16
            refine (autos_eq b (kt : Int) av LN.length cv av' LN.length cv' am cm am' cm' LN LE w16 HV16.out.1 HV16.out.2 H16.out.next H16.out.ends).mono ?_
            rintro e w17 ⟨rfl, hb17⟩
            have HEND := hide (below_step H16.out.below hb17)
            clear hb17 HV16 H16 HY15
            go_wp2
            go_ret
            exact ⟨by simp, HEND.out⟩
          · have HNO := hide (HMN.out hM)
            rw [HNO.out, errV_ne hM] at HC
            generalize codeM b ((kt : Int) + 1) = cc at HC HLET hM HNO
            generalize manyU b ((kt : Int) + 1) = cmany at HLET
            have hMi : (cc != 0) = true := by simpa using hM
            generalize okI cc b = ob at HC
            generalize okI cc ((kt : Int) + 1) = ot at HC
            generalize sprN b (kt : Int) N E n ((kt : Int) + 1) FI = ZN at HC
            generalize sprE b (kt : Int) N E n ((kt : Int) + 1) FI = ZE at HC
            clear HMW HMN HNO
            go_wp2_with fail
            clear p0 p1 p2 p3
            refine HC.out.mono ?_
            rintro e w13 ⟨az, cz, az', cz', rfl, -, hb13⟩
            have HX13 := hide ((hb13.block _ HXL12.out).trans HX12.out)
            have HK13 := hide (below_step HK12.out hb13)
            clear hb13 HC H12 HX12 HY12 HK12
            obtain ⟨w14, hw14⟩ : ∃ w14, (((w13.setCell ⟨w7.heap.size, 0, none⟩ (.int .i64 ob)).setCell ⟨w7.heap.size, 1, none⟩ (.int .i64 ot)).setCell ⟨w7.heap.size, 2, none⟩ (.slice az ZN.length cz)).setCell ⟨w7.heap.size, 3, none⟩ (.slice az' ZN.length cz') = w14 := ⟨_, rfl⟩
            obtain ⟨⟨hbx14, hsz14, hkp14⟩, hbl14⟩ := box_set HX13.out hw14.symm
            have H14 := hide (tbAt_step H6.out (hbl14 _ _ HK13.out HL6.out))
            obtain ⟨⟨x0, x1, x2, x3⟩, xf⟩ := box_cells HX13.out
            obtain ⟨p0, p1, p2, p3⟩ := H14.out.auto.1
            clear hbx14 hsz14 hkp14 hbl14 HX13 HK13
            go_wp2_with fail
            clear x0 x1 x2 x3 xf p0 p1 p2 p3 hw14
            refine (HLET.out w14).mono ?_
            rintro e w15 ⟨rfl, hw15⟩
            obtain rfl := hw15.symm
            have HEND := hide H14.out.below
            go_wp2
            go_ret
            exact ⟨by simp, HEND.out⟩

set_option maxHeartbeats 4000000 in
set_option maxRecDepth 8000 in
theorem trackback_no (b t : Int) (a : Option Addr) (n cap : Nat) (a' : Option Addr) (k cap' : Nat) (N : List (List Int)) (turn : Int) (w : World) (hs : Sl2 w a n N) (hk : k ≤ maxLen) (hA : autoC b t N k ≠ 0) :
    Calls Try.prog 6 #[.agg #[.int .i64 b, .int .i64 t, .slice a n cap, .slice a' k cap'], .int .i64 turn] w fun e w' => e = .returned (.bool true) ∧ Below w.heap.size w w' := by
  have hB0 := (Below.refl w.heap.size w).alloc (Nat.le_refl _) (.cells #[.int .i64 b, .int .i64 t, .slice a n cap, .slice a' k cap'] 25)
  have HB0 := hide hB0
  have HX := hide (heap_alloc_last w (.cells #[.int .i64 b, .int .i64 t, .slice a n cap, .slice a' k cap'] 25))
  have HNO := hide (least_no b t a n cap N a' k cap' _ (sl2_below hs hB0) hk hA)
  clear hs hk hB0
  generalize hW0 : w.alloc (.cells #[.int .i64 b, .int .i64 t, .slice a n cap, .slice a' k cap'] 25) = w0 at HB0 HX HNO
  obtain ⟨⟨p0, p1, p2, p3⟩, -⟩ := box_cells HX.out
  rw [errV_ne hA] at HNO
  generalize autoC b t N k = c at HNO
  clear hA
  go_enter Try.func6, Try.ntmps6
  go_wp2_with fail
  clear hW0 p0 p1 p2 p3
  refine HNO.out.mono ?_
  rintro e w1 ⟨rfl, hb1⟩
  have HB1 := hide (below_step HB0.out hb1)
  have HB2 := hide (HB1.out.alloc HB1.out.size (.cells #[.int .i64 0, .int .i64 0, .slice none 0 0, .slice none 0 0] 25))
  clear hb1
  go_wp2
  go_ret
  exact ⟨by simp, HB2.out⟩

theorem trackback_any (b t : Int) (a : Option Addr) (n cap : Nat) (a' : Option Addr) (k cap' : Nat) (N : List (List Int)) (E : List Bool) (turn : Int) (w : World) (hs : Sl2 w a n N) (he : SlB w a' k E) (hc : (Lit.int .i64 turn).wf = true) :
    Calls Try.prog 6 #[.agg #[.int .i64 b, .int .i64 t, .slice a n cap, .slice a' k cap'], .int .i64 turn] w fun e w' => e = .returned (.bool true) ∧ Below w.heap.size w w' := by
  by_cases hA : autoC b t N k = 0
  · obtain rfl : k = n := by rw [(autoC_zero hA).2.1, hs.1]
    obtain ⟨-, -, h3, -⟩ := codeM_zero (autoC_zero hA).1
    obtain ⟨kt, rfl⟩ : ∃ kt : Nat, t = (kt : Int) := ⟨t.toNat, by omega⟩
    exact trackback_ok b kt a k cap a' cap' N E turn w hs he hA hc
  · exact trackback_no b t a n cap a' k cap' N turn w hs he.2.1 hA
end Go.Proofs.Ytkighkpmebcnhac
