/- The walk of the law WordMorphs, from what package word answers. -/
import Derived.Test.YtcpnfbjcgaonkafDoorSf
import Derived.Test.YtcpnfbjcgaonkafDoorSh
import Derived.Test.YtcpnfbjcgaonkafDoorSj
import Derived.Test.YtcpnfbjcgaonkafDoorSr
import Derived.Test.YtcpnfbjcgaonkafDoorSt
import Derived.Deep.DeepCutAuto
namespace Go.Proofs.YtcpnfbjcgaonkafDoor
open Go.RowKit

set_option maxHeartbeats 16000000 in
set_option maxRecDepth 8000 in
theorem wordmorphs_of (a : Option Addr) (n cap : Nat) (R : List (List Int)) (ao : Option Addr) (no co : Nat) (K : List Int) (x : Int) (w : World) (hs : Sl2 w a n R) (ho : Sl w ao no K) (hg : Handle w) (hMO : MorphSays) (hAT : AtSays) :
    Calls Tryd.prog 5 #[.slice a n cap, .slice ao no co, .int .i64 x] w fun e w' => e = .returned (.bool true) ∧ Below w.heap.size w w' := by
  have HMF := hide (morphOf_any a n cap ao no co R K w hs ho)
  have HMO := hide (fun W (h : Below w.heap.size w W) => hMO a n cap ao no co R K W (sl2_below hs h) (sl_below ho h))
  have HHA : Hid (∀ W, Below w.heap.size w W → Handle W) := fun W h => hg.below h
  have HES := hide (fun c W (h : Handle W) => error_same c W h)
  have hL := hs.1
  have hLo := ho.1
  unfold MorR at HMF
  unfold MphR at HMO
  by_cases hc : morC R K = 0
  · obtain ⟨z0, z1, z2, z3, z4, z5, z6, z7, z8⟩ := morC_zero hc
    obtain ⟨hrows, hkin⟩ := mor_rows hc
    have e1 : mpB R K = (morK R : Int) := by unfold mpB; rw [if_pos hc]
    have e2 : mpN R K = R := by unfold mpN; rw [if_pos hc]
    have e3 : mpO R K = K := by unfold mpO; rw [if_pos hc]
    rw [if_pos hc, hc] at HMF
    rw [e1, e2, e3, hc, hL] at HMO
    obtain rfl : no = n := by omega
    obtain ⟨ba, oa, a0, ca0, ha0, -, -⟩ := sl2_cell hs 0 (by omega)
    obtain ⟨bk0, ok0, hk0, -⟩ := sl_cell ho 0 (by omega)
    subst ha0
    subst hk0
    unfold outV at HMF
    have HS := hide hs
    have HO := hide ho
    have hmx := hs.2.1
    have hn20 : no ≤ 20 := by omega
    have HOK : Hid (outC (morK R : Int) R K = 0) := outC_ok (by omega) (by omega) z0 z3 z7 hrows (fun s hsl => by
      have := all_at (d := (0 : Int)) z8 (i := s) (by omega)
      simpa using this)
    have HOP : Hid (no ≤ 10 → outC (morK R : Int) R (signL no) = 0) := fun h => outC_ok (by omega) (by omega) z0 z3 (by rw [signL_len]; omega) hrows (fun s hsl => by rw [signL_get (by omega)]; omega)
    have HAT := hide (fun b a n cap ao no co N O x W h1 h2 => hAT b a n cap ao no co N O x W h1 h2)
    have HRN := hide (fun (m d : Int) (hm : 0 ≤ m) (hd : 0 ≤ d ∧ d < (morK R : Int)) (hmd : m * (morK R : Int) + d ≤ 1099511627776) => run_next (R := R) (by omega : (2 : Int) ≤ (morK R : Int)) (by omega) hm hd hmd z6)
    have hk6 : morK R ≤ 6 := z2
    have hk2 : 2 ≤ morK R := z1
    have HLK := hide hLo
    have HLR := hide hL
    clear hs ho hg hMO hAT e1 e2 e3 hc hL hLo z0 z1 z2 z3 z4 z5 z6 z7 z8 hrows hkin
    generalize morK R = k at *
    go_enter Tryd.func5, Tryd.ntmps5
    go_wp2_with fail
    refine HMF.out.mono ?_
    rintro e w1 ⟨rfl, hb1⟩
    have HB1 := hide (hb1.alloc hb1.size (.cells #[.int .i64 (k : Int), .slice (some ⟨ba, oa, none⟩) no cap, .slice (some ⟨bk0, ok0, none⟩) no co] 25))
    have HX1 := hide (heap_alloc_last w1 (.cells #[.int .i64 (k : Int), .slice (some ⟨ba, oa, none⟩) no cap, .slice (some ⟨bk0, ok0, none⟩) no co] 25))
    clear hb1
    go_wp2_with fail
    generalize w1.alloc (.cells #[.int .i64 (k : Int), .slice (some ⟨ba, oa, none⟩) no cap, .slice (some ⟨bk0, ok0, none⟩) no co] 25) = w2 at HB1 HX1 ⊢
    refine (HMO.out w2 HB1.out).mono ?_
    rintro e w3 ⟨a1, c1, o1, d1, rfl, hnew, hb3⟩
    have hnw := hnew w3 (fun _ _ _ => rfl)
    have hbz := (Below.refl w3.heap.size w3).alloc (Nat.le_refl _) (.cells #[.int .i64 (k : Int), .slice a1 no c1, .slice o1 no d1] 25)
    have hb34 := below_step hb3 hbz
    have HB4 := hide (below_step HB1.out hb34)
    have HX4 := hide ((hb34.block _ (Array.getElem?_eq_some_iff.1 HX1.out).1).trans HX1.out)
    have HY4 := hide (heap_alloc_last w3 (.cells #[.int .i64 (k : Int), .slice a1 no c1, .slice o1 no d1] 25))
    have HN4 := hide (And.intro (sl2_below hnw.1 hbz) (sl_below hnw.2 hbz))
    clear hb3 hbz hb34 hnew hnw
    rw [errV_zero]
    go_wp2_with fail
    obtain ⟨Y, hY⟩ : ∃ Y, Y = w3.heap.size := ⟨_, rfl⟩
    generalize w3.alloc (.cells #[.int .i64 (k : Int), .slice a1 no c1, .slice o1 no d1] 25) = w4 at HB4 HX4 HY4 HN4 ⊢
    rw [← hY] at HY4 ⊢
    clear hY
    have HE0 := hide (HES.out 0 w4 (HHA.out w4 HB4.out))
    rw [errV_zero] at HE0
    refine HE0.out.mono ?_
    rintro e w5 ⟨rfl, hb5⟩
    have HB5 := hide (below_step HB4.out hb5)
    have HY5 := hide ((hb5.block _ (Array.getElem?_eq_some_iff.1 HY4.out).1).trans HY4.out)
    have HN5 := hide (And.intro (sl2_below HN4.out.1 hb5) (sl_below HN4.out.2 hb5))
    obtain ⟨⟨p0, p1, p2⟩, -⟩ := box3_cells ((hb5.block _ (Array.getElem?_eq_some_iff.1 HX4.out).1).trans HX4.out)
    obtain ⟨⟨q0, q1, q2⟩, -⟩ := box3_cells HY5.out
    clear hb5 HB4 HX4 HY4 HN4 HE0
    have HOE := hide (outs_eq (k : Int) a1 no c1 o1 no d1 (some ⟨ba, oa, none⟩) cap (some ⟨bk0, ok0, none⟩) co R K w5 HN5.out.1 HN5.out.2 (sl2_below HS.out HB5.out) (sl_below HO.out HB5.out))
    unfold outV at HOE
    go_wp2_with fail
    clear p0 p1 p2 q0 q1 q2
    refine HOE.out.mono ?_
    rintro e w6 ⟨rfl, hb6⟩
    have HB6 := hide (below_step HB5.out hb6)
    have HY6 := hide ((hb6.block _ (Array.getElem?_eq_some_iff.1 HY5.out).1).trans HY5.out)
    have HN6 := hide (And.intro (sl2_below HN5.out.1 hb6) (sl_below HN5.out.2 hb6))
    clear hb6 HB5 HY5 HN5 HOE
    by_cases hx : 0 ≤ x ∧ x ≤ 100000
    · have hx1 : ¬ (x < 0) := by omega
      have hx2 : ¬ (x > 100000) := by omega
      obtain ⟨q0, q1, q2⟩ := (box3_cells HY6.out).1
      have HFLD : Hid (FldI w6 w6.heap.size 2 (fun v => .cells #[.int .i64 (k : Int), .slice a1 no c1, v] 25) 3 [] (.slice none 0 0) (w6.alloc (.cells #[.int .i64 (k : Int), .slice a1 no c1, .slice none 0 0] 25))) := ⟨heap_alloc_last _ _, World.ownsRow_nil _ _ _ _, (Below.refl _ _).alloc (Nat.le_refl _) _, Nat.le_refl _, put3 _ _ _ _⟩
      have HX0 := hide hx
      clear hx
      go_wp2
      clear q0 q1 q2
      generalize w6.alloc (.cells #[.int .i64 (k : Int), .slice a1 no c1, .slice none 0 0] 25) = w7 at HFLD ⊢
      obtain ⟨l0, hl0, hv0, hv1, hv2⟩ := info_parts info3
      have HTK : Hid (∀ i, i < no → (signL no).take (i + 1) = (signL no).take i ++ [(i : Int)]) := fun i hi => by
        rw [← signL_get hi]
        exact take_at _ _ 0 (by rw [signL_len]; exact hi)
      go_loopw [14] (fun iv wx => ∃ (i : Nat) (vO : Value), i ≤ no ∧ i ≤ 10 ∧ iv = .int .i64 i ∧ FldI w6 w6.heap.size 2 (fun v => .cells #[.int .i64 (k : Int), .slice a1 no c1, v] 25) 3 (((signL no).take i).map (Value.int .i64)) vO wx) (fun iv _ => no - (intOf iv).toNat)
      case atStart => exact ⟨0, .slice none 0 0, by omega, by omega, rfl, HFLD.out⟩
      case round =>
        obtain ⟨i, vO, hi, hi10, rfl, hfld⟩ := hrel
        have HFL := hide hfld
        have HTLi : Hid ((((signL no).take i).map (Value.int .i64)).length = i) := by show _ = _; rw [List.length_map, List.length_take, signL_len]; omega
        have HBR := hide hfld.bel
        clear hfld HFLD
        by_cases hlt : i < no
        · have hlti : (i : Int) < (no : Int) := by omega
          by_cases h9 : (i : Int) > 9
          · have HBF := hide (below_step HB6.out HBR.out)
            go_wp2
            go_ret
            exact ⟨rfl, HBF.out⟩
          · have HTKi := hide (HTK.out i hlt)
            have HOWN := hide HFL.out.own
            rw [HTLi.out] at HOWN
            have HSZr : Hid (w6.heap.size + 1 ≤ wr.heap.size) := (Array.getElem?_eq_some_iff.1 HFL.out.box).1
            obtain ⟨⟨b0, b1, b2⟩, -⟩ := box3_cells HFL.out.box
            go_wp2_with (at_builtin; refine wpList_append_own _ rfl _ _ 23 rfl (w6.heap.size + 1) 3 l0 (.int .i64 0) 1 8 Tryd.underlying23 hl0 hv0 hv1 hv2 rfl (by decide) vO i _ rfl (HOWN.out.alloc _) ⟨wr.heap.size, 0, none⟩ 1 1 [.int .i64 (i : Int)] rfl rfl (one_new _ _ _) (fun u hu => by simp at hu; subst hu; rfl) (by unfold maxLen; omega) (by omega) (by have := HSZr.out; simp; omega) ?_; intro v3 w8 hown hgrow hnil; obtain ⟨a3, c3, rfl⟩ := owns_sl hown; have hp := fld_push (u := .int .i64 (i : Int)) HFL.out (by rw [HTLi.out]; exact hown) hgrow; have HFN := hide hp.2; obtain ⟨⟨e0, e1, e2⟩, ef⟩ := box3_cells hp.1; clear hown hgrow hnil hp)
            go_roundw
            case rel => exact ⟨i + 1, _, by omega, by omega, by go_num, by rw [HTKi.out, List.map_append]; exact HFN.out⟩
            case measure => simp [intOf]; omega
        · have hlti : ¬ (i : Int) < (no : Int) := by omega
          obtain rfl : i = no := by omega
          have hfull : (signL i).take i = signL i := List.take_of_length_le (by rw [signL_len]; exact Nat.le_refl _)
          have hown := HFL.out.own
          rw [HTLi.out, hfull] at hown
          obtain ⟨aP, cP, rfl, hsp⟩ := sl_of_owns (signL_len i) (by unfold maxLen; omega) (fun y hy => by
            obtain ⟨j, hj, rfl⟩ := List.getElem_of_mem hy
            have h1 := signL_get (n := i) (i := j) (by rw [signL_len] at hj; exact hj)
            rw [getD_at _ j hj] at h1
            rw [h1]
            rw [signL_len] at hj
            exact WalkArith.wf_i64 (by omega)) hown
          have HSP := hide hsp.1
          have HXP : Hid (wr.heap[w6.heap.size]? = some (.cells #[.int .i64 (k : Int), .slice a1 i c1, .slice aP i cP] 25)) := HFL.out.box
          have HBo := hide (below_step HB6.out HBR.out)
          have HNo := hide (And.intro (sl2_below HN6.out.1 HBR.out) (sl_below HN6.out.2 HBR.out))
          have HYo := hide ((HBR.out.block _ (Array.getElem?_eq_some_iff.1 HY6.out).1).trans HY6.out)
          obtain ⟨wo, hwo⟩ : ∃ wo : World, wo = wr := ⟨_, rfl⟩
          rw [← hwo] at HSP HXP HBo HNo HYo ⊢
          clear hwo hown hsp hfull HFL HBR HTLi HTK wr
          have HPC := hide (HOP.out hi10)
          have hxx := HX0.out
          have hkk : (0 : Int) ≤ x * (k : Int) ∧ x * (k : Int) ≤ 600000 := by
            constructor
            · exact Int.mul_nonneg hxx.1 (by omega)
            · have h1 : x * (k : Int) ≤ 100000 * 6 := Int.mul_le_mul hxx.2 (by omega) (by omega) (by decide)
              omega
          have HRL : Hid (∀ y : Int, 0 ≤ y → y ≤ 1099511627776 → runL R (dgs (k : Int) y) < i) := fun y h0 h1 => by
            obtain ⟨b1, b2, -, -, hG, -⟩ := outC_zero HOK.out
            obtain ⟨t1, t2, t3⟩ := kinds_nat b1 b2
            have hdig := dgs_digB (k : Int) y b1 b2 h0 h1
            have := run_lt hG (dgs (k : Int) y) (fun z hz => by have := digB_nn hdig z hz; rw [t3]; exact this)
            rw [HLR.out] at this
            exact this
          have HAP : Hid (∀ y : Int, 0 ≤ y → y ≤ 1099511627776 → atF (k : Int) R (signL i) y 1099511627776 = 0 ∧ atV (k : Int) R (signL i) y = ((runL R (dgs (k : Int) y) : Nat) : Int)) := fun y h0 h1 => by
            have e := atF_ok (x := y) (hi := 1099511627776) HPC.out ⟨h0, h1⟩
            refine ⟨e, ?_⟩
            unfold atV
            rw [if_pos e]
            unfold sayN sayW
            exact signL_get (HRL.out y h0 h1)
          have HAO : Hid (∀ y : Int, 0 ≤ y → y ≤ 1099511627776 → atF (k : Int) R K y 1099511627776 = 0 ∧ atV (k : Int) R K y = K.getD (runL R (dgs (k : Int) y)) 0) := fun y h0 h1 => by
            have e := atF_ok (x := y) (hi := 1099511627776) HOK.out ⟨h0, h1⟩
            refine ⟨e, ?_⟩
            unfold atV
            rw [if_pos e]
            rfl
          have HSTEP : Hid (∀ d : Nat, d < k → ((runL R (dgs (k : Int) (x * (k : Int) + (d : Int))) : Nat) : Int) = (R.getD (runL R (dgs (k : Int) x)) []).getD d 0 ∧ (R.getD (runL R (dgs (k : Int) x)) []).length = k) := fun d hd => by
            obtain ⟨b1, b2, -, -, hG, -⟩ := outC_zero HOK.out
            obtain ⟨t1, t2, t3⟩ := kinds_nat b1 b2
            have hkn : (kindsI (k : Int)).toNat = k := by unfold kindsI; split <;> omega
            rw [hkn] at hG
            have hr := HRL.out x hxx.1 (by omega)
            rw [HRN.out x (d : Int) hxx.1 (by omega) (by omega)]
            have hg := hG.2.2.2.2.2 (runL R (dgs (k : Int) x)) (by rw [HLR.out]; exact hr)
            have h2 := hg.2 d hd
            refine ⟨?_, hg.1⟩
            unfold stepL
            rw [Int.toNat_natCast]
            omega
          have HAX := hide (HAT.out (k : Int) a1 i c1 aP i cP R (signL i) x wo HNo.out.1 HSP.out)
          obtain ⟨f1, f2⟩ := HAP.out x hxx.1 (by omega)
          rw [f1, f2, errV_zero] at HAX
          have HATP := hide (fun (d : Nat) (hd : d < k) W (h : Below wo.heap.size wo W) => HAT.out (k : Int) a1 i c1 aP i cP R (signL i) (x * (k : Int) + (d : Int)) W (sl2_below HNo.out.1 h) (sl_below HSP.out h))
          have HATO := hide (fun (d : Nat) (hd : d < k) W (h : Below wo.heap.size wo W) => HAT.out (k : Int) a1 i c1 o1 i d1 R K (x * (k : Int) + (d : Int)) W (sl2_below HNo.out.1 h) (sl_below HNo.out.2 h))
          have hrx := HRL.out x hxx.1 (by omega)
          have HRD : Hid (∀ d : Nat, d < k → runL R (dgs (k : Int) (x * (k : Int) + (d : Int))) < i) := fun d hd => HRL.out _ (by omega) (by omega)
          have HAPd := hide (fun (d : Nat) (hd : d < k) => HAP.out (x * (k : Int) + (d : Int)) (by omega) (by omega))
          have HAOd := hide (fun (d : Nat) (hd : d < k) => HAO.out (x * (k : Int) + (d : Int)) (by omega) (by omega))
          clear f1 f2 HAP HAO HRL HPC HOP HOK HRN hxx
          generalize runL R (dgs (k : Int) x) = sx at HAX HSTEP hrx
          unfold outV at HAX HATP HATO
          obtain ⟨⟨t0, t1, t2⟩, -⟩ := box3_cells HXP.out
          go_wp2_with fail
          clear t0 t1 t2
          refine HAX.out.mono ?_
          rintro e w9 ⟨rfl, hb9⟩
          have HB9 := hide hb9
          have HBX : Hid (∀ W, Below w9.heap.size w9 W → (W.cell? ⟨w6.heap.size, 0, none⟩ = some (.int .i64 (k : Int)) ∧ W.cell? ⟨w6.heap.size, 1, none⟩ = some (.slice a1 i c1) ∧ W.cell? ⟨w6.heap.size, 2, none⟩ = some (.slice aP i cP)) ∧ (W.cell? ⟨Y, 0, none⟩ = some (.int .i64 (k : Int)) ∧ W.cell? ⟨Y, 1, none⟩ = some (.slice a1 i c1) ∧ W.cell? ⟨Y, 2, none⟩ = some (.slice o1 i d1)) ∧ Below wo.heap.size wo W) := fun W h => by
            have hbw := below_step hb9 h
            exact ⟨(box3_cells ((hbw.block _ (Array.getElem?_eq_some_iff.1 HXP.out).1).trans HXP.out)).1, (box3_cells ((hbw.block _ (Array.getElem?_eq_some_iff.1 HYo.out).1).trans HYo.out)).1, hbw⟩
          clear hb9 HAX
          go_wp2
          go_loopw [17] (fun iv wx => ∃ d : Nat, d ≤ k ∧ iv = .int .i64 d ∧ Below w9.heap.size w9 wx) (fun iv _ => k - (intOf iv).toNat)
          case atStart => exact ⟨0, by omega, rfl, Below.refl _ _⟩
          case round =>
            obtain ⟨d, hd, rfl, hbr⟩ := hrel
            have HBR := hide hbr
            obtain ⟨⟨t0, t1, t2⟩, ⟨u0, u1, u2⟩, hbo⟩ := HBX.out wr hbr
            clear hbr
            by_cases hlt : d < k
            · have hlti : (d : Int) < (k : Int) := by omega
              have HP1 := hide (HATP.out d hlt wr hbo)
              obtain ⟨f1, f2⟩ := HAPd.out d hlt
              rw [f1, f2, errV_zero] at HP1
              obtain ⟨g1, g2⟩ := HAOd.out d hlt
              obtain ⟨s1, s2⟩ := HSTEP.out d hlt
              have hrd := HRD.out d hlt
              have HO1 := hide (HATO.out d hlt)
              rw [g1, g2, errV_zero] at HO1
              have HSI := hide s1
              generalize hty : runL R (dgs (k : Int) (x * (k : Int) + (d : Int))) = ty at HP1 HO1 HSI hrd
              clear f1 f2 g1 g2 s1 hty hbo
              go_wp2_with fail
              clear t0 t1 t2 u0 u1 u2
              refine HP1.out.mono ?_
              rintro e w10 ⟨rfl, hb10⟩
              have HB10 := hide (below_step HBR.out hb10)
              obtain ⟨⟨t0, t1, t2⟩, ⟨u0, u1, u2⟩, hbo⟩ := HBX.out w10 HB10.out
              have HO2 := hide (HO1.out w10 hbo)
              clear hb10 HP1 HO1 hbo
              go_wp2_with fail
              clear t0 t1 t2 u0 u1 u2
              refine HO2.out.mono ?_
              rintro e w11 ⟨rfl, hb11⟩
              have HB11 := hide (below_step HB10.out hb11)
              obtain ⟨-, -, hbo⟩ := HBX.out w11 HB11.out
              have hbw := below_step HBo.out hbo
              obtain ⟨br, or_, ar, cr, hra, hcr, hsr⟩ := sl2_cell (sl2_below HS.out hbw) sx (by omega)
              rw [s2] at hcr hsr
              obtain ⟨bq, oq, hqa, hcq⟩ := sl_cell hsr d hlt
              obtain ⟨bk, ok, hka, hck⟩ := sl_cell (sl_below HO.out hbw) ty (by omega)
              rw [← HSI.out] at hcq
              have hsxi : (sx : Int) < (i : Int) := by omega
              have htyi : (ty : Int) < (i : Int) := by omega
              generalize K.getD ty 0 = kv at hck ⊢
              clear hb11 hbo hbw hsr HO2 s2
              cases hra
              cases hka
              subst hqa
              go_wp2
              go_roundw
              case rel => exact ⟨d + 1, by omega, by go_num, HB11.out⟩
              case measure => simp [intOf]; omega
            · have hlti : ¬ (d : Int) < (k : Int) := by omega
              have HBF := hide (below_step HBo.out (HBX.out wr HBR.out).2.2)
              go_wp2
              go_ret
              exact ⟨rfl, HBF.out⟩
    · have hx' : x < 0 ∨ (decide (x < 0) = false ∧ 100000 < x) := by
        by_cases e : x < 0
        · exact .inl e
        · exact .inr ⟨decide_eq_false e, by omega⟩
      clear hx
      rcases hx' with g | ⟨g1, g2⟩
      all_goals
        go_wp2
        go_ret
        exact ⟨rfl, HB6.out⟩
  · obtain ⟨e1, e2, e3⟩ := mp_bad hc
    rw [if_neg hc] at HMF
    rw [e1, e2, e3] at HMO
    have hc0 : (morC R K == 0) = false := by simp [hc]
    have hc1 : (morC R K != 0) = true := by simp [hc]
    generalize morC R K = c at HMF HMO hc0 hc1
    unfold outV at HMF
    clear hs ho hg hMO hAT e1 e2 e3 hc hL hLo
    go_enter Tryd.func5, Tryd.ntmps5
    go_wp2_with fail
    refine HMF.out.mono ?_
    rintro e w1 ⟨rfl, hb1⟩
    have HB1 := hide (hb1.alloc hb1.size (.cells #[.int .i64 0, .slice none 0 0, .slice none 0 0] 25))
    have HX1 := hide (heap_alloc_last w1 (.cells #[.int .i64 0, .slice none 0 0, .slice none 0 0] 25))
    clear hb1
    go_wp2_with fail
    generalize w1.alloc (.cells #[.int .i64 0, .slice none 0 0, .slice none 0 0] 25) = w2 at HB1 HX1 ⊢
    refine (HMO.out w2 HB1.out).mono ?_
    rintro e w3 ⟨a1, c1, o1, d1, rfl, -, hb3⟩
    have hbz := (Below.refl w3.heap.size w3).alloc (Nat.le_refl _) (.cells #[.int .i64 0, .slice a1 0 c1, .slice o1 0 d1] 25)
    have hb34 := below_step hb3 hbz
    have HB4 := hide (below_step HB1.out hb34)
    have HX4 := hide ((hb34.block _ (Array.getElem?_eq_some_iff.1 HX1.out).1).trans HX1.out)
    have HY4 := hide (heap_alloc_last w3 (.cells #[.int .i64 0, .slice a1 0 c1, .slice o1 0 d1] 25))
    clear hb3 hbz hb34
    go_wp2_with fail
    generalize w3.alloc (.cells #[.int .i64 0, .slice a1 0 c1, .slice o1 0 d1] 25) = w4 at HB4 HX4 HY4 ⊢
    refine (HES.out c w4 (HHA.out w4 HB4.out)).mono ?_
    rintro e w5 ⟨rfl, hb5⟩
    have HB5 := hide (below_step HB4.out hb5)
    obtain ⟨⟨p0, p1, p2⟩, -⟩ := box3_cells ((hb5.block _ (Array.getElem?_eq_some_iff.1 HX4.out).1).trans HX4.out)
    obtain ⟨⟨q0, q1, q2⟩, -⟩ := box3_cells ((hb5.block _ (Array.getElem?_eq_some_iff.1 HY4.out).1).trans HY4.out)
    clear hb5 HB4 HX4 HY4
    have HOE := hide (outs_eq 0 a1 0 c1 o1 0 d1 none 0 none 0 [] [] w5 ⟨rfl, by simp [maxLen], .inl rfl⟩ ⟨rfl, by simp [maxLen], fun y hy => by simp at hy, .inl rfl⟩ ⟨rfl, by simp [maxLen], .inl rfl⟩ ⟨rfl, by simp [maxLen], fun y hy => by simp at hy, .inl rfl⟩)
    unfold outV at HOE
    go_wp2_with fail
    clear p0 p1 p2 q0 q1 q2
    refine HOE.out.mono ?_
    rintro e w6 ⟨rfl, hb6⟩
    have HB6 := hide (below_step HB5.out hb6)
    clear hb6
    go_wp2
    go_ret
    exact ⟨rfl, HB6.out⟩
end Go.Proofs.YtcpnfbjcgaonkafDoor
