/- 10 texts in one. -/
import Derived.Deep.DeepCutAuto
import Derived.Deep.RegionHeldLaw
import Derived.BigQuiet
import Derived.Test.YtgbmemkoggogdaaDoorCi
import Derived.Test.YtgbmemkoggogdaaDoorJd
import Derived.Test.YtgbmemkoggogdaaDoorVe
import Derived.Test.YtgbmemkoggogdaaDoorZKc
import Derived.Test.YtgbmemkoggogdaaDoorZSf
import Derived.Test.YtgbmemkoggogdaaDoorZNr
import Derived.Test.YtgbmemkoggogdaaDoorZDb
import Derived.Test.YtgbmemkoggogdaaDoorZKa
/- The reference's LikeOf: contract. -/
namespace Go.Proofs.YtgbmemkoggogdaaDoor
open Go.RowKit

theorem nxt_rel {N : List (List Int)} {s l : Nat} {tz : List Int} (hs : s < N.length) (hl : l < tz.length) : nxt (relN N tz) s l = nxt N s (tz.getD l 0).toNat := by
  unfold nxt
  rw [relN_get hs]
  simp [List.getD, hl]
theorem lk_rows {b : Int} {N : List (List Int)} {O : List Int} {N2 : List (List Int)} {O2 : List Int} (h : outC b N O = 0) (h' : outC b N2 O2 = 0) {x y l : Nat} (hx : x < N.length + 1) (hy : y < N2.length + 1) (hl : l < (kindsI b).toNat * (kindsI b).toNat) :
    ((lkN (kindsI b).toNat N N2).getD (x * (N2.length + 1) + y) []).getD l 0 = ((nxt (wN N) x (l / (kindsI b).toNat) * (N2.length + 1) + nxt (wN N2) y (l % (kindsI b).toNat) : Nat) : Int) := by
  obtain ⟨h1, h2, h20, hO, hG, -⟩ := outC_zero h
  obtain ⟨-, -, h20', hO', hG', -⟩ := outC_zero h'
  obtain ⟨k1, k2, k3⟩ := kinds_nat h1 h2
  have hW := wN_good hG h20
  have hW' := wN_good hG' h20'
  have hkk : (kindsI b).toNat * (kindsI b).toNat ≤ 36 := Nat.le_trans (Nat.mul_le_mul k2 k2) (by decide)
  have hk1 : 1 ≤ (kindsI b).toNat * (kindsI b).toNat := Nat.le_trans (by decide) (Nat.mul_le_mul k1 k1)
  have hA := rel_good hW (dgA_ok (k := (kindsI b).toNat)) (by rw [dgA_len]; exact hk1) (by rw [dgA_len]; exact hkk)
  have hB := rel_good hW' (dgB_ok (k := (kindsI b).toNat) (by omega)) (by rw [dgB_len]; exact hk1) (by rw [dgB_len]; exact hkk)
  rw [dgA_len] at hA
  rw [dgB_len] at hB
  have hq := pair_lt hx hy
  have hpp := pair_parts hx hy
  unfold lkN
  rw [prod_cell hA hB hq hl, hpp.1, hpp.2, nxt_rel (by rw [wN_len]; exact hx) (by rw [dgA_len]; exact hl), nxt_rel (by rw [wN_len]; exact hy) (by rw [dgB_len]; exact hl), dgA_get hl, dgB_get hl, Int.toNat_natCast, Int.toNat_natCast]
theorem lk_ends {O O2 : List Int} {x y : Nat} (hx : x < O.length + 1) (hy : y < O2.length + 1) : (lkE O O2).getD (x * (O2.length + 1) + y) false = ((wO O).getD x 0 == (wO O2).getD y 0) := by
  have hq := pair_lt hx hy
  have hpp := pair_parts hx hy
  have e : (lkE O O2).getD (x * (O2.length + 1) + y) false = decide ((wO O).getD ((x * (O2.length + 1) + y) / (O2.length + 1)) 0 = (wO O2).getD ((x * (O2.length + 1) + y) % (O2.length + 1)) 0) := by
    simp [lkE, List.getD, hq]
  rw [e, hpp.1, hpp.2]
  rfl
set_option maxHeartbeats 16000000 in
set_option maxRecDepth 8000 in
theorem likeOf_any (b : Int) (a : Option Addr) (n cap : Nat) (ao : Option Addr) (no co : Nat) (N : List (List Int)) (O : List Int) (b2 : Int) (a2 : Option Addr) (n2 cap2 : Nat) (ao2 : Option Addr) (no2 co2 : Nat) (N2 : List (List Int)) (O2 : List Int) (w : World) (hs : Sl2 w a n N) (ho : Sl w ao no O) (hs2 : Sl2 w a2 n2 N2) (ho2 : Sl w ao2 no2 O2) (hF : lkF b N O b2 N2 O2 = 0) :
    Calls Tryd.prog 6 #[outV b a n cap ao no co, outV b2 a2 n2 cap2 ao2 no2 co2] w (BothR w (okI (lkC b N O b2 N2 O2) b) (okI (lkC b N O b2 N2 O2) 2) (lkRN b N O b2 N2 O2) (lkRE b N O b2 N2 O2) (lkC b N O b2 N2 O2)) := by
  obtain ⟨hC, hC2, hbb⟩ := lkF_zero hF
  subst hbb
  obtain ⟨h1, h2, h20, hO, hG, hrange⟩ := outC_zero hC
  obtain ⟨-, -, h20', hO', hG', hrange'⟩ := outC_zero hC2
  obtain ⟨hM, hm⟩ := two_tracks h1 h2
  have hL := hs.1
  have hL2 := hs2.1
  have hLo := ho.1
  have hLo2 := ho2.1
  obtain ⟨k1, k2, k3⟩ := kinds_nat h1 h2
  have hkk : (kindsI b2).toNat * (kindsI b2).toNat ≤ 36 := Nat.le_trans (Nat.mul_le_mul k2 k2) (by decide)
  have hW := wN_good hG h20
  have hW' := wN_good hG' h20'
  have hal := al_well hM
  have h80 := autoC_80 hal.auto
  have hnn : (n + 1) * (n2 + 1) * (alN b2 2).length ≤ 4000000 := Nat.le_trans (Nat.mul_le_mul (Nat.mul_le_mul (show n + 1 ≤ 21 by omega) (show n2 + 1 ≤ 21 by omega)) h80) (by decide)
  have HPG := hide (lk_good hC hC2).1
  have HPC := hide (fun x y l => @lk_rows b2 N O N2 O2 hC hC2 x y l)
  have HPE := hide (fun x y => @lk_ends O O2 x y)
  have HLE : Hid ((lkE O O2).length = (O.length + 1) * (O2.length + 1)) := by show _ = _; simp [lkE]
  rw [hO, hO'] at HLE HPE
  rw [hL, hL2] at HPG HPC HLE HPE
  rw [hL] at hW
  rw [hL2] at hW'
  have HLN : Hid ((lkN (kindsI b2).toNat N N2).length = (n + 1) * (n2 + 1)) := HPG.out.1
  have hB0 := below_three w (.cells #[.int .i64 b2, .slice a n cap, .slice ao no co] 25) (.cells #[.int .i64 b2, .slice a2 n2 cap2, .slice ao2 no2 co2] 25) (.cells #[.int .i64 0, .int .i64 0, .slice none 0 0, .slice none 0 0] 30)
  have HB0 := hide hB0
  have HX1 := hide (heap_alloc3_fst w (.cells #[.int .i64 b2, .slice a n cap, .slice ao no co] 25) (.cells #[.int .i64 b2, .slice a2 n2 cap2, .slice ao2 no2 co2] 25) (.cells #[.int .i64 0, .int .i64 0, .slice none 0 0, .slice none 0 0] 30))
  have HX2 := hide (heap_alloc3_snd w (.cells #[.int .i64 b2, .slice a n cap, .slice ao no co] 25) (.cells #[.int .i64 b2, .slice a2 n2 cap2, .slice ao2 no2 co2] 25) (.cells #[.int .i64 0, .int .i64 0, .slice none 0 0, .slice none 0 0] 30))
  have HX3 := hide (heap_alloc3_last w (.cells #[.int .i64 b2, .slice a n cap, .slice ao no co] 25) (.cells #[.int .i64 b2, .slice a2 n2 cap2, .slice ao2 no2 co2] 25) (.cells #[.int .i64 0, .int .i64 0, .slice none 0 0, .slice none 0 0] 30))
  have HWT := hide (waits_any b2 a n cap ao no co N O _ (sl2_below hs hB0) (sl_below ho hB0) hC)
  have HWT2 := hide (fun W (hb : Below _ _ W) => waits_any b2 a2 n2 cap2 ao2 no2 co2 N2 O2 W (sl2_below (sl2_below hs2 hB0) hb) (sl_below (sl_below ho2 hB0) hb) hC2)
  unfold WaitsR outV at HWT HWT2
  rw [hO, hL] at HWT
  rw [hO', hL2] at HWT2
  have HLT := hide (fun W => letters_u b2 2 W)
  rw [hM, hm, ← k3] at HLT
  have HRX := hide (fun W => radix_yes b2 W h1 h2)
  rw [← k3] at HRX
  have hmn : (manyU b2 2).toNat = (kindsI b2).toNat * (kindsI b2).toNat := by rw [hm, Int.toNat_mul (by omega) (by omega)]
  have HRG := hide (fun aN cN aE cE W (q1 : Sl2 W aN ((n + 1) * (n2 + 1)) (lkN (kindsI b2).toNat N N2)) (q2 : SlB W aE ((n + 1) * (n2 + 1)) (lkE O O2)) => righted_any b2 2 aN ((n + 1) * (n2 + 1)) cN aE cE ((kindsI b2).toNat * (kindsI b2).toNat) (lkN (kindsI b2).toNat N N2) (lkE O O2) W q1 q2 HPG.out hM hmn hnn)
  rw [show ((2 : Nat) : Int) = 2 from rfl] at HRG
  unfold RgR at HRG
  have HQ : Hid (prodE 8 ((n + 1) * (n2 + 1)) (alN b2 2).length (lkE O O2) (alE b2 2) = lkQ b2 O O2) := by show _ = _; unfold lkQ; rw [hO, hO', hL, hL2]
  have HP : Hid (prodN (lkN (kindsI b2).toNat N N2) (alN b2 2) ((kindsI b2).toNat * (kindsI b2).toNat) = lkP b2 N N2) := rfl
  rw [HQ.out, HP.out] at HRG
  have HY : Hid (∀ (e : Ending) (w' : World), leastK (lkP b2 N N2) (lkQ b2 O O2) ((kindsI b2).toNat * (kindsI b2).toNat) ≤ 80 → BothR w b2 2 (leastN (lkP b2 N N2) (lkQ b2 O O2) ((kindsI b2).toNat * (kindsI b2).toNat)) (leastE (lkP b2 N N2) (lkQ b2 O O2) ((kindsI b2).toNat * (kindsI b2).toNat)) 0 e w' → BothR w (okI (lkC b2 N O b2 N2 O2) b2) (okI (lkC b2 N O b2 N2 O2) 2) (lkRN b2 N O b2 N2 O2) (lkRE b2 N O b2 N2 O2) (lkC b2 N O b2 N2 O2) e w') := fun e w' m1 m3 => by
    have hc : lkC b2 N O b2 N2 O2 = 0 := by unfold lkC; rw [if_pos hF, if_pos m1]
    unfold lkRN lkRE
    rw [if_pos hc, if_pos hc, hc]
    exact m3
  have HZ : Hid (∀ (e : Ending) (w' : World), 80 < leastK (lkP b2 N N2) (lkQ b2 O O2) ((kindsI b2).toNat * (kindsI b2).toNat) → BothR w 0 0 [] [] 3 e w' → BothR w (okI (lkC b2 N O b2 N2 O2) b2) (okI (lkC b2 N O b2 N2 O2) 2) (lkRN b2 N O b2 N2 O2) (lkRE b2 N O b2 N2 O2) (lkC b2 N O b2 N2 O2) e w') := fun e w' m1 m3 => by
    have hc : lkC b2 N O b2 N2 O2 = 3 := by unfold lkC; rw [if_pos hF, if_neg (by omega)]
    unfold lkRN lkRE
    rw [hc, if_neg (by decide), if_neg (by decide)]
    exact m3
  have hP21 : n + 1 ≤ 21 := by omega
  have hP21' : n2 + 1 ≤ 21 := by omega
  have hP1 : 1 ≤ n + 1 := by omega
  have hP1' : 1 ≤ n2 + 1 := by omega
  have HPP : Hid ((n + 1) * (n2 + 1) ≤ 441) := Nat.le_trans (Nat.mul_le_mul hP21 hP21') (by decide)
  have HG := hide hW
  have HG2 := hide hW'
  clear hs ho hs2 ho2 hF hC hC2 hG hG' hW hW' hal hrange hrange' hnn h80 hM hm hmn hO hO' hL hL2 hLo hLo2 h20 h20' hB0 h1 h2 HQ HP
  generalize leastN (lkP b2 N N2) (lkQ b2 O O2) ((kindsI b2).toNat * (kindsI b2).toNat) = LN at HRG HY
  generalize leastE (lkP b2 N N2) (lkQ b2 O O2) ((kindsI b2).toNat * (kindsI b2).toNat) = LE at HRG HY
  generalize leastK (lkP b2 N N2) (lkQ b2 O O2) ((kindsI b2).toNat * (kindsI b2).toNat) = LK at HRG HY HZ
  generalize okI (lkC b2 N O b2 N2 O2) b2 = OB at HY HZ ⊢
  generalize okI (lkC b2 N O b2 N2 O2) 2 = OT at HY HZ ⊢
  generalize lkRN b2 N O b2 N2 O2 = RN at HY HZ ⊢
  generalize lkRE b2 N O b2 N2 O2 = RE at HY HZ ⊢
  generalize lkC b2 N O b2 N2 O2 = RC at HY HZ ⊢
  generalize hPN : lkN (kindsI b2).toNat N N2 = PN at HPG HPC HLN HRG
  generalize hPE : lkE O O2 = PE at HPE HLE HRG
  clear hPN hPE
  generalize wN N = A1 at HWT HG HPC
  generalize wN N2 = A2 at HWT2 HG2 HPC
  generalize wO O = X1 at HWT HPE
  generalize wO O2 = X2 at HWT2 HPE
  generalize (kindsI b2).toNat = k at HPG HPC HLT HRX HG HG2 k1 k2 hkk
  clear k3
  obtain ⟨m, hmk⟩ : ∃ m, m = k * k := ⟨_, rfl⟩
  rw [← hmk] at HPG HPC hkk
  have hki : (k : Int) * (k : Int) = (m : Int) := by rw [hmk]; simp
  have HMK := hide hmk
  clear hmk
  rw [hki] at HLT
  have hwk : IntKind.i64.wrap (m : Int) = (m : Int) := wrap_small (by omega) (by omega)
  generalize n + 1 = P at HWT HG HPC HPE HPG HLE HLN HRG HPP hP21 hP1
  generalize n2 + 1 = P2 at HWT2 HG2 HPC HPE HPG HLE HLN HRG HPP hP21' hP1'
  generalize hwb : ((w.alloc (.cells #[.int .i64 b2, .slice a n cap, .slice ao no co] 25)).alloc (.cells #[.int .i64 b2, .slice a2 n2 cap2, .slice ao2 no2 co2] 25)).alloc (.cells #[.int .i64 0, .int .i64 0, .slice none 0 0, .slice none 0 0] 30) = wb at HB0 HX1 HX2 HX3 HWT HWT2
  have HSZ : Hid (wb.heap.size = w.heap.size + 3) := by show _ = _; rw [← hwb]; simp
  obtain ⟨i0, hi0, hz0, hz1, hz2⟩ := info_parts info3
  obtain ⟨j0, hj0, hy0, hy1, hy2⟩ := info_parts infoS2
  obtain ⟨l0, hl0, hv0, hv1, hv2⟩ := info_parts infoBo
  obtain ⟨⟨p0, p1, p2⟩, -⟩ := box3_cells HX1.out
  unfold outV
  go_enter Tryd.func6, Tryd.ntmps6
  go_wp2_with fail
  clear hwb
  refine (HLT.out wb).mono ?_
  rintro e w0 ⟨rfl, rfl⟩
  go_wp2_with fail
  clear p0 p1 p2
  refine HWT.out.mono ?_
  rintro e w1 ⟨aN, cN, aO, cO, rfl, hsn, hso, hb1⟩
  have HSN1 := hide hsn
  have HSO1 := hide hso
  have HB1 := hide hb1
  have HWT3 := hide (HWT2.out w1 hb1)
  obtain ⟨⟨p0, p1, p2⟩, -⟩ := box3_cells ((hb1.block _ (Array.getElem?_eq_some_iff.1 HX2.out).1).trans HX2.out)
  clear hsn hso hb1 HWT HWT2
  go_wp2_with fail
  clear p0 p1 p2
  refine HWT3.out.mono ?_
  rintro e w2 ⟨aN2, cN2, aO2, cO2, rfl, hsn, hso, hb2⟩
  have HS := hide (sl2_below HSN1.out hb2)
  have HO := hide (sl_below HSO1.out hb2)
  have HS2 := hide hsn
  have HO2 := hide hso
  have HBW2 : Hid (Below _ _ w2) := below_step HB1.out hb2
  obtain ⟨⟨p0, p1, p2⟩, -⟩ := box3_cells ((HBW2.out.block _ (Array.getElem?_eq_some_iff.1 HX1.out).1).trans HX1.out)
  clear hsn hso hb2 HWT3 HSN1 HSO1 HB1
  go_wp2_with fail
  clear p0 p1 p2
  refine (HRX.out w2).mono ?_
  rintro e w3 ⟨rfl, rfl⟩
  have HP0 := hide (prAt_start w3 (fun s => PN.getD s []) (fun s => PE.getD s false))
  go_wp2_with fail
  clear HLT HRX
  generalize hwv : w3 = wv at HS HO HS2 HO2 HBW2 HP0 ⊢
  clear hwv
  go_loopw [14, 12, 13] (fun xv vN vE wx => ∃ x : Nat, x ≤ P ∧ xv = .int .i64 x ∧ PrAt wv (fun s => PN.getD s []) (fun s => PE.getD s false) (x * P2) (x * P2) vN vE wx) (fun xv _ _ _ => P - (intOf xv).toNat)
  case atStart => exact ⟨0, by omega, rfl, by rw [Nat.zero_mul]; exact HP0.out⟩
  case round =>
    obtain ⟨x, hx, rfl, hpr⟩ := hrel
    have HPR := hide hpr
    clear hpr
    by_cases hxl : x < P
    · have hxi : (x : Int) < (P : Int) := by omega
      have HXS : Hid (x * P2 + P2 ≤ 441) := by
        have h := Nat.mul_le_mul_right P2 (show x + 1 ≤ P from hxl)
        rw [Nat.add_mul, Nat.one_mul] at h
        exact Nat.le_trans h HPP.out
      go_wp2
      go_loopw [15, 12, 13] (fun yv vN vE wx => ∃ y : Nat, y ≤ P2 ∧ yv = .int .i64 y ∧ PrAt wv (fun s => PN.getD s []) (fun s => PE.getD s false) (x * P2 + y) (x * P2 + y) vN vE wx) (fun yv _ _ _ => P2 - (intOf yv).toNat)
      case atStart => exact ⟨0, by omega, rfl, HPR.out⟩
      case round =>
        obtain ⟨y, hy, rfl, hpr⟩ := hrel
        have HPR2 := hide hpr
        have HBW : Hid (Below wv.heap.size wv wr) := by obtain ⟨_, _, _, _, h⟩ := hpr; exact h
        clear hpr
        by_cases hyl : y < P2
        · have hyi : (y : Int) < (P2 : Int) := by omega
          have HPE1 := hide (HPE.out x y hxl hyl)
          have HPC1 := hide (fun l => HPC.out x y l hxl hyl)
          have HRL : Hid ((PN.getD (x * P2 + y) []).length = m) := (HPG.out.2.2.2.2.2 _ (pair_lt hxl hyl)).1
          obtain ⟨bn, on, an, cn, rfl, hcn, hsn⟩ := sl2_cell HS.out x hxl
          rw [(HG.out.2.2.2.2.2 x hxl).1] at hcn hsn
          obtain ⟨bn2, on2, an2, cn2, rfl, hcn2, hsn2⟩ := sl2_cell HS2.out y hyl
          rw [(HG2.out.2.2.2.2.2 y hyl).1] at hcn2 hsn2
          have HCN := hide hcn
          have HCN2 := hide hcn2
          have HSN := hide hsn
          have HSN2 := hide hsn2
          have hsq441 : x * P2 + y < 441 := by have := HXS.out; omega
          clear hcn hcn2 hsn hsn2
          generalize hsq : x * P2 + y = sq at HPE1 HPC1 HRL HPR2 hsq441
          have HSQ := hide hsq
          clear hsq
          obtain ⟨row, hrow⟩ : ∃ row, row = PN.getD sq [] := ⟨_, rfl⟩
          rw [← hrow] at HPC1 HRL
          have HROW := hide hrow
          clear hrow
          have HG0 : Hid (GrowR wr (row.take 0) (.slice none 0 0) wr) := ⟨World.ownsRow_nil _ _ _ _, Below.refl _ _⟩
          go_wp2
          obtain ⟨wq, hwq⟩ : ∃ wq : World, wq = wr := ⟨_, rfl⟩
          rw [← hwq] at HPR2 HBW HG0 ⊢
          clear hwq wr
          go_loopw [16, 17] (fun v lv wx => ∃ l : Nat, l ≤ m ∧ lv = .int .i64 l ∧ GrowR wq (row.take l) v wx) (fun _ lv _ => m - (intOf lv).toNat)
          case atStart => exact ⟨0, by omega, rfl, HG0.out⟩
          case round =>
            obtain ⟨l, hl, rfl, hgr⟩ := hrel
            have HGR := hide hgr
            have HBL := hide (HBW.out.trans (hgr.2.mono HBW.out.size))
            have hcn : wr.cell? ⟨bn, on + x, none⟩ = some (.slice an k cn) := (HBL.out.cell (p := ⟨bn, on + x, none⟩) (World.block_lt_of_cell? _ _ HCN.out)).trans HCN.out
            have hcn2 : wr.cell? ⟨bn2, on2 + y, none⟩ = some (.slice an2 k cn2) := (HBL.out.cell (p := ⟨bn2, on2 + y, none⟩) (World.block_lt_of_cell? _ _ HCN2.out)).trans HCN2.out
            clear hgr
            by_cases hlm : l < m
            · have hlmi : (l : Int) < (m : Int) := by omega
              have hpk : l / k < k := Nat.div_lt_of_lt_mul (by have := HMK.out; omega)
              have hrk : l % k < k := Nat.mod_lt l (by omega)
              have hq1 : (l : Int).tdiv (k : Int) = ((l / k : Nat) : Int) := by rw [Int.tdiv_eq_ediv_of_nonneg (by omega)]; simp
              have hq2 : (l : Int).tmod (k : Int) = ((l % k : Nat) : Int) := by rw [Int.tmod_eq_emod_of_nonneg (by omega)]; simp
              have hz := HPC1.out l hlm
              generalize l / k = p at hpk hq1 hz
              generalize l % k = r at hrk hq2 hz
              obtain ⟨b1, o1, rfl, hcx⟩ := sl_cell (sl_below HSN.out HBL.out) p hpk
              obtain ⟨b3, o3, rfl, hcy⟩ := sl_cell (sl_below HSN2.out HBL.out) r hrk
              have hnx := nxt_cell HG.out hxl hpk
              have hny := nxt_cell HG2.out hyl hrk
              rw [hnx.2] at hcx
              rw [hny.2] at hcy
              have hbd := Nat.lt_of_lt_of_le (pair_lt hnx.1 hny.1) HPP.out
              have HTS : Hid (row.take (l + 1) = row.take l ++ [row.getD l 0]) := by show _ = _; rw [List.take_succ_eq_append_getElem (by have := HRL.out; omega), getD_at _ l (by have := HRL.out; omega)]
              rw [hz, show ((nxt A1 x p * P2 + nxt A2 y r : Nat) : Int) = (nxt A1 x p : Int) * (P2 : Int) + (nxt A2 y r : Int) by simp] at HTS
              have HTL : Hid ((row.take l).length = l) := by show _ = _; rw [List.length_take]; have := HRL.out; omega
              have HOWN := hide HGR.out.1
              rw [HTL.out] at HOWN
              have HSZq := hide HGR.out.2.size
              have hpki : (p : Int) < (k : Int) := by omega
              have hrki : (r : Int) < (k : Int) := by omega
              have hk0 : ((k : Int) == 0) = false := by simp; omega
              have hwp1 : IntKind.i64.wrap (p : Int) = (p : Int) := wrap_small (by omega) (by omega)
              have hwr1 : IntKind.i64.wrap (r : Int) = (r : Int) := wrap_small (by omega) (by omega)
              clear hz hnx hny
              generalize nxt A1 x p = u at hcx HTS hbd
              generalize nxt A2 y r = v at hcy HTS hbd
              obtain ⟨pr, hpr⟩ : ∃ pr : Nat, (u : Int) * (P2 : Int) = (pr : Int) := ⟨u * P2, by simp⟩
              have hpb : pr + v < 441 := by
                have h1 : ((u * P2 : Nat) : Int) = (pr : Int) := by rw [← hpr]; simp
                omega
              rw [hpr] at HTS
              have hwp : IntKind.i64.wrap (pr : Int) = (pr : Int) := wrap_small (by omega) (by omega)
              have hws : IntKind.i64.wrap ((pr : Int) + (v : Int)) = (pr : Int) + (v : Int) := wrap_small (by omega) (by omega)
              clear hbd
              have HKEEP : Hid (∀ (w6 : World) (o : Obj) (vr : Value), wr.ownsRow wq.heap.size 3 1 vr l ((row.take l).map (Value.int .i64)) → (wr.alloc o).drew.grownBy w6 vr.ownBlock → w6.cell? ⟨bn, on + x, none⟩ = some (.slice (some ⟨b1, o1, none⟩) k cn) ∧ w6.cell? ⟨bn2, on2 + y, none⟩ = some (.slice (some ⟨b3, o3, none⟩) k cn2) ∧ w6.cell? ⟨b1, o1 + p, none⟩ = some (.int .i64 (u : Int)) ∧ w6.cell? ⟨b3, o3 + r, none⟩ = some (.int .i64 (v : Int))) := by
                intro w6 o vr hr hg
                have hB3 : Below wq.heap.size wq w6 := Below.grown ((HGR.out.2.alloc HSZq.out o).drew) hg (by have := HSZq.out; simp; omega) (fun k hk => (hr.lt k hk).1)
                have hBb := HBW.out.trans (hB3.mono HBW.out.size)
                refine ⟨(hBb.cell (p := ⟨bn, on + x, none⟩) (World.block_lt_of_cell? _ _ HCN.out)).trans HCN.out, (hBb.cell (p := ⟨bn2, on2 + y, none⟩) (World.block_lt_of_cell? _ _ HCN2.out)).trans HCN2.out, ?_, ?_⟩
                · obtain ⟨b1', o1', e, hc⟩ := sl_cell (sl_below HSN.out hBb) p hpk
                  obtain ⟨b1'', o1'', e', hc'⟩ := sl_cell (sl_below HSN.out HBL.out) p hpk
                  cases e
                  cases e'
                  rw [hc, ← hc', hcx]
                · obtain ⟨b1', o1', e, hc⟩ := sl_cell (sl_below HSN2.out hBb) r hrk
                  obtain ⟨b1'', o1'', e', hc'⟩ := sl_cell (sl_below HSN2.out HBL.out) r hrk
                  cases e
                  cases e'
                  rw [hc, ← hc', hcy]
              go_wp2
              go_region_held_law (fun W => W.cell? ⟨bn, on + x, none⟩ = some (.slice (some ⟨b1, o1, none⟩) k cn) ∧ W.cell? ⟨bn2, on2 + y, none⟩ = some (.slice (some ⟨b3, o3, none⟩) k cn2) ∧ W.cell? ⟨b1, o1 + p, none⟩ = some (.int .i64 (u : Int)) ∧ W.cell? ⟨b3, o3 + r, none⟩ = some (.int .i64 (v : Int))) (first | go_keep | exact HKEEP.out _ _ _ HOWN.out hgrow5)
                (first | (refine step_append_lies _ rfl (.tmp 60) (.tmp 83) 23 rfl wq.heap.size 3 i0 (.int .i64 0) 1 8 Tryd.underlying23 hi0 hz0 hz1 hz2 rfl (by decide) _ l _ rfl (World.ownsRow.alloc (w := wr) HOWN.out _) ⟨wr.heap.size, 0, none⟩ 1 1 [.int .i64 ((pr : Int) + (v : Int))] (by simp [Act.eval]) rfl (one_new wr _ _) (fun u hu => by simp at hu; subst hu; rfl) (by omega) (by unfold maxLen; omega) (by omega) (by have := HSZq.out; simp; omega) (wr.heap.size + 1) (by simp) ?_; intro g5 cg5 w6 hown5 hgrow5 hat5 hlt5; have HO5 := hide hown5; have HG5 := hide hgrow5))
              all_goals
                go_wp2
                go_roundw
                case rel =>
                  refine ⟨l + 1, by omega, by go_num, ?_⟩
                  rw [HTS.out]
                  exact growR_push (o := .cells #[.int .i64 ((pr : Int) + (v : Int))] 3) HGR.out (by rw [HTL.out]; exact HO5.out) ⟨HG5.out.os, HG5.out.tape, HG5.out.output, HG5.out.size, HG5.out.block⟩
                case measure => simp [intOf]; omega
            · have hlmi : ¬ ((l : Int) < (m : Int)) := by omega
              obtain rfl : m = l := by omega
              have HFULL : Hid (row.take m = row) := List.take_of_length_le (by have := HRL.out; omega)
              rw [HFULL.out] at HGR
              have hwf : ∀ z ∈ row, (Lit.int .i64 z).wf = true := fun z hz => by
                obtain ⟨i, hi, rfl⟩ := List.getElem_of_mem hz
                have hi2 : i < m := by have := HRL.out; omega
                have h1 := HPC1.out i hi2
                rw [getD_at _ i hi] at h1
                rw [h1]
                have h2 := Nat.lt_of_lt_of_le (pair_lt (nxt_cell HG.out hxl (Nat.div_lt_of_lt_mul (by have := HMK.out; omega) : i / k < k)).1 (nxt_cell HG2.out hyl (Nat.mod_lt i (by omega) : i % k < k)).1) HPP.out
                exact WalkArith.wf_i64 (by omega)
              obtain ⟨ar, cr, rfl, hsr⟩ := sl_of_owns rfl (by unfold maxLen; have := HRL.out; omega) hwf HGR.out.1
              have HON := hide (@prAt_N wv (fun s => PN.getD s []) (fun s => PE.getD s false) sq sq _ _ wq wr ar cr HPR2.out HGR.out.2 (by simp only [← HROW.out]; exact hsr))
              simp only [← HROW.out] at HON
              rw [HRL.out] at HON
              obtain ⟨vals, hoN, hszN, hnx⟩ := HON.out
              have HNX := hide hnx
              have HOWN := hide hoN
              have HSZq := hide hszN
              have hrlm := HRL.out
              clear hnx hoN hszN HON hsr hwf hcn hcn2
              rw [HRL.out]
              have HPX := hide (fun (w3 : World) v3 (h : PrAt wv (fun s => PN.getD s []) (fun s => PE.getD s false) (sq + 1) sq v3 u13 w3) => prAt_E h)
              simp only [HPE1.out] at HPX
              obtain ⟨bx, ox, hxa, -⟩ := sl_cell HO.out x hxl
              obtain ⟨by_, oy, hya, -⟩ := sl_cell HO2.out y hyl
              subst hxa hya
              have HXC : Hid (∀ W, Below wv.heap.size wv W → W.cell? ⟨bx, ox + x, none⟩ = some (.int .i64 (X1.getD x 0)) ∧ W.cell? ⟨by_, oy + y, none⟩ = some (.int .i64 (X2.getD y 0))) := fun W hb => by
                obtain ⟨b', o', e, hc⟩ := sl_cell (sl_below HO.out hb) x hxl
                obtain ⟨b'', o'', e', hc'⟩ := sl_cell (sl_below HO2.out hb) y hyl
                cases e
                cases e'
                exact ⟨hc, hc'⟩
              generalize X1.getD x 0 = e1 at HPX HXC
              generalize X2.getD y 0 = e2 at HPX HXC
              obtain ⟨ev, hev⟩ : ∃ ev, (e1 == e2) = ev := ⟨_, rfl⟩
              rw [hev] at HPX
              go_upto_region 21 with (at_builtin; refine wpList_append_lies _ rfl _ _ 22 rfl wv.heap.size 23 j0 (.slice none 0 0) 1 24 Tryd.underlying22 hj0 hy0 hy1 hy2 rfl (by decide) u12 sq vals rfl (HOWN.out.alloc _) ⟨wr.heap.size, 0, none⟩ 1 1 [.slice ar m cr] rfl rfl (one_new _ _ _) (fun u hu => by simp at hu; subst hu; rfl) (by omega) (by unfold maxLen; omega) (by omega) (by have := HSZq.out; simp; omega) (wr.heap.size + 1) (by simp) ?_; intro g' cg w4 hown3 hgrow3 hat3 hlt3; have HN3 := hide (HNX.out w4 _ g' cg hown3 hgrow3 hat3); obtain ⟨hoE, hszE, hnxE⟩ := HPX.out w4 _ HN3.out; have HOE := hide hoE; have HSE := hide hszE; have HNE := hide hnxE; clear hown3 hgrow3 hat3 hlt3 hoE hszE hnxE)
              have HB4 : Hid (Below wv.heap.size wv w4) := by obtain ⟨_, _, _, _, h⟩ := HN3.out; exact h
              obtain ⟨hcx, hcy⟩ := HXC.out w4 HB4.out
              have HKEEP : Hid (∀ (w6 : World) (o : Obj) (vr : Value) (L : List Value), w4.ownsRow wv.heap.size 4 1 vr sq L → (w4.alloc o).drew.grownBy w6 vr.ownBlock → w6.cell? ⟨bx, ox + x, none⟩ = some (.int .i64 e1) ∧ w6.cell? ⟨by_, oy + y, none⟩ = some (.int .i64 e2)) := fun w6 o vr L hr hg => HXC.out w6 (Below.grown ((HB4.out.alloc HB4.out.size o).drew) hg (by have := HB4.out.size; simp; omega) (fun k hk => (hr.lt k hk).1))
              go_region_held_law (fun W => W.cell? ⟨bx, ox + x, none⟩ = some (.int .i64 e1) ∧ W.cell? ⟨by_, oy + y, none⟩ = some (.int .i64 e2)) (first | go_keep | exact HKEEP.out _ _ _ _ HOE.out hgrow5)
                (first | (refine step_append_lies _ rfl (.tmp 89) (.tmp 99) 28 rfl wv.heap.size 4 l0 (.bool false) 1 1 Tryd.underlying28 hl0 hv0 hv1 hv2 rfl (by decide) u13 sq _ rfl (World.ownsRow.alloc (w := w4) HOE.out _) ⟨w4.heap.size, 0, none⟩ 1 1 [.bool ev] (by simp [Act.eval]) rfl (one_new w4 _ _) (fun u hu => by simp at hu; subst hu; rfl) (by omega) (by unfold maxLen; omega) (by omega) (by have := HSE.out; simp; omega) (w4.heap.size + 1) (by simp) ?_; intro g5 cg5 w6 hown5 hgrow5 hat5 hlt5; have HO5 := hide hown5; have HG5 := hide hgrow5; have HA5 := hide hat5))
              all_goals
                go_wp2
                go_roundw
                case rel => exact ⟨y + 1, by omega, by go_num, by rw [← Nat.add_assoc, HSQ.out]; exact HNE.out w6 (.cells #[.bool ev] 4) g5 cg5 HO5.out ⟨HG5.out.os, HG5.out.tape, HG5.out.output, HG5.out.size, HG5.out.block⟩ HA5.out⟩
                case measure => simp [intOf]; omega
        · have hyi : ¬ ((y : Int) < (P2 : Int)) := by omega
          obtain rfl : y = P2 := by omega
          go_wp2
          go_roundw
          case rel => exact ⟨x + 1, by omega, by go_num, by rw [Nat.add_mul, Nat.one_mul]; exact HPR2.out⟩
          case measure => simp [intOf]; omega
    · have hxi : ¬ ((x : Int) < (P : Int)) := by omega
      obtain rfl : x = P := by omega
      obtain ⟨ax, cx, ax', cx', rfl, rfl, hf1, hf2, hf3⟩ := prAt_end HPR.out (by have := HPP.out; unfold maxLen; omega) PN HLN.out (fun _ _ => rfl) PE HLE.out (fun _ _ => rfl)
      have HCR := hide (HRG.out ax cx ax' cx' wr hf1 hf2)
      have HBR : Hid (Below w0.heap.size w0 wr) := below_step HBW2.out hf3
      obtain ⟨⟨p0, p1, p2⟩, -⟩ := box3_cells ((HBR.out.block _ (Array.getElem?_eq_some_iff.1 HX1.out).1).trans HX1.out)
      clear hf1 hf2 hf3 HRG
      go_wp2_with fail
      clear p0 p1 p2
      refine HCR.out.mono ?_
      rintro e w2 (⟨hK, h⟩ | ⟨hK, h⟩)
      · obtain ⟨a1, c1, a2, c2, rfl, hnw, hb2⟩ := h
        have HBF := hide (below_step HBR.out hb2)
        have hr := (HBF.out.block (w.heap.size + 2) (by rw [HSZ.out]; omega)).trans HX3.out
        obtain ⟨⟨r0, r1, r2, r3⟩, rf⟩ := box_cells hr
        have HR := hide hr
        have HNW := hide hnw
        have HSW : Hid (w.heap.size + 3 ≤ wr.heap.size) := by have := HBR.out.size; have := HSZ.out; show _ ≤ _; omega
        have HYS := hide (fun e w' => HY.out e w' hK)
        clear hr hnw hb2
        go_wp2
        obtain ⟨⟨hset, hsz, hoth⟩, hbel⟩ := box_set (v0 := .int .i64 b2) (v1 := .int .i64 2) (v2 := .slice a1 LN.length c1) (v3 := .slice a2 LN.length c2) HR.out rfl
        have hfin : AutoNew w a1 LN.length LN a2 LE ((((w2.setCell ⟨w.heap.size + 2, 0, none⟩ (.int .i64 b2)).setCell ⟨w.heap.size + 2, 1, none⟩ (.int .i64 2)).setCell ⟨w.heap.size + 2, 2, none⟩ (.slice a1 LN.length c1)).setCell ⟨w.heap.size + 2, 3, none⟩ (.slice a2 LN.length c2)) := fun W' hW' => HNW.out W' (fun x hx hxl => by
          have h1 := HSW.out
          rw [hW' x (by omega) (by rw [hsz]; exact hxl), hoth x (by omega)])
        have hb := hbel w w.heap.size (below_step HB0.out HBF.out) (by omega)
        obtain ⟨⟨z0, z1, z2, z3⟩, -⟩ := box_cells hset
        exact bodyPost_ret (v := .tuple #[.agg #[.int .i64 b2, .int .i64 2, .slice a1 LN.length c1, .slice a2 LN.length c2], .int .i64 0]) (by simp [results, Tryd.results6, go_sem, z0, z1, z2, z3]) rfl (HYS.out _ _ ⟨a1, c1, a2, c2, rfl, hfin, hb⟩)
      · obtain ⟨a1, c1, a2, c2, rfl, -, hb2⟩ := h
        have HBF := hide (below_step HBR.out hb2)
        have hr := (HBF.out.block (w.heap.size + 2) (by rw [HSZ.out]; omega)).trans HX3.out
        obtain ⟨⟨r0, r1, r2, r3⟩, rf⟩ := box_cells hr
        have HR := hide hr
        have HZS := hide (fun e w' => HZ.out e w' hK)
        clear hr hb2
        go_wp2
        obtain ⟨⟨hset, hsz, hoth⟩, hbel⟩ := box_set (v0 := .int .i64 0) (v1 := .int .i64 0) (v2 := .slice a1 0 c1) (v3 := .slice a2 0 c2) HR.out rfl
        have hb := hbel w w.heap.size (below_step HB0.out HBF.out) (by omega)
        obtain ⟨⟨z0, z1, z2, z3⟩, -⟩ := box_cells hset
        exact bodyPost_ret (v := .tuple #[.agg #[.int .i64 0, .int .i64 0, .slice a1 0 c1, .slice a2 0 c2], .int .i64 3]) (by simp [results, Tryd.results6, go_sem, z0, z1, z2, z3]) rfl (HZS.out _ _ ⟨a1, c1, a2, c2, rfl, autoNew_none a1 a2, hb⟩)
end Go.Proofs.YtgbmemkoggogdaaDoor

/- What package word's Like answers, and the walk of the law WordLikes from it. -/
namespace Go.Proofs.YtgbmemkoggogdaaDoor
open Go.RowKit

def LikeSays : Prop := ∀ (b : Int) (a : Option Addr) (n cap : Nat) (ao : Option Addr) (no co : Nat) (N : List (List Int)) (O : List Int) (b2 : Int) (a2 : Option Addr) (n2 cap2 : Nat) (ao2 : Option Addr) (no2 co2 : Nat) (N2 : List (List Int)) (O2 : List Int) (W : World), Sl2 W a n N → Sl W ao no O → Sl2 W a2 n2 N2 → Sl W ao2 no2 O2 →
    Calls Tryd.prog 7 #[outV b a n cap ao no co, outV b2 a2 n2 cap2 ao2 no2 co2] W (PairR W (okI (lkC b N O b2 N2 O2) b) (okI (lkC b N O b2 N2 O2) 2) (lkRN b N O b2 N2 O2) (lkRE b N O b2 N2 O2) (lkC b N O b2 N2 O2))
theorem lk_bad {b : Int} {N : List (List Int)} {O : List Int} {b2 : Int} {N2 : List (List Int)} {O2 : List Int} (h : lkF b N O b2 N2 O2 ≠ 0) : lkC b N O b2 N2 O2 = lkF b N O b2 N2 O2 ∧ lkRN b N O b2 N2 O2 = [] ∧ lkRE b N O b2 N2 O2 = [] ∧ okI (lkC b N O b2 N2 O2) b = 0 ∧ okI (lkC b N O b2 N2 O2) 2 = 0 := by
  have hc : lkC b N O b2 N2 O2 = lkF b N O b2 N2 O2 := by unfold lkC; rw [if_neg h]
  have hc0 : lkC b N O b2 N2 O2 ≠ 0 := by rw [hc]; exact h
  refine ⟨hc, ?_, ?_, ?_, ?_⟩
  · unfold lkRN; rw [if_neg hc0]
  · unfold lkRE; rw [if_neg hc0]
  · unfold okI; rw [if_neg hc0]
  · unfold okI; rw [if_neg hc0]
set_option maxHeartbeats 32000000 in
set_option maxRecDepth 8000 in
theorem wordlikes_of (b : Int) (a : Option Addr) (n cap : Nat) (ao : Option Addr) (no co : Nat) (N : List (List Int)) (O : List Int) (b2 : Int) (a2 : Option Addr) (n2 cap2 : Nat) (ao2 : Option Addr) (no2 co2 : Nat) (N2 : List (List Int)) (O2 : List Int) (w : World) (hs : Sl2 w a n N) (ho : Sl w ao no O) (hs2 : Sl2 w a2 n2 N2) (ho2 : Sl w ao2 no2 O2) (hg : Handle w) (hLK : LikeSays) :
    Calls Tryd.prog 3 #[outV b a n cap ao no co, outV b2 a2 n2 cap2 ao2 no2 co2] w fun e w' => e = .returned (.bool true) ∧ Below w.heap.size w w' := by
  have hB0 := below_two w (.cells #[.int .i64 b, .slice a n cap, .slice ao no co] 25) (.cells #[.int .i64 b2, .slice a2 n2 cap2, .slice ao2 no2 co2] 25)
  have HB0 := hide hB0
  have HX1 := hide (heap_alloc2_fst w (.cells #[.int .i64 b, .slice a n cap, .slice ao no co] 25) (.cells #[.int .i64 b2, .slice a2 n2 cap2, .slice ao2 no2 co2] 25))
  have HX2 := hide (heap_alloc2_snd w (.cells #[.int .i64 b, .slice a n cap, .slice ao no co] 25) (.cells #[.int .i64 b2, .slice a2 n2 cap2, .slice ao2 no2 co2] 25))
  generalize hW0 : (w.alloc (.cells #[.int .i64 b, .slice a n cap, .slice ao no co] 25)).alloc (.cells #[.int .i64 b2, .slice a2 n2 cap2, .slice ao2 no2 co2] 25) = w0 at hB0 HB0 HX1 HX2
  have HAB : Hid (∀ W, Below w0.heap.size w0 W → (W.cell? ⟨w.heap.size, 0, none⟩ = some (.int .i64 b) ∧ W.cell? ⟨w.heap.size, 1, none⟩ = some (.slice a n cap) ∧ W.cell? ⟨w.heap.size, 2, none⟩ = some (.slice ao no co)) ∧ (W.cell? ⟨w.heap.size + 1, 0, none⟩ = some (.int .i64 b2) ∧ W.cell? ⟨w.heap.size + 1, 1, none⟩ = some (.slice a2 n2 cap2) ∧ W.cell? ⟨w.heap.size + 1, 2, none⟩ = some (.slice ao2 no2 co2))) := fun W h => ⟨(box3_cells ((h.block _ (Array.getElem?_eq_some_iff.1 HX1.out).1).trans HX1.out)).1, (box3_cells ((h.block _ (Array.getElem?_eq_some_iff.1 HX2.out).1).trans HX2.out)).1⟩
  have HHA : Hid (∀ W, Below w0.heap.size w0 W → Handle W) := fun W h => (hg.below hB0).below h
  have HF1 := hide (fun W (h : Below w0.heap.size w0 W) => outFault_any b a n cap ao no co N O W (sl2_below (sl2_below hs hB0) h) (sl_below (sl_below ho hB0) h))
  have HF2 := hide (fun W (h : Below w0.heap.size w0 W) => outFault_any b2 a2 n2 cap2 ao2 no2 co2 N2 O2 W (sl2_below (sl2_below hs2 hB0) h) (sl_below (sl_below ho2 hB0) h))
  have HLO := hide (fun (hF : lkF b N O b2 N2 O2 = 0) W (h : Below w0.heap.size w0 W) => likeOf_any b a n cap ao no co N O b2 a2 n2 cap2 ao2 no2 co2 N2 O2 W (sl2_below (sl2_below hs hB0) h) (sl_below (sl_below ho hB0) h) (sl2_below (sl2_below hs2 hB0) h) (sl_below (sl_below ho2 hB0) h) hF)
  have HLS := hide (fun W (h : Below w0.heap.size w0 W) => hLK b a n cap ao no co N O b2 a2 n2 cap2 ao2 no2 co2 N2 O2 W (sl2_below (sl2_below hs hB0) h) (sl_below (sl_below ho hB0) h) (sl2_below (sl2_below hs2 hB0) h) (sl_below (sl_below ho2 hB0) h))
  unfold BothR at HLO
  unfold PairR at HLS
  unfold outV at HF1 HF2 HLO HLS
  have HBAD := hide (@lk_bad b N O b2 N2 O2)
  have HFF : Hid (lkF b N O b2 N2 O2 = if outC b N O = 0 then (if outC b2 N2 O2 = 0 then (if b = b2 then 0 else 2) else outC b2 N2 O2) else outC b N O) := rfl
  have HES := hide (fun c W (h : Handle W) => error_same c W h)
  clear hs ho hs2 ho2 hg hLK hB0
  generalize okI (lkC b N O b2 N2 O2) b = OB at *
  generalize okI (lkC b N O b2 N2 O2) 2 = OT at *
  generalize lkRN b N O b2 N2 O2 = RN at *
  generalize lkRE b N O b2 N2 O2 = RE at *
  generalize lkC b N O b2 N2 O2 = C at *
  generalize lkF b N O b2 N2 O2 = F at *
  generalize outC b N O = c1 at *
  generalize outC b2 N2 O2 = c2 at *
  unfold outV
  by_cases h1 : c1 = 0
  case' neg =>
    have HNE : Hid (c1 ≠ 0) := h1
    have hci : (c1 == 0) = false := by simpa using h1
    have hff := HFF.out
    rw [if_neg h1] at hff
    clear h1
    obtain ⟨e1, e2, e3, e4, e5⟩ := HBAD.out (by rw [hff]; exact HNE.out)
    rw [hff] at e1
    have HQ0 : Hid (∀ W : World, W.heap[W.heap.size - 1]? = some (.cells #[.int .i64 0, .int .i64 0, .slice none 0 0, .slice none 0 0] 30) → ∃ qx dx qx' dx', BxAt W (W.heap.size - 1) OB OT qx RN.length dx qx' dx' ∧ Sl2 W qx RN.length RN ∧ SlB W qx' RN.length RE) := fun W h => by
      rw [e2, e3, e4, e5]
      exact ⟨none, 0, none, 0, h, (autoNew_nil W W).here⟩
    clear e2 e3 e4 e5
    subst e1
    clear HLO HFF HBAD hff HNE
    obtain ⟨⟨p0, p1, p2⟩, q0, q1, q2⟩ := HAB.out w0 (Below.refl _ _)
    go_enter Tryd.func3, Tryd.ntmps3
    go_wp2_with fail
    clear hW0 p0 p1 p2 q0 q1 q2
    refine (HF1.out w0 (Below.refl _ _)).mono ?_
    rintro e wA ⟨rfl, hbA⟩
    obtain ⟨⟨x0, x1, x2⟩, y0, y1, y2⟩ := HAB.out wA hbA
    obtain ⟨W, hWW⟩ : ∃ W, wA.alloc (.cells #[.int .i64 0, .int .i64 0, .slice none 0 0, .slice none 0 0] 30) = W := ⟨_, rfl⟩
    have hbW : Below w0.heap.size w0 W := by rw [← hWW]; exact hbA.alloc hbA.size _
    have hsW : W.heap.size - 1 = wA.heap.size := by rw [← hWW]; simp
    have hq := HQ0.out W (by rw [hsW, ← hWW]; exact heap_alloc_last _ _)
    rw [hsW] at hq
    have HQ := hide hq
    obtain ⟨⟨p0, p1, p2⟩, q0, q1, q2⟩ := HAB.out W hbW
    have HBW := hide hbW
    clear hbA hbW hsW hq HQ0
    go_wp2_with fail
    clear p0 p1 p2 q0 q1 q2 x0 x1 x2 y0 y1 y2 hWW
    obtain ⟨X, hX⟩ : ∃ X, X = wA.heap.size := ⟨_, rfl⟩
    rw [← hX] at HQ ⊢
    clear hX
  case' pos =>
    by_cases h2 : c2 = 0
    case' neg =>
      have HNE : Hid (c2 ≠ 0) := h2
      have hci : (c2 == 0) = false := by simpa using h2
      have hci1 : (c1 == 0) = true := by simp [h1]
      have hff := HFF.out
      rw [if_pos h1, if_neg h2] at hff
      clear h1 h2
      obtain ⟨e1, e2, e3, e4, e5⟩ := HBAD.out (by rw [hff]; exact HNE.out)
      rw [hff] at e1
      have HQ0 : Hid (∀ W : World, W.heap[W.heap.size - 1]? = some (.cells #[.int .i64 0, .int .i64 0, .slice none 0 0, .slice none 0 0] 30) → ∃ qx dx qx' dx', BxAt W (W.heap.size - 1) OB OT qx RN.length dx qx' dx' ∧ Sl2 W qx RN.length RN ∧ SlB W qx' RN.length RE) := fun W h => by
        rw [e2, e3, e4, e5]
        exact ⟨none, 0, none, 0, h, (autoNew_nil W W).here⟩
      clear e2 e3 e4 e5
      subst e1
      clear HLO HFF HBAD hff HNE
      obtain ⟨⟨p0, p1, p2⟩, q0, q1, q2⟩ := HAB.out w0 (Below.refl _ _)
      go_enter Tryd.func3, Tryd.ntmps3
      go_wp2_with fail
      clear hW0 p0 p1 p2 q0 q1 q2
      refine (HF1.out w0 (Below.refl _ _)).mono ?_
      rintro e wz ⟨rfl, hbz⟩
      obtain ⟨⟨p0, p1, p2⟩, q0, q1, q2⟩ := HAB.out wz hbz
      go_wp2_with fail
      clear p0 p1 p2 q0 q1 q2
      refine (HF2.out wz hbz).mono ?_
      rintro e wA ⟨rfl, hbA'⟩
      have hbA : Below w0.heap.size w0 wA := below_step hbz hbA'
      clear hbz hbA'
      obtain ⟨⟨x0, x1, x2⟩, y0, y1, y2⟩ := HAB.out wA hbA
      obtain ⟨W, hWW⟩ : ∃ W, wA.alloc (.cells #[.int .i64 0, .int .i64 0, .slice none 0 0, .slice none 0 0] 30) = W := ⟨_, rfl⟩
      have hbW : Below w0.heap.size w0 W := by rw [← hWW]; exact hbA.alloc hbA.size _
      have hsW : W.heap.size - 1 = wA.heap.size := by rw [← hWW]; simp
      have hq := HQ0.out W (by rw [hsW, ← hWW]; exact heap_alloc_last _ _)
      rw [hsW] at hq
      have HQ := hide hq
      obtain ⟨⟨p0, p1, p2⟩, q0, q1, q2⟩ := HAB.out W hbW
      have HBW := hide hbW
      clear hbA hbW hsW hq HQ0
      go_wp2_with fail
      clear p0 p1 p2 q0 q1 q2 x0 x1 x2 y0 y1 y2 hWW
      obtain ⟨X, hX⟩ : ∃ X, X = wA.heap.size := ⟨_, rfl⟩
      rw [← hX] at HQ ⊢
      clear hX
    case' pos =>
      by_cases h3 : b = b2
      case' neg =>
        have HNE : Hid ((2 : Int) ≠ 0) := by show (2 : Int) ≠ 0; decide
        have hbb : (b == b2) = false := by simpa using h3
        have hci1 : (c1 == 0) = true := by simp [h1]
        have hci2 : (c2 == 0) = true := by simp [h2]
        have hff := HFF.out
        rw [if_pos h1, if_pos h2, if_neg h3] at hff
        clear h1 h2 h3
        obtain ⟨e1, e2, e3, e4, e5⟩ := HBAD.out (by rw [hff]; exact HNE.out)
        rw [hff] at e1
        have HQ0 : Hid (∀ W : World, W.heap[W.heap.size - 1]? = some (.cells #[.int .i64 0, .int .i64 0, .slice none 0 0, .slice none 0 0] 30) → ∃ qx dx qx' dx', BxAt W (W.heap.size - 1) OB OT qx RN.length dx qx' dx' ∧ Sl2 W qx RN.length RN ∧ SlB W qx' RN.length RE) := fun W h => by
          rw [e2, e3, e4, e5]
          exact ⟨none, 0, none, 0, h, (autoNew_nil W W).here⟩
        clear e2 e3 e4 e5
        subst e1
        clear HLO HFF HBAD hff HNE
        obtain ⟨⟨p0, p1, p2⟩, q0, q1, q2⟩ := HAB.out w0 (Below.refl _ _)
        go_enter Tryd.func3, Tryd.ntmps3
        go_wp2_with fail
        clear hW0 p0 p1 p2 q0 q1 q2
        refine (HF1.out w0 (Below.refl _ _)).mono ?_
        rintro e wz ⟨rfl, hbz⟩
        obtain ⟨⟨p0, p1, p2⟩, q0, q1, q2⟩ := HAB.out wz hbz
        go_wp2_with fail
        clear p0 p1 p2 q0 q1 q2
        refine (HF2.out wz hbz).mono ?_
        rintro e wA ⟨rfl, hbA'⟩
        have hbA : Below w0.heap.size w0 wA := below_step hbz hbA'
        clear hbz hbA'
        obtain ⟨⟨x0, x1, x2⟩, y0, y1, y2⟩ := HAB.out wA hbA
        obtain ⟨W, hWW⟩ : ∃ W, wA.alloc (.cells #[.int .i64 0, .int .i64 0, .slice none 0 0, .slice none 0 0] 30) = W := ⟨_, rfl⟩
        have hbW : Below w0.heap.size w0 W := by rw [← hWW]; exact hbA.alloc hbA.size _
        have hsW : W.heap.size - 1 = wA.heap.size := by rw [← hWW]; simp
        have hq := HQ0.out W (by rw [hsW, ← hWW]; exact heap_alloc_last _ _)
        rw [hsW] at hq
        have HQ := hide hq
        obtain ⟨⟨p0, p1, p2⟩, q0, q1, q2⟩ := HAB.out W hbW
        have HBW := hide hbW
        clear hbA hbW hsW hq HQ0
        go_wp2_with fail
        clear p0 p1 p2 q0 q1 q2 x0 x1 x2 y0 y1 y2 hWW
        obtain ⟨X, hX⟩ : ∃ X, X = wA.heap.size := ⟨_, rfl⟩
        rw [← hX] at HQ ⊢
        clear hX
      case' pos =>
        have hff := HFF.out
        rw [if_pos h1, if_pos h2, if_pos h3] at hff
        have HLO1 := hide (HLO.out hff)
        have hci1 : (c1 == 0) = true := by simp [h1]
        have hci2 : (c2 == 0) = true := by simp [h2]
        clear HLO HFF HBAD hff
        subst h3
        clear h1 h2
        obtain ⟨⟨p0, p1, p2⟩, q0, q1, q2⟩ := HAB.out w0 (Below.refl _ _)
        go_enter Tryd.func3, Tryd.ntmps3
        go_wp2_with fail
        clear hW0 p0 p1 p2 q0 q1 q2
        refine (HF1.out w0 (Below.refl _ _)).mono ?_
        rintro e wz ⟨rfl, hbz⟩
        obtain ⟨⟨p0, p1, p2⟩, q0, q1, q2⟩ := HAB.out wz hbz
        go_wp2_with fail
        clear p0 p1 p2 q0 q1 q2
        refine (HF2.out wz hbz).mono ?_
        rintro e wA ⟨rfl, hbA'⟩
        have hbA : Below w0.heap.size w0 wA := below_step hbz hbA'
        clear hbz hbA'
        obtain ⟨⟨x0, x1, x2⟩, y0, y1, y2⟩ := HAB.out wA hbA
        obtain ⟨W1, hWW⟩ : ∃ W, wA.alloc (.cells #[.int .i64 0, .int .i64 0, .slice none 0 0, .slice none 0 0] 30) = W := ⟨_, rfl⟩
        have hbW : Below w0.heap.size w0 W1 := by rw [← hWW]; exact hbA.alloc hbA.size _
        have HQ1 : Hid (W1.heap[wA.heap.size]? = some (.cells #[.int .i64 0, .int .i64 0, .slice none 0 0, .slice none 0 0] 30)) := by show _ = _; rw [← hWW]; exact heap_alloc_last _ _
        have HLA : Hid (w0.heap.size ≤ wA.heap.size) := hbA.size
        obtain ⟨⟨p0, p1, p2⟩, q0, q1, q2⟩ := HAB.out W1 hbW
        have HBW1 := hide hbW
        clear hbA hbW
        go_wp2_with fail
        clear p0 p1 p2 q0 q1 q2 x0 x1 x2 y0 y1 y2 hWW
        obtain ⟨X, hX⟩ : ∃ X, X = wA.heap.size := ⟨_, rfl⟩
        rw [← hX] at HQ1 HLA ⊢
        clear hX
        have HXL : Hid (X < W1.heap.size) := (Array.getElem?_eq_some_iff.1 HQ1.out).1
        refine (HLO1.out W1 HBW1.out).mono ?_
        rintro e w2 ⟨ax, cx, ax', cx', rfl, hnew, hb2⟩
        have hx2 := (hb2.block _ HXL.out).trans HQ1.out
        obtain ⟨⟨r0, r1, r2, r3⟩, rf⟩ := box_cells hx2
        obtain ⟨W, hW⟩ : ∃ W, (((w2.setCell ⟨X, 0, none⟩ (.int .i64 OB)).setCell ⟨X, 1, none⟩ (.int .i64 OT)).setCell ⟨X, 2, none⟩ (.slice ax RN.length cx)).setCell ⟨X, 3, none⟩ (.slice ax' RN.length cx') = W := ⟨_, rfl⟩
        obtain ⟨⟨hbx, hsz, hkp⟩, hbl⟩ := box_set hx2 hW.symm
        have HQ : Hid (∃ qx dx qx' dx', BxAt W X OB OT qx RN.length dx qx' dx' ∧ Sl2 W qx RN.length RN ∧ SlB W qx' RN.length RE) := ⟨_, _, _, _, hbx, (autoNew_set hnew HXL.out hsz hkp).here⟩
        have hbW := hbl w0 w0.heap.size (below_step HBW1.out hb2) HLA.out
        have HBW := hide hbW
        obtain ⟨⟨p0, p1, p2⟩, q0, q1, q2⟩ := HAB.out W hbW
        clear hbx hsz hkp hbl hnew hb2 hx2 hbW
        go_wp2_with fail
        clear hW r0 r1 r2 r3 rf p0 p1 p2 q0 q1 q2
  all_goals
    clear HF1 HF2
    obtain ⟨qx, dx, qx', dx', hq1, hq2, hq3⟩ := HQ.out
    have HQ1 : Hid (W.heap[X]? = _) := hq1
    have HQ2 := hide (And.intro hq2 hq3)
    have HXW : Hid (X < W.heap.size) := (Array.getElem?_eq_some_iff.1 HQ1.out).1
    clear hq1 hq2 hq3 HQ
    refine (HLS.out W HBW.out).mono ?_
    rintro e w3 ⟨ay, cy, ay', cy', rfl, hnew, hb3⟩
    have hbz := (Below.refl w3.heap.size w3).alloc (Nat.le_refl _) (.cells #[.int .i64 OB, .int .i64 OT, .slice ay RN.length cy, .slice ay' RN.length cy'] 30)
    have hb34 := below_step hb3 hbz
    have HB4 := hide (below_step HBW.out hb34)
    have HX4 := hide ((hb34.block _ HXW.out).trans HQ1.out)
    have HY4 := hide (heap_alloc_last w3 (.cells #[.int .i64 OB, .int .i64 OT, .slice ay RN.length cy, .slice ay' RN.length cy'] 30))
    have HN4 := hide (hnew.below hbz).here
    have HQ4 := hide (And.intro (sl2_below HQ2.out.1 hb34) (slB_below HQ2.out.2 hb34))
    clear hnew hb3 hbz hb34 HQ1 HQ2 HBW HXW HLS
    go_wp2_with fail
    generalize w3.alloc (.cells #[.int .i64 OB, .int .i64 OT, .slice ay RN.length cy, .slice ay' RN.length cy'] 30) = w4 at HB4 HX4 HY4 HN4 HQ4 ⊢
    obtain ⟨Y, hY⟩ : ∃ Y, Y = w3.heap.size := ⟨_, rfl⟩
    rw [← hY] at HY4 ⊢
    clear hY
    refine (HES.out _ w4 (HHA.out w4 HB4.out)).mono ?_
    rintro e w5 ⟨rfl, hb5⟩
    have HB5 := hide (below_step HB4.out hb5)
    have HX5 := hide ((hb5.block _ (Array.getElem?_eq_some_iff.1 HX4.out).1).trans HX4.out)
    have HY5 := hide ((hb5.block _ (Array.getElem?_eq_some_iff.1 HY4.out).1).trans HY4.out)
    have HN5 := hide (And.intro (sl2_below HN4.out.1 hb5) (slB_below HN4.out.2 hb5))
    have HQ5 := hide (And.intro (sl2_below HQ4.out.1 hb5) (slB_below HQ4.out.2 hb5))
    obtain ⟨⟨q0, q1, q2, q3⟩, -⟩ := box_cells HX5.out
    obtain ⟨⟨r0, r1, r2, r3⟩, -⟩ := box_cells HY5.out
    clear hb5 HB4 HX4 HY4 HN4 HQ4
    go_wp2_with fail
    clear q0 q1 q2 q3 r0 r1 r2 r3
    refine (autos_eq OB OT ay RN.length cy ay' RN.length cy' qx dx qx' dx' RN RE w5 HN5.out.1 HN5.out.2 HQ5.out.1 HQ5.out.2).mono ?_
    rintro e w6 ⟨rfl, hb6⟩
    have HBF := hide (below_step HB0.out (below_step HB5.out hb6))
    clear hb6 HB5 HX5 HY5 HN5 HQ5
    go_wp2
    go_ret
    exact ⟨rfl, HBF.out⟩
end Go.Proofs.YtgbmemkoggogdaaDoor

/- word.Like: both, read as they stand, in boxes. -/
namespace Go.Proofs.YtgbmemkoggogdaaDoor
open Go.RowKit

/-- Both, read as they stand, in boxes. -/
def BothAt (b : Int) (n : Nat) (RN : List (List Int)) (RO : List Int) (n2 : Nat) (RN2 : List (List Int)) (RO2 : List Int) (X Y : Nat) (aN : Option Addr) (cN : Nat) (aO : Option Addr) (cO : Nat) (aN2 : Option Addr) (cN2 : Nat) (aO2 : Option Addr) (cO2 : Nat) (W : World) : Prop :=
  W.heap[X]? = some (.cells #[.int .i64 b, .slice aN n cN, .slice aO n cO] 25) ∧ W.heap[Y]? = some (.cells #[.int .i64 b, .slice aN2 n2 cN2, .slice aO2 n2 cO2] 25) ∧ Sl2 W aN n RN ∧ Sl W aO n RO ∧ Sl2 W aN2 n2 RN2 ∧ Sl W aO2 n2 RO2
abbrev zOut : Obj := .cells #[.int .i64 0, .slice none 0 0, .slice none 0 0] 25
theorem set3_keep (w4 : World) (X : Nat) (v0 v1 v2 : Value) (x : Nat) (h : x ≠ X) : (((w4.setCell ⟨X, 0, none⟩ v0).setCell ⟨X, 1, none⟩ v1).setCell ⟨X, 2, none⟩ v2).heap[x]? = w4.heap[x]? := by
  rw [Below.heap_setCell _ _ _ _ h, Below.heap_setCell _ _ _ _ h, Below.heap_setCell _ _ _ _ h]
theorem set3_size (w4 : World) (X : Nat) (v0 v1 v2 : Value) : (((w4.setCell ⟨X, 0, none⟩ v0).setCell ⟨X, 1, none⟩ v1).setCell ⟨X, 2, none⟩ v2).heap.size = w4.heap.size := by simp [World.setCell]
end Go.Proofs.YtgbmemkoggogdaaDoor

/- A region that draws its order, by what holds between its operations: two calls, two boxes, two stores (word.Like). -/
namespace Go.Proofs.YtgbmemkoggogdaaDoor
open Go.RowKit

abbrev lkOps : Array Oper :=
      #[{ dst := some 52, op := Op.load 25 (Operand.tmp 4), type := 25, pos := "word.go:158", after := #[],
          guard := none },
        { dst := some 53,
          op := Op.call { callee := Callee.value (Operand.func 36), args := #[Operand.tmp 52], argTypes := #[25] },
          type := 25, pos := "word.go:158", after := #[{ on := 0, ground := Ground.data }], guard := none },
        { dst := some 54, op := Op.load 25 (Operand.tmp 5), type := 25, pos := "word.go:158", after := #[],
          guard := none },
        { dst := some 55,
          op := Op.call { callee := Callee.value (Operand.func 36), args := #[Operand.tmp 54], argTypes := #[25] },
          type := 25, pos := "word.go:158",
          after := #[{ on := 2, ground := Ground.data }, { on := 1, ground := Ground.chain }], guard := none },
        { dst := some 14, op := Op.alloc 25, type := 0, pos := "word.go:158", after := #[], guard := none },
        { dst := some 15, op := Op.alloc 25, type := 0, pos := "word.go:158", after := #[], guard := none },
        { dst := none, op := Op.store 25 (Operand.tmp 14) (Operand.tmp 53), type := 0, pos := "word.go:158",
          after :=
            #[{ on := 4, ground := Ground.data }, { on := 1, ground := Ground.data },
              { on := 3, ground := Ground.chain }, { on := 0, ground := Ground.phase },
              { on := 1, ground := Ground.phase }, { on := 2, ground := Ground.textOnly Departure.lateStores },
              { on := 3, ground := Ground.textOnly Departure.lateStoresUnsure }, { on := 4, ground := Ground.phase },
              { on := 5, ground := Ground.phase }],
          guard := none },
        { dst := none, op := Op.store 25 (Operand.tmp 15) (Operand.tmp 55), type := 0, pos := "word.go:158",
          after :=
            #[{ on := 5, ground := Ground.data }, { on := 3, ground := Ground.data },
              { on := 6, ground := Ground.chain }, { on := 0, ground := Ground.phase },
              { on := 1, ground := Ground.phase }, { on := 2, ground := Ground.phase },
              { on := 3, ground := Ground.phase }, { on := 4, ground := Ground.phase },
              { on := 5, ground := Ground.phase }, { on := 6, ground := Ground.phase }],
          guard := none }]
def lkR (l0 c1 l2 c2 a4 a5 s6 s7 : Bool) (i : Nat) : Bool :=
  (i == 0 && !l0) || (i == 1 && !c1 && l0) || (i == 2 && !l2) || (i == 3 && !c2 && l2 && c1) || (i == 4 && !a4) || (i == 5 && !a5) || (i == 6 && !s6 && !s7 && l0 && c1 && l2 && c2 && a4 && a5) || (i == 7 && !s7 && l0 && c1 && l2 && c2 && a4 && a5 && s6)
theorem lk_rdy : ∀ l0 c1 l2 c2 a4 a5 s6 s7 : Bool, (c2 = true → l2 = true) → (s7 = true → s6 = true) → (Region.ready .any lkOps #[l0, c1, l2, c2, a4, a5, s6, s7]).all (lkR l0 c1 l2 c2 a4 a5 s6 s7) = true ∧ (Region.ready .any lkOps #[l0, c1, l2, c2, a4, a5, s6, s7] = [] → (l0 && c1 && l2 && c2 && a4 && a5 && s6 && s7) = true) ∧ ((l0 && c1 && l2 && c2 && a4 && a5 && s6 && s7) = true → Region.ready .any lkOps #[l0, c1, l2, c2, a4, a5, s6, s7] = []) := by decide +kernel

/-- What was made lies in new blocks that are none of the boxes. -/
def OutK (w2 : World) (P : Nat → Prop) (n : Nat) (N : List (List Int)) (O : List Int) (aN aO : Option Addr) (W : World) : Prop := ∀ W' : World, (∀ x : Nat, w2.heap.size ≤ x → ¬ P x → x < W.heap.size → W'.heap[x]? = W.heap[x]?) → Sl2 W' aN n N ∧ Sl W' aO n O
def bxP (a4 a5 : Bool) (X Y : Nat) (x : Nat) : Prop := (a4 = true ∧ x = X) ∨ (a5 = true ∧ x = Y)
theorem outK_on {w2 : World} {P P' : Nat → Prop} {n : Nat} {N : List (List Int)} {O : List Int} {aN aO : Option Addr} {W W1 : World} (h : OutK w2 P n N O aN aO W) (hP : ∀ x, x < W.heap.size → P' x → P x) (hsz : W.heap.size ≤ W1.heap.size) (hk : ∀ x : Nat, w2.heap.size ≤ x → ¬ P x → x < W.heap.size → W1.heap[x]? = W.heap[x]?) : OutK w2 P' n N O aN aO W1 :=
  fun W' hW' => h W' fun x hx hp hl => (hW' x hx (fun h' => hp (hP x hl h')) (by omega)).trans (hk x hx hp hl)
abbrev outO (b : Int) (aN : Option Addr) (n cN : Nat) (aO : Option Addr) (cO : Nat) : Obj := .cells #[.int .i64 b, .slice aN n cN, .slice aO n cO] 25
abbrev outG3 (b : Int) (aN : Option Addr) (n cN : Nat) (aO : Option Addr) (cO : Nat) : Value := .agg #[.int .i64 b, .slice aN n cN, .slice aO n cO]
abbrev ptr (x : Nat) : Value := .pointer (some ⟨x, 0, none⟩)
structure LkI (T0 : Array Value) (w2 : World) (V1 V2 : Value) (b : Int) (n1 : Nat) (RN : List (List Int)) (RO : List Int) (m1 : Nat) (RN2 : List (List Int)) (RO2 : List Int) (l0 c1 l2 c2 a4 a5 s6 s7 : Bool) (X Y : Nat) (aN : Option Addr) (cN : Nat) (aO : Option Addr) (cO : Nat) (aN2 : Option Addr) (cN2 : Nat) (aO2 : Option Addr) (cO2 : Nat) (T : Array Value) (W : World) : Prop where
  size : T.size = T0.size
  same : ∀ i : Nat, i ≠ 52 → i ≠ 53 → i ≠ 54 → i ≠ 55 → i ≠ 14 → i ≠ 15 → T[i]? = T0[i]?
  o1 : c2 = true → l2 = true
  o2 : s7 = true → s6 = true
  v48 : l0 = true → T[52]? = some V1
  v50 : l2 = true → T[54]? = some V2
  v49 : c1 = true → T[53]? = some (outG3 b aN n1 cN aO cO)
  v51 : c2 = true → T[55]? = some (outG3 b aN2 m1 cN2 aO2 cO2)
  v10 : a4 = true → T[14]? = some (ptr X)
  v11 : a5 = true → T[15]? = some (ptr Y)
  bX : a4 = true → w2.heap.size ≤ X ∧ W.heap[X]? = some (if s6 = true then outO b aN n1 cN aO cO else zOut)
  bY : a5 = true → w2.heap.size ≤ Y ∧ W.heap[Y]? = some (if s7 = true then outO b aN2 m1 cN2 aO2 cO2 else zOut)
  ne : a4 = true → a5 = true → X ≠ Y
  k1 : c1 = true → OutK w2 (bxP a4 a5 X Y) n1 RN RO aN aO W
  k2 : c2 = true → OutK w2 (bxP a4 a5 X Y) m1 RN2 RO2 aN2 aO2 W
  bel : Below w2.heap.size w2 W
theorem set_hit {T : Array Value} {k : Nat} (v : Value) (h : k < T.size) : (T.setIfInBounds k v)[k]? = some v := by
  rw [Array.getElem?_setIfInBounds_self_of_lt h]
theorem set_miss {T : Array Value} {k i : Nat} (v : Value) (h : k ≠ i) : (T.setIfInBounds k v)[i]? = T[i]? := Array.getElem?_setIfInBounds_ne h
section
variable {T0 : Array Value} {w2 : World} {V1 V2 : Value} {b : Int} {n1 : Nat} {RN : List (List Int)} {RO : List Int} {m1 : Nat} {RN2 : List (List Int)} {RO2 : List Int} {l0 c1 l2 c2 a4 a5 s6 s7 : Bool} {X Y : Nat} {aN : Option Addr} {cN : Nat} {aO : Option Addr} {cO : Nat} {aN2 : Option Addr} {cN2 : Nat} {aO2 : Option Addr} {cO2 : Nat} {T : Array Value} {W : World}
theorem lkI_l0 (hz : 100 ≤ T0.size) (h : LkI T0 w2 V1 V2 b n1 RN RO m1 RN2 RO2 false c1 l2 c2 a4 a5 s6 s7 X Y aN cN aO cO aN2 cN2 aO2 cO2 T W) : LkI T0 w2 V1 V2 b n1 RN RO m1 RN2 RO2 true c1 l2 c2 a4 a5 s6 s7 X Y aN cN aO cO aN2 cN2 aO2 cO2 (T.setIfInBounds 52 V1) W := by
  have hs := h.size
  exact { size := by simpa using hs, same := fun i h1 h2 h3 h4 h5 h6 => (set_miss _ (Ne.symm h1)).trans (h.same i h1 h2 h3 h4 h5 h6), o1 := h.o1, o2 := h.o2, v48 := fun _ => set_hit _ (by omega), v50 := fun e => (set_miss _ (by decide)).trans (h.v50 e), v49 := fun e => (set_miss _ (by decide)).trans (h.v49 e), v51 := fun e => (set_miss _ (by decide)).trans (h.v51 e), v10 := fun e => (set_miss _ (by decide)).trans (h.v10 e), v11 := fun e => (set_miss _ (by decide)).trans (h.v11 e), bX := h.bX, bY := h.bY, ne := h.ne, k1 := h.k1, k2 := h.k2, bel := h.bel }
theorem lkI_l2 (hz : 100 ≤ T0.size) (h : LkI T0 w2 V1 V2 b n1 RN RO m1 RN2 RO2 l0 c1 false c2 a4 a5 s6 s7 X Y aN cN aO cO aN2 cN2 aO2 cO2 T W) : LkI T0 w2 V1 V2 b n1 RN RO m1 RN2 RO2 l0 c1 true c2 a4 a5 s6 s7 X Y aN cN aO cO aN2 cN2 aO2 cO2 (T.setIfInBounds 54 V2) W := by
  have hs := h.size
  exact { size := by simpa using hs, same := fun i h1 h2 h3 h4 h5 h6 => (set_miss _ (Ne.symm h3)).trans (h.same i h1 h2 h3 h4 h5 h6), o1 := fun _ => rfl, o2 := h.o2, v50 := fun _ => set_hit _ (by omega), v48 := fun e => (set_miss _ (by decide)).trans (h.v48 e), v49 := fun e => (set_miss _ (by decide)).trans (h.v49 e), v51 := fun e => (set_miss _ (by decide)).trans (h.v51 e), v10 := fun e => (set_miss _ (by decide)).trans (h.v10 e), v11 := fun e => (set_miss _ (by decide)).trans (h.v11 e), bX := h.bX, bY := h.bY, ne := h.ne, k1 := h.k1, k2 := h.k2, bel := h.bel }
theorem lkI_lt (h : LkI T0 w2 V1 V2 b n1 RN RO m1 RN2 RO2 l0 c1 l2 c2 a4 a5 s6 s7 X Y aN cN aO cO aN2 cN2 aO2 cO2 T W) : ∀ x, bxP a4 a5 X Y x → x < W.heap.size := fun x hx => by
  rcases hx with ⟨e, rfl⟩ | ⟨e, rfl⟩
  · exact (Array.getElem?_eq_some_iff.1 (h.bX e).2).1
  · exact (Array.getElem?_eq_some_iff.1 (h.bY e).2).1
theorem lkI_c1 (hz : 100 ≤ T0.size) (h : LkI T0 w2 V1 V2 b n1 RN RO m1 RN2 RO2 l0 false l2 c2 a4 a5 false false X Y aN cN aO cO aN2 cN2 aO2 cO2 T W) {W1 : World} {bN : Option Addr} {dN : Nat} {bO : Option Addr} {dO : Nat} (hb : Below W.heap.size W W1) (hn : OutNew W n1 RN RO bN bO W1) : LkI T0 w2 V1 V2 b n1 RN RO m1 RN2 RO2 l0 true l2 c2 a4 a5 false false X Y bN dN bO dO aN2 cN2 aO2 cO2 (T.setIfInBounds 53 (outG3 b bN n1 dN bO dO)) W1 := by
  have hs := h.size
  have hlt := lkI_lt h
  have hw := h.bel.size
  have hw1 := hb.size
  exact { size := by simpa using hs, same := fun i h1 h2 h3 h4 h5 h6 => (set_miss _ (Ne.symm h2)).trans (h.same i h1 h2 h3 h4 h5 h6), o1 := h.o1, o2 := h.o2, v49 := fun _ => set_hit _ (by omega), v48 := fun e => (set_miss _ (by decide)).trans (h.v48 e), v50 := fun e => (set_miss _ (by decide)).trans (h.v50 e), v51 := fun e => (set_miss _ (by decide)).trans (h.v51 e), v10 := fun e => (set_miss _ (by decide)).trans (h.v10 e), v11 := fun e => (set_miss _ (by decide)).trans (h.v11 e), bX := fun e => ⟨(h.bX e).1, (hb.block _ (hlt X (.inl ⟨e, rfl⟩))).trans (h.bX e).2⟩, bY := fun e => ⟨(h.bY e).1, (hb.block _ (hlt Y (.inr ⟨e, rfl⟩))).trans (h.bY e).2⟩, ne := h.ne, k1 := fun _ W' hW' => hn W' fun x hx hl => hW' x (by omega) (fun hp => by have := hlt x hp; omega) hl, k2 := fun e => outK_on (h.k2 e) (fun _ _ hp => hp) hw1 (fun x _ _ hl => hb.block x hl), bel := below_step h.bel hb }
theorem lkI_c2 (hz : 100 ≤ T0.size) (h : LkI T0 w2 V1 V2 b n1 RN RO m1 RN2 RO2 l0 c1 true false a4 a5 false false X Y aN cN aO cO aN2 cN2 aO2 cO2 T W) {W1 : World} {bN : Option Addr} {dN : Nat} {bO : Option Addr} {dO : Nat} (hb : Below W.heap.size W W1) (hn : OutNew W m1 RN2 RO2 bN bO W1) : LkI T0 w2 V1 V2 b n1 RN RO m1 RN2 RO2 l0 c1 true true a4 a5 false false X Y aN cN aO cO bN dN bO dO (T.setIfInBounds 55 (outG3 b bN m1 dN bO dO)) W1 := by
  have hs := h.size
  have hlt := lkI_lt h
  have hw := h.bel.size
  have hw1 := hb.size
  exact { size := by simpa using hs, same := fun i h1 h2 h3 h4 h5 h6 => (set_miss _ (Ne.symm h4)).trans (h.same i h1 h2 h3 h4 h5 h6), o1 := fun _ => rfl, o2 := h.o2, v51 := fun _ => set_hit _ (by omega), v48 := fun e => (set_miss _ (by decide)).trans (h.v48 e), v50 := fun e => (set_miss _ (by decide)).trans (h.v50 e), v49 := fun e => (set_miss _ (by decide)).trans (h.v49 e), v10 := fun e => (set_miss _ (by decide)).trans (h.v10 e), v11 := fun e => (set_miss _ (by decide)).trans (h.v11 e), bX := fun e => ⟨(h.bX e).1, (hb.block _ (hlt X (.inl ⟨e, rfl⟩))).trans (h.bX e).2⟩, bY := fun e => ⟨(h.bY e).1, (hb.block _ (hlt Y (.inr ⟨e, rfl⟩))).trans (h.bY e).2⟩, ne := h.ne, k2 := fun _ W' hW' => hn W' fun x hx hl => hW' x (by omega) (fun hp => by have := hlt x hp; omega) hl, k1 := fun e => outK_on (h.k1 e) (fun _ _ hp => hp) hw1 (fun x _ _ hl => hb.block x hl), bel := below_step h.bel hb }
theorem lkI_a4 (hz : 100 ≤ T0.size) (h : LkI T0 w2 V1 V2 b n1 RN RO m1 RN2 RO2 l0 c1 l2 c2 false a5 false false X Y aN cN aO cO aN2 cN2 aO2 cO2 T W) : LkI T0 w2 V1 V2 b n1 RN RO m1 RN2 RO2 l0 c1 l2 c2 true a5 false false W.heap.size Y aN cN aO cO aN2 cN2 aO2 cO2 (T.setIfInBounds 14 (ptr W.heap.size)) (W.alloc zOut) := by
  have hs := h.size
  have hlt := lkI_lt h
  have hw := h.bel.size
  have hsz : (W.alloc zOut).heap.size = W.heap.size + 1 := by simp
  exact { size := by simpa using hs, same := fun i h1 h2 h3 h4 h5 h6 => (set_miss _ (Ne.symm h5)).trans (h.same i h1 h2 h3 h4 h5 h6), o1 := h.o1, o2 := h.o2, v10 := fun _ => set_hit _ (by omega), v48 := fun e => (set_miss _ (by decide)).trans (h.v48 e), v50 := fun e => (set_miss _ (by decide)).trans (h.v50 e), v49 := fun e => (set_miss _ (by decide)).trans (h.v49 e), v51 := fun e => (set_miss _ (by decide)).trans (h.v51 e), v11 := fun e => (set_miss _ (by decide)).trans (h.v11 e), bX := fun _ => ⟨hw, heap_alloc_last W zOut⟩, bY := fun e => ⟨(h.bY e).1, (Below.heap_alloc _ _ _ (hlt Y (.inr ⟨e, rfl⟩))).trans (h.bY e).2⟩, ne := fun _ e => by have := hlt Y (.inr ⟨e, rfl⟩); omega, k1 := fun e => outK_on (h.k1 e) (fun x hl hp => by rcases hp with ⟨_, h'⟩ | h'; omega; exact .inr h') (by omega) (fun x _ _ hl => Below.heap_alloc _ _ _ hl), k2 := fun e => outK_on (h.k2 e) (fun x hl hp => by rcases hp with ⟨_, h'⟩ | h'; omega; exact .inr h') (by omega) (fun x _ _ hl => Below.heap_alloc _ _ _ hl), bel := h.bel.alloc hw _ }
theorem lkI_a5 (hz : 100 ≤ T0.size) (h : LkI T0 w2 V1 V2 b n1 RN RO m1 RN2 RO2 l0 c1 l2 c2 a4 false false false X Y aN cN aO cO aN2 cN2 aO2 cO2 T W) : LkI T0 w2 V1 V2 b n1 RN RO m1 RN2 RO2 l0 c1 l2 c2 a4 true false false X W.heap.size aN cN aO cO aN2 cN2 aO2 cO2 (T.setIfInBounds 15 (ptr W.heap.size)) (W.alloc zOut) := by
  have hs := h.size
  have hlt := lkI_lt h
  have hw := h.bel.size
  have hsz : (W.alloc zOut).heap.size = W.heap.size + 1 := by simp
  exact { size := by simpa using hs, same := fun i h1 h2 h3 h4 h5 h6 => (set_miss _ (Ne.symm h6)).trans (h.same i h1 h2 h3 h4 h5 h6), o1 := h.o1, o2 := h.o2, v11 := fun _ => set_hit _ (by omega), v48 := fun e => (set_miss _ (by decide)).trans (h.v48 e), v50 := fun e => (set_miss _ (by decide)).trans (h.v50 e), v49 := fun e => (set_miss _ (by decide)).trans (h.v49 e), v51 := fun e => (set_miss _ (by decide)).trans (h.v51 e), v10 := fun e => (set_miss _ (by decide)).trans (h.v10 e), bY := fun _ => ⟨hw, heap_alloc_last W zOut⟩, bX := fun e => ⟨(h.bX e).1, (Below.heap_alloc _ _ _ (hlt X (.inl ⟨e, rfl⟩))).trans (h.bX e).2⟩, ne := fun e _ => by have := hlt X (.inl ⟨e, rfl⟩); omega, k1 := fun e => outK_on (h.k1 e) (fun x hl hp => by rcases hp with h' | ⟨_, h'⟩; exact .inl h'; omega) (by omega) (fun x _ _ hl => Below.heap_alloc _ _ _ hl), k2 := fun e => outK_on (h.k2 e) (fun x hl hp => by rcases hp with h' | ⟨_, h'⟩; exact .inl h'; omega) (by omega) (fun x _ _ hl => Below.heap_alloc _ _ _ hl), bel := h.bel.alloc hw _ }
theorem lkI_s6 (h : LkI T0 w2 V1 V2 b n1 RN RO m1 RN2 RO2 l0 true l2 c2 true true false false X Y aN cN aO cO aN2 cN2 aO2 cO2 T W) : LkI T0 w2 V1 V2 b n1 RN RO m1 RN2 RO2 l0 true l2 c2 true true true false X Y aN cN aO cO aN2 cN2 aO2 cO2 T (((W.setCell ⟨X, 0, none⟩ (.int .i64 b)).setCell ⟨X, 1, none⟩ (.slice aN n1 cN)).setCell ⟨X, 2, none⟩ (.slice aO n1 cO)) := by
  have hk := fun x hx => set3_keep W X (.int .i64 b) (.slice aN n1 cN) (.slice aO n1 cO) x hx
  have hsz := set3_size W X (.int .i64 b) (.slice aN n1 cN) (.slice aO n1 cO)
  obtain ⟨hset, hbel⟩ := box3_set (v0 := .int .i64 b) (v1 := .slice aN n1 cN) (v2 := .slice aO n1 cO) (show W.heap[X]? = some zOut from (h.bX rfl).2) rfl
  exact { size := h.size, same := h.same, o1 := h.o1, o2 := fun _ => rfl, v48 := h.v48, v50 := h.v50, v49 := h.v49, v51 := h.v51, v10 := h.v10, v11 := h.v11, bX := fun _ => ⟨(h.bX rfl).1, hset⟩, bY := fun _ => ⟨(h.bY rfl).1, (hk Y (Ne.symm (h.ne rfl rfl))).trans (h.bY rfl).2⟩, ne := h.ne, k1 := fun e => outK_on (h.k1 e) (fun _ _ hp => hp) (by omega) (fun x _ hp _ => hk x (fun e' => hp (.inl ⟨rfl, e'⟩))), k2 := fun e => outK_on (h.k2 e) (fun _ _ hp => hp) (by omega) (fun x _ hp _ => hk x (fun e' => hp (.inl ⟨rfl, e'⟩))), bel := hbel w2 _ h.bel (h.bX rfl).1 }
theorem lkI_s7 (h : LkI T0 w2 V1 V2 b n1 RN RO m1 RN2 RO2 l0 true l2 c2 true true true false X Y aN cN aO cO aN2 cN2 aO2 cO2 T W) : LkI T0 w2 V1 V2 b n1 RN RO m1 RN2 RO2 l0 true l2 c2 true true true true X Y aN cN aO cO aN2 cN2 aO2 cO2 T (((W.setCell ⟨Y, 0, none⟩ (.int .i64 b)).setCell ⟨Y, 1, none⟩ (.slice aN2 m1 cN2)).setCell ⟨Y, 2, none⟩ (.slice aO2 m1 cO2)) := by
  have hk := fun x hx => set3_keep W Y (.int .i64 b) (.slice aN2 m1 cN2) (.slice aO2 m1 cO2) x hx
  have hsz := set3_size W Y (.int .i64 b) (.slice aN2 m1 cN2) (.slice aO2 m1 cO2)
  obtain ⟨hset, hbel⟩ := box3_set (v0 := .int .i64 b) (v1 := .slice aN2 m1 cN2) (v2 := .slice aO2 m1 cO2) (show W.heap[Y]? = some zOut from (h.bY rfl).2) rfl
  exact { size := h.size, same := h.same, o1 := h.o1, o2 := fun _ => rfl, v48 := h.v48, v50 := h.v50, v49 := h.v49, v51 := h.v51, v10 := h.v10, v11 := h.v11, bY := fun _ => ⟨(h.bY rfl).1, hset⟩, bX := fun _ => ⟨(h.bX rfl).1, (hk X (h.ne rfl rfl)).trans (h.bX rfl).2⟩, ne := h.ne, k1 := fun e => outK_on (h.k1 e) (fun _ _ hp => hp) (by omega) (fun x _ hp _ => hk x (fun e' => hp (.inr ⟨rfl, e'⟩))), k2 := fun e => outK_on (h.k2 e) (fun _ _ hp => hp) (by omega) (fun x _ hp _ => hk x (fun e' => hp (.inr ⟨rfl, e'⟩))), bel := hbel w2 _ h.bel (h.bY rfl).1 }
theorem lkI_end (hz : 100 ≤ T0.size) (h : LkI T0 w2 V1 V2 b n1 RN RO m1 RN2 RO2 true true true true true true true true X Y aN cN aO cO aN2 cN2 aO2 cO2 T W) : T = (((((T0.setIfInBounds 52 V1).setIfInBounds 54 V2).setIfInBounds 53 (outG3 b aN n1 cN aO cO)).setIfInBounds 55 (outG3 b aN2 m1 cN2 aO2 cO2)).setIfInBounds 14 (ptr X)).setIfInBounds 15 (ptr Y) ∧ BothAt b n1 RN RO m1 RN2 RO2 X Y aN cN aO cO aN2 cN2 aO2 cO2 W ∧ Below w2.heap.size w2 W := by
  obtain ⟨s1, s2⟩ := h.k1 rfl W (fun _ _ _ _ => rfl)
  obtain ⟨s3, s4⟩ := h.k2 rfl W (fun _ _ _ _ => rfl)
  refine ⟨?_, ⟨(h.bX rfl).2, (h.bY rfl).2, s1, s2, s3, s4⟩, h.bel⟩
  refine Array.ext_getElem? fun i => ?_
  by_cases e1 : i = 15
  · subst e1; rw [set_hit _ (by simp; omega)]; exact h.v11 rfl
  rw [set_miss _ (Ne.symm e1)]
  by_cases e2 : i = 14
  · subst e2; rw [set_hit _ (by simp; omega)]; exact h.v10 rfl
  rw [set_miss _ (Ne.symm e2)]
  by_cases e3 : i = 55
  · subst e3; rw [set_hit _ (by simp; omega)]; exact h.v51 rfl
  rw [set_miss _ (Ne.symm e3)]
  by_cases e4 : i = 53
  · subst e4; rw [set_hit _ (by simp; omega)]; exact h.v49 rfl
  rw [set_miss _ (Ne.symm e4)]
  by_cases e5 : i = 54
  · subst e5; rw [set_hit _ (by simp; omega)]; exact h.v50 rfl
  rw [set_miss _ (Ne.symm e5)]
  by_cases e6 : i = 52
  · subst e6; rw [set_hit _ (by omega)]; exact h.v48 rfl
  rw [set_miss _ (Ne.symm e6)]
  exact h.same i e6 e4 e5 e3 e2 e1
end
end Go.Proofs.YtgbmemkoggogdaaDoor

/- word.Like's region that draws its order: two calls, two boxes, two stores. -/
namespace Go.Proofs.YtgbmemkoggogdaaDoor
open Go.RowKit

abbrev lkOp0 : Oper := { dst := some 52, op := Op.load 25 (Operand.tmp 4), type := 25, pos := "word.go:158", after := #[], guard := none }
abbrev lkOp1 : Oper := { dst := some 53, op := Op.call { callee := Callee.value (Operand.func 36), args := #[Operand.tmp 52], argTypes := #[25] }, type := 25, pos := "word.go:158", after := #[{ on := 0, ground := Ground.data }], guard := none }
abbrev lkOp2 : Oper := { dst := some 54, op := Op.load 25 (Operand.tmp 5), type := 25, pos := "word.go:158", after := #[], guard := none }
abbrev lkOp3 : Oper := { dst := some 55, op := Op.call { callee := Callee.value (Operand.func 36), args := #[Operand.tmp 54], argTypes := #[25] }, type := 25, pos := "word.go:158", after := #[{ on := 2, ground := Ground.data }, { on := 1, ground := Ground.chain }], guard := none }
abbrev lkOp4 : Oper := { dst := some 14, op := Op.alloc 25, type := 0, pos := "word.go:158", after := #[], guard := none }
abbrev lkOp5 : Oper := { dst := some 15, op := Op.alloc 25, type := 0, pos := "word.go:158", after := #[], guard := none }
abbrev lkOp6 : Oper := { dst := none, op := Op.store 25 (Operand.tmp 14) (Operand.tmp 53), type := 0, pos := "word.go:158", after := #[{ on := 4, ground := Ground.data }, { on := 1, ground := Ground.data }, { on := 3, ground := Ground.chain }, { on := 0, ground := Ground.phase }, { on := 1, ground := Ground.phase }, { on := 2, ground := Ground.textOnly Departure.lateStores }, { on := 3, ground := Ground.textOnly Departure.lateStoresUnsure }, { on := 4, ground := Ground.phase }, { on := 5, ground := Ground.phase }], guard := none }
abbrev lkOp7 : Oper := { dst := none, op := Op.store 25 (Operand.tmp 15) (Operand.tmp 55), type := 0, pos := "word.go:158", after := #[{ on := 5, ground := Ground.data }, { on := 3, ground := Ground.data }, { on := 6, ground := Ground.chain }, { on := 0, ground := Ground.phase }, { on := 1, ground := Ground.phase }, { on := 2, ground := Ground.phase }, { on := 3, ground := Ground.phase }, { on := 4, ground := Ground.phase }, { on := 5, ground := Ground.phase }, { on := 6, ground := Ground.phase }], guard := none }
def cn8 (l0 c1 l2 c2 a4 a5 s6 s7 : Bool) : Nat := (if l0 = true then 0 else 1) + (if c1 = true then 0 else 1) + (if l2 = true then 0 else 1) + (if c2 = true then 0 else 1) + (if a4 = true then 0 else 1) + (if a5 = true then 0 else 1) + (if s6 = true then 0 else 1) + (if s7 = true then 0 else 1)
theorem cn8_zero : ∀ l0 c1 l2 c2 a4 a5 s6 s7 : Bool, cn8 l0 c1 l2 c2 a4 a5 s6 s7 = 0 → (l0 && c1 && l2 && c2 && a4 && a5 && s6 && s7) = true := by decide
theorem cn8_all : ∀ l0 c1 l2 c2 a4 a5 s6 s7 : Bool, (l0 && c1 && l2 && c2 && a4 && a5 && s6 && s7) = true → cn8 l0 c1 l2 c2 a4 a5 s6 s7 = 0 := by decide
theorem cn8_l0 : ∀ c1 l2 c2 a4 a5 s6 s7 : Bool, cn8 false c1 l2 c2 a4 a5 s6 s7 = cn8 true c1 l2 c2 a4 a5 s6 s7 + 1 := by decide
theorem cn8_c1 : ∀ l0 l2 c2 a4 a5 s6 s7 : Bool, cn8 l0 false l2 c2 a4 a5 s6 s7 = cn8 l0 true l2 c2 a4 a5 s6 s7 + 1 := by decide
theorem cn8_l2 : ∀ l0 c1 c2 a4 a5 s6 s7 : Bool, cn8 l0 c1 false c2 a4 a5 s6 s7 = cn8 l0 c1 true c2 a4 a5 s6 s7 + 1 := by decide
theorem cn8_c2 : ∀ l0 c1 l2 a4 a5 s6 s7 : Bool, cn8 l0 c1 l2 false a4 a5 s6 s7 = cn8 l0 c1 l2 true a4 a5 s6 s7 + 1 := by decide
theorem cn8_a4 : ∀ l0 c1 l2 c2 a5 s6 s7 : Bool, cn8 l0 c1 l2 c2 false a5 s6 s7 = cn8 l0 c1 l2 c2 true a5 s6 s7 + 1 := by decide
theorem cn8_a5 : ∀ l0 c1 l2 c2 a4 s6 s7 : Bool, cn8 l0 c1 l2 c2 a4 false s6 s7 = cn8 l0 c1 l2 c2 a4 true s6 s7 + 1 := by decide
theorem cn8_s6 : ∀ l0 c1 l2 c2 a4 a5 s7 : Bool, cn8 l0 c1 l2 c2 a4 a5 false s7 = cn8 l0 c1 l2 c2 a4 a5 true s7 + 1 := by decide
theorem cn8_s7 : ∀ l0 c1 l2 c2 a4 a5 s6 : Bool, cn8 l0 c1 l2 c2 a4 a5 s6 false = cn8 l0 c1 l2 c2 a4 a5 s6 true + 1 := by decide
theorem lkR_cases : ∀ (l0 c1 l2 c2 a4 a5 s6 s7 : Bool) (i : Nat), lkR l0 c1 l2 c2 a4 a5 s6 s7 i = true → (i = 0 ∧ l0 = false) ∨ (i = 1 ∧ c1 = false ∧ l0 = true) ∨ (i = 2 ∧ l2 = false) ∨ (i = 3 ∧ c2 = false ∧ l2 = true ∧ c1 = true) ∨ (i = 4 ∧ a4 = false) ∨ (i = 5 ∧ a5 = false) ∨ (i = 6 ∧ s6 = false ∧ s7 = false ∧ l0 = true ∧ c1 = true ∧ l2 = true ∧ c2 = true ∧ a4 = true ∧ a5 = true) ∨ (i = 7 ∧ s7 = false ∧ l0 = true ∧ c1 = true ∧ l2 = true ∧ c2 = true ∧ a4 = true ∧ a5 = true ∧ s6 = true) := by
  intro l0 c1 l2 c2 a4 a5 s6 s7 i h
  unfold lkR at h
  simp only [Bool.or_eq_true, Bool.and_eq_true, beq_iff_eq, Bool.not_eq_true'] at h
  rcases h with ((((((⟨h, h1⟩ | ⟨⟨h, h1⟩, h2⟩) | ⟨h, h1⟩) | ⟨⟨⟨h, h1⟩, h2⟩, h3⟩) | ⟨h, h1⟩) | ⟨h, h1⟩) | ⟨⟨⟨⟨⟨⟨⟨⟨h, h1⟩, h2⟩, h3⟩, h4⟩, h5⟩, h6⟩, h7⟩, h8⟩) | ⟨⟨⟨⟨⟨⟨⟨⟨h, h1⟩, h2⟩, h3⟩, h4⟩, h5⟩, h6⟩, h7⟩, h8⟩
  · exact .inl ⟨h, h1⟩
  · exact .inr (.inl ⟨h, h1, h2⟩)
  · exact .inr (.inr (.inl ⟨h, h1⟩))
  · exact .inr (.inr (.inr (.inl ⟨h, h1, h2, h3⟩)))
  · exact .inr (.inr (.inr (.inr (.inl ⟨h, h1⟩))))
  · exact .inr (.inr (.inr (.inr (.inr (.inl ⟨h, h1⟩)))))
  · exact .inr (.inr (.inr (.inr (.inr (.inr (.inl ⟨h, h1, h2, h3, h4, h5, h6, h7, h8⟩))))))
  · exact .inr (.inr (.inr (.inr (.inr (.inr (.inr ⟨h, h1, h2, h3, h4, h5, h6, h7, h8⟩))))))
def LkInv (T0 : Array Value) (D0 : List Deferred) (w2 : World) (V1 V2 : Value) (b : Int) (n1 : Nat) (RN : List (List Int)) (RO : List Int) (m1 : Nat) (RN2 : List (List Int)) (RO2 : List Int) (k : Nat) (l : Array Bool) (ac : Act) (W : World) : Prop :=
  ∃ (l0 c1 l2 c2 a4 a5 s6 s7 : Bool) (X Y : Nat) (aN : Option Addr) (cN : Nat) (aO : Option Addr) (cO : Nat) (aN2 : Option Addr) (cN2 : Nat) (aO2 : Option Addr) (cO2 : Nat) (T : Array Value), l = #[l0, c1, l2, c2, a4, a5, s6, s7] ∧ k = cn8 l0 c1 l2 c2 a4 a5 s6 s7 ∧ ac = ⟨T, D0⟩ ∧ (s6 = true → l0 = true ∧ c1 = true ∧ l2 = true ∧ c2 = true ∧ a4 = true ∧ a5 = true) ∧ LkI T0 w2 V1 V2 b n1 RN RO m1 RN2 RO2 l0 c1 l2 c2 a4 a5 s6 s7 X Y aN cN aO cO aN2 cN2 aO2 cO2 T W
set_option maxHeartbeats 8000000 in
set_option maxRecDepth 4000 in
theorem like_region {Q : Exit → Act → World → Prop} {id : Nat} {T0 : Array Value} {D0 : List Deferred} {w2 : World} {p1 p2 : Nat} {b : Int} {a : Option Addr} {n cap : Nat} {ao : Option Addr} {no co : Nat} {a2 : Option Addr} {n2 cap2 : Nat} {ao2 : Option Addr} {no2 co2 : Nat} {n1 : Nat} {RN : List (List Int)} {RO : List Int} {m1 : Nat} {RN2 : List (List Int)} {RO2 : List Int}
    (hz : 100 ≤ T0.size) (t2 : T0[4]? = some (ptr p1)) (t3 : T0[5]? = some (ptr p2))
    (hc : ∀ W, Below w2.heap.size w2 W → (W.cell? ⟨p1, 0, none⟩ = some (.int .i64 b) ∧ W.cell? ⟨p1, 1, none⟩ = some (.slice a n cap) ∧ W.cell? ⟨p1, 2, none⟩ = some (.slice ao no co) ∧ W.cell? ⟨p2, 0, none⟩ = some (.int .i64 b) ∧ W.cell? ⟨p2, 1, none⟩ = some (.slice a2 n2 cap2) ∧ W.cell? ⟨p2, 2, none⟩ = some (.slice ao2 no2 co2)))
    (hO1 : ∀ W, Below w2.heap.size w2 W → Calls Tryd.prog 36 #[.agg #[.int .i64 b, .slice a n cap, .slice ao no co]] W (OawR W b n1 RN RO))
    (hO2 : ∀ W, Below w2.heap.size w2 W → Calls Tryd.prog 36 #[.agg #[.int .i64 b, .slice a2 n2 cap2, .slice ao2 no2 co2]] W (OawR W b m1 RN2 RO2))
    (hQ : ∀ X Y aN cN aO cO aN2 cN2 aO2 cO2 W, BothAt b n1 RN RO m1 RN2 RO2 X Y aN cN aO cO aN2 cN2 aO2 cO2 W → Below w2.heap.size w2 W → Q .normal ⟨(((((T0.setIfInBounds 52 (.agg #[.int .i64 b, .slice a n cap, .slice ao no co])).setIfInBounds 54 (.agg #[.int .i64 b, .slice a2 n2 cap2, .slice ao2 no2 co2])).setIfInBounds 53 (outG3 b aN n1 cN aO cO)).setIfInBounds 55 (outG3 b aN2 m1 cN2 aO2 cO2)).setIfInBounds 14 (ptr X)).setIfInBounds 15 (ptr Y), D0⟩ W) :
    Code.wp Tryd.prog (Code.region id lkOps true) Q ⟨T0, D0⟩ w2 := by
  refine wp_region_any (by kernel_rfl) ?_
  refine wpAny_inv (LkInv T0 D0 w2 (.agg #[.int .i64 b, .slice a n cap, .slice ao no co]) (.agg #[.int .i64 b, .slice a2 n2 cap2, .slice ao2 no2 co2]) b n1 RN RO m1 RN2 RO2) ?_ ?_ 8 _ _ _ ?_
  · rintro l ac W ⟨l0, c1, l2, c2, a4, a5, s6, s7, X, Y, aN, cN, aO, cO, aN2, cN2, aO2, cO2, T, rfl, hk, rfl, -, h⟩
    have hall := cn8_zero _ _ _ _ _ _ _ _ hk.symm
    refine ⟨(lk_rdy l0 c1 l2 c2 a4 a5 s6 s7 h.o1 h.o2).2.2 hall, ?_⟩
    simp only [Bool.and_eq_true] at hall
    obtain ⟨⟨⟨⟨⟨⟨⟨rfl, rfl⟩, rfl⟩, rfl⟩, rfl⟩, rfl⟩, rfl⟩, rfl⟩ := hall
    obtain ⟨rfl, h1, h2⟩ := lkI_end hz h
    exact hQ X Y aN cN aO cO aN2 cN2 aO2 cO2 W h1 h2
  · rintro k l ac W ⟨l0, c1, l2, c2, a4, a5, s6, s7, X, Y, aN, cN, aO, cO, aN2, cN2, aO2, cO2, T, rfl, hk, rfl, hs6, h⟩
    obtain ⟨hr, he, -⟩ := lk_rdy l0 c1 l2 c2 a4 a5 s6 s7 h.o1 h.o2
    refine ⟨fun e => ?_, fun i hi => ?_⟩
    · have := cn8_all _ _ _ _ _ _ _ _ (he e)
      omega
    · rw [List.all_eq_true] at hr
      have hi := lkR_cases _ _ _ _ _ _ _ _ i (hr i hi)
      have e2 : T[4]? = some (ptr p1) := (h.same 4 (by decide) (by decide) (by decide) (by decide) (by decide) (by decide)).trans t2
      have e3 : T[5]? = some (ptr p2) := (h.same 5 (by decide) (by decide) (by decide) (by decide) (by decide) (by decide)).trans t3
      obtain ⟨x0, x1, x2, y0, y1, y2⟩ := hc W h.bel
      rcases hi with ⟨rfl, rfl⟩ | ⟨rfl, rfl, rfl⟩ | ⟨rfl, rfl⟩ | ⟨rfl, rfl, rfl, rfl⟩ | ⟨rfl, rfl⟩ | ⟨rfl, rfl⟩ | ⟨rfl, rfl, rfl, rfl, rfl, rfl, rfl, rfl, rfl⟩ | ⟨rfl, rfl, rfl, rfl, rfl, rfl, rfl, rfl, rfl⟩
      · refine wpOp_step (o := lkOp0) rfl fun K' hK => ?_
        rw [if_pos (by rfl)]
        have HK := hide hK
        have HH := hide h
        clear hK h hr he
        go_simp
        exact HK.out _ _ ⟨true, c1, l2, c2, a4, a5, s6, s7, X, Y, aN, cN, aO, cO, aN2, cN2, aO2, cO2, _, rfl, by have := cn8_l0 c1 l2 c2 a4 a5 s6 s7; omega, rfl, fun e => absurd (hs6 e).1 (by decide), lkI_l0 hz HH.out⟩
      · obtain rfl : s6 = false := by
          cases s6 with
          | false => rfl
          | true => exact absurd (hs6 rfl).2.1 (by decide)
        obtain rfl : s7 = false := by
          cases s7 with
          | false => rfl
          | true => exact absurd (h.o2 rfl) (by decide)
        refine wpOp_step (o := lkOp1) rfl fun K' hK => ?_
        rw [if_pos (by rfl)]
        have HK := hide hK
        have HH := hide h
        have e48 := h.v48 rfl
        have HC := hide (hO1 W h.bel)
        clear hK h hr he hs6 x0 x1 x2 y0 y1 y2 e2 e3
        go_simp
        refine HC.out.mono ?_
        rintro e W1 ⟨bN, dN, bO, dO, rfl, hn, hb⟩
        exact HK.out _ _ ⟨true, true, l2, c2, a4, a5, false, false, X, Y, bN, dN, bO, dO, aN2, cN2, aO2, cO2, _, rfl, by have := cn8_c1 true l2 c2 a4 a5 false false; omega, rfl, (fun e => by cases e), lkI_c1 hz HH.out hb hn⟩
      · refine wpOp_step (o := lkOp2) rfl fun K' hK => ?_
        rw [if_pos (by rfl)]
        have HK := hide hK
        have HH := hide h
        clear hK h hr he
        go_simp
        exact HK.out _ _ ⟨l0, c1, true, c2, a4, a5, s6, s7, X, Y, aN, cN, aO, cO, aN2, cN2, aO2, cO2, _, rfl, by have := cn8_l2 l0 c1 c2 a4 a5 s6 s7; omega, rfl, fun e => absurd (hs6 e).2.2.1 (by decide), lkI_l2 hz HH.out⟩
      · obtain rfl : s6 = false := by
          cases s6 with
          | false => rfl
          | true => exact absurd (hs6 rfl).2.2.2.1 (by decide)
        obtain rfl : s7 = false := by
          cases s7 with
          | false => rfl
          | true => exact absurd (h.o2 rfl) (by decide)
        refine wpOp_step (o := lkOp3) rfl fun K' hK => ?_
        rw [if_pos (by rfl)]
        have HK := hide hK
        have HH := hide h
        have e50 := h.v50 rfl
        have HC := hide (hO2 W h.bel)
        clear hK h hr he hs6 x0 x1 x2 y0 y1 y2 e2 e3
        go_simp
        refine HC.out.mono ?_
        rintro e W1 ⟨bN, dN, bO, dO, rfl, hn, hb⟩
        exact HK.out _ _ ⟨l0, true, true, true, a4, a5, false, false, X, Y, aN, cN, aO, cO, bN, dN, bO, dO, _, rfl, by have := cn8_c2 l0 true true a4 a5 false false; omega, rfl, (fun e => by cases e), lkI_c2 hz HH.out hb hn⟩
      · obtain rfl : s6 = false := by
          cases s6 with
          | false => rfl
          | true => exact absurd (hs6 rfl).2.2.2.2.1 (by decide)
        obtain rfl : s7 = false := by
          cases s7 with
          | false => rfl
          | true => exact absurd (h.o2 rfl) (by decide)
        refine wpOp_step (o := lkOp4) rfl fun K' hK => ?_
        rw [if_pos (by rfl)]
        have HK := hide hK
        have HH := hide h
        clear hK h hr he hs6 x0 x1 x2 y0 y1 y2 e2 e3
        go_simp
        exact HK.out _ _ ⟨l0, c1, l2, c2, true, a5, false, false, W.heap.size, Y, aN, cN, aO, cO, aN2, cN2, aO2, cO2, _, rfl, by have := cn8_a4 l0 c1 l2 c2 a5 false false; omega, rfl, (fun e => by cases e), lkI_a4 hz HH.out⟩
      · obtain rfl : s6 = false := by
          cases s6 with
          | false => rfl
          | true => exact absurd (hs6 rfl).2.2.2.2.2 (by decide)
        obtain rfl : s7 = false := by
          cases s7 with
          | false => rfl
          | true => exact absurd (h.o2 rfl) (by decide)
        refine wpOp_step (o := lkOp5) rfl fun K' hK => ?_
        rw [if_pos (by rfl)]
        have HK := hide hK
        have HH := hide h
        clear hK h hr he hs6 x0 x1 x2 y0 y1 y2 e2 e3
        go_simp
        exact HK.out _ _ ⟨l0, c1, l2, c2, a4, true, false, false, X, W.heap.size, aN, cN, aO, cO, aN2, cN2, aO2, cO2, _, rfl, by have := cn8_a5 l0 c1 l2 c2 a4 false false; omega, rfl, (fun e => by cases e), lkI_a5 hz HH.out⟩
      · refine wpOp_step (o := lkOp6) rfl fun K' hK => ?_
        rw [if_pos (by rfl)]
        have HK := hide hK
        have HH := hide h
        have e10 := h.v10 rfl
        have e49 := h.v49 rfl
        obtain ⟨⟨z0, z1, z2⟩, zf⟩ := box3_cells (show W.heap[X]? = some zOut from (h.bX rfl).2)
        clear hK h hr he hs6 x0 x1 x2 y0 y1 y2 e2 e3
        go_simp
        exact HK.out _ _ ⟨true, true, true, true, true, true, true, false, X, Y, aN, cN, aO, cO, aN2, cN2, aO2, cO2, _, rfl, by have := cn8_s6 true true true true true true false; omega, rfl, fun _ => ⟨rfl, rfl, rfl, rfl, rfl, rfl⟩, lkI_s6 HH.out⟩
      · refine wpOp_step (o := lkOp7) rfl fun K' hK => ?_
        rw [if_pos (by rfl)]
        have HK := hide hK
        have HH := hide h
        have e11 := h.v11 rfl
        have e51 := h.v51 rfl
        obtain ⟨⟨z0, z1, z2⟩, zf⟩ := box3_cells (show W.heap[Y]? = some zOut from (h.bY rfl).2)
        clear hK h hr he hs6 x0 x1 x2 y0 y1 y2 e2 e3
        go_simp
        exact HK.out _ _ ⟨true, true, true, true, true, true, true, true, X, Y, aN, cN, aO, cO, aN2, cN2, aO2, cO2, _, rfl, by have := cn8_s7 true true true true true true true; omega, rfl, fun _ => ⟨rfl, rfl, rfl, rfl, rfl, rfl⟩, lkI_s7 HH.out⟩
  · exact ⟨false, false, false, false, false, false, false, false, 0, 0, none, 0, none, 0, none, 0, none, 0, T0, rfl, rfl, rfl, (fun e => by cases e), { size := rfl, same := fun _ _ _ _ _ _ _ => rfl, o1 := (fun e => by cases e), o2 := (fun e => by cases e), v48 := (fun e => by cases e), v50 := (fun e => by cases e), v49 := (fun e => by cases e), v51 := (fun e => by cases e), v10 := (fun e => by cases e), v11 := (fun e => by cases e), bX := (fun e => by cases e), bY := (fun e => by cases e), ne := (fun e => by cases e), k1 := (fun e => by cases e), k2 := (fun e => by cases e), bel := (Below.refl _ _).drew }⟩
end Go.Proofs.YtgbmemkoggogdaaDoor

/- word.Like's second region that draws its order: whether both say the same, appended to a field. -/
namespace Go.Proofs.YtgbmemkoggogdaaDoor
open Go.RowKit

abbrev leOp0 : Oper := { dst := some 80, op := Op.fieldAddr 30 (Operand.tmp 18) 3, type := 0, pos := "word.go:166", after := #[], guard := none }
abbrev leOp1 : Oper := { dst := some 81, op := Op.load 28 (Operand.tmp 80), type := 28, pos := "word.go:166", after := #[{ on := 0, ground := Ground.data }], guard := none }
abbrev leOp2 : Oper := { dst := some 82, op := Op.move (Operand.tmp 21), type := 3, pos := "word.go:166", after := #[], guard := none }
abbrev leOp3 : Oper := { dst := some 83, op := Op.binOp BinOp.neq 3 (Operand.tmp 82) (Operand.const (Value.int IntKind.i64 (-1))) 3, type := 4, pos := "word.go:166", after := #[{ on := 2, ground := Ground.data }], guard := none }
abbrev leOp4 : Oper := { dst := some 84, op := Op.move (Operand.tmp 83), type := 4, pos := "word.go:166", after := #[{ on := 3, ground := Ground.data }], guard := none }
abbrev leOp5 : Oper := { dst := some 85, op := Op.move (Operand.tmp 21), type := 3, pos := "word.go:166", after := #[{ on := 4, ground := Ground.guard }], guard := some (4, true) }
abbrev leOp6 : Oper := { dst := some 86, op := Op.fieldAddr 25 (Operand.tmp 15) 2, type := 0, pos := "word.go:166", after := #[{ on := 4, ground := Ground.guard }], guard := some (4, true) }
abbrev leOp7 : Oper := { dst := some 87, op := Op.load 23 (Operand.tmp 86), type := 23, pos := "word.go:166", after := #[{ on := 6, ground := Ground.data }, { on := 4, ground := Ground.guard }], guard := some (4, true) }
abbrev leOp8 : Oper := { dst := some 88, op := Op.indexAddr 81 (Operand.tmp 20) (Operand.const (Value.int IntKind.i64 1)), type := 0, pos := "word.go:166", after := #[{ on := 4, ground := Ground.guard }], guard := some (4, true) }
abbrev leOp9 : Oper := { dst := some 89, op := Op.load 3 (Operand.tmp 88), type := 3, pos := "word.go:166", after := #[{ on := 8, ground := Ground.data }, { on := 4, ground := Ground.guard }], guard := some (4, true) }
abbrev leOp10 : Oper := { dst := some 90, op := Op.indexAddr 23 (Operand.tmp 87) (Operand.tmp 89), type := 0, pos := "word.go:166", after := #[{ on := 7, ground := Ground.data }, { on := 9, ground := Ground.data }, { on := 4, ground := Ground.guard }], guard := some (4, true) }
abbrev leOp11 : Oper := { dst := some 91, op := Op.load 3 (Operand.tmp 90), type := 3, pos := "word.go:166", after := #[{ on := 10, ground := Ground.data }, { on := 4, ground := Ground.guard }], guard := some (4, true) }
abbrev leOp12 : Oper := { dst := some 92, op := Op.binOp BinOp.eql 3 (Operand.tmp 85) (Operand.tmp 91) 3, type := 4, pos := "word.go:166", after := #[{ on := 5, ground := Ground.data }, { on := 11, ground := Ground.data }, { on := 4, ground := Ground.guard }], guard := some (4, true) }
abbrev leOp13 : Oper := { dst := some 93, op := Op.pick (Operand.tmp 84) (Operand.tmp 92) (Operand.const (Value.bool false)), type := 4, pos := "word.go:166", after := #[{ on := 4, ground := Ground.data }, { on := 12, ground := Ground.data }], guard := none }
abbrev leOp14 : Oper := { dst := some 94, op := Op.buildSlice 28 1 #[(0, Operand.tmp 93)], type := 28, pos := "word.go:166", after := #[{ on := 13, ground := Ground.data }], guard := none }
abbrev leOp15 : Oper := { dst := some 95, op := Op.call { callee := Callee.builtin Builtin.append, args := #[Operand.tmp 81, Operand.tmp 94], argTypes := #[28, 28] }, type := 28, pos := "word.go:166", after := #[{ on := 1, ground := Ground.data }, { on := 14, ground := Ground.data }, { on := 4, ground := Ground.chain }], guard := none }
abbrev leOp16 : Oper := { dst := some 96, op := Op.fieldAddr 30 (Operand.tmp 18) 3, type := 0, pos := "word.go:166", after := #[{ on := 0, ground := Ground.phase }, { on := 1, ground := Ground.phase }, { on := 2, ground := Ground.phase }, { on := 3, ground := Ground.phase }, { on := 4, ground := Ground.phase }, { on := 5, ground := Ground.phase }, { on := 6, ground := Ground.phase }, { on := 7, ground := Ground.phase }, { on := 8, ground := Ground.phase }, { on := 9, ground := Ground.phase }, { on := 10, ground := Ground.phase }, { on := 11, ground := Ground.phase }, { on := 12, ground := Ground.phase }, { on := 13, ground := Ground.phase }, { on := 14, ground := Ground.phase }, { on := 15, ground := Ground.phase }], guard := none }
abbrev leOp17 : Oper := { dst := none, op := Op.store 28 (Operand.tmp 96) (Operand.tmp 95), type := 0, pos := "word.go:166", after := #[{ on := 16, ground := Ground.data }, { on := 15, ground := Ground.data }, { on := 15, ground := Ground.chain }, { on := 0, ground := Ground.phase }, { on := 1, ground := Ground.phase }, { on := 2, ground := Ground.phase }, { on := 3, ground := Ground.phase }, { on := 4, ground := Ground.phase }, { on := 5, ground := Ground.phase }, { on := 6, ground := Ground.phase }, { on := 7, ground := Ground.phase }, { on := 8, ground := Ground.phase }, { on := 9, ground := Ground.phase }, { on := 10, ground := Ground.phase }, { on := 11, ground := Ground.phase }, { on := 12, ground := Ground.phase }, { on := 13, ground := Ground.phase }, { on := 14, ground := Ground.phase }, { on := 15, ground := Ground.phase }], guard := none }
abbrev leOps : Array Oper := #[leOp0, leOp1, leOp2, leOp3, leOp4, leOp5, leOp6, leOp7, leOp8, leOp9, leOp10, leOp11, leOp12, leOp13, leOp14, leOp15, leOp16, leOp17]
def onB (ops : Array Oper) : Bool := (List.range ops.size).all fun j => ((ops[j]?).map fun o => o.after.toList.all fun e => decide (e.on < j)).getD true
theorem onB_spec {ops : Array Oper} (h : onB ops = true) : ∀ (j : Nat) (o : Oper), ops[j]? = some o → ∀ e ∈ o.after.toList, e.on < j := fun j o ho e he => by
  unfold onB at h
  rw [List.all_eq_true] at h
  have h1 := h j (List.mem_range.2 (Array.getElem?_eq_some_iff.1 ho).1)
  rw [ho] at h1
  simp only [Option.map_some, Option.getD_some, List.all_eq_true] at h1
  exact of_decide_eq_true (h1 e he)
theorem le_on : ∀ (j : Nat) (o : Oper), leOps[j]? = some o → ∀ e ∈ o.after.toList, e.on < j := onB_spec (by decide +kernel)
def gdV (g : Bool) (v : Value) : Option Value := if g = true then some v else none
def leE (B Y X bo oo D m cO : Nat) (g q : Bool) (vE : Value) (zo zp : Int) (s : Nat) : Nat → Option Value
  | 0 => some (.pointer (some ⟨B, 3, none⟩))
  | 1 => some vE
  | 2 => some (.int .i64 zo)
  | 3 => some (.bool g)
  | 4 => some (.bool g)
  | 5 => gdV g (.int .i64 zo)
  | 6 => gdV g (.pointer (some ⟨Y, 2, none⟩))
  | 7 => gdV g (.slice (some ⟨bo, oo, none⟩) m cO)
  | 8 => gdV g (.pointer (some ⟨X, 1, none⟩))
  | 9 => gdV g (.int .i64 (D : Int))
  | 10 => gdV g (.pointer (some ⟨bo, oo + D, none⟩))
  | 11 => gdV g (.int .i64 zp)
  | 12 => gdV g (.bool (zo == zp))
  | 13 => some (.bool q)
  | 14 => some (.slice (some ⟨s, 0, none⟩) 1 1)
  | 16 => some (.pointer (some ⟨B, 3, none⟩))
  | _ => none
structure LeI (T0 : Array Value) (E : Nat → Option Value) (w1 W1 : World) (Good : Value → World → Prop) (Fin : World → Prop) (L : Nat → Prop) (T : Array Value) (W : World) : Prop where
  size : T.size = T0.size
  same : ∀ i : Nat, i < 80 ∨ 96 < i → T[i]? = T0[i]?
  val : ∀ (j : Nat) (v : Value), j ≤ 16 → L j → E j = some v → T[80 + j]? = some v
  p0 : ¬ L 14 → W = w1
  p1 : L 14 → ¬ L 15 → W = W1
  p2 : L 15 → ¬ L 17 → ∃ v, T[95]? = some v ∧ Good v W
  p3 : L 17 → Fin W
section
variable {T0 : Array Value} {E : Nat → Option Value} {w1 W1 : World} {Good : Value → World → Prop} {Fin : World → Prop} {L : Nat → Prop} {T : Array Value} {W : World}
theorem le_slots (hz : 100 ≤ T0.size) (h : LeI T0 E w1 W1 Good Fin L T W) {i : Nat} (hi : i ≤ 16) (v : Value) (hv : ∀ v', E i = some v' → v' = v) : (T.setIfInBounds (80 + i) v).size = T0.size ∧ (∀ j : Nat, j < 80 ∨ 96 < j → (T.setIfInBounds (80 + i) v)[j]? = T0[j]?) ∧ ∀ (j : Nat) (u : Value), j ≤ 16 → (j = i ∨ L j) → E j = some u → (T.setIfInBounds (80 + i) v)[80 + j]? = some u := by
  have hs := h.size
  refine ⟨by simpa using hs, fun j hj => (set_miss _ (by omega)).trans (h.same j hj), fun j u hj hl he => ?_⟩
  by_cases e : j = i
  · subst e
    rw [set_hit _ (by omega), hv u he]
  · rw [set_miss _ (by omega)]
    exact h.val j u hj (hl.resolve_left e) he
theorem le_quiet (hz : 100 ≤ T0.size) (h : LeI T0 E w1 W1 Good Fin L T W) {i : Nat} (hi : i ≤ 16) (h14 : i ≠ 14) (h15 : i ≠ 15) (v : Value) (hv : ∀ v', E i = some v' → v' = v) : LeI T0 E w1 W1 Good Fin (fun j => j = i ∨ L j) (T.setIfInBounds (80 + i) v) W := by
  obtain ⟨s1, s2, s3⟩ := le_slots hz h hi v hv
  refine ⟨s1, s2, s3, fun hn => h.p0 (fun h' => hn (.inr h')), fun h1 h2 => h.p1 (h1.resolve_left (Ne.symm h14)) (fun h' => h2 (.inr h')), fun h1 h2 => ?_, fun h1 => h.p3 (h1.resolve_left (by omega))⟩
  obtain ⟨v2, g1, g2⟩ := h.p2 (h1.resolve_left (Ne.symm h15)) (fun h' => h2 (.inr h'))
  exact ⟨v2, (set_miss _ (by omega)).trans g1, g2⟩
theorem le_build (hz : 100 ≤ T0.size) (h : LeI T0 E w1 W1 Good Fin L T W) (hn15 : ¬ L 15) (hn17 : ¬ L 17) (v : Value) (hv : ∀ v', E 14 = some v' → v' = v) : LeI T0 E w1 W1 Good Fin (fun j => j = 14 ∨ L j) (T.setIfInBounds 94 v) W1 := by
  obtain ⟨s1, s2, s3⟩ := le_slots hz h (i := 14) (by decide) v hv
  exact ⟨s1, s2, s3, fun hn => absurd (.inl rfl) hn, fun _ _ => rfl, fun h1 => absurd (h1.resolve_left (by decide)) hn15, fun h1 => absurd (h1.resolve_left (by decide)) hn17⟩
theorem le_app (hz : 100 ≤ T0.size) (h : LeI T0 E w1 W1 Good Fin L T W) (h14 : L 14) (hn17 : ¬ L 17) (v : Value) (hv : ∀ v', E 15 = some v' → v' = v) {W2 : World} (hg : Good v W2) : LeI T0 E w1 W1 Good Fin (fun j => j = 15 ∨ L j) (T.setIfInBounds 95 v) W2 := by
  obtain ⟨s1, s2, s3⟩ := le_slots hz h (i := 15) (by decide) v hv
  have hs := h.size
  exact ⟨s1, s2, s3, fun hn => absurd (.inr h14) hn, fun _ hn => absurd (.inl rfl) hn, fun _ _ => ⟨v, set_hit _ (by omega), hg⟩, fun h1 => absurd (h1.resolve_left (by decide)) hn17⟩
theorem le_store (h : LeI T0 E w1 W1 Good Fin L T W) (h14 : L 14) (h15 : L 15) {W2 : World} (hf : Fin W2) : LeI T0 E w1 W1 Good Fin (fun j => j = 17 ∨ L j) T W2 :=
  ⟨h.size, h.same, fun j v hj hl he => h.val j v hj (hl.resolve_left (by omega)) he, fun hn => absurd (.inr h14) hn, fun _ hn => absurd (.inr h15) hn, fun _ hn => absurd (.inl rfl) hn, fun _ => hf⟩
end
theorem le_wanted {T : Array Value} {g : Bool} (h : T[84]? = some (.bool g)) {o : Oper} (hg : o.guard = some (4, true)) : Region.wanted o (yielded leOps T) = g := by
  have hy : yielded leOps T 4 = some g := by
    unfold yielded
    rw [show ((leOps[4]?).bind (·.dst)).bind (fun t => T[t]?) = some (.bool g) from h]
  unfold Region.wanted
  rw [hg]
  show (yielded leOps T 4 == some true) = g
  rw [hy]
  cases g <;> rfl
set_option maxHeartbeats 8000000 in
set_option maxRecDepth 4000 in
theorem like_ends {Q : Exit → Act → World → Prop} {id : Nat} {T0 : Array Value} {D0 : List Deferred} {wb wp : World} {B Y X bo oo D m cO : Nat} {zo zp : Int} {vE : Value} {b tt : Int} {aW : Option Addr} {nW cW : Nat} {vals : List Value} {i0 : Nat}
    (hz : 100 ≤ T0.size) (t15 : T0[18]? = some (ptr B)) (t17 : T0[20]? = some (ptr X)) (t18 : T0[21]? = some (.int .i64 zo)) (t11 : T0[15]? = some (ptr Y))
    (hF : FldI wb B 3 (fun v => .cells #[.int .i64 b, .int .i64 tt, .slice aW nW cW, v] 30) 4 vals vE wp) (hlen : vals.length = i0) (hi0 : i0 ≤ 4096)
    (cX : wp.cell? ⟨X, 1, none⟩ = some (.int .i64 (D : Int))) (cY : wp.cell? ⟨Y, 2, none⟩ = some (.slice (some ⟨bo, oo, none⟩) m cO)) (cZ : wp.cell? ⟨bo, oo + D, none⟩ = some (.int .i64 zp)) (hD : (D : Int) < (m : Int))
    (hQ : ∀ (T : Array Value) (W : World) (v : Value), T.size = T0.size → (∀ i : Nat, i < 80 ∨ 96 < i → T[i]? = T0[i]?) → FldI wb B 3 (fun v => .cells #[.int .i64 b, .int .i64 tt, .slice aW nW cW, v] 30) 4 (vals ++ [.bool ((zo != -1) && (zo == zp))]) v W → Q .normal ⟨T, D0⟩ W) :
    Code.wp Tryd.prog (Code.region id leOps true) Q ⟨T0, D0⟩ wp := by
  obtain ⟨g, hg⟩ : ∃ g, (zo != -1) = g := ⟨_, rfl⟩
  obtain ⟨q, hq⟩ : ∃ q, ((zo != -1) && (zo == zp)) = q := ⟨_, rfl⟩
  have hF1 : FldI wb B 3 (fun v => .cells #[.int .i64 b, .int .i64 tt, .slice aW nW cW, v] 30) 4 vals vE wp.drew := fld_below hF (Below.refl _ _).drew
  have dX : wp.drew.cell? ⟨X, 1, none⟩ = some (.int .i64 (D : Int)) := cX
  have dY : wp.drew.cell? ⟨Y, 2, none⟩ = some (.slice (some ⟨bo, oo, none⟩) m cO) := cY
  have dZ : wp.drew.cell? ⟨bo, oo + D, none⟩ = some (.int .i64 zp) := cZ
  clear cX cY cZ hF
  refine region_inv (by kernel_rfl) le_on (fun L a W => ∃ T, a = ⟨T, D0⟩ ∧ LeI T0 (leE B Y X bo oo D m cO g q vE zo zp wp.drew.heap.size) wp.drew (wp.drew.alloc (.cells #[.bool q] 4)) (fun v W => W.heap[B]? = some (.cells #[.int .i64 b, .int .i64 tt, .slice aW nW cW, vE] 30) ∧ FldI wb B 3 (fun v => .cells #[.int .i64 b, .int .i64 tt, .slice aW nW cW, v] 30) 4 (vals ++ [.bool q]) v (W.setCell ⟨B, 3, none⟩ v)) (fun W => ∃ v, FldI wb B 3 (fun v => .cells #[.int .i64 b, .int .i64 tt, .slice aW nW cW, v] 30) 4 (vals ++ [.bool q]) v W) L T W) ?_ ?_ ?_
  · exact ⟨T0, rfl, rfl, fun _ _ => rfl, fun _ _ _ h => h.elim, fun _ => rfl, fun h => h.elim, fun h => h.elim, fun h => h.elim⟩
  · rintro L ac W i o ho hni hdep hdc ⟨T, rfl, h⟩
    generalize wp.drew = w1 at *
    have hi : i < 18 := (Array.getElem?_eq_some_iff.1 ho).1
    have e15 : T[18]? = some (ptr B) := (h.same 18 (.inl (by decide))).trans t15
    have e17 : T[20]? = some (ptr X) := (h.same 20 (.inl (by decide))).trans t17
    have e18 : T[21]? = some (.int .i64 zo) := (h.same 21 (.inl (by decide))).trans t18
    have e11 : T[15]? = some (ptr Y) := (h.same 15 (.inl (by decide))).trans t11
    have hso : leOps[i]? = some o := ho
    clear hQ t15 t17 t18 t11
    rcases (by omega : i = 0 ∨ i = 1 ∨ i = 2 ∨ i = 3 ∨ i = 4 ∨ i = 5 ∨ i = 6 ∨ i = 7 ∨ i = 8 ∨ i = 9 ∨ i = 10 ∨ i = 11 ∨ i = 12 ∨ i = 13 ∨ i = 14 ∨ i = 15 ∨ i = 16 ∨ i = 17) with rfl | rfl | rfl | rfl | rfl | rfl | rfl | rfl | rfl | rfl | rfl | rfl | rfl | rfl | rfl | rfl | rfl | rfl
    · obtain rfl : leOp0 = o := by injection hso
      refine wpOp_step (o := leOp0) rfl fun K' hK => ?_
      rw [if_pos (by rfl)]
      have HK := hide hK
      have HH := hide h
      clear hK h hdep hdc ho hso hF1 hlen
      go_simp
      exact HK.out _ _ ⟨_, rfl, le_quiet hz HH.out (i := 0) (by decide) (by decide) (by decide) _ (fun v' e => by injection e with e; exact e.symm)⟩
    · obtain rfl : leOp1 = o := by injection hso
      have d0 : L 0 := hdep { on := 0, ground := .data } (by simp) rfl
      have v0 := h.val 0 _ (by decide) d0 rfl
      have x17 : L 17 → L 15 := fun h' => hdc 17 leOp17 h' rfl { on := 15, ground := .data } (by simp) rfl
      have x15 : L 15 → L 14 := fun h' => hdc 15 leOp15 h' rfl { on := 14, ground := .data } (by simp) rfl
      have y15 : L 15 → L 1 := fun h' => hdc 15 leOp15 h' rfl { on := 1, ground := .data } (by simp) rfl
      have x14 : L 14 → L 13 := fun h' => hdc 14 leOp14 h' rfl { on := 13, ground := .data } (by simp) rfl
      have x13 : L 13 → L 12 := fun h' => hdc 13 leOp13 h' rfl { on := 12, ground := .data } (by simp) rfl
      have x12 : L 12 → L 11 := fun h' => hdc 12 leOp12 h' rfl { on := 11, ground := .data } (by simp) rfl
      have x11 : L 11 → L 10 := fun h' => hdc 11 leOp11 h' rfl { on := 10, ground := .data } (by simp) rfl
      have x10 : L 10 → L 9 := fun h' => hdc 10 leOp10 h' rfl { on := 9, ground := .data } (by simp) rfl
      have y10 : L 10 → L 7 := fun h' => hdc 10 leOp10 h' rfl { on := 7, ground := .data } (by simp) rfl
      have hcl : W.cell? ⟨B, 3, none⟩ = some vE := by
        have hb0 := (box_cells hF1.box).1.2.2.2
        by_cases h14 : L 14
        · rw [h.p1 h14 (fun h' => hni (y15 h'))]
          exact (((Below.refl w1.heap.size w1).alloc (Nat.le_refl _) _).cell (p := ⟨B, 3, none⟩) (World.block_lt_of_cell? w1 _ hb0)).trans hb0
        · rw [h.p0 h14]
          exact hb0
      clear x17 x15 y15 x14 x13 x12 x11 x10 y10
      refine wpOp_step (o := leOp1) rfl fun K' hK => ?_
      rw [if_pos (by rfl)]
      have HK := hide hK
      have HH := hide h
      clear hK h hdep hdc ho hso hF1 hlen
      go_simp
      exact HK.out _ _ ⟨_, rfl, le_quiet hz HH.out (i := 1) (by decide) (by decide) (by decide) _ (fun v' e => by injection e with e; exact e.symm)⟩
    · obtain rfl : leOp2 = o := by injection hso
      refine wpOp_step (o := leOp2) rfl fun K' hK => ?_
      rw [if_pos (by rfl)]
      have HK := hide hK
      have HH := hide h
      clear hK h hdep hdc ho hso hF1 hlen
      go_simp
      exact HK.out _ _ ⟨_, rfl, le_quiet hz HH.out (i := 2) (by decide) (by decide) (by decide) _ (fun v' e => by injection e with e; exact e.symm)⟩
    · obtain rfl : leOp3 = o := by injection hso
      have d2 : L 2 := hdep { on := 2, ground := .data } (by simp) rfl
      have v2 := h.val 2 _ (by decide) d2 rfl
      refine wpOp_step (o := leOp3) rfl fun K' hK => ?_
      rw [if_pos (by rfl)]
      have HK := hide hK
      have HH := hide h
      clear hK h hdep hdc ho hso hF1 hlen
      go_simp
      exact HK.out _ _ ⟨_, rfl, le_quiet hz HH.out (i := 3) (by decide) (by decide) (by decide) _ (fun v' e => by injection e with e; exact e.symm)⟩
    · obtain rfl : leOp4 = o := by injection hso
      have d3 : L 3 := hdep { on := 3, ground := .data } (by simp) rfl
      have v3 := h.val 3 _ (by decide) d3 rfl
      refine wpOp_step (o := leOp4) rfl fun K' hK => ?_
      rw [if_pos (by rfl)]
      have HK := hide hK
      have HH := hide h
      clear hK h hdep hdc ho hso hF1 hlen
      go_simp
      exact HK.out _ _ ⟨_, rfl, le_quiet hz HH.out (i := 4) (by decide) (by decide) (by decide) _ (fun v' e => by injection e with e; exact e.symm)⟩
    · obtain rfl : leOp5 = o := by injection hso
      have d4 : L 4 := hdep { on := 4, ground := .guard } (by simp) rfl
      have v4 := h.val 4 _ (by decide) d4 rfl
      refine wpOp_step (o := leOp5) rfl fun K' hK => ?_
      have HK := hide hK
      have HH := hide h
      have hw : Region.wanted leOp5 (yielded leOps T) = g := le_wanted v4 rfl
      cases g with
      | false =>
        rw [if_neg (by show ¬ (Region.wanted leOp5 (yielded leOps T) = true); rw [hw]; decide)]
        exact HK.out _ _ ⟨_, rfl, le_quiet hz HH.out (i := 5) (by decide) (by decide) (by decide) _ (fun v' e => by cases e)⟩
      | true =>
        rw [if_pos (by exact hw)]
        clear hK h hdep hdc ho hso hF1 hlen
        clear hw
        go_simp
        exact HK.out _ _ ⟨_, rfl, le_quiet hz HH.out (i := 5) (by decide) (by decide) (by decide) _ (fun v' e => by injection e with e; exact e.symm)⟩
    · obtain rfl : leOp6 = o := by injection hso
      have d4 : L 4 := hdep { on := 4, ground := .guard } (by simp) rfl
      have v4 := h.val 4 _ (by decide) d4 rfl
      refine wpOp_step (o := leOp6) rfl fun K' hK => ?_
      have HK := hide hK
      have HH := hide h
      have hw : Region.wanted leOp6 (yielded leOps T) = g := le_wanted v4 rfl
      cases g with
      | false =>
        rw [if_neg (by show ¬ (Region.wanted leOp6 (yielded leOps T) = true); rw [hw]; decide)]
        exact HK.out _ _ ⟨_, rfl, le_quiet hz HH.out (i := 6) (by decide) (by decide) (by decide) _ (fun v' e => by cases e)⟩
      | true =>
        rw [if_pos (by exact hw)]
        clear hK h hdep hdc ho hso hF1 hlen
        clear hw
        go_simp
        exact HK.out _ _ ⟨_, rfl, le_quiet hz HH.out (i := 6) (by decide) (by decide) (by decide) _ (fun v' e => by injection e with e; exact e.symm)⟩
    · obtain rfl : leOp7 = o := by injection hso
      have d4 : L 4 := hdep { on := 4, ground := .guard } (by simp) rfl
      have v4 := h.val 4 _ (by decide) d4 rfl
      have d6 : L 6 := hdep { on := 6, ground := .data } (by simp) rfl
      have x17 : L 17 → L 15 := fun h' => hdc 17 leOp17 h' rfl { on := 15, ground := .data } (by simp) rfl
      have x15 : L 15 → L 14 := fun h' => hdc 15 leOp15 h' rfl { on := 14, ground := .data } (by simp) rfl
      have y15 : L 15 → L 1 := fun h' => hdc 15 leOp15 h' rfl { on := 1, ground := .data } (by simp) rfl
      have x14 : L 14 → L 13 := fun h' => hdc 14 leOp14 h' rfl { on := 13, ground := .data } (by simp) rfl
      have x13 : L 13 → L 12 := fun h' => hdc 13 leOp13 h' rfl { on := 12, ground := .data } (by simp) rfl
      have x12 : L 12 → L 11 := fun h' => hdc 12 leOp12 h' rfl { on := 11, ground := .data } (by simp) rfl
      have x11 : L 11 → L 10 := fun h' => hdc 11 leOp11 h' rfl { on := 10, ground := .data } (by simp) rfl
      have x10 : L 10 → L 9 := fun h' => hdc 10 leOp10 h' rfl { on := 9, ground := .data } (by simp) rfl
      have y10 : L 10 → L 7 := fun h' => hdc 10 leOp10 h' rfl { on := 7, ground := .data } (by simp) rfl
      obtain rfl : W = w1 := h.p0 (fun h' => hni (y10 (x11 (x12 (x13 (x14 h'))))))
      clear x17 x15 y15 x14 x13 x12 x11 x10 y10
      refine wpOp_step (o := leOp7) rfl fun K' hK => ?_
      have HK := hide hK
      have HH := hide h
      have hw : Region.wanted leOp7 (yielded leOps T) = g := le_wanted v4 rfl
      cases g with
      | false =>
        rw [if_neg (by show ¬ (Region.wanted leOp7 (yielded leOps T) = true); rw [hw]; decide)]
        exact HK.out _ _ ⟨_, rfl, le_quiet hz HH.out (i := 7) (by decide) (by decide) (by decide) _ (fun v' e => by cases e)⟩
      | true =>
        rw [if_pos (by exact hw)]
        have v6 := h.val 6 _ (by decide) d6 rfl
        clear hK h hdep hdc ho hso hF1 hlen
        clear hw
        go_simp
        exact HK.out _ _ ⟨_, rfl, le_quiet hz HH.out (i := 7) (by decide) (by decide) (by decide) _ (fun v' e => by injection e with e; exact e.symm)⟩
    · obtain rfl : leOp8 = o := by injection hso
      have d4 : L 4 := hdep { on := 4, ground := .guard } (by simp) rfl
      have v4 := h.val 4 _ (by decide) d4 rfl
      refine wpOp_step (o := leOp8) rfl fun K' hK => ?_
      have HK := hide hK
      have HH := hide h
      have hw : Region.wanted leOp8 (yielded leOps T) = g := le_wanted v4 rfl
      cases g with
      | false =>
        rw [if_neg (by show ¬ (Region.wanted leOp8 (yielded leOps T) = true); rw [hw]; decide)]
        exact HK.out _ _ ⟨_, rfl, le_quiet hz HH.out (i := 8) (by decide) (by decide) (by decide) _ (fun v' e => by cases e)⟩
      | true =>
        rw [if_pos (by exact hw)]
        clear hK h hdep hdc ho hso hF1 hlen
        clear hw
        go_simp
        exact HK.out _ _ ⟨_, rfl, le_quiet hz HH.out (i := 8) (by decide) (by decide) (by decide) _ (fun v' e => by injection e with e; exact e.symm)⟩
    · obtain rfl : leOp9 = o := by injection hso
      have d4 : L 4 := hdep { on := 4, ground := .guard } (by simp) rfl
      have v4 := h.val 4 _ (by decide) d4 rfl
      have d8 : L 8 := hdep { on := 8, ground := .data } (by simp) rfl
      have x17 : L 17 → L 15 := fun h' => hdc 17 leOp17 h' rfl { on := 15, ground := .data } (by simp) rfl
      have x15 : L 15 → L 14 := fun h' => hdc 15 leOp15 h' rfl { on := 14, ground := .data } (by simp) rfl
      have y15 : L 15 → L 1 := fun h' => hdc 15 leOp15 h' rfl { on := 1, ground := .data } (by simp) rfl
      have x14 : L 14 → L 13 := fun h' => hdc 14 leOp14 h' rfl { on := 13, ground := .data } (by simp) rfl
      have x13 : L 13 → L 12 := fun h' => hdc 13 leOp13 h' rfl { on := 12, ground := .data } (by simp) rfl
      have x12 : L 12 → L 11 := fun h' => hdc 12 leOp12 h' rfl { on := 11, ground := .data } (by simp) rfl
      have x11 : L 11 → L 10 := fun h' => hdc 11 leOp11 h' rfl { on := 10, ground := .data } (by simp) rfl
      have x10 : L 10 → L 9 := fun h' => hdc 10 leOp10 h' rfl { on := 9, ground := .data } (by simp) rfl
      have y10 : L 10 → L 7 := fun h' => hdc 10 leOp10 h' rfl { on := 7, ground := .data } (by simp) rfl
      obtain rfl : W = w1 := h.p0 (fun h' => hni (x10 (x11 (x12 (x13 (x14 h'))))))
      clear x17 x15 y15 x14 x13 x12 x11 x10 y10
      refine wpOp_step (o := leOp9) rfl fun K' hK => ?_
      have HK := hide hK
      have HH := hide h
      have hw : Region.wanted leOp9 (yielded leOps T) = g := le_wanted v4 rfl
      cases g with
      | false =>
        rw [if_neg (by show ¬ (Region.wanted leOp9 (yielded leOps T) = true); rw [hw]; decide)]
        exact HK.out _ _ ⟨_, rfl, le_quiet hz HH.out (i := 9) (by decide) (by decide) (by decide) _ (fun v' e => by cases e)⟩
      | true =>
        rw [if_pos (by exact hw)]
        have v8 := h.val 8 _ (by decide) d8 rfl
        clear hK h hdep hdc ho hso hF1 hlen
        clear hw
        go_simp
        exact HK.out _ _ ⟨_, rfl, le_quiet hz HH.out (i := 9) (by decide) (by decide) (by decide) _ (fun v' e => by injection e with e; exact e.symm)⟩
    · obtain rfl : leOp10 = o := by injection hso
      have d4 : L 4 := hdep { on := 4, ground := .guard } (by simp) rfl
      have v4 := h.val 4 _ (by decide) d4 rfl
      have d7 : L 7 := hdep { on := 7, ground := .data } (by simp) rfl
      have d9 : L 9 := hdep { on := 9, ground := .data } (by simp) rfl
      refine wpOp_step (o := leOp10) rfl fun K' hK => ?_
      have HK := hide hK
      have HH := hide h
      have hw : Region.wanted leOp10 (yielded leOps T) = g := le_wanted v4 rfl
      cases g with
      | false =>
        rw [if_neg (by show ¬ (Region.wanted leOp10 (yielded leOps T) = true); rw [hw]; decide)]
        exact HK.out _ _ ⟨_, rfl, le_quiet hz HH.out (i := 10) (by decide) (by decide) (by decide) _ (fun v' e => by cases e)⟩
      | true =>
        rw [if_pos (by exact hw)]
        have v7 := h.val 7 _ (by decide) d7 rfl
        have v9 := h.val 9 _ (by decide) d9 rfl
        clear hK h hdep hdc ho hso hF1 hlen
        clear hw
        go_simp
        exact HK.out _ _ ⟨_, rfl, le_quiet hz HH.out (i := 10) (by decide) (by decide) (by decide) _ (fun v' e => by injection e with e; exact e.symm)⟩
    · obtain rfl : leOp11 = o := by injection hso
      have d4 : L 4 := hdep { on := 4, ground := .guard } (by simp) rfl
      have v4 := h.val 4 _ (by decide) d4 rfl
      have d10 : L 10 := hdep { on := 10, ground := .data } (by simp) rfl
      have x17 : L 17 → L 15 := fun h' => hdc 17 leOp17 h' rfl { on := 15, ground := .data } (by simp) rfl
      have x15 : L 15 → L 14 := fun h' => hdc 15 leOp15 h' rfl { on := 14, ground := .data } (by simp) rfl
      have y15 : L 15 → L 1 := fun h' => hdc 15 leOp15 h' rfl { on := 1, ground := .data } (by simp) rfl
      have x14 : L 14 → L 13 := fun h' => hdc 14 leOp14 h' rfl { on := 13, ground := .data } (by simp) rfl
      have x13 : L 13 → L 12 := fun h' => hdc 13 leOp13 h' rfl { on := 12, ground := .data } (by simp) rfl
      have x12 : L 12 → L 11 := fun h' => hdc 12 leOp12 h' rfl { on := 11, ground := .data } (by simp) rfl
      have x11 : L 11 → L 10 := fun h' => hdc 11 leOp11 h' rfl { on := 10, ground := .data } (by simp) rfl
      have x10 : L 10 → L 9 := fun h' => hdc 10 leOp10 h' rfl { on := 9, ground := .data } (by simp) rfl
      have y10 : L 10 → L 7 := fun h' => hdc 10 leOp10 h' rfl { on := 7, ground := .data } (by simp) rfl
      obtain rfl : W = w1 := h.p0 (fun h' => hni (x12 (x13 (x14 h'))))
      clear x17 x15 y15 x14 x13 x12 x11 x10 y10
      refine wpOp_step (o := leOp11) rfl fun K' hK => ?_
      have HK := hide hK
      have HH := hide h
      have hw : Region.wanted leOp11 (yielded leOps T) = g := le_wanted v4 rfl
      cases g with
      | false =>
        rw [if_neg (by show ¬ (Region.wanted leOp11 (yielded leOps T) = true); rw [hw]; decide)]
        exact HK.out _ _ ⟨_, rfl, le_quiet hz HH.out (i := 11) (by decide) (by decide) (by decide) _ (fun v' e => by cases e)⟩
      | true =>
        rw [if_pos (by exact hw)]
        have v10 := h.val 10 _ (by decide) d10 rfl
        clear hK h hdep hdc ho hso hF1 hlen
        clear hw
        go_simp
        exact HK.out _ _ ⟨_, rfl, le_quiet hz HH.out (i := 11) (by decide) (by decide) (by decide) _ (fun v' e => by injection e with e; exact e.symm)⟩
    · obtain rfl : leOp12 = o := by injection hso
      have d4 : L 4 := hdep { on := 4, ground := .guard } (by simp) rfl
      have v4 := h.val 4 _ (by decide) d4 rfl
      have d5 : L 5 := hdep { on := 5, ground := .data } (by simp) rfl
      have d11 : L 11 := hdep { on := 11, ground := .data } (by simp) rfl
      refine wpOp_step (o := leOp12) rfl fun K' hK => ?_
      have HK := hide hK
      have HH := hide h
      have hw : Region.wanted leOp12 (yielded leOps T) = g := le_wanted v4 rfl
      cases g with
      | false =>
        rw [if_neg (by show ¬ (Region.wanted leOp12 (yielded leOps T) = true); rw [hw]; decide)]
        exact HK.out _ _ ⟨_, rfl, le_quiet hz HH.out (i := 12) (by decide) (by decide) (by decide) _ (fun v' e => by cases e)⟩
      | true =>
        rw [if_pos (by exact hw)]
        have v5 := h.val 5 _ (by decide) d5 rfl
        have v11 := h.val 11 _ (by decide) d11 rfl
        clear hK h hdep hdc ho hso hF1 hlen
        clear hw
        go_simp
        exact HK.out _ _ ⟨_, rfl, le_quiet hz HH.out (i := 12) (by decide) (by decide) (by decide) _ (fun v' e => by injection e with e; exact e.symm)⟩
    · obtain rfl : leOp13 = o := by injection hso
      have d4 : L 4 := hdep { on := 4, ground := .data } (by simp) rfl
      have v4 := h.val 4 _ (by decide) d4 rfl
      have d12 : L 12 := hdep { on := 12, ground := .data } (by simp) rfl
      cases g with
      | false =>
        have hq' : q = false := by rw [← hq, hg]; rfl
        subst hq'
        refine wpOp_step (o := leOp13) rfl fun K' hK => ?_
        rw [if_pos (by rfl)]
        have HK := hide hK
        have HH := hide h
        clear hK h hdep hdc ho hso hF1 hlen hq
        go_simp
        exact HK.out _ _ ⟨_, rfl, le_quiet hz HH.out (i := 13) (by decide) (by decide) (by decide) _ (fun v' e => by injection e with e; exact e.symm)⟩
      | true =>
        have v12 := h.val 12 _ (by decide) d12 rfl
        have hq' : (zo == zp) = q := by rw [← hq, hg]; rfl
        rw [hq'] at v12
        refine wpOp_step (o := leOp13) rfl fun K' hK => ?_
        rw [if_pos (by rfl)]
        have HK := hide hK
        have HH := hide h
        clear hK h hdep hdc ho hso hF1 hlen hq hq'
        go_simp
        exact HK.out _ _ ⟨_, rfl, le_quiet hz HH.out (i := 13) (by decide) (by decide) (by decide) _ (fun v' e => by injection e with e; exact e.symm)⟩
    · obtain rfl : leOp14 = o := by injection hso
      have d13 : L 13 := hdep { on := 13, ground := .data } (by simp) rfl
      have v13 := h.val 13 _ (by decide) d13 rfl
      have x17 : L 17 → L 15 := fun h' => hdc 17 leOp17 h' rfl { on := 15, ground := .data } (by simp) rfl
      have x15 : L 15 → L 14 := fun h' => hdc 15 leOp15 h' rfl { on := 14, ground := .data } (by simp) rfl
      have y15 : L 15 → L 1 := fun h' => hdc 15 leOp15 h' rfl { on := 1, ground := .data } (by simp) rfl
      have x14 : L 14 → L 13 := fun h' => hdc 14 leOp14 h' rfl { on := 13, ground := .data } (by simp) rfl
      have x13 : L 13 → L 12 := fun h' => hdc 13 leOp13 h' rfl { on := 12, ground := .data } (by simp) rfl
      have x12 : L 12 → L 11 := fun h' => hdc 12 leOp12 h' rfl { on := 11, ground := .data } (by simp) rfl
      have x11 : L 11 → L 10 := fun h' => hdc 11 leOp11 h' rfl { on := 10, ground := .data } (by simp) rfl
      have x10 : L 10 → L 9 := fun h' => hdc 10 leOp10 h' rfl { on := 9, ground := .data } (by simp) rfl
      have y10 : L 10 → L 7 := fun h' => hdc 10 leOp10 h' rfl { on := 7, ground := .data } (by simp) rfl
      have n15 : ¬ L 15 := fun h' => hni (x15 h')
      have n17 : ¬ L 17 := fun h' => n15 (x17 h')
      obtain rfl : W = w1 := h.p0 hni
      clear x17 x15 y15 x14 x13 x12 x11 x10 y10
      refine wpOp_step (o := leOp14) rfl fun K' hK => ?_
      rw [if_pos (by rfl)]
      have HK := hide hK
      have HH := hide h
      clear hK h hdep hdc ho hso hF1 hlen
      go_simp
      exact HK.out _ _ ⟨_, rfl, le_build hz HH.out n15 n17 _ (fun v' e => by injection e with e; exact e.symm)⟩
    · obtain rfl : leOp15 = o := by injection hso
      have d1 : L 1 := hdep { on := 1, ground := .data } (by simp) rfl
      have v1 := h.val 1 _ (by decide) d1 rfl
      have d14 : L 14 := hdep { on := 14, ground := .data } (by simp) rfl
      have v14 := h.val 14 _ (by decide) d14 rfl
      have x17 : L 17 → L 15 := fun h' => hdc 17 leOp17 h' rfl { on := 15, ground := .data } (by simp) rfl
      have x15 : L 15 → L 14 := fun h' => hdc 15 leOp15 h' rfl { on := 14, ground := .data } (by simp) rfl
      have y15 : L 15 → L 1 := fun h' => hdc 15 leOp15 h' rfl { on := 1, ground := .data } (by simp) rfl
      have x14 : L 14 → L 13 := fun h' => hdc 14 leOp14 h' rfl { on := 13, ground := .data } (by simp) rfl
      have x13 : L 13 → L 12 := fun h' => hdc 13 leOp13 h' rfl { on := 12, ground := .data } (by simp) rfl
      have x12 : L 12 → L 11 := fun h' => hdc 12 leOp12 h' rfl { on := 11, ground := .data } (by simp) rfl
      have x11 : L 11 → L 10 := fun h' => hdc 11 leOp11 h' rfl { on := 10, ground := .data } (by simp) rfl
      have x10 : L 10 → L 9 := fun h' => hdc 10 leOp10 h' rfl { on := 9, ground := .data } (by simp) rfl
      have y10 : L 10 → L 7 := fun h' => hdc 10 leOp10 h' rfl { on := 7, ground := .data } (by simp) rfl
      have n17 : ¬ L 17 := fun h' => hni (x17 h')
      obtain rfl : W = w1.alloc (.cells #[.bool q] 4) := h.p1 d14 hni
      clear x17 x15 y15 x14 x13 x12 x11 x10 y10
      obtain ⟨l0, hl0, hv0, hv1, hv2⟩ := info_parts infoBo
      have hown := hF1.own
      rw [hlen] at hown
      have hlt : B < w1.heap.size := (Array.getElem?_eq_some_iff.1 hF1.box).1
      refine wpOp_step (o := leOp15) rfl fun K' hK => ?_
      refine step_append_lies _ rfl (.tmp 81) (.tmp 94) 28 rfl (B + 1) 4 l0 (.bool false) 1 1 Tryd.underlying28 hl0 hv0 hv1 hv2 rfl (by decide) vE i0 vals (by show T.getD 81 undef = vE; rw [Array.getD_eq_getD_getElem?, v1]; rfl) (World.ownsRow.alloc (w := w1) hown _) ⟨w1.heap.size, 0, none⟩ 1 1 [.bool q] (by show T.getD 94 undef = _; rw [Array.getD_eq_getD_getElem?, v14]; rfl) rfl (one_new w1 _ _) (fun u hu => by simp at hu; subst hu; rfl) (by omega) (by unfold maxLen; omega) (by omega) (by simp; omega) (w1.heap.size + 1) (by simp) ?_
      intro g6 c6 w6 hown6 hgrow6 hat6 hlt6
      have hgr : (w1.alloc (.cells #[.bool q] 4)).grownBy w6 vE.ownBlock := ⟨hgrow6.os, hgrow6.tape, hgrow6.output, hgrow6.size, hgrow6.block⟩
      have hp := fld_push (u := .bool q) hF1 (by rw [hlen]; exact hown6) hgr
      exact hK _ _ ⟨_, rfl, le_app hz h d14 n17 _ (fun v' e => by cases e) hp⟩
    · obtain rfl : leOp16 = o := by injection hso
      refine wpOp_step (o := leOp16) rfl fun K' hK => ?_
      rw [if_pos (by rfl)]
      have HK := hide hK
      have HH := hide h
      clear hK h hdep hdc ho hso hF1 hlen
      go_simp
      exact HK.out _ _ ⟨_, rfl, le_quiet hz HH.out (i := 16) (by decide) (by decide) (by decide) _ (fun v' e => by injection e with e; exact e.symm)⟩
    · obtain rfl : leOp17 = o := by injection hso
      have d16 : L 16 := hdep { on := 16, ground := .data } (by simp) rfl
      have v16 := h.val 16 _ (by decide) d16 rfl
      have d15 : L 15 := hdep { on := 15, ground := .data } (by simp) rfl
      have x17 : L 17 → L 15 := fun h' => hdc 17 leOp17 h' rfl { on := 15, ground := .data } (by simp) rfl
      have x15 : L 15 → L 14 := fun h' => hdc 15 leOp15 h' rfl { on := 14, ground := .data } (by simp) rfl
      have y15 : L 15 → L 1 := fun h' => hdc 15 leOp15 h' rfl { on := 1, ground := .data } (by simp) rfl
      have x14 : L 14 → L 13 := fun h' => hdc 14 leOp14 h' rfl { on := 13, ground := .data } (by simp) rfl
      have x13 : L 13 → L 12 := fun h' => hdc 13 leOp13 h' rfl { on := 12, ground := .data } (by simp) rfl
      have x12 : L 12 → L 11 := fun h' => hdc 12 leOp12 h' rfl { on := 11, ground := .data } (by simp) rfl
      have x11 : L 11 → L 10 := fun h' => hdc 11 leOp11 h' rfl { on := 10, ground := .data } (by simp) rfl
      have x10 : L 10 → L 9 := fun h' => hdc 10 leOp10 h' rfl { on := 9, ground := .data } (by simp) rfl
      have y10 : L 10 → L 7 := fun h' => hdc 10 leOp10 h' rfl { on := 7, ground := .data } (by simp) rfl
      have d14 : L 14 := x15 d15
      obtain ⟨v, u93, hbx, hfl⟩ := h.p2 d15 hni
      obtain ⟨a3, c3, rfl⟩ := owns_sl hfl.own
      generalize (vals ++ [Value.bool q]).length = n3 at u93 hfl
      obtain ⟨⟨z0, z1, z2, z3⟩, zf⟩ := box_cells hbx
      clear x17 x15 y15 x14 x13 x12 x11 x10 y10
      refine wpOp_step (o := leOp17) rfl fun K' hK => ?_
      rw [if_pos (by rfl)]
      have HK := hide hK
      have HH := hide h
      have HFL := hide hfl
      clear hK h hdep hdc ho hso hF1 hlen hfl
      go_simp
      exact HK.out _ _ ⟨_, rfl, le_store HH.out d14 d15 ⟨_, HFL.out⟩⟩
  · rintro L ac W hall ⟨T, rfl, h⟩
    obtain ⟨v, hv⟩ := h.p3 (hall 17 (by decide))
    exact hQ T W v h.size h.same (by rw [hq]; exact hv)
theorem tail_lit {T0 T : Array Value} (hz : 100 ≤ T0.size) (hs : T.size = T0.size) (hd : ∀ i : Nat, i < 80 ∨ 96 < i → T[i]? = T0[i]?) : ∃ x78 x79 x80 x81 x82 x83 x84 x85 x86 x87 x88 x89 x90 x91 x92 x93 x94 : Value, T = ((((((((((((((((T0.setIfInBounds 80 x78).setIfInBounds 81 x79).setIfInBounds 82 x80).setIfInBounds 83 x81).setIfInBounds 84 x82).setIfInBounds 85 x83).setIfInBounds 86 x84).setIfInBounds 87 x85).setIfInBounds 88 x86).setIfInBounds 89 x87).setIfInBounds 90 x88).setIfInBounds 91 x89).setIfInBounds 92 x90).setIfInBounds 93 x91).setIfInBounds 94 x92).setIfInBounds 95 x93).setIfInBounds 96 x94 := by
  have hg : ∀ k : Nat, k < 100 → T[k]? = some (T.getD k undef) := fun k hk => by rw [Array.getD_eq_getD_getElem?, Array.getElem?_eq_getElem (by omega)]; rfl
  refine ⟨T.getD 80 undef, T.getD 81 undef, T.getD 82 undef, T.getD 83 undef, T.getD 84 undef, T.getD 85 undef, T.getD 86 undef, T.getD 87 undef, T.getD 88 undef, T.getD 89 undef, T.getD 90 undef, T.getD 91 undef, T.getD 92 undef, T.getD 93 undef, T.getD 94 undef, T.getD 95 undef, T.getD 96 undef, Array.ext_getElem? fun i => ?_⟩
  by_cases e94 : i = 96
  · subst e94; rw [set_hit _ (by (try simp); omega)]; exact hg _ (by decide)
  rw [set_miss _ (Ne.symm e94)]
  by_cases e93 : i = 95
  · subst e93; rw [set_hit _ (by (try simp); omega)]; exact hg _ (by decide)
  rw [set_miss _ (Ne.symm e93)]
  by_cases e92 : i = 94
  · subst e92; rw [set_hit _ (by (try simp); omega)]; exact hg _ (by decide)
  rw [set_miss _ (Ne.symm e92)]
  by_cases e91 : i = 93
  · subst e91; rw [set_hit _ (by (try simp); omega)]; exact hg _ (by decide)
  rw [set_miss _ (Ne.symm e91)]
  by_cases e90 : i = 92
  · subst e90; rw [set_hit _ (by (try simp); omega)]; exact hg _ (by decide)
  rw [set_miss _ (Ne.symm e90)]
  by_cases e89 : i = 91
  · subst e89; rw [set_hit _ (by (try simp); omega)]; exact hg _ (by decide)
  rw [set_miss _ (Ne.symm e89)]
  by_cases e88 : i = 90
  · subst e88; rw [set_hit _ (by (try simp); omega)]; exact hg _ (by decide)
  rw [set_miss _ (Ne.symm e88)]
  by_cases e87 : i = 89
  · subst e87; rw [set_hit _ (by (try simp); omega)]; exact hg _ (by decide)
  rw [set_miss _ (Ne.symm e87)]
  by_cases e86 : i = 88
  · subst e86; rw [set_hit _ (by (try simp); omega)]; exact hg _ (by decide)
  rw [set_miss _ (Ne.symm e86)]
  by_cases e85 : i = 87
  · subst e85; rw [set_hit _ (by (try simp); omega)]; exact hg _ (by decide)
  rw [set_miss _ (Ne.symm e85)]
  by_cases e84 : i = 86
  · subst e84; rw [set_hit _ (by (try simp); omega)]; exact hg _ (by decide)
  rw [set_miss _ (Ne.symm e84)]
  by_cases e83 : i = 85
  · subst e83; rw [set_hit _ (by (try simp); omega)]; exact hg _ (by decide)
  rw [set_miss _ (Ne.symm e83)]
  by_cases e82 : i = 84
  · subst e82; rw [set_hit _ (by (try simp); omega)]; exact hg _ (by decide)
  rw [set_miss _ (Ne.symm e82)]
  by_cases e81 : i = 83
  · subst e81; rw [set_hit _ (by (try simp); omega)]; exact hg _ (by decide)
  rw [set_miss _ (Ne.symm e81)]
  by_cases e80 : i = 82
  · subst e80; rw [set_hit _ (by (try simp); omega)]; exact hg _ (by decide)
  rw [set_miss _ (Ne.symm e80)]
  by_cases e79 : i = 81
  · subst e79; rw [set_hit _ (by (try simp); omega)]; exact hg _ (by decide)
  rw [set_miss _ (Ne.symm e79)]
  by_cases e78 : i = 80
  · subst e78; rw [set_hit _ (by (try simp); omega)]; exact hg _ (by decide)
  rw [set_miss _ (Ne.symm e78)]
  exact hd i (by omega)
end Go.Proofs.YtgbmemkoggogdaaDoor

/- word.alike: contract, whatever parts the letters. -/
namespace Go.Proofs.YtgbmemkoggogdaaDoor
open Go.RowKit

abbrev ouO (b : Int) (a : Option Addr) (n cap : Nat) (ao : Option Addr) (no co : Nat) : Obj := .cells #[.int .i64 b, .slice a n cap, .slice ao no co] 25
abbrev zAu : Obj := .cells #[.int .i64 0, .int .i64 0, .slice none 0 0, .slice none 0 0] 30
/-- Where they may be read along one another. -/
def AlkOk (w : World) (b tt : Int) (LN : List (List Int)) (LE : List Bool) (LK : Nat) (e : Ending) (w' : World) : Prop := (LK ≤ 80 → PairR w b tt LN LE 0 e w') ∧ (80 < LK → PairR w 0 0 [] [] 3 e w')
set_option maxHeartbeats 16000000 in
set_option maxRecDepth 8000 in
theorem alike_ok (f : FuncId) (cs : Array Value) (u v : Nat → Nat) (tt : Int) (kk : Nat) (b : Int) (a : Option Addr) (n cap : Nat) (ao : Option Addr) (no co : Nat) (N : List (List Int)) (O : List Int) (a2 : Option Addr) (n2 cap2 : Nat) (ao2 : Option Addr) (no2 co2 : Nat) (N2 : List (List Int)) (O2 : List Int) (w : World)
    (hs : Sl2 w a n N) (ho : Sl w ao no O) (hs2 : Sl2 w a2 n2 N2) (ho2 : Sl w ao2 no2 O2) (hC : outC b N O = 0) (hC2 : outC b N2 O2 = 0)
    (hen : ∀ (args : Array Value) (W : World), (callFunc f args).run Tryd.prog W = .ok (.enter f args) W)
    (hF : ∀ (W : World) (l : Nat), Below w.heap.size w W → l < kk → Calls Tryd.prog f (#[.int .i64 (l : Int)] ++ cs) W (fun e W' => e = .returned (.tuple #[.int .i64 ((u l : Nat) : Int), .int .i64 ((v l : Nat) : Int)]) ∧ Below W.heap.size W W'))
    (hM : codeM b tt = 0) (hmI : manyU b tt = (kk : Int)) (hu : ∀ l, l < kk → u l < (kindsI b).toNat) (hv : ∀ l, l < kk → v l < (kindsI b).toNat)
    (hmem : ∀ i, ∀ s ∈ outG (dUV u v (rdN b N) (rdN b N2)) kk 128 i, 0 ≤ spA s ∧ spA s < ((rdN b N).length : Int) ∧ 0 ≤ spB s ∧ spB s < ((rdN b N2).length : Int) ∧ s < 4096)
    (hLG : GoodN kk (gN (dUV u v (rdN b N) (rdN b N2)) kk (outG (dUV u v (rdN b N) (rdN b N2)) kk 128 spotM)).length (gN (dUV u v (rdN b N) (rdN b N2)) kk (outG (dUV u v (rdN b N) (rdN b N2)) kk 128 spotM))) (hLn : (gN (dUV u v (rdN b N) (rdN b N2)) kk (outG (dUV u v (rdN b N) (rdN b N2)) kk 128 spotM)).length ≤ 4096) :
    Calls Tryd.prog 17 #[.agg #[.int .i64 b, .slice a n cap, .slice ao no co], .agg #[.int .i64 b, .slice a2 n2 cap2, .slice ao2 no2 co2], .int .i64 tt, fnV f cs] w (AlkOk w b tt (leastN (gN (dUV u v (rdN b N) (rdN b N2)) kk (outG (dUV u v (rdN b N) (rdN b N2)) kk 128 spotM)) (gE (saidB (rdO b N O) (rdO b N2 O2)) (outG (dUV u v (rdN b N) (rdN b N2)) kk 128 spotM)) kk) (leastE (gN (dUV u v (rdN b N) (rdN b N2)) kk (outG (dUV u v (rdN b N) (rdN b N2)) kk 128 spotM)) (gE (saidB (rdO b N O) (rdO b N2 O2)) (outG (dUV u v (rdN b N) (rdN b N2)) kk 128 spotM)) kk) (leastK (gN (dUV u v (rdN b N) (rdN b N2)) kk (outG (dUV u v (rdN b N) (rdN b N2)) kk 128 spotM)) (gE (saidB (rdO b N O) (rdO b N2 O2)) (outG (dUV u v (rdN b N) (rdN b N2)) kk 128 spotM)) kk)) := by
  have hB0 := below_fourO w (ouO b a n cap ao no co) (ouO b a2 n2 cap2 ao2 no2 co2) (.cells #[fnV f cs] 54) zAu
  have HB0 := hide hB0
  obtain ⟨hx1, hx2, hx0, hx3⟩ := four_at w (ouO b a n cap ao no co) (ouO b a2 n2 cap2 ao2 no2 co2) (.cells #[fnV f cs] 54) zAu (Below.refl _ _)
  have HX0 := hide hx0
  have HX1 := hide hx1
  have HX2 := hide hx2
  have HX3 := hide hx3
  generalize hwb : (((w.alloc (ouO b a n cap ao no co)).alloc (ouO b a2 n2 cap2 ao2 no2 co2)).alloc (.cells #[fnV f cs] 54)).alloc zAu = wb at hB0 HB0 HX0 HX1 HX2 HX3
  clear hx0 hx1 hx2 hx3
  have HC1 := hide (word_check_any b a n cap ao no co N O wb (sl2_below hs hB0) (sl_below ho hB0))
  have HC2 := hide (fun W (h : Below wb.heap.size wb W) => word_check_any b a2 n2 cap2 ao2 no2 co2 N2 O2 W (sl2_below (sl2_below hs2 hB0) h) (sl_below (sl_below ho2 hB0) h))
  have HSZ : Hid (w.heap.size + 3 < wb.heap.size) := (Array.getElem?_eq_some_iff.1 HX3.out).1
  obtain ⟨⟨p0, p1, p2⟩, -⟩ := box3_cells HX1.out
  unfold outV at HC1 HC2
  rw [hC, errV_zero] at HC1
  rw [hC2, errV_zero] at HC2
  obtain ⟨h1, h2, -⟩ := outC_zero hC
  obtain ⟨k1, k2, k3⟩ := kinds_nat h1 h2
  obtain ⟨hG, hn42, -⟩ := rd_all hC
  obtain ⟨hG2, hn42', -⟩ := rd_all hC2
  have HMC := hide (fun W => many_u b tt W)
  rw [hM, errV_zero, hmI] at HMC
  have HO1 := hide (fun W (h : Below wb.heap.size wb W) => ofAllWords_any b a n cap ao no co N O W (sl2_below (sl2_below hs hB0) h) (sl_below (sl_below ho hB0) h) hC)
  have HO2 := hide (fun W (h : Below wb.heap.size wb W) => ofAllWords_any b a2 n2 cap2 ao2 no2 co2 N2 O2 W (sl2_below (sl2_below hs2 hB0) h) (sl_below (sl_below ho2 hB0) h) hC2)
  unfold outV at HO1 HO2
  have hb1 : (b == b) = true := by simp
  have hkk : kk ≤ 36 := hLG.2.2.2.1
  have hk1 : 1 ≤ kk := hLG.2.2.2.2.1
  have HME : Hid (∀ (W : World) (X K2 Y : Nat) (aN : Option Addr) (cN : Nat) (aO : Option Addr) (cO : Nat) (aN2 : Option Addr) (cN2 : Nat) (aO2 : Option Addr) (cO2 : Nat), Below wb.heap.size wb W → W.heap[X]? = some (.cells #[.int .i64 b, .slice aN (rdL b N).length cN, .slice aO (rdL b N).length cO] 25) → W.heap[K2]? = some (.cells #[fnV f cs] 54) → W.heap[Y]? = some (.cells #[.int .i64 b, .slice aN2 (rdL b N2).length cN2, .slice aO2 (rdL b N2).length cO2] 25) → Sl2 W aN (rdL b N).length (rdN b N) → Sl2 W aN2 (rdL b N2).length (rdN b N2) → Calls Tryd.prog 37 #[.agg #[.int .i64 0, .int .i64 0], .int .i64 (kk : Int), .func (.func 38) #[] #[.pointer (some ⟨K2, 0, none⟩), .pointer (some ⟨X, 0, none⟩), .pointer (some ⟨Y, 0, none⟩)]] W (MeetR W (outG (dUV u v (rdN b N) (rdN b N2)) kk 128 spotM) (gN (dUV u v (rdN b N) (rdN b N2)) kk (outG (dUV u v (rdN b N) (rdN b N2)) kk 128 spotM)))) := fun W X K2 Y aN cN aO cO aN2 cN2 aO2 cO2 g0 g1 g2 g3 g4 g5 => by
    have hsp : spU 128 = .agg #[.int .i64 0, .int .i64 0] := rfl
    have h := meet_any 38 #[.pointer (some ⟨K2, 0, none⟩), .pointer (some ⟨X, 0, none⟩), .pointer (some ⟨Y, 0, none⟩)] kk 128 (dUV u v (rdN b N) (rdN b N2)) W (by decide) hk1 hkk (enters_of Tryd.func38 (by kernel_rfl) rfl) (fun i x hx => (hmem i x hx).2.2.2.2) (fun W' s l i hW hsm hl => by
      have hm := hmem i s hsm
      have hG' := hG
      have hG2' := hG2
      rw [rdN_len] at hG' hm
      rw [rdN_len] at hG2' hm
      exact likeStep_any f cs u v b aN (rdL b N).length cN aO (rdL b N).length cO b aN2 (rdL b N2).length cN2 aO2 (rdL b N2).length cO2 (rdN b N) (rdN b N2) (kindsI b).toNat K2 X Y s l W' hen (fun W2 hW2 => hF W2 l (below_step hB0 (below_step g0 (below_step hW hW2))) hl) ((hW.block _ (Array.getElem?_eq_some_iff.1 g2).1).trans g2) ((hW.block _ (Array.getElem?_eq_some_iff.1 g1).1).trans g1) ((hW.block _ (Array.getElem?_eq_some_iff.1 g3).1).trans g3) (sl2_below g4 hW) (sl2_below g5 hW) hG' hG2' (by rw [← rdN_len]; exact hn42) (by rw [← rdN_len]; exact hn42') ⟨hm.1, hm.2.1⟩ ⟨hm.2.2.1, hm.2.2.2.1⟩ (hu l hl) (hv l hl))
    rw [hsp] at h
    exact h
  have HLN : Hid ((gN (dUV u v (rdN b N) (rdN b N2)) kk (outG (dUV u v (rdN b N) (rdN b N2)) kk 128 spotM)).length = (outG (dUV u v (rdN b N) (rdN b N2)) kk 128 spotM).length) := gN_len _ _ _
  have HLM : Hid (∀ s, s ∈ outG (dUV u v (rdN b N) (rdN b N2)) kk 128 spotM → (0 ≤ spA s ∧ spA s < ((rdL b N).length : Int)) ∧ 0 ≤ spB s ∧ spB s < ((rdL b N2).length : Int)) := fun s hsm => by
    have hm := hmem _ _ hsm
    rw [rdN_len, rdN_len] at hm
    exact ⟨⟨hm.1, hm.2.1⟩, hm.2.2.1, hm.2.2.2.1⟩
  have HEL : Hid ((gE (saidB (rdO b N O) (rdO b N2 O2)) (outG (dUV u v (rdN b N) (rdN b N2)) kk 128 spotM)).length = (outG (dUV u v (rdN b N) (rdN b N2)) kk 128 spotM).length) := gE_len _ _
  have HET : Hid (∀ i, i < (outG (dUV u v (rdN b N) (rdN b N2)) kk 128 spotM).length → (gE (saidB (rdO b N O) (rdO b N2 O2)) (outG (dUV u v (rdN b N) (rdN b N2)) kk 128 spotM)).take (i + 1) = (gE (saidB (rdO b N O) (rdO b N2 O2)) (outG (dUV u v (rdN b N) (rdN b N2)) kk 128 spotM)).take i ++ [saidB (rdO b N O) (rdO b N2 O2) ((outG (dUV u v (rdN b N) (rdN b N2)) kk 128 spotM).getD i 0)]) := fun i hi => by
    have e : (gE (saidB (rdO b N O) (rdO b N2 O2)) (outG (dUV u v (rdN b N) (rdN b N2)) kk 128 spotM)).getD i false = saidB (rdO b N O) (rdO b N2 O2) ((outG (dUV u v (rdN b N) (rdN b N2)) kk 128 spotM).getD i 0) := gE_get hi
    rw [← e]
    exact take_at _ _ false (by rw [gE_len]; exact hi)
  have HSB : Hid (∀ s, saidB (rdO b N O) (rdO b N2 O2) s = (decide ((rdO b N O).getD (spA s).toNat 0 ≠ -1) && decide ((rdO b N O).getD (spA s).toNat 0 = (rdO b N2 O2).getD (spB s).toNat 0))) := fun s => rfl
  have hLn' : (outG (dUV u v (rdN b N) (rdN b N2)) kk 128 spotM).length ≤ 4096 := by rw [← HLN.out]; exact hLn
  have HLW := hide (fun aN cN aE cE W (q1 : Sl2 W aN (gN (dUV u v (rdN b N) (rdN b N2)) kk (outG (dUV u v (rdN b N) (rdN b N2)) kk 128 spotM)).length (gN (dUV u v (rdN b N) (rdN b N2)) kk (outG (dUV u v (rdN b N) (rdN b N2)) kk 128 spotM))) (q2 : SlB W aE (gN (dUV u v (rdN b N) (rdN b N2)) kk (outG (dUV u v (rdN b N) (rdN b N2)) kk 128 spotM)).length (gE (saidB (rdO b N O) (rdO b N2 O2)) (outG (dUV u v (rdN b N) (rdN b N2)) kk 128 spotM))) => leastw_any b tt aN (gN (dUV u v (rdN b N) (rdN b N2)) kk (outG (dUV u v (rdN b N) (rdN b N2)) kk 128 spotM)).length cN _ (gN (dUV u v (rdN b N) (rdN b N2)) kk (outG (dUV u v (rdN b N) (rdN b N2)) kk 128 spotM)) aE cE (gE (saidB (rdO b N O) (rdO b N2 O2)) (outG (dUV u v (rdN b N) (rdN b N2)) kk 128 spotM)) W q1 q2 hLG (autoM_good hM (by rw [hmI, Int.toNat_natCast]; exact hLG) (by have := hLG.2.2.1; omega)))
  unfold LeastR LeastU at HLW
  unfold MeetR at HME
  clear hs ho hs2 ho2 hC hC2 hF hen h1 h2 hM hG hG2 hLG hmI hn42 hn42' hLn hB0 k1 k2 k3 hmem hu hv
  generalize gN (dUV u v (rdN b N) (rdN b N2)) kk (outG (dUV u v (rdN b N) (rdN b N2)) kk 128 spotM) = NW at *
  generalize gE (saidB (rdO b N O) (rdO b N2 O2)) (outG (dUV u v (rdN b N) (rdN b N2)) kk 128 spotM) = EW at *
  generalize leastN NW EW kk = LN at *
  generalize leastE NW EW kk = LE at *
  generalize leastK NW EW kk = LK at *
  generalize outG (dUV u v (rdN b N) (rdN b N2)) kk 128 spotM = LW at *
  generalize rdN b N = RN at *
  generalize rdO b N O = RO at *
  generalize rdN b N2 = RN2 at *
  generalize rdO b N2 O2 = RO2 at *
  generalize (rdL b N).length = n1 at *
  generalize (rdL b N2).length = m1 at *
  go_enter Tryd.func17, Tryd.ntmps17
  go_wp2_with fail
  clear hwb p0 p1 p2
  refine HC1.out.mono ?_
  rintro e w1 ⟨rfl, hbw1⟩
  obtain ⟨⟨p0, p1, p2⟩, -⟩ := box3_cells ((hbw1.block _ (Array.getElem?_eq_some_iff.1 HX2.out).1).trans HX2.out)
  have HB1 := hide hbw1
  clear hbw1
  go_wp2_with fail
  clear p0 p1 p2
  refine (HC2.out w1 HB1.out).mono ?_
  rintro e w2 ⟨rfl, hbw2⟩
  have HB2 := hide (below_step HB1.out hbw2)
  clear hbw2 HB1
  obtain ⟨⟨p0, p1, p2⟩, -⟩ := box3_cells ((HB2.out.block _ (Array.getElem?_eq_some_iff.1 HX1.out).1).trans HX1.out)
  obtain ⟨⟨q0, q1, q2⟩, -⟩ := box3_cells ((HB2.out.block _ (Array.getElem?_eq_some_iff.1 HX2.out).1).trans HX2.out)
  go_wp2_with (go_at_call 35; refine (HMC.out _).mono ?_; rintro e w' ⟨rfl, hw'⟩; rw [hw']; clear hw' w')
  have HSS : Hid (∀ W, Below w2.heap.size w2 W → (W.cell? ⟨w.heap.size, 0, none⟩ = some (.int .i64 b) ∧ W.cell? ⟨w.heap.size, 1, none⟩ = some (.slice a n cap) ∧ W.cell? ⟨w.heap.size, 2, none⟩ = some (.slice ao no co) ∧ W.cell? ⟨w.heap.size + 1, 0, none⟩ = some (.int .i64 b) ∧ W.cell? ⟨w.heap.size + 1, 1, none⟩ = some (.slice a2 n2 cap2) ∧ W.cell? ⟨w.heap.size + 1, 2, none⟩ = some (.slice ao2 no2 co2))) := fun W h => by
    obtain ⟨⟨e0, e1, e2⟩, -⟩ := box3_cells (((below_step HB2.out h).block _ (Array.getElem?_eq_some_iff.1 HX1.out).1).trans HX1.out)
    obtain ⟨⟨f0, f1, f2⟩, -⟩ := box3_cells (((below_step HB2.out h).block _ (Array.getElem?_eq_some_iff.1 HX2.out).1).trans HX2.out)
    exact ⟨e0, e1, e2, f0, f1, f2⟩
  have HR2 := hide (Below.refl w2.heap.size w2)
  go_cut [14, 15] (fun s10 s11 wx => ∃ X Y aN cN aO cO aN2 cN2 aO2 cO2, s10 = .pointer (some ⟨X, 0, none⟩) ∧ s11 = .pointer (some ⟨Y, 0, none⟩) ∧ BothAt b n1 RN RO m1 RN2 RO2 X Y aN cN aO cO aN2 cN2 aO2 cO2 wx ∧ Below w2.heap.size w2 wx)
  case first =>
    clear HMC HC1 HC2 hb1 HME HLN HLM HEL HET HSB HLW
    refine like_region (p1 := w.heap.size) (p2 := w.heap.size + 1) (show 100 ≤ 102 by decide) rfl rfl HSS.out (fun W h => HO1.out W (below_step HB2.out h)) (fun W h => HO2.out W (below_step HB2.out h)) ?_
    intro X Y aN cN aO cO aN2 cN2 aO2 cO2 W hba hbw
    simp only [List.setIfInBounds_toArray, List.set_cons_zero, List.set_cons_succ]
    have HBA0 := hide hba
    have HBW0 := hide hbw
    clear hba hbw
    go_wp2_with fail
    go_meet
    case rel => exact ⟨X, Y, aN, cN, aO, cO, aN2, cN2, aO2, cO2, rfl, rfl, HBA0.out, HBW0.out⟩
  case rest =>
    obtain ⟨X, Y, aN, cN, aO, cO, aN2, cN2, aO2, cO2, rfl, rfl, hba, hbc⟩ := hcut
    obtain ⟨w5, hw5⟩ : ∃ w5 : World, w5 = wc := ⟨_, rfl⟩
    rw [← hw5] at hba hbc ⊢
    have HBA := hide hba
    have HB5 := hide (below_step HB2.out hbc)
    obtain ⟨p0, p1, p2, -⟩ := HSS.out w5 hbc
    clear hw5 hba hbc wc HSS HR2
    clear p0 p1 p2
    obtain ⟨g1, g2, g3, g4, g5, g6⟩ := HBA.out
    have HX6 := hide g1
    have HY6 := hide g2
    have HSO1 := hide g4
    have HSO2 := hide g6
    have HMM := hide (HME.out w5 X (w.heap.size + 2) Y aN cN aO cO aN2 cN2 aO2 cO2 HB5.out HX6.out ((HB5.out.block _ (Array.getElem?_eq_some_iff.1 HX0.out).1).trans HX0.out) HY6.out g3 g5)
    have HB6 := hide HB5.out
    clear g1 g2 g3 g4 g5 g6 HBA HB5 HME HMC HC1 HC2 HO1 HO2
    go_wp2_with fail
    refine HMM.out.mono ?_
    rintro e w7 ⟨gq, cq, aW, cW, rfl, hnew, hb7⟩
    obtain ⟨hq7, hsw⟩ := hnew w7 (fun _ _ _ => rfl)
    rw [HLN.out] at hsw ⊢
    have HQ7 := hide hq7
    have HSW := hide hsw
    have HB7 := hide (below_step HB6.out hb7)
    have HX7 := hide ((hb7.block _ (Array.getElem?_eq_some_iff.1 HX6.out).1).trans HX6.out)
    have HY7 := hide ((hb7.block _ (Array.getElem?_eq_some_iff.1 HY6.out).1).trans HY6.out)
    have HP7 := hide (sl_below HSO1.out hb7)
    have HP72 := hide (sl_below HSO2.out hb7)
    obtain ⟨⟨p0, p1, p2⟩, -⟩ := box3_cells ((HB7.out.block _ (Array.getElem?_eq_some_iff.1 HX1.out).1).trans HX1.out)
    clear hnew hq7 hsw hb7 HMM HB6 HX6 HY6 HSO1 HSO2
    have HFLD : Hid (FldI w7 w7.heap.size 3 (fun v => .cells #[.int .i64 b, .int .i64 tt, .slice aW LW.length cW, v] 30) 4 [] (.slice none 0 0) (w7.alloc (.cells #[.int .i64 b, .int .i64 tt, .slice aW LW.length cW, .slice none 0 0] 30))) := ⟨heap_alloc_last _ _, World.ownsRow_nil _ _ _ _, (Below.refl _ _).alloc (Nat.le_refl _) _, Nat.le_refl _, put4 _ _ _ _ _⟩
    go_wp2
    clear p0 p1 p2
    generalize w7.alloc (.cells #[.int .i64 b, .int .i64 tt, .slice aW LW.length cW, .slice none 0 0] 30) = w8 at HFLD ⊢
    obtain ⟨l0, hl0, hv0, hv1, hv2⟩ := info_parts infoBo
    go_loopw [70] (fun iv wx => ∃ (i : Nat) (vE : Value), i ≤ LW.length ∧ iv = .int .i64 i ∧ FldI w7 w7.heap.size 3 (fun v => .cells #[.int .i64 b, .int .i64 tt, .slice aW LW.length cW, v] 30) 4 ((EW.take i).map Value.bool) vE wx) (fun iv _ => LW.length - (intOf iv).toNat)
    case atStart => exact ⟨0, .slice none 0 0, by omega, rfl, HFLD.out⟩
    case round =>
      obtain ⟨i, vE, hi, rfl, hfld⟩ := hrel
      have HFL := hide hfld
      have HTLi : Hid (((EW.take i).map Value.bool).length = i) := by show _ = _; rw [List.length_map, List.length_take, HEL.out]; omega
      have HBR := hide hfld.bel
      clear hfld HFLD
      by_cases hlt : i < LW.length
      · have hlti : (i : Int) < (LW.length : Int) := by omega
        obtain ⟨c0, c1⟩ := queW_at (queW_kept HQ7.out (HBR.out.block _ (queW_lt HQ7.out))) i hlt
        have hmm := HLM.out _ (getN_mem hlt)
        have HTKi := hide (HET.out i hlt)
        have HSBi := hide (HSB.out (LW.getD i 0))
        generalize LW.getD i 0 = s at c0 c1 hmm HTKi HSBi
        obtain ⟨A, hA⟩ : ∃ A : Nat, spA s = (A : Int) := ⟨(spA s).toNat, by omega⟩
        obtain ⟨D, hD⟩ : ∃ D : Nat, spB s = (D : Int) := ⟨(spB s).toNat, by omega⟩
        rw [hA, hD] at hmm
        rw [hA] at c0 HSBi
        rw [hD] at c1 HSBi
        rw [Int.toNat_natCast, Int.toNat_natCast] at HSBi
        clear hA hD
        have HWP := hide ((Below.refl wr.heap.size wr).alloc (Nat.le_refl _) (.cells #[.int .i64 (A : Int), .int .i64 (D : Int)] 81))
        have HT7 := hide (heap_alloc_last wr (.cells #[.int .i64 (A : Int), .int .i64 (D : Int)] 81))
        go_upto_region 18 with fail
        clear c0 c1
        obtain ⟨wp, hwp⟩ : ∃ wp, wr.alloc (.cells #[.int .i64 (A : Int), .int .i64 (D : Int)] 81) = wp := ⟨_, rfl⟩
        rw [hwp] at HWP HT7 ⊢
        clear hwp
        obtain ⟨X7, hX7⟩ : ∃ X, X = wr.heap.size := ⟨_, rfl⟩
        rw [← hX7] at HT7 ⊢
        clear hX7
        have HF1 := hide (fld_below HFL.out HWP.out)
        have HB2r := hide (below_step HBR.out HWP.out)
        obtain ⟨⟨t0, t1⟩, -⟩ := box2_cells HT7.out
        obtain ⟨⟨x0, x1, x2⟩, -⟩ := box3_cells ((HB2r.out.block _ (Array.getElem?_eq_some_iff.1 HX7.out).1).trans HX7.out)
        obtain ⟨⟨y0, y1, y2⟩, -⟩ := box3_cells ((HB2r.out.block _ (Array.getElem?_eq_some_iff.1 HY7.out).1).trans HY7.out)
        obtain ⟨bo, oo, hao, hco⟩ := sl_cell (sl_below HP7.out HB2r.out) A (by omega)
        obtain ⟨bo2, oo2, hao2, hco2⟩ := sl_cell (sl_below HP72.out HB2r.out) D (by omega)
        rw [hao] at x2
        rw [hao2] at y2
        have hAi : (A : Int) < (n1 : Int) := by omega
        have hDi : (D : Int) < (m1 : Int) := by omega
        clear hao hao2 HWP HT7 HFL HBR hmm
        generalize hzo : RO.getD A 0 = zo at hco HSBi
        generalize hzp : RO2.getD D 0 = zp at hco2 HSBi
        clear hzo hzp
        go_upto_region 19 with fail
        have HQB : Hid (saidB RO RO2 s = ((zo != -1) && (zo == zp))) := by
          show _ = _
          rw [HSBi.out]
          have h1 : decide (zo ≠ -1) = (zo != -1) := by by_cases h : zo = -1 <;> simp [h]
          rw [h1]
          rfl
        rw [HQB.out] at HTKi
        clear HQB HSBi
        refine like_ends (B := w7.heap.size) (Y := Y) (X := X7) (bo := bo2) (oo := oo2) (D := D) (m := m1) (cO := cO2) (zo := zo) (zp := zp) (i0 := i) (show 100 ≤ 102 by decide) rfl rfl rfl rfl HF1.out HTLi.out (by omega) t1 y2 hco2 hDi ?_
        intro T9 w9 v9 hs9 hd9 hf9
        obtain ⟨x78, x79, x80, x81, x82, x83, x84, x85, x86, x87, x88, x89, x90, x91, x92, x93, x94, hT9⟩ := tail_lit (by exact (show 100 ≤ 102 by decide)) hs9 hd9
        rw [hT9]
        have HFN := hide hf9
        clear hT9 hs9 hd9 hf9 t0 t1 x0 x1 x2 y0 y1 y2 hco hco2 HF1 HB2r
        simp only [List.setIfInBounds_toArray, List.set_cons_zero, List.set_cons_succ]
        generalize ((zo != -1) && (zo == zp)) = q9 at HFN HTKi
        go_wp2
        go_roundw
        case rel => exact ⟨i + 1, _, by omega, by go_num, by rw [HTKi.out, List.map_append]; exact HFN.out⟩
        case measure => simp [intOf]; omega
      · have hlti : ¬ (i : Int) < (LW.length : Int) := by omega
        obtain rfl : i = LW.length := by omega
        have hfull : EW.take LW.length = EW := List.take_of_length_le (by rw [HEL.out]; exact Nat.le_refl _)
        have hown := HFL.out.own
        rw [HTLi.out, hfull] at hown
        obtain ⟨aE, cE, rfl, hse⟩ := slB_of_own (bs := EW) (by rw [HEL.out]; exact hown) (by rw [HEL.out]; unfold maxLen; omega)
        rw [HEL.out] at hse
        have HL9 := hide (HLW.out aW cW aE cE wr (by rw [HLN.out]; exact sl2_below HSW.out HBR.out) (by rw [HLN.out]; exact hse))
        rw [HLN.out] at HL9
        have hbx := HFL.out.box
        rw [HEL.out] at hbx
        obtain ⟨⟨b0, b1, b2, b3⟩, -⟩ := box_cells hbx
        have HBF0 := hide (below_step HB7.out HBR.out)
        clear hown hse hfull HFL hbx HLW HSW
        go_wp2_with fail
        clear b0 b1 b2 b3
        refine HL9.out.mono ?_
        rintro e w10 ⟨hy2, hn2⟩
        by_cases hK : LK ≤ 80
        · obtain ⟨a1, c1, a3, c3, rfl, hnw, hb2⟩ := hy2 hK
          have HBF := hide (below_step HBF0.out hb2)
          have hr := (HBF.out.block (w.heap.size + 3) HSZ.out).trans HX3.out
          obtain ⟨⟨r0, r1, r2, r3⟩, rf⟩ := box_cells hr
          have HR := hide hr
          have HNW := hide hnw
          have HSW9 : Hid (w.heap.size + 3 < wr.heap.size) := by have h1 := HBF0.out.size; have h2 := HSZ.out; show _ < _; omega
          clear hr hnw hb2 hy2 hn2
          go_wp2
          obtain ⟨⟨hset, hsz, hoth⟩, hbel⟩ := box_set (v0 := .int .i64 b) (v1 := .int .i64 tt) (v2 := .slice a1 LN.length c1) (v3 := .slice a3 LN.length c3) HR.out rfl
          have hfin : AutoNew w a1 LN.length LN a3 LE ((((w10.setCell ⟨w.heap.size + 3, 0, none⟩ (.int .i64 b)).setCell ⟨w.heap.size + 3, 1, none⟩ (.int .i64 tt)).setCell ⟨w.heap.size + 3, 2, none⟩ (.slice a1 LN.length c1)).setCell ⟨w.heap.size + 3, 3, none⟩ (.slice a3 LN.length c3)) := fun W' hW' => HNW.out W' (fun x hx hxl => by
            have h1 := HSW9.out
            rw [hW' x (by omega) (by rw [hsz]; exact hxl), hoth x (by omega)])
          have hb := hbel w w.heap.size (below_step HB0.out HBF.out) (by omega)
          obtain ⟨⟨z0, z1, z2, z3⟩, -⟩ := box_cells hset
          exact bodyPost_ret (v := .tuple #[.agg #[.int .i64 b, .int .i64 tt, .slice a1 LN.length c1, .slice a3 LN.length c3], .nilIface]) (by simp [results, Tryd.results17, go_sem, z0, z1, z2, z3]) rfl ⟨fun _ => ⟨a1, c1, a3, c3, rfl, hfin, hb⟩, fun h => by omega⟩
        · obtain ⟨rfl, hb2⟩ := hn2 (by omega)
          have HBF := hide (below_step HBF0.out hb2)
          have hr := (HBF.out.block (w.heap.size + 3) HSZ.out).trans HX3.out
          obtain ⟨⟨r0, r1, r2, r3⟩, rf⟩ := box_cells hr
          have HR := hide hr
          clear hr hb2 hy2 hn2
          go_wp2
          obtain ⟨⟨hset, hsz, hoth⟩, hbel⟩ := box_set (v0 := .int .i64 0) (v1 := .int .i64 0) (v2 := .slice none 0 0) (v3 := .slice none 0 0) HR.out rfl
          have hb := hbel w w.heap.size (below_step HB0.out HBF.out) (by omega)
          obtain ⟨⟨z0, z1, z2, z3⟩, -⟩ := box_cells hset
          exact bodyPost_ret (v := .tuple #[.agg #[.int .i64 0, .int .i64 0, .slice none 0 0, .slice none 0 0], .iface 26 (.int .i64 3)]) (by simp [results, Tryd.results17, go_sem, z0, z1, z2, z3]) rfl ⟨fun h => by omega, fun _ => ⟨none, 0, none, 0, rfl, autoNew_nil _ _, hb⟩⟩
set_option maxHeartbeats 8000000 in
set_option maxRecDepth 8000 in
theorem alike_bad (f : FuncId) (cs : Array Value) (tt : Int) (b : Int) (a : Option Addr) (n cap : Nat) (ao : Option Addr) (no co : Nat) (N : List (List Int)) (O : List Int) (b2 : Int) (a2 : Option Addr) (n2 cap2 : Nat) (ao2 : Option Addr) (no2 co2 : Nat) (N2 : List (List Int)) (O2 : List Int) (w : World)
    (hs : Sl2 w a n N) (ho : Sl w ao no O) (hs2 : Sl2 w a2 n2 N2) (ho2 : Sl w ao2 no2 O2) (hne : lkF b N O b2 N2 O2 ≠ 0) :
    Calls Tryd.prog 17 #[.agg #[.int .i64 b, .slice a n cap, .slice ao no co], .agg #[.int .i64 b2, .slice a2 n2 cap2, .slice ao2 no2 co2], .int .i64 tt, fnV f cs] w (PairR w 0 0 [] [] (lkF b N O b2 N2 O2)) := by
  have hB0 := below_fourO w (ouO b a n cap ao no co) (ouO b2 a2 n2 cap2 ao2 no2 co2) (.cells #[fnV f cs] 54) zAu
  have HB0 := hide hB0
  obtain ⟨hx1, hx2, -, hx3⟩ := four_at w (ouO b a n cap ao no co) (ouO b2 a2 n2 cap2 ao2 no2 co2) (.cells #[fnV f cs] 54) zAu (Below.refl _ _)
  have HX1 := hide hx1
  have HX2 := hide hx2
  have HX3 := hide hx3
  generalize hwb : (((w.alloc (ouO b a n cap ao no co)).alloc (ouO b2 a2 n2 cap2 ao2 no2 co2)).alloc (.cells #[fnV f cs] 54)).alloc zAu = wb at hB0 HB0 HX1 HX2 HX3
  clear hx1 hx2 hx3
  have HC1 := hide (word_check_any b a n cap ao no co N O wb (sl2_below hs hB0) (sl_below ho hB0))
  have HC2 := hide (fun W (h : Below wb.heap.size wb W) => word_check_any b2 a2 n2 cap2 ao2 no2 co2 N2 O2 W (sl2_below (sl2_below hs2 hB0) h) (sl_below (sl_below ho2 hB0) h))
  have HSZ : Hid (w.heap.size + 3 < wb.heap.size) := (Array.getElem?_eq_some_iff.1 HX3.out).1
  obtain ⟨⟨p0, p1, p2⟩, -⟩ := box3_cells HX1.out
  unfold outV at HC1 HC2
  by_cases hC : outC b N O = 0
  · rw [hC, errV_zero] at HC1
    by_cases hC2 : outC b2 N2 O2 = 0
    · rw [hC2, errV_zero] at HC2
      have hbb : ¬ b = b2 := fun e => hne (by unfold lkF; rw [if_pos hC, if_pos hC2, if_pos e])
      have hF : lkF b N O b2 N2 O2 = 2 := by unfold lkF; rw [if_pos hC, if_pos hC2, if_neg hbb]
      rw [hF]
      have hbn : (b == b2) = false := by simpa using hbb
      clear hs ho hs2 ho2 hB0 hF hne hbb hC hC2
      go_enter Tryd.func17, Tryd.ntmps17
      go_wp2_with fail
      clear hwb p0 p1 p2
      refine HC1.out.mono ?_
      rintro e w1 ⟨rfl, hbw1⟩
      obtain ⟨⟨p0, p1, p2⟩, -⟩ := box3_cells ((hbw1.block _ (Array.getElem?_eq_some_iff.1 HX2.out).1).trans HX2.out)
      have HB1 := hide hbw1
      clear hbw1
      go_wp2_with fail
      clear p0 p1 p2
      refine (HC2.out w1 HB1.out).mono ?_
      rintro e w2 ⟨rfl, hbw2⟩
      have HBQ := hide (below_step HB1.out hbw2)
      obtain ⟨⟨p0, p1, p2⟩, -⟩ := box3_cells ((HBQ.out.block _ (Array.getElem?_eq_some_iff.1 HX1.out).1).trans HX1.out)
      obtain ⟨⟨q0, q1, q2⟩, -⟩ := box3_cells ((HBQ.out.block _ (Array.getElem?_eq_some_iff.1 HX2.out).1).trans HX2.out)
      have hr := (HBQ.out.block (w.heap.size + 3) HSZ.out).trans HX3.out
      obtain ⟨⟨r0, r1, r2, r3⟩, rf⟩ := box_cells hr
      have HR := hide hr
      clear hbw2 HB1 hr
      go_wp2
      obtain ⟨⟨hset, -, -⟩, hbel⟩ := box_set (v0 := .int .i64 0) (v1 := .int .i64 0) (v2 := .slice none 0 0) (v3 := .slice none 0 0) HR.out rfl
      have hb := hbel w w.heap.size (below_step HB0.out HBQ.out) (by omega)
      obtain ⟨⟨z0, z1, z2, z3⟩, -⟩ := box_cells hset
      exact bodyPost_ret (v := .tuple #[.agg #[.int .i64 0, .int .i64 0, .slice none 0 0, .slice none 0 0], .iface 26 (.int .i64 2)]) (by simp [results, Tryd.results17, go_sem, z0, z1, z2, z3]) rfl ⟨none, 0, none, 0, by rw [errV_no (by decide)]; rfl, autoNew_nil _ _, hb⟩
    · have hF : lkF b N O b2 N2 O2 = outC b2 N2 O2 := by unfold lkF; rw [if_pos hC, if_neg hC2]
      rw [hF]
      clear hs ho hs2 ho2 hB0 hF hne
      have HER := hide (errV_no hC2)
      rw [errV_no hC2] at HC2
      clear hC hC2
      generalize outC b2 N2 O2 = c at HC2 HER ⊢
      go_enter Tryd.func17, Tryd.ntmps17
      go_wp2_with fail
      clear hwb p0 p1 p2
      refine HC1.out.mono ?_
      rintro e w1 ⟨rfl, hbw1⟩
      obtain ⟨⟨p0, p1, p2⟩, -⟩ := box3_cells ((hbw1.block _ (Array.getElem?_eq_some_iff.1 HX2.out).1).trans HX2.out)
      have HB1 := hide hbw1
      clear hbw1
      go_wp2_with fail
      clear p0 p1 p2
      refine (HC2.out w1 HB1.out).mono ?_
      rintro e w2 ⟨rfl, hbw2⟩
      have HBQ := hide (below_step HB1.out hbw2)
      have hr := (HBQ.out.block (w.heap.size + 3) HSZ.out).trans HX3.out
      obtain ⟨⟨r0, r1, r2, r3⟩, rf⟩ := box_cells hr
      have HR := hide hr
      clear hbw2 HB1 hr
      go_wp2
      obtain ⟨⟨hset, -, -⟩, hbel⟩ := box_set (v0 := .int .i64 0) (v1 := .int .i64 0) (v2 := .slice none 0 0) (v3 := .slice none 0 0) HR.out rfl
      have hb := hbel w w.heap.size (below_step HB0.out HBQ.out) (by omega)
      obtain ⟨⟨z0, z1, z2, z3⟩, -⟩ := box_cells hset
      exact bodyPost_ret (v := .tuple #[.agg #[.int .i64 0, .int .i64 0, .slice none 0 0, .slice none 0 0], .iface 26 (.int .i64 c)]) (by simp [results, Tryd.results17, go_sem, z0, z1, z2, z3]) rfl ⟨none, 0, none, 0, by rw [HER.out]; rfl, autoNew_nil _ _, hb⟩
  · have hF : lkF b N O b2 N2 O2 = outC b N O := by unfold lkF; rw [if_neg hC]
    rw [hF]
    clear hs ho hs2 ho2 hB0 hF hne
    have HER := hide (errV_no hC)
    rw [errV_no hC] at HC1
    clear hC
    generalize outC b N O = c at HC1 HER ⊢
    go_enter Tryd.func17, Tryd.ntmps17
    go_wp2_with fail
    clear hwb p0 p1 p2
    refine HC1.out.mono ?_
    rintro e w1 ⟨rfl, hbw1⟩
    have HBQ := hide hbw1
    have hr := (HBQ.out.block (w.heap.size + 3) HSZ.out).trans HX3.out
    obtain ⟨⟨r0, r1, r2, r3⟩, rf⟩ := box_cells hr
    have HR := hide hr
    clear hbw1 hr
    go_wp2
    obtain ⟨⟨hset, -, -⟩, hbel⟩ := box_set (v0 := .int .i64 0) (v1 := .int .i64 0) (v2 := .slice none 0 0) (v3 := .slice none 0 0) HR.out rfl
    have hb := hbel w w.heap.size (below_step HB0.out HBQ.out) (by omega)
    obtain ⟨⟨z0, z1, z2, z3⟩, -⟩ := box_cells hset
    exact bodyPost_ret (v := .tuple #[.agg #[.int .i64 0, .int .i64 0, .slice none 0 0, .slice none 0 0], .iface 26 (.int .i64 c)]) (by simp [results, Tryd.results17, go_sem, z0, z1, z2, z3]) rfl ⟨none, 0, none, 0, by rw [HER.out]; rfl, autoNew_nil _ _, hb⟩
end Go.Proofs.YtgbmemkoggogdaaDoor

/- word.Like and word.Agree: contracts. -/
namespace Go.Proofs.YtgbmemkoggogdaaDoor
open Go.RowKit

set_option maxHeartbeats 4000000 in
set_option maxRecDepth 4000 in
theorem like1_any (k l B : Nat) (w : World) (hk : 1 ≤ k) (hl : l < 1296) (hx : w.heap[B]? = some (.cells #[.int .i64 (k : Int)] 3)) : Calls Tryd.prog 18 #[.int .i64 (l : Int), .pointer (some ⟨B, 0, none⟩)] w fun e w' => e = .returned (.tuple #[.int .i64 ((l / k : Nat) : Int), .int .i64 ((l % k : Nat) : Int)]) ∧ Below w.heap.size w w' := by
  have t0 := box1_cellW hx
  have hk0 : ((k : Int) == 0) = false := by simp; omega
  have hqd : (l : Int).tdiv (k : Int) = ((l / k : Nat) : Int) := by rw [Int.tdiv_eq_ediv_of_nonneg (by omega)]; exact (Int.natCast_ediv l k).symm
  have hqm : (l : Int).tmod (k : Int) = ((l % k : Nat) : Int) := by rw [Int.tmod_eq_emod_of_nonneg (by omega)]; exact (Int.natCast_emod l k).symm
  have hld : l / k ≤ l := Nat.div_le_self _ _
  have HB := hide (Below.refl w.heap.size w)
  generalize l / k = D at hqd hld ⊢
  generalize l % k = E at hqm ⊢
  have hwD : IntKind.i64.wrap (D : Int) = (D : Int) := wrap_small (by omega) (by omega)
  have hwq : IntKind.i64.wrap ((l : Int).tdiv (k : Int)) = (D : Int) := by rw [hqd]; exact hwD
  clear hx hld
  go_enter Tryd.func18, Tryd.ntmps18
  go_wp2
  go_quiet (fail)
  go_wp2
  go_ret2
  exact ⟨rfl, below_drewN HB.out _⟩
/-- What comes of alike, in one. -/
theorem alk_pair {w : World} {b tt : Int} {LN : List (List Int)} {LE : List Bool} {LK : Nat} {c : Int} {RN : List (List Int)} {RE : List Bool} {e : Ending} {w' : World} (h : AlkOk w b tt LN LE LK e w') (hc : c = if LK ≤ 80 then 0 else 3) (hN : c = 0 → RN = LN ∧ RE = LE) (hZ : c ≠ 0 → RN = [] ∧ RE = []) : PairR w (okI c b) (okI c tt) RN RE c e w' := by
  by_cases hK : LK ≤ 80
  · rw [if_pos hK] at hc
    subst hc
    obtain ⟨rfl, rfl⟩ := hN rfl
    exact h.1 hK
  · rw [if_neg hK] at hc
    subst hc
    obtain ⟨rfl, rfl⟩ := hZ (by decide)
    exact h.2 (by omega)
set_option maxHeartbeats 8000000 in
set_option maxRecDepth 8000 in
theorem likeCall_any (b : Int) (a : Option Addr) (n cap : Nat) (ao : Option Addr) (no co : Nat) (N : List (List Int)) (O : List Int) (b2 : Int) (a2 : Option Addr) (n2 cap2 : Nat) (ao2 : Option Addr) (no2 co2 : Nat) (N2 : List (List Int)) (O2 : List Int) (B : Nat) (W : World) (hs : Sl2 W a n N) (ho : Sl W ao no O) (hs2 : Sl2 W a2 n2 N2) (ho2 : Sl W ao2 no2 O2) (hx : lkF b N O b2 N2 O2 = 0 → W.heap[B]? = some (.cells #[.int .i64 (((kindsI b).toNat : Nat) : Int)] 3)) :
    Calls Tryd.prog 17 #[.agg #[.int .i64 b, .slice a n cap, .slice ao no co], .agg #[.int .i64 b2, .slice a2 n2 cap2, .slice ao2 no2 co2], .int .i64 2, fnV 18 #[.pointer (some ⟨B, 0, none⟩)]] W (PairR W (okI (lkC b N O b2 N2 O2) b) (okI (lkC b N O b2 N2 O2) 2) (lkRN b N O b2 N2 O2) (lkRE b N O b2 N2 O2) (lkC b N O b2 N2 O2)) := by
  by_cases hF : lkF b N O b2 N2 O2 = 0
  · obtain ⟨hC, hC2, rfl⟩ := lkF_zero hF
    have hx := hx hF
    obtain ⟨h1, h2, -⟩ := outC_zero hC
    obtain ⟨k1, k2, k3⟩ := kinds_nat h1 h2
    obtain ⟨hM, hm⟩ := two_tracks h1 h2
    obtain ⟨hLG, hLn, hlang⟩ := lw_all hC hC2
    obtain ⟨hs1, hs2'⟩ := like_same hC hC2 hLG hlang
    have hmI : manyU b2 2 = (((kindsI b2).toNat * (kindsI b2).toNat : Nat) : Int) := by rw [hm, Int.natCast_mul, k3]
    have hkk : (kindsI b2).toNat * (kindsI b2).toNat ≤ 36 := Nat.le_trans (Nat.mul_le_mul k2 k2) (by decide)
    have h := alike_ok 18 #[.pointer (some ⟨B, 0, none⟩)] (fun l => l / (kindsI b2).toNat) (fun l => l % (kindsI b2).toNat) 2 ((kindsI b2).toNat * (kindsI b2).toNat) b2 a n cap ao no co N O a2 n2 cap2 ao2 no2 co2 N2 O2 W hs ho hs2 ho2 hC hC2 (enters_of Tryd.func18 (by kernel_rfl) rfl) (fun W' l hW hl => like1_any (kindsI b2).toNat l B W' (by omega) (by omega) ((hW.block _ (Array.getElem?_eq_some_iff.1 hx).1).trans hx)) hM hmI (fun l hl => Nat.div_lt_of_lt_mul hl) (fun l _ => Nat.mod_lt _ (by omega)) (fun i s hsm => lw_mem hC hC2 hsm) hLG hLn
    refine h.mono fun e w' hw => alk_pair hw ?_ ?_ ?_
    · unfold lkC
      rw [if_pos hF]
      have e3 := leastN_len (lwN b2 N N2) (lwE b2 N O N2 O2) ((kindsI b2).toNat * (kindsI b2).toNat)
      rw [hs1, leastN_len] at e3
      rw [e3]
      rfl
    · intro hc
      unfold lkRN lkRE
      rw [if_pos hc, if_pos hc, ← hs1, ← hs2']
      exact ⟨rfl, rfl⟩
    · intro hc
      unfold lkRN lkRE
      rw [if_neg hc, if_neg hc]
      exact ⟨rfl, rfl⟩
  · obtain ⟨i1, i2, i3, i4, i5⟩ := lk_bad hF
    rw [i2, i3, i4, i5, i1]
    exact alike_bad _ _ 2 b a n cap ao no co N O b2 a2 n2 cap2 ao2 no2 co2 N2 O2 W hs ho hs2 ho2 hF
end Go.Proofs.YtgbmemkoggogdaaDoor

/- word.Agree and word.Like: contracts, whole. -/
namespace Go.Proofs.YtgbmemkoggogdaaDoor
open Go.RowKit

theorem three_boxO (w : World) (o1 o2 o3 : Obj) {W : World} (h : Below (((w.alloc o1).alloc o2).alloc o3).heap.size (((w.alloc o1).alloc o2).alloc o3) W) : W.heap[w.heap.size]? = some o1 ∧ W.heap[w.heap.size + 1]? = some o2 ∧ W.heap[w.heap.size + 2]? = some o3 := by
  have k : ∀ i, i < w.heap.size + 3 → W.heap[i]? = (((w.alloc o1).alloc o2).alloc o3).heap[i]? := fun i hi => h.block i (by simp <;> omega)
  refine ⟨?_, ?_, ?_⟩
  · rw [k _ (by omega), Below.heap_alloc _ _ _ (by simp <;> omega), heap_alloc2_fst]
  · rw [k _ (by omega), Below.heap_alloc _ _ _ (by simp <;> omega), heap_alloc2_snd]
  · rw [k _ (by omega)]
    have := heap_alloc_last ((w.alloc o1).alloc o2) o3
    simpa using this
set_option maxHeartbeats 4000000 in
set_option maxRecDepth 4000 in
theorem kinds_max (b : Int) (w : World) : Calls Tryd.prog 16 #[.int .i64 b] w fun e w' => e = .returned (.int .i64 (if (2 : Int) > b then (2 : Int) else b)) ∧ w' = w := by
  by_cases h : (2 : Int) > b
  · rw [if_pos h]
    go_enter Tryd.func16, Tryd.ntmps16
    go_wp2
    go_ret
    exact ⟨rfl, rfl⟩
  · rw [if_neg h]
    go_enter Tryd.func16, Tryd.ntmps16
    go_wp2
    go_ret
    exact ⟨rfl, rfl⟩
set_option maxHeartbeats 4000000 in
set_option maxRecDepth 4000 in
theorem word_like_any : LikeSays := by
  intro b a n cap ao no co N O b2 a2 n2 cap2 ao2 no2 co2 N2 O2 w hs ho hs2 ho2
  have hB := below_three w (ouO b a n cap ao no co) (ouO b2 a2 n2 cap2 ao2 no2 co2) zAu
  have HB := hide hB
  obtain ⟨g1, g2, -⟩ := three_boxO w (ouO b a n cap ao no co) (ouO b2 a2 n2 cap2 ao2 no2 co2) zAu (Below.refl _ _)
  have HRX := hide (fun W h => (@three_boxO w (ouO b a n cap ao no co) (ouO b2 a2 n2 cap2 ao2 no2 co2) zAu W h).2.2)
  have HC := hide (fun B W (h : Below _ _ W) hx => likeCall_any b a n cap ao no co N O b2 a2 n2 cap2 ao2 no2 co2 N2 O2 B W (sl2_below hs (below_step hB h)) (sl_below ho (below_step hB h)) (sl2_below hs2 (below_step hB h)) (sl_below ho2 (below_step hB h)) hx)
  have hK : lkF b N O b2 N2 O2 = 0 → (if (2 : Int) > b then (2 : Int) else b) = (((kindsI b).toNat : Nat) : Int) := fun h => by
    obtain ⟨h1, -, -⟩ := lkF_zero h
    obtain ⟨q1, q2, -⟩ := outC_zero h1
    obtain ⟨-, -, k3⟩ := kinds_nat q1 q2
    rw [k3]
    unfold kindsI
    split <;> split <;> omega
  have HKD := hide (fun W => kinds_max b W)
  generalize (if (2 : Int) > b then (2 : Int) else b) = kd at hK HKD
  have HK := hide hK
  unfold PairR at HC
  generalize lkC b N O b2 N2 O2 = c at HC ⊢
  generalize lkRN b N O b2 N2 O2 = RN at HC ⊢
  generalize lkRE b N O b2 N2 O2 = RE at HC ⊢
  clear hs ho hs2 ho2 hB hK
  obtain ⟨⟨p0, p1, p2⟩, -⟩ := box3_cells g1
  have HG1 := hide g1
  have HG2 := hide g2
  clear g1 g2
  unfold outV
  generalize hW0 : ((w.alloc (ouO b a n cap ao no co)).alloc (ouO b2 a2 n2 cap2 ao2 no2 co2)).alloc zAu = wb at HB HRX HC HG1 HG2 p0 p1 p2
  have HSZ0 : Hid (wb.heap.size = w.heap.size + 3) := by show _ = _; rw [← hW0]; simp
  have HB4 := hide ((Below.refl wb.heap.size wb).alloc (Nat.le_refl _) (.cells #[.int .i64 kd] 3))
  have HX4 := hide (heap_alloc_last wb (.cells #[.int .i64 kd] 3))
  go_enter Tryd.func7, Tryd.ntmps7
  go_upto_region 2 with (go_at_call 16; refine (HKD.out _).mono ?_; rintro e w' ⟨rfl, hw'⟩; rw [hw']; clear hw' w')
  clear hW0 p0 p1 p2 HKD
  obtain ⟨w4, hw4⟩ : ∃ w4, wb.alloc (.cells #[.int .i64 kd] 3) = w4 := ⟨_, rfl⟩
  rw [hw4] at HB4 HX4 ⊢
  obtain ⟨⟨p0, p1, p2⟩, -⟩ := box3_cells ((HB4.out.block _ (Array.getElem?_eq_some_iff.1 HG1.out).1).trans HG1.out)
  obtain ⟨⟨q0, q1, q2⟩, -⟩ := box3_cells ((HB4.out.block _ (Array.getElem?_eq_some_iff.1 HG2.out).1).trans HG2.out)
  have HC4 := hide (HC.out wb.heap.size w4 HB4.out (fun h => by rw [HX4.out, HK.out h]))
  clear hw4 HC
  go_wp2_with fail
  clear p0 p1 p2 q0 q1 q2
  refine HC4.out.mono ?_
  rintro e w5 ⟨ay, cy, ay', cy', rfl, hnew, hb5⟩
  have HB5 := hide (below_step HB4.out hb5)
  have hr := HRX.out w5 HB5.out
  obtain ⟨⟨r0, r1, r2, r3⟩, rf⟩ := box_cells hr
  have HR := hide hr
  have HNEW := hide hnew
  clear hr hb5 hnew HC4
  go_wp2
  obtain ⟨⟨hset, hsz, hoth⟩, hbel⟩ := box_set (v0 := .int .i64 (okI c b)) (v1 := .int .i64 (okI c 2)) (v2 := .slice ay RN.length cy) (v3 := .slice ay' RN.length cy') HR.out rfl
  have hfin : AutoNew w ay RN.length RN ay' RE ((((w5.setCell ⟨w.heap.size + 2, 0, none⟩ (.int .i64 (okI c b))).setCell ⟨w.heap.size + 2, 1, none⟩ (.int .i64 (okI c 2))).setCell ⟨w.heap.size + 2, 2, none⟩ (.slice ay RN.length cy)).setCell ⟨w.heap.size + 2, 3, none⟩ (.slice ay' RN.length cy')) := fun W' hW' => HNEW.out W' (fun x hx hxl => by
    have h2 := HSZ0.out
    have h3 := HB4.out.size
    rw [hW' x (by omega) (by rw [hsz]; exact hxl), hoth x (by omega)])
  have hb := hbel w w.heap.size (below_step HB.out HB5.out) (by omega)
  obtain ⟨⟨z0, z1, z2, z3⟩, -⟩ := box_cells hset
  exact bodyPost_ret (v := .tuple #[.agg #[.int .i64 (okI c b), .int .i64 (okI c 2), .slice ay RN.length cy, .slice ay' RN.length cy'], errV c]) (by simp [results, Tryd.results7, go_sem, z0, z1, z2, z3]) rfl ⟨ay, cy, ay', cy', rfl, hfin, hb⟩
end Go.Proofs.YtgbmemkoggogdaaDoor

/- The law WordLikes. -/
namespace Go.Proofs.YtgbmemkoggogdaaDoor
open Go.RowKit

theorem wordlikes_any (b : Int) (a : Option Addr) (n cap : Nat) (ao : Option Addr) (no co : Nat) (N : List (List Int)) (O : List Int) (b2 : Int) (a2 : Option Addr) (n2 cap2 : Nat) (ao2 : Option Addr) (no2 co2 : Nat) (N2 : List (List Int)) (O2 : List Int) (w : World) (hs : Sl2 w a n N) (ho : Sl w ao no O) (hs2 : Sl2 w a2 n2 N2) (ho2 : Sl w ao2 no2 O2) (hg : Handle w) :
    Calls Tryd.prog 3 #[outV b a n cap ao no co, outV b2 a2 n2 cap2 ao2 no2 co2] w fun e w' => e = .returned (.bool true) ∧ Below w.heap.size w w' :=
  wordlikes_of b a n cap ao no co N O b2 a2 n2 cap2 ao2 no2 co2 N2 O2 w hs ho hs2 ho2 hg word_like_any
end Go.Proofs.YtgbmemkoggogdaaDoor
