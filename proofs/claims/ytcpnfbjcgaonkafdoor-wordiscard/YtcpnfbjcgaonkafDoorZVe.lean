/- 2 texts in one. -/
import Derived.Deep.DeepCutAuto
import Derived.Test.YtcpnfbjcgaonkafDoorGj
import Derived.Test.YtcpnfbjcgaonkafDoorPc
import Derived.Test.YtcpnfbjcgaonkafDoorZKa
import Derived.Test.YtcpnfbjcgaonkafDoorZPe
import Derived.Test.YtcpnfbjcgaonkafDoorZKc
import Derived.Test.YtcpnfbjcgaonkafDoorLq
/- The reference's IsOf: contract. -/
namespace Go.Proofs.YtcpnfbjcgaonkafDoor
open Go.RowKit

theorem wE_take {O : List Int} {v : Int} {q : Nat} (hq : q < O.length + 1) : (wE O v).take (q + 1) = (wE O v).take q ++ [decide ((wO O).getD q 0 = v)] := by
  have h : q < (wE O v).length := by rw [wE_len]; exact hq
  have e := wE_get (v := v) hq
  rw [List.take_succ_eq_append_getElem h]
  congr 1
  rw [← e]
  simp [List.getD, h]
theorem autoNew_none {w W : World} (a a' : Option Addr) : AutoNew w a 0 [] a' [] W := fun W' _ => ⟨⟨rfl, by unfold maxLen; omega, .inl rfl⟩, ⟨rfl, by unfold maxLen; omega, .inl rfl⟩⟩
set_option maxHeartbeats 8000000 in
set_option maxRecDepth 8000 in
theorem isOf_any (b : Int) (a : Option Addr) (n cap : Nat) (ao : Option Addr) (no co : Nat) (N : List (List Int)) (O : List Int) (v : Int) (w : World) (hs : Sl2 w a n N) (ho : Sl w ao no O) (hF : isF b N O v = 0) :
    Calls Tryd.prog 14 #[outV b a n cap ao no co, .int .i64 v] w (BothR w (okI (isC b N O v) b) (okI (isC b N O v) 1) (isN b N O v) (isE b N O v) (isC b N O v)) := by
  obtain ⟨hC, hv0, hv9⟩ := isF_zero hF
  obtain ⟨h1, h2, h20, hO, hG, hrange⟩ := outC_zero hC
  obtain ⟨hM, hm⟩ := one_track h1 h2
  have hL := hs.1
  have hLo := ho.1
  obtain ⟨k1, k2, k3⟩ := kinds_nat h1 h2
  have hW := wN_good hG h20
  have hal := al_well hM
  have h80 := autoC_80 hal.auto
  have hnn : (n + 1) * (alN b 1).length ≤ 4000000 := Nat.le_trans (Nat.mul_le_mul (show n + 1 ≤ 21 by omega) h80) (by decide)
  have hB0 := below_two w (.cells #[.int .i64 b, .slice a n cap, .slice ao no co] 25) (.cells #[.int .i64 0, .int .i64 0, .slice none 0 0, .slice none 0 0] 40)
  have HB0 := hide hB0
  have HX1 := hide (heap_alloc2_fst w (.cells #[.int .i64 b, .slice a n cap, .slice ao no co] 25) (.cells #[.int .i64 0, .int .i64 0, .slice none 0 0, .slice none 0 0] 40))
  have HX2 := hide (heap_alloc2_snd w (.cells #[.int .i64 b, .slice a n cap, .slice ao no co] 25) (.cells #[.int .i64 0, .int .i64 0, .slice none 0 0, .slice none 0 0] 40))
  have HWT := hide (waits_any b a n cap ao no co N O _ (sl2_below hs hB0) (sl_below ho hB0) hC)
  unfold WaitsR outV at HWT
  rw [hO, hL] at HWT
  have HRG := hide (fun aN cN aE cE W (q1 : Sl2 W aN (n + 1) (wN N)) (q2 : SlB W aE (n + 1) (wE O v)) => righted_any b 1 aN (n + 1) cN aE cE (kindsI b).toNat (wN N) (wE O v) W q1 q2 (by rw [← hL]; exact hW) hM (by show (manyU b 1).toNat = _; rw [hm]) hnn)
  rw [show ((1 : Nat) : Int) = 1 from rfl] at HRG
  unfold RgR at HRG
  have HQ : Hid (prodE 8 (n + 1) (alN b 1).length (wE O v) (alE b 1) = isQ b O v) := by show _ = _; unfold isQ; rw [hO, hL]
  have HP : Hid (prodN (wN N) (alN b 1) (kindsI b).toNat = isP b N) := rfl
  rw [HQ.out, HP.out] at HRG
  have HY : Hid (∀ (e : Ending) (w' : World), leastK (isP b N) (isQ b O v) (kindsI b).toNat ≤ 80 → BothR w b 1 (leastN (isP b N) (isQ b O v) (kindsI b).toNat) (leastE (isP b N) (isQ b O v) (kindsI b).toNat) 0 e w' → BothR w (okI (isC b N O v) b) (okI (isC b N O v) 1) (isN b N O v) (isE b N O v) (isC b N O v) e w') := fun e w' m1 m3 => by
    have hc : isC b N O v = 0 := by unfold isC; rw [if_pos hF, if_pos m1]
    unfold isN isE
    rw [if_pos hc, if_pos hc, hc]
    exact m3
  have HZ : Hid (∀ (e : Ending) (w' : World), 80 < leastK (isP b N) (isQ b O v) (kindsI b).toNat → BothR w 0 0 [] [] 3 e w' → BothR w (okI (isC b N O v) b) (okI (isC b N O v) 1) (isN b N O v) (isE b N O v) (isC b N O v) e w') := fun e w' m1 m3 => by
    have hc : isC b N O v = 3 := by unfold isC; rw [if_pos hF, if_neg (by omega)]
    unfold isN isE
    rw [hc, if_neg (by decide), if_neg (by decide)]
    exact m3
  have HTK : Hid (∀ q, q < n + 1 → (wE O v).take (q + 1) = (wE O v).take q ++ [decide ((wO O).getD q 0 = v)]) := fun q hq => wE_take (by omega)
  have HTL : Hid (∀ q, q ≤ n + 1 → ((wE O v).take q).length = q) := fun q hq => by rw [List.length_take, wE_len]; omega
  have HTF : Hid ((wE O v).take (n + 1) = wE O v) := List.take_of_length_le (by rw [wE_len]; omega)
  have HEL : Hid ((wE O v).length = n + 1) := by show _ = _; rw [wE_len]; omega
  have hn20 : n ≤ 20 := by omega
  clear hs ho hF hC hG hW hal hrange hnn h80 hM hm hO hL hLo h20 hB0 k1 k2 k3 hv0 hv9 h1 h2
  generalize wE O v = EV at HRG HTK HTL HTF HEL
  generalize wO O = WO at HWT HTK
  generalize wN N = WN at HWT HRG
  generalize leastN (isP b N) (isQ b O v) (kindsI b).toNat = LN at HRG HY
  generalize leastE (isP b N) (isQ b O v) (kindsI b).toNat = LE at HRG HY
  generalize leastK (isP b N) (isQ b O v) (kindsI b).toNat = LK at HRG HY HZ
  generalize okI (isC b N O v) b = OB at HY HZ ⊢
  generalize okI (isC b N O v) 1 = OT at HY HZ ⊢
  generalize isN b N O v = RN at HY HZ ⊢
  generalize isE b N O v = RE at HY HZ ⊢
  generalize isC b N O v = RC at HY HZ ⊢
  generalize hwb : (w.alloc (.cells #[.int .i64 b, .slice a n cap, .slice ao no co] 25)).alloc (.cells #[.int .i64 0, .int .i64 0, .slice none 0 0, .slice none 0 0] 40) = wb at HB0 HX1 HX2 HWT
  have HSZ : Hid (wb.heap.size = w.heap.size + 2) := by show _ = _; rw [← hwb]; simp
  obtain ⟨l0, hl0, hv0, hv1, hv2⟩ := info_parts infoBo
  obtain ⟨⟨p0, p1, p2⟩, -⟩ := box3_cells HX1.out
  unfold outV
  go_enter Tryd.func14, Tryd.ntmps14
  go_wp2_with fail
  clear hwb p0 p1 p2
  refine HWT.out.mono ?_
  rintro e w1 ⟨aN, cN, aO, cO, rfl, hsn, hso, hb1⟩
  have HSN := hide hsn
  have HSO := hide hso
  have HB1 := hide hb1
  clear hsn hso hb1 HWT
  go_wp2_with fail
  go_loopw [8, 9] (fun ev iv wx => ∃ q : Nat, q ≤ n + 1 ∧ iv = .int .i64 q ∧ GrowB w1 (EV.take q) ev wx) (fun _ iv _ => n + 1 - (intOf iv).toNat)
  case atStart => exact ⟨0, by omega, rfl, growB_nil w1⟩
  case round =>
    obtain ⟨q, hq, rfl, hgb⟩ := hrel
    have HGB := hide hgb
    clear hgb
    by_cases hlt : q < n + 1
    · have hlti : (q : Int) < (n : Int) + 1 := by omega
      have hlti2 : (q : Int) < ((n + 1 : Nat) : Int) := by omega
      obtain ⟨bo, oo, rfl, hco⟩ := sl_cell (sl_below HSO.out HGB.out.2) q hlt
      have HTKq := hide (HTK.out q hlt)
      have HTLq := hide (HTL.out q (by omega))
      generalize WO.getD q 0 = x at hco HTKq
      have HOWN := hide HGB.out.1
      rw [HTLq.out] at HOWN
      have HSZq := hide HGB.out.2.size
      by_cases hx : x = v
      · subst hx
        rw [decide_eq_true rfl] at HTKq
        go_wp2_with (at_builtin; refine wpList_append_own _ rfl _ _ 38 rfl w1.heap.size 4 l0 (.bool false) 1 1 Tryd.underlying38 hl0 hv0 hv1 hv2 rfl (by decide) _ q _ rfl (HOWN.out.alloc _) ⟨wr.heap.size, 0, none⟩ 1 1 [.bool true] rfl rfl (one_new _ _ _) (fun u hu => by simp at hu; subst hu; rfl) (by unfold maxLen; omega) (by omega) (by have := HSZq.out; simp; omega) ?_; intro v3 w3 hown hgrow hnil)
        go_roundw
        case rel => exact ⟨q + 1, by omega, by go_num, by rw [HTKq.out]; exact growB_push HGB.out (by rw [HTLq.out]; exact hown) hgrow⟩
        case measure => simp [intOf]; omega
      · have hxi : (x == v) = false := by simp [hx]
        rw [decide_eq_false hx] at HTKq
        go_wp2_with (at_builtin; refine wpList_append_own _ rfl _ _ 38 rfl w1.heap.size 4 l0 (.bool false) 1 1 Tryd.underlying38 hl0 hv0 hv1 hv2 rfl (by decide) _ q _ rfl (HOWN.out.alloc _) ⟨wr.heap.size, 0, none⟩ 1 1 [.bool false] rfl rfl (one_new _ _ _) (fun u hu => by simp at hu; subst hu; rfl) (by unfold maxLen; omega) (by omega) (by have := HSZq.out; simp; omega) ?_; intro v3 w3 hown hgrow hnil)
        go_roundw
        case rel => exact ⟨q + 1, by omega, by go_num, by rw [HTKq.out]; exact growB_push HGB.out (by rw [HTLq.out]; exact hown) hgrow⟩
        case measure => simp [intOf]; omega
    · have hlti : ¬ (q : Int) < (n : Int) + 1 := by omega
      obtain rfl : q = n + 1 := by omega
      rw [HTF.out] at HGB
      obtain ⟨aE, cE, rfl, hse⟩ := growB_end HGB.out (by rw [HEL.out]; unfold maxLen; omega)
      rw [HEL.out] at hse ⊢
      have HCR := hide (HRG.out aN cN aE cE wr (sl2_below HSN.out HGB.out.2) hse)
      have HBR : Hid (Below wb.heap.size wb wr) := below_step HB1.out HGB.out.2
      obtain ⟨⟨p0, p1, p2⟩, -⟩ := box3_cells ((HBR.out.block _ (Array.getElem?_eq_some_iff.1 HX1.out).1).trans HX1.out)
      clear hse HRG
      go_wp2_with fail
      clear p0 p1 p2
      refine HCR.out.mono ?_
      rintro e w2 (⟨hK, h⟩ | ⟨hK, h⟩)
      · obtain ⟨a1, c1, a2, c2, rfl, hnw, hb2⟩ := h
        have HBF := hide (below_step HBR.out hb2)
        have hr := (HBF.out.block (w.heap.size + 1) (by rw [HSZ.out]; omega)).trans HX2.out
        obtain ⟨⟨r0, r1, r2, r3⟩, rf⟩ := box_cells hr
        have HR := hide hr
        have HNW := hide hnw
        have HSW : Hid (w.heap.size + 2 ≤ wr.heap.size) := by have := HBR.out.size; have := HSZ.out; show _ ≤ _; omega
        have HYS := hide (fun e w' => HY.out e w' hK)
        clear hr hnw hb2
        go_wp2
        obtain ⟨⟨hset, hsz, hoth⟩, hbel⟩ := box_set (v0 := .int .i64 b) (v1 := .int .i64 1) (v2 := .slice a1 LN.length c1) (v3 := .slice a2 LN.length c2) HR.out rfl
        have hfin : AutoNew w a1 LN.length LN a2 LE ((((w2.setCell ⟨w.heap.size + 1, 0, none⟩ (.int .i64 b)).setCell ⟨w.heap.size + 1, 1, none⟩ (.int .i64 1)).setCell ⟨w.heap.size + 1, 2, none⟩ (.slice a1 LN.length c1)).setCell ⟨w.heap.size + 1, 3, none⟩ (.slice a2 LN.length c2)) := fun W' hW' => HNW.out W' (fun x hx hxl => by
          have h1 := HSW.out
          rw [hW' x (by omega) (by rw [hsz]; exact hxl), hoth x (by omega)])
        have hb := hbel w w.heap.size (below_step HB0.out HBF.out) (by omega)
        obtain ⟨⟨z0, z1, z2, z3⟩, -⟩ := box_cells hset
        exact bodyPost_ret (v := .tuple #[.agg #[.int .i64 b, .int .i64 1, .slice a1 LN.length c1, .slice a2 LN.length c2], .int .i64 0]) (by simp [results, Tryd.results14, go_sem, z0, z1, z2, z3]) rfl (HYS.out _ _ ⟨a1, c1, a2, c2, rfl, hfin, hb⟩)
      · obtain ⟨a1, c1, a2, c2, rfl, -, hb2⟩ := h
        have HBF := hide (below_step HBR.out hb2)
        have hr := (HBF.out.block (w.heap.size + 1) (by rw [HSZ.out]; omega)).trans HX2.out
        obtain ⟨⟨r0, r1, r2, r3⟩, rf⟩ := box_cells hr
        have HR := hide hr
        have HZS := hide (fun e w' => HZ.out e w' hK)
        clear hr hb2
        go_wp2
        obtain ⟨⟨hset, hsz, hoth⟩, hbel⟩ := box_set (v0 := .int .i64 0) (v1 := .int .i64 0) (v2 := .slice a1 0 c1) (v3 := .slice a2 0 c2) HR.out rfl
        have hb := hbel w w.heap.size (below_step HB0.out HBF.out) (by omega)
        obtain ⟨⟨z0, z1, z2, z3⟩, -⟩ := box_cells hset
        exact bodyPost_ret (v := .tuple #[.agg #[.int .i64 0, .int .i64 0, .slice a1 0 c1, .slice a2 0 c2], .int .i64 3]) (by simp [results, Tryd.results14, go_sem, z0, z1, z2, z3]) rfl (HZS.out _ _ ⟨a1, c1, a2, c2, rfl, autoNew_none a1 a2, hb⟩)
end Go.Proofs.YtcpnfbjcgaonkafDoor

/- The walk of the law WordIs, from what package word answers. -/
namespace Go.Proofs.YtcpnfbjcgaonkafDoor
open Go.RowKit

theorem sayN_bd {b : Int} {N : List (List Int)} {O : List Int} (hC : outC b N O = 0) (i : Int) (h0 : 0 ≤ i) (h1 : i ≤ 1099511627776) : 0 ≤ sayN b N O i ∧ sayN b N O i ≤ 9 := by
  obtain ⟨b1, b2, h20, hO, hG, hrange⟩ := outC_zero hC
  obtain ⟨k1, k2, k3⟩ := kinds_nat b1 b2
  have hdig := dgs_digB b i b1 b2 h0 h1
  unfold digB at hdig
  rw [List.all_eq_true] at hdig
  exact hrange _ (run_lt hG _ (fun y hy => by have := hdig y hy; rw [k3]; simpa using this))
set_option maxHeartbeats 32000000 in
set_option maxRecDepth 8000 in
theorem wordis_of (b : Int) (a : Option Addr) (n cap : Nat) (ao : Option Addr) (no co : Nat) (N : List (List Int)) (O : List Int) (x v : Int) (w : World) (hs : Sl2 w a n N) (ho : Sl w ao no O) (hg : Handle w) (hCK : CheckSays) (hAT : AtSays) (hHD : HeadSays) (hIS : IsSays) :
    Calls Tryd.prog 3 #[outV b a n cap ao no co, .int .i64 x, .int .i64 v] w fun e w' => e = .returned (.bool true) ∧ Below w.heap.size w w' := by
  have hB0 := (Below.refl w.heap.size w).alloc (Nat.le_refl _) (.cells #[.int .i64 b, .slice a n cap, .slice ao no co] 25)
  have HB0 := hide hB0
  have HX1 := hide (heap_alloc_last w (.cells #[.int .i64 b, .slice a n cap, .slice ao no co] 25))
  generalize hW0 : w.alloc (.cells #[.int .i64 b, .slice a n cap, .slice ao no co] 25) = w0 at hB0 HB0 HX1
  have HAB : Hid (∀ W, Below w0.heap.size w0 W → (W.cell? ⟨w.heap.size, 0, none⟩ = some (.int .i64 b) ∧ W.cell? ⟨w.heap.size, 1, none⟩ = some (.slice a n cap) ∧ W.cell? ⟨w.heap.size, 2, none⟩ = some (.slice ao no co))) := fun W h => (box3_cells ((h.block _ (Array.getElem?_eq_some_iff.1 HX1.out).1).trans HX1.out)).1
  have HHA : Hid (∀ W, Below w0.heap.size w0 W → Handle W) := fun W h => (hg.below hB0).below h
  have HF1 := hide (fun W (h : Below w0.heap.size w0 W) => outFault_any b a n cap ao no co N O W (sl2_below (sl2_below hs hB0) h) (sl_below (sl_below ho hB0) h))
  have HCK := hide (fun W (h : Below w0.heap.size w0 W) => hCK b a n cap ao no co N O W (sl2_below (sl2_below hs hB0) h) (sl_below (sl_below ho hB0) h))
  have HAT := hide (fun W (h : Below w0.heap.size w0 W) => hAT b a n cap ao no co N O x W (sl2_below (sl2_below hs hB0) h) (sl_below (sl_below ho hB0) h))
  have HHD := hide (fun W (h : Below w0.heap.size w0 W) => hHD b a n cap ao no co N O x W (sl2_below (sl2_below hs hB0) h) (sl_below (sl_below ho hB0) h))
  have HIS := hide (fun W (h : Below w0.heap.size w0 W) => hIS b a n cap ao no co N O v W (sl2_below (sl2_below hs hB0) h) (sl_below (sl_below ho hB0) h))
  have HSD := hide (fun (hC : outC b N O = 0) (y : Int) (hy : 0 ≤ y ∧ y ≤ 1099511627776) W (h : Below w0.heap.size w0 W) => said_any b a n cap ao no co N O y W (sl2_below (sl2_below hs hB0) h) (sl_below (sl_below ho hB0) h) hC hy)
  have HIO := hide (fun (hF : isF b N O v = 0) W (h : Below w0.heap.size w0 W) => isOf_any b a n cap ao no co N O v W (sl2_below (sl2_below hs hB0) h) (sl_below (sl_below ho hB0) h) hF)
  have HSB := hide (fun (hC : outC b N O = 0) (i : Int) (h0 : 0 ≤ i) (h1 : i ≤ 1099511627776) => sayN_bd hC i h0 h1)
  have HFA : Hid (atF b N O x 1099511627776 = if outC b N O = 0 then (if 0 ≤ x ∧ x ≤ 1099511627776 then 0 else 1) else outC b N O) := rfl
  have HVA : Hid (atV b N O x = if atF b N O x 1099511627776 = 0 then sayN b N O x else 0) := rfl
  have HFH : Hid (atF b N O x 200 = if outC b N O = 0 then (if 0 ≤ x ∧ x ≤ 200 then 0 else 1) else outC b N O) := rfl
  have HHL : Hid (headL b N O x = if atF b N O x 200 = 0 then (List.range x.toNat).map (fun i : Nat => sayN b N O (i : Int)) else []) := rfl
  have HFI : Hid (isF b N O v = if outC b N O = 0 then (if 0 ≤ v ∧ v ≤ 9 then 0 else 1) else outC b N O) := rfl
  have HBAD : Hid (isF b N O v ≠ 0 → isC b N O v = isF b N O v ∧ isN b N O v = [] ∧ isE b N O v = [] ∧ okI (isC b N O v) b = 0 ∧ okI (isC b N O v) 1 = 0) := fun h => by
    have hc : isC b N O v = isF b N O v := by unfold isC; rw [if_neg h]
    have hc0 : isC b N O v ≠ 0 := by rw [hc]; exact h
    refine ⟨hc, ?_, ?_, ?_, ?_⟩
    · unfold isN; rw [if_neg hc0]
    · unfold isE; rw [if_neg hc0]
    · unfold okI; rw [if_neg hc0]
    · unfold okI; rw [if_neg hc0]
  unfold HeadR at HHD
  unfold PairR at HIS
  unfold BothR at HIO
  unfold outV at HF1 HCK HAT HHD HIS HSD HIO
  have HES := hide (fun c W (h : Handle W) => error_same c W h)
  clear hs ho hg hCK hAT hHD hIS hB0
  generalize okI (isC b N O v) b = OB at *
  generalize okI (isC b N O v) 1 = OT at *
  generalize isN b N O v = RN at *
  generalize isE b N O v = RE at *
  generalize isC b N O v = C at *
  generalize isF b N O v = FI at *
  generalize atV b N O x = VA at *
  generalize atF b N O x 1099511627776 = FA at *
  generalize atF b N O x 200 = FH at *
  generalize headL b N O x = HL at *
  generalize sayN b N O = sy at *
  generalize outC b N O = c at *
  unfold outV
  obtain ⟨p0, p1, p2⟩ := HAB.out w0 (Below.refl _ _)
  go_enter Tryd.func3, Tryd.ntmps3
  go_wp2_with fail
  clear hW0 p0 p1 p2
  refine (HF1.out w0 (Below.refl _ _)).mono ?_
  rintro e w1 ⟨rfl, hb1⟩
  have HB1 := hide hb1
  obtain ⟨p0, p1, p2⟩ := HAB.out w1 hb1
  clear hb1
  go_wp2_with fail
  clear p0 p1 p2
  refine (HCK.out w1 HB1.out).mono ?_
  rintro e w2 ⟨rfl, hb2⟩
  have HB2 := hide (below_step HB1.out hb2)
  clear hb2
  go_wp2_with fail
  refine (HES.out c w2 (HHA.out w2 HB2.out)).mono ?_
  rintro e w3 ⟨rfl, hb3⟩
  have HB3 := hide (below_step HB2.out hb3)
  clear hb3 HB1 HB2 HF1 HCK
  go_upto_region 7 with fail
  go_cut [37] (fun s wx => s = .bool (decide (c = 0 ∧ ¬ (0 ≤ x ∧ x ≤ 1099511627776))) ∧ wx = w3)
  case first =>
    by_cases g1 : c = 0
    · have g1' : (c == 0) = true := by simp [g1]
      by_cases g2 : x < 0
      · have hd : decide (c = 0 ∧ ¬ (0 ≤ x ∧ x ≤ 1099511627776)) = true := decide_eq_true ⟨g1, by omega⟩
        clear g1
        go_wp2
        go_meet
        case rel => exact ⟨congrArg Value.bool hd.symm, rfl⟩
      · have g2' : decide (x < 0) = false := decide_eq_false g2
        by_cases g3 : x > 1099511627776
        · have hd : decide (c = 0 ∧ ¬ (0 ≤ x ∧ x ≤ 1099511627776)) = true := decide_eq_true ⟨g1, by omega⟩
          clear g1
          go_wp2
          go_meet
          case rel => exact ⟨congrArg Value.bool hd.symm, rfl⟩
        · have g3' : decide (x > 1099511627776) = false := decide_eq_false g3
          have hd : decide (c = 0 ∧ ¬ (0 ≤ x ∧ x ≤ 1099511627776)) = false := decide_eq_false (fun h => h.2 (by omega))
          clear g1
          go_wp2
          go_meet
          case rel => exact ⟨congrArg Value.bool hd.symm, rfl⟩
    · have g1' : (c == 0) = false := by simp [g1]
      have hd : decide (c = 0 ∧ ¬ (0 ≤ x ∧ x ≤ 1099511627776)) = false := decide_eq_false (fun h => g1 h.1)
      clear g1
      go_wp2
      go_meet
      case rel => exact ⟨congrArg Value.bool hd.symm, rfl⟩
  case rest =>
    obtain ⟨rfl, hwc⟩ := hcut
    subst hwc
    go_upto_if 37 with fail
    go_cut [9] (fun s wx => s = .int .i64 FA ∧ wx = wc)
    case first =>
      by_cases g : c = 0 ∧ ¬ (0 ≤ x ∧ x ≤ 1099511627776)
      · have hd : decide (c = 0 ∧ ¬ (0 ≤ x ∧ x ≤ 1099511627776)) = true := decide_eq_true g
        have hF := HFA.out
        rw [if_pos g.1, if_neg g.2] at hF
        rw [hd]
        clear g hd
        go_wp2
        go_meet
        case rel => exact ⟨by rw [hF], rfl⟩
      · have hd : decide (c = 0 ∧ ¬ (0 ≤ x ∧ x ≤ 1099511627776)) = false := decide_eq_false g
        have hF : FA = c := by
          rw [HFA.out]
          by_cases g1 : c = 0
          · rw [if_pos g1]
            by_cases g2 : 0 ≤ x ∧ x ≤ 1099511627776
            · rw [if_pos g2, g1]
            · exact absurd ⟨g1, g2⟩ g
          · rw [if_neg g1]
        rw [hd]
        clear g hd
        go_wp2
        go_meet
        case rel => exact ⟨by rw [hF], rfl⟩
    case rest =>
      obtain ⟨rfl, hwc⟩ := hcut
      subst hwc
      go_upto_region 9 with fail
      go_cut [39] (fun s wx => s = .bool (FA == 0) ∧ wx = wc)
      case first =>
        go_wp2
        go_meet
        case rel => exact ⟨rfl, rfl⟩
      case rest =>
        obtain ⟨rfl, hwc⟩ := hcut
        subst hwc
        go_upto_if 39 with fail
        go_cut [10] (fun s wx => s = .int .i64 VA ∧ Below w0.heap.size w0 wx)
        case first =>
          by_cases g : FA = 0
          · have g' : (FA == 0) = true := by simp [g]
            have hV := HVA.out
            rw [if_pos g] at hV
            have hcx : c = 0 ∧ 0 ≤ x ∧ x ≤ 1099511627776 := by
              have hF := HFA.out
              by_cases g1 : c = 0
              · rw [if_pos g1] at hF
                by_cases g2 : 0 ≤ x ∧ x ≤ 1099511627776
                · exact ⟨g1, g2⟩
                · rw [if_neg g2] at hF; omega
              · rw [if_neg g1] at hF; omega
            have HSx := hide (HSD.out hcx.1 x hcx.2 wc HB3.out)
            rw [← hV] at HSx
            obtain ⟨p0, p1, p2⟩ := HAB.out wc HB3.out
            clear hcx g hV
            go_wp2_with fail
            clear p0 p1 p2
            refine HSx.out.mono ?_
            rintro e w4 ⟨rfl, hb4⟩
            have HB4 := hide (below_step HB3.out hb4)
            clear hb4 HSx
            go_wp2
            go_meet
            case rel => exact ⟨rfl, HB4.out⟩
          · have g' : (FA == 0) = false := by simp [g]
            have hV := HVA.out
            rw [if_neg g] at hV
            clear g
            go_wp2
            go_meet
            case rel => exact ⟨by rw [hV], HB3.out⟩
        case rest =>
          obtain ⟨rfl, hbc⟩ := hcut
          obtain ⟨w5, hw5⟩ : ∃ w5 : World, w5 = wc := ⟨_, rfl⟩
          rw [← hw5] at hbc ⊢
          have HB5 := hide hbc
          clear hw5 hbc wc HB3
          obtain ⟨p0, p1, p2⟩ := HAB.out w5 HB5.out
          go_wp2_with fail
          clear p0 p1 p2
          refine (HAT.out w5 HB5.out).mono ?_
          rintro e w6 ⟨rfl, hb6⟩
          have HB6 := hide (below_step HB5.out hb6)
          clear hb6 HB5
          go_wp2_with fail
          refine (HES.out FA w6 (HHA.out w6 HB6.out)).mono ?_
          rintro e w7 ⟨rfl, hb7⟩
          have HB7 := hide (below_step HB6.out hb7)
          clear hb7 HB6 HAT
          have hvv : (VA == VA) = true := by simp
          go_upto_region 17 with fail
          go_cut [69] (fun s wx => s = .bool (decide (c = 0 ∧ ¬ (0 ≤ x ∧ x ≤ 200))) ∧ wx = w7)
          case first =>
            by_cases g1 : c = 0
            · have g1' : (c == 0) = true := by simp [g1]
              by_cases g2 : x < 0
              · have hd : decide (c = 0 ∧ ¬ (0 ≤ x ∧ x ≤ 200)) = true := decide_eq_true ⟨g1, by omega⟩
                clear g1
                go_wp2
                go_meet
                case rel => exact ⟨congrArg Value.bool hd.symm, rfl⟩
              · have g2' : decide (x < 0) = false := decide_eq_false g2
                by_cases g3 : x > 200
                · have hd : decide (c = 0 ∧ ¬ (0 ≤ x ∧ x ≤ 200)) = true := decide_eq_true ⟨g1, by omega⟩
                  clear g1
                  go_wp2
                  go_meet
                  case rel => exact ⟨congrArg Value.bool hd.symm, rfl⟩
                · have g3' : decide (x > 200) = false := decide_eq_false g3
                  have hd : decide (c = 0 ∧ ¬ (0 ≤ x ∧ x ≤ 200)) = false := decide_eq_false (fun h => h.2 (by omega))
                  clear g1
                  go_wp2
                  go_meet
                  case rel => exact ⟨congrArg Value.bool hd.symm, rfl⟩
            · have g1' : (c == 0) = false := by simp [g1]
              have hd : decide (c = 0 ∧ ¬ (0 ≤ x ∧ x ≤ 200)) = false := decide_eq_false (fun h => g1 h.1)
              clear g1
              go_wp2
              go_meet
              case rel => exact ⟨congrArg Value.bool hd.symm, rfl⟩
          case rest =>
            obtain ⟨rfl, hwc⟩ := hcut
            subst hwc
            go_upto_if 69 with fail
            go_cut [9] (fun s wx => s = .int .i64 FH ∧ wx = wc)
            case first =>
              by_cases g : c = 0 ∧ ¬ (0 ≤ x ∧ x ≤ 200)
              · have hd : decide (c = 0 ∧ ¬ (0 ≤ x ∧ x ≤ 200)) = true := decide_eq_true g
                have hF := HFH.out
                rw [if_pos g.1, if_neg g.2] at hF
                rw [hd]
                clear g hd
                go_wp2
                go_meet
                case rel => exact ⟨by rw [hF], rfl⟩
              · have hd : decide (c = 0 ∧ ¬ (0 ≤ x ∧ x ≤ 200)) = false := decide_eq_false g
                have hF : FH = c := by
                  rw [HFH.out]
                  by_cases g1 : c = 0
                  · rw [if_pos g1]
                    by_cases g2 : 0 ≤ x ∧ x ≤ 200
                    · rw [if_pos g2, g1]
                    · exact absurd ⟨g1, g2⟩ g
                  · rw [if_neg g1]
                rw [hd]
                clear g hd
                go_wp2
                go_meet
                case rel => exact ⟨by rw [hF], rfl⟩
            case rest =>
              obtain ⟨rfl, hwc⟩ := hcut
              subst hwc
              go_wp2_with fail
              have HLE : Hid ((FH = 0 → HL.length = x.toNat ∧ c = 0 ∧ 0 ≤ x ∧ x ≤ 200) ∧ (FH ≠ 0 → HL = [])) := by
                refine ⟨fun h => ?_, fun h => by rw [HHL.out, if_neg h]⟩
                have hF := HFH.out
                have hl : HL.length = x.toNat := by rw [HHL.out, if_pos h]; simp
                by_cases g1 : c = 0
                · rw [if_pos g1] at hF
                  by_cases g2 : 0 ≤ x ∧ x ≤ 200
                  · exact ⟨hl, g1, g2⟩
                  · rw [if_neg g2] at hF; omega
                · rw [if_neg g1] at hF; omega
              have HLG : Hid (∀ j, j < HL.length → HL.getD j 0 = sy (j : Int) ∧ HL.take (j + 1) = HL.take j ++ [sy (j : Int)]) := fun j hj => by
                have h0 : FH = 0 := by
                  by_cases g : FH = 0
                  · exact g
                  · rw [HLE.out.2 g] at hj; simp at hj
                have hl := (HLE.out.1 h0).1
                have e : HL.getD j 0 = sy (j : Int) := by
                  have hj' : j < x.toNat := by omega
                  rw [HHL.out, if_pos h0]
                  simp [List.getD, hj']
                refine ⟨e, ?_⟩
                rw [← e, List.take_succ_eq_append_getElem hj]
                congr 2
                simp [List.getD, hj]
              have HLB : Hid (HL.length ≤ 200) := by
                show _ ≤ _
                by_cases g : FH = 0
                · have := HLE.out.1 g; omega
                · rw [HLE.out.2 g]; simp
              obtain ⟨i0, hi0, hz0, hz1, hz2⟩ := info_parts info3
              obtain ⟨wl, hwl⟩ : ∃ wl : World, wl = wc := ⟨_, rfl⟩
              rw [← hwl] at HB7 ⊢
              clear hwl wc
              go_loopg [13, 14] (HL.length + 1) (fun g lv iv wx => ∃ j : Nat, g = HL.length + 1 - j ∧ iv = .int .i64 j ∧ j ≤ HL.length ∧ Grow wl (HL.take j) lv wx)
              case atStart => exact ⟨0, rfl, rfl, by omega, grow_nil wl⟩
              case round =>
                obtain ⟨j, hgj, rfl, hj, hgr⟩ := hrel
                have HGJ := hide hgj
                have HGR := hide hgr
                have hlb := HLB.out
                clear hgj hgr
                obtain ⟨wo, hwo⟩ : ∃ wo : World, wo = wr := ⟨_, rfl⟩
                rw [← hwo] at HGR ⊢
                clear hwo wr
                go_upto_region 20 with fail
                go_cut [76] (fun s wx => s = .bool (decide (j < HL.length)) ∧ wx = wo)
                case first =>
                  by_cases g : FH = 0
                  · have hl := HLE.out.1 g
                    have g' : (FH == 0) = true := by simp [g]
                    by_cases gj : j < HL.length
                    · have hd : decide (j < HL.length) = true := decide_eq_true gj
                      have hji : (j : Int) < x := by omega
                      clear g hl
                      go_wp2
                      go_meet
                      case rel => exact ⟨congrArg Value.bool hd.symm, rfl⟩
                    · have hd : decide (j < HL.length) = false := decide_eq_false gj
                      have hji : decide ((j : Int) < x) = false := decide_eq_false (by omega)
                      clear g hl
                      go_wp2
                      go_meet
                      case rel => exact ⟨congrArg Value.bool hd.symm, rfl⟩
                  · have hl := HLE.out.2 g
                    have g' : (FH == 0) = false := by simp [g]
                    have hd : decide (j < HL.length) = false := decide_eq_false (by rw [hl]; simp)
                    have hj0 : j = 0 := by rw [hl] at hj; simpa using hj
                    clear g
                    by_cases gx : (j : Int) < x
                    · clear hl hj0
                      go_wp2
                      go_meet
                      case rel => exact ⟨congrArg Value.bool hd.symm, rfl⟩
                    · have gx' : decide ((j : Int) < x) = false := decide_eq_false gx
                      clear hl hj0
                      go_wp2
                      go_meet
                      case rel => exact ⟨congrArg Value.bool hd.symm, rfl⟩
                case rest =>
                  obtain ⟨rfl, hwc⟩ := hcut
                  subst hwc
                  by_cases gj : j < HL.length
                  · have hd : decide (j < HL.length) = true := decide_eq_true gj
                    rw [hd]
                    have h0 : FH = 0 := by
                      by_cases g : FH = 0
                      · exact g
                      · rw [HLE.out.2 g] at gj; simp at gj
                    have hl := HLE.out.1 h0
                    have HBo := hide (below_step HB7.out HGR.out.2)
                    have HSj := hide (HSD.out hl.2.1 (j : Int) (by omega) wc HBo.out)
                    have HTj := hide (HLG.out j gj)
                    have HTL : Hid ((HL.take j).length = j) := by show _ = _; rw [List.length_take]; omega
                    generalize sy (j : Int) = sj at HSj HTj
                    obtain ⟨p0, p1, p2⟩ := HAB.out wc HBo.out
                    clear h0 hl hd
                    go_wp2_with fail
                    clear p0 p1 p2
                    refine HSj.out.mono ?_
                    rintro e w9 ⟨rfl, hb9⟩
                    have HGR9 := hide (grow_below HGR.out hb9)
                    have HOWN := hide HGR9.out.1
                    rw [HTL.out] at HOWN
                    have HSZ9 := hide HGR9.out.2.size
                    clear hb9 HSj HBo
                    go_wp2_with (at_builtin; refine wpList_append_own _ rfl _ _ 23 rfl wl.heap.size 3 i0 (.int .i64 0) 1 8 Tryd.underlying23 hi0 hz0 hz1 hz2 rfl (by decide) _ j _ rfl (HOWN.out.alloc _) ⟨w9.heap.size, 0, none⟩ 1 1 [.int .i64 sj] rfl rfl (one_new _ _ _) (fun u hu => by simp at hu; subst hu; rfl) (by unfold maxLen; omega) (by omega) (by have := HSZ9.out; simp; omega) ?_; intro v3 w10 hown hgrow hnil)
                    go_roundg (HL.length + 1 - (j + 1))
                    case measure => have := HGJ.out; omega
                    case rel => exact ⟨j + 1, rfl, by go_num, by omega, by rw [HTj.out.2]; exact grow_push HGR9.out (by rw [HTL.out]; exact hown) hgrow⟩
                  · have hd : decide (j < HL.length) = false := decide_eq_false gj
                    rw [hd]
                    obtain rfl : j = HL.length := by omega
                    rw [List.take_length] at HGR
                    have HWF : Hid (∀ y ∈ HL, (Lit.int .i64 y).wf = true) := fun y hy => by
                      obtain ⟨i, hi, rfl⟩ := List.getElem_of_mem hy
                      have h0 : FH = 0 := by
                        by_cases g : FH = 0
                        · exact g
                        · rw [HLE.out.2 g] at hi; simp at hi
                      have hl := HLE.out.1 h0
                      have h1 := (HLG.out i hi).1
                      rw [getD_at _ i hi] at h1
                      rw [h1]
                      have := HSB.out hl.2.1 (i : Int) (by omega) (by omega)
                      exact WalkArith.wf_i64 (by omega)
                    obtain ⟨al, cl, rfl, hsl⟩ := sl_of_owns rfl (by unfold maxLen; omega) HWF.out HGR.out.1
                    have HSLN := hide hsl.1
                    have HB8 := hide (below_step HB7.out HGR.out.2)
                    obtain ⟨p0, p1, p2⟩ := HAB.out wc HB8.out
                    clear hsl hd HGR HWF HLG HLE HSD HHL HVA HFA HFH
                    obtain ⟨w8, hw8⟩ : ∃ w8 : World, w8 = wc := ⟨_, rfl⟩
                    rw [← hw8] at HSLN HB8 p0 p1 p2 ⊢
                    clear hw8 wc
                    go_wp2_with fail
                    clear p0 p1 p2
                    refine (HHD.out w8 HB8.out).mono ?_
                    rintro e w11 ⟨ah, ch, rfl, hsh, hb11⟩
                    have HB11 := hide (below_step HB8.out hb11)
                    have HSH := hide hsh
                    have HSL1 := hide (sl_below HSLN.out hb11)
                    clear hsh hb11 HB8 HSLN HHD
                    go_wp2_with fail
                    refine (HES.out FH w11 (HHA.out w11 HB11.out)).mono ?_
                    rintro e w12 ⟨rfl, hb12⟩
                    have HB12 := hide (below_step HB11.out hb12)
                    have HIE := hide (ints_eq ah al HL.length ch cl HL w12 (sl_below HSH.out hb12) (sl_below HSL1.out hb12))
                    clear hb12 HB11 HSH HSL1
                    go_wp2_with fail
                    refine HIE.out.mono ?_
                    rintro e w13 ⟨rfl, hb13⟩
                    have HB13 := hide (below_step HB12.out hb13)
                    clear hb13 HB12 HIE
                    have HQ0 : Hid (∀ W : World, w13.alloc (.cells #[.int .i64 0, .int .i64 0, .slice none 0 0, .slice none 0 0] 40) = W → W.heap[w13.heap.size]? = some (.cells #[.int .i64 0, .int .i64 0, .slice none 0 0, .slice none 0 0] 40) ∧ Below w0.heap.size w0 W) := fun W hW => by
                      subst hW
                      exact ⟨heap_alloc_last _ _, HB13.out.alloc HB13.out.size _⟩
                    have HLX : Hid (w0.heap.size ≤ w13.heap.size) := HB13.out.size
                    go_upto_region 29 with fail
                    obtain ⟨w14, hw14⟩ : ∃ W, w13.alloc (.cells #[.int .i64 0, .int .i64 0, .slice none 0 0, .slice none 0 0] 40) = W := ⟨_, rfl⟩
                    have hq0 := HQ0.out w14 hw14
                    rw [hw14]
                    obtain ⟨X, hX⟩ : ∃ X, X = w13.heap.size := ⟨_, rfl⟩
                    rw [← hX] at hq0 HLX ⊢
                    have HXQ := hide hq0.1
                    have HB14 := hide hq0.2
                    clear hq0 hX hw14 HQ0 HB13
                    go_cut [112] (fun s wx => s = .bool (decide (c = 0 ∧ ¬ (0 ≤ v ∧ v ≤ 9))) ∧ wx = w14)
                    case first =>
                      by_cases g1 : c = 0
                      · have g1' : (c == 0) = true := by simp [g1]
                        by_cases g2 : v < 0
                        · have hd : decide (c = 0 ∧ ¬ (0 ≤ v ∧ v ≤ 9)) = true := decide_eq_true ⟨g1, by omega⟩
                          clear g1
                          go_wp2
                          go_meet
                          case rel => exact ⟨congrArg Value.bool hd.symm, rfl⟩
                        · have g2' : decide (v < 0) = false := decide_eq_false g2
                          by_cases g3 : v > 9
                          · have hd : decide (c = 0 ∧ ¬ (0 ≤ v ∧ v ≤ 9)) = true := decide_eq_true ⟨g1, by omega⟩
                            clear g1
                            go_wp2
                            go_meet
                            case rel => exact ⟨congrArg Value.bool hd.symm, rfl⟩
                          · have g3' : decide (v > 9) = false := decide_eq_false g3
                            have hd : decide (c = 0 ∧ ¬ (0 ≤ v ∧ v ≤ 9)) = false := decide_eq_false (fun h => h.2 (by omega))
                            clear g1
                            go_wp2
                            go_meet
                            case rel => exact ⟨congrArg Value.bool hd.symm, rfl⟩
                      · have g1' : (c == 0) = false := by simp [g1]
                        have hd : decide (c = 0 ∧ ¬ (0 ≤ v ∧ v ≤ 9)) = false := decide_eq_false (fun h => g1 h.1)
                        clear g1
                        go_wp2
                        go_meet
                        case rel => exact ⟨congrArg Value.bool hd.symm, rfl⟩
                    case rest =>
                      obtain ⟨rfl, hwc⟩ := hcut
                      subst hwc
                      go_upto_if 112 with fail
                      go_cut [7] (fun s wx => s = .int .i64 FI ∧ wx = wc)
                      case first =>
                        by_cases g : c = 0 ∧ ¬ (0 ≤ v ∧ v ≤ 9)
                        · have hd : decide (c = 0 ∧ ¬ (0 ≤ v ∧ v ≤ 9)) = true := decide_eq_true g
                          have hF := HFI.out
                          rw [if_pos g.1, if_neg g.2] at hF
                          rw [hd]
                          clear g hd
                          go_wp2
                          go_meet
                          case rel => exact ⟨by rw [hF], rfl⟩
                        · have hd : decide (c = 0 ∧ ¬ (0 ≤ v ∧ v ≤ 9)) = false := decide_eq_false g
                          have hF : FI = c := by
                            rw [HFI.out]
                            by_cases g1 : c = 0
                            · rw [if_pos g1]
                              by_cases g2 : 0 ≤ v ∧ v ≤ 9
                              · rw [if_pos g2, g1]
                              · exact absurd ⟨g1, g2⟩ g
                            · rw [if_neg g1]
                          rw [hd]
                          clear g hd
                          go_wp2
                          go_meet
                          case rel => exact ⟨by rw [hF], rfl⟩
                      case rest =>
                        obtain ⟨rfl, hwc⟩ := hcut
                        subst hwc
                        go_upto_region 31 with fail
                        go_cut [114] (fun s wx => s = .bool (FI == 0) ∧ wx = wc)
                        case first =>
                          go_wp2
                          go_meet
                          case rel => exact ⟨rfl, rfl⟩
                        case rest =>
                          obtain ⟨rfl, hwc⟩ := hcut
                          subst hwc
                          go_upto_if 114 with fail
                          go_cut [7] (fun s wx => s = .int .i64 C ∧ Below w0.heap.size w0 wx ∧ ∃ qx dx qx' dx', BxAt wx X OB OT qx RN.length dx qx' dx' ∧ Sl2 wx qx RN.length RN ∧ SlB wx qx' RN.length RE)
                          case first =>
                            by_cases g : FI = 0
                            · have g' : (FI == 0) = true := by simp [g]
                              have HIx := hide (HIO.out g wc HB14.out)
                              obtain ⟨p0, p1, p2⟩ := HAB.out wc HB14.out
                              have HXL : Hid (X < wc.heap.size) := (Array.getElem?_eq_some_iff.1 HXQ.out).1
                              clear g
                              go_wp2_with fail
                              clear p0 p1 p2
                              refine HIx.out.mono ?_
                              rintro e w15 ⟨ax, cx, ax', cx', rfl, hnew, hb15⟩
                              have hx15 := (hb15.block _ HXL.out).trans HXQ.out
                              obtain ⟨⟨r0, r1, r2, r3⟩, rf⟩ := box_cells hx15
                              have HX15 := hide hx15
                              have HNW := hide hnew
                              have HB15 := hide (below_step HB14.out hb15)
                              clear hx15 hnew hb15 HIx
                              go_wp2
                              go_meet
                              case rel =>
                                obtain ⟨⟨hbx, hsz, hkp⟩, hbl⟩ := box_set (v0 := .int .i64 OB) (v1 := .int .i64 OT) (v2 := .slice ax RN.length cx) (v3 := .slice ax' RN.length cx') HX15.out rfl
                                exact ⟨rfl, hbl w0 w0.heap.size HB15.out HLX.out, ax, cx, ax', cx', hbx, (autoNew_set HNW.out HXL.out hsz hkp).here⟩
                            · have g' : (FI == 0) = false := by simp [g]
                              obtain ⟨e1, e2, e3, e4, e5⟩ := HBAD.out g
                              clear g
                              go_wp2
                              go_meet
                              case rel =>
                                refine ⟨by rw [e1], HB14.out, none, 0, none, 0, ?_, ?_⟩
                                · rw [e2, e4, e5]; exact HXQ.out
                                · rw [e2, e3]; exact (autoNew_nil wc wc).here
                          case rest =>
                            obtain ⟨rfl, hbc, qx, dx, qx', dx', hq1, hq2, hq3⟩ := hcut
                            obtain ⟨W, hW⟩ : ∃ W : World, W = wc := ⟨_, rfl⟩
                            rw [← hW] at hbc hq1 hq2 hq3 ⊢
                            have HBW := hide hbc
                            have HQ1 : Hid (W.heap[X]? = _) := hq1
                            have HQ2 := hide (And.intro hq2 hq3)
                            have HXW : Hid (X < W.heap.size) := (Array.getElem?_eq_some_iff.1 HQ1.out).1
                            clear hbc hq1 hq2 hq3 hW wc
                            obtain ⟨p0, p1, p2⟩ := HAB.out W HBW.out
                            go_wp2_with fail
                            clear p0 p1 p2
                            refine (HIS.out W HBW.out).mono ?_
                            rintro e w3 ⟨ay, cy, ay', cy', rfl, hnew, hb3⟩
                            have hbz := (Below.refl w3.heap.size w3).alloc (Nat.le_refl _) (.cells #[.int .i64 OB, .int .i64 OT, .slice ay RN.length cy, .slice ay' RN.length cy'] 40)
                            have hb34 := below_step hb3 hbz
                            have HB4 := hide (below_step HBW.out hb34)
                            have HX4 := hide ((hb34.block _ HXW.out).trans HQ1.out)
                            have HY4 := hide (heap_alloc_last w3 (.cells #[.int .i64 OB, .int .i64 OT, .slice ay RN.length cy, .slice ay' RN.length cy'] 40))
                            have HN4 := hide (hnew.below hbz).here
                            have HQ4 := hide (And.intro (sl2_below HQ2.out.1 hb34) (slB_below HQ2.out.2 hb34))
                            clear hnew hb3 hbz hb34 HQ1 HQ2 HBW HXW HIS
                            go_wp2_with fail
                            generalize w3.alloc (.cells #[.int .i64 OB, .int .i64 OT, .slice ay RN.length cy, .slice ay' RN.length cy'] 40) = w4 at HB4 HX4 HY4 HN4 HQ4 ⊢
                            obtain ⟨Y, hY⟩ : ∃ Y, Y = w3.heap.size := ⟨_, rfl⟩
                            rw [← hY] at HY4 ⊢
                            clear hY
                            refine (HES.out _ w4 (HHA.out w4 HB4.out)).mono ?_
                            rintro e w5 ⟨rfl, hb5⟩
                            have HB5 := hide (below_step HB4.out hb5)
                            have HX5 := hide ((hb5.block _ (Array.getElem?_eq_some_iff.1 HX4.out).1).trans HX4.out)
                            have HY5 := hide ((hb5.block _ (Array.getElem?_eq_some_iff.1 HY4.out).1).trans HY4.out)
                            have HN5 := hide (And.intro (sl2_below HN4.out.1 hb5) (slB_below HN4.out.2 hb5))
                            have HQ5 := hide (And.intro (sl2_below HQ4.out.1 hb5) (slB_below HQ4.out.2 hb5))
                            obtain ⟨⟨q0, q1, q2, q3⟩, -⟩ := box_cells HX5.out
                            obtain ⟨⟨r0, r1, r2, r3⟩, -⟩ := box_cells HY5.out
                            clear hb5 HB4 HX4 HY4 HN4 HQ4
                            go_wp2_with fail
                            clear q0 q1 q2 q3 r0 r1 r2 r3
                            refine (autos_eq OB OT ay RN.length cy ay' RN.length cy' qx dx qx' dx' RN RE w5 HN5.out.1 HN5.out.2 HQ5.out.1 HQ5.out.2).mono ?_
                            rintro e w6 ⟨rfl, hb6⟩
                            have HBF := hide (below_step HB0.out (below_step HB5.out hb6))
                            clear hb6 HB5 HX5 HY5 HN5 HQ5
                            go_wp2
                            go_ret
                            exact ⟨rfl, HBF.out⟩
end Go.Proofs.YtcpnfbjcgaonkafDoor
