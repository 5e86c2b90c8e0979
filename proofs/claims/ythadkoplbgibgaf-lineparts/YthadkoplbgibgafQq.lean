/- The law LineParts. -/
import Derived.Maps.AppendAt
import Derived.Test.YthadkoplbgibgafZLp
import Derived.Test.YthadkoplbgibgafEk
import Derived.Test.YthadkoplbgibgafZEo
import Derived.Test.YthadkoplbgibgafZQj
import Derived.Test.YthadkoplbgibgafZLf
import Derived.Test.YthadkoplbgibgafZDj
namespace Go.Proofs.Ythadkoplbgibgaf
open Go.RowKit

theorem take_snocD {l : List Int} {k : Nat} (hk : k < l.length) : l.take (k + 1) = l.take k ++ [l.getD k 0] := by
  rw [List.take_succ_eq_append_getElem hk]
  simp [List.getD, hk]
set_option maxHeartbeats 16000000 in
set_option maxRecDepth 20000 in
theorem lineparts_any (b : Int) (a : Option Addr) (n cap : Nat) (C : List Int) (c : Int) (w : World) (hs : Sl w a n C) (_hn0 : a = none → cap = 0) (hn8 : n * 8 ≤ 140737488351232) :
    Calls Try.prog 3 #[.int .i64 b, .slice a n cap, .int .i64 c] w fun e w' => e = .returned (.bool true) ∧ Below w.heap.size w w' := by
  have hL := hs.1
  have HAB : Hid (∀ W, Below w.heap.size w W → Sl W a n C) := fun W h => sl_below hs h
  have HSL : Hid (Sl (w.alloc (.cells #[.int .i64 1, .int .i64 (-1)] 3)) (some ⟨w.heap.size, 0, none⟩) 2 [1, -1]) := sl_lit w 3 [1, -1] (by decide) (by decide)
  have HB0 := hide ((Below.refl w.heap.size w).alloc (Nat.le_refl _) (.cells #[.int .i64 1, .int .i64 (-1)] 3))
  have HF0 := hide (line_saysQ 1 (some ⟨w.heap.size, 0, none⟩) 2 2 [1, -1] 0 false _ HSL.out)
  rw [fe_fact.1, show okI 0 1 = 1 from rfl, show okI 0 ((2 : Nat) : Int) = 2 from rfl] at HF0
  unfold PairR at HF0
  rw [fe_len, errV_zero] at HF0
  generalize lnN 1 [1, -1] 0 false = FN at HF0
  generalize lnE 1 [1, -1] 0 false = FE at HF0
  have HNLN : Hid ((negL C).length = n) := by show _ = _; rw [negL_len, hL]
  have HRLN : Hid (C.reverse.length = n) := by show _ = _; rw [List.length_reverse, hL]
  have HNS : Hid (∀ k, k < n → (negL C).take (k + 1) = (negL C).take k ++ [-(C.getD k 0)]) := fun k hk => by
    rw [take_snocD (by rw [negL_len, hL]; exact hk), negL_get]
  have HRS : Hid (∀ k, k < n → C.reverse.take (k + 1) = C.reverse.take k ++ [C.getD (n - 1 - k) 0]) := fun k hk => by
    rw [take_snocD (by rw [List.length_reverse, hL]; exact hk), rev_get (by rw [hL]; exact hk), hL]
  have HCW : Hid (∀ x ∈ C, (Lit.int .i64 x).wf = true) := hs.2.2.1
  obtain ⟨i0, hi0, hz0, hz1, hz2⟩ := info_parts info3
  clear hs
  go_enter Try.func3, Try.ntmps3
  go_wp2_with fail
  refine HF0.out.mono ?_
  rintro e w1 ⟨fa, fc, fa', fc', rfl, hnew, hb1⟩
  obtain ⟨hA2, hbz⟩ := autoAt_pair (b := 1) (t := 2) (c := fc) (c' := fc') 26 hnew
  have HB2 := hide (below_step HB0.out (below_step hb1 hbz))
  obtain ⟨⟨q0, q1, q2, q3⟩, -⟩ := hA2
  clear hnew hb1 hbz HF0 HSL HB0
  go_wp2_with fail
  generalize w1.alloc (.cells #[.int .i64 1, .int .i64 2, .slice fa 3 fc, .slice fa' 3 fc'] 26) = wB at HB2 q0 q1 q2 q3 ⊢
  clear q0 q1 q2 q3
  go_loopw [9, 10, 11] (fun v v' iv wx => ∃ k : Nat, k ≤ n ∧ iv = .int .i64 k ∧ (∀ j, j < k → -100 ≤ C.getD j 0 ∧ C.getD j 0 ≤ 100) ∧ TwoR wB ((negL C).take k) (C.reverse.take k) v v' wx) (fun _ _ iv _ => n - (intOf iv).toNat)
  case atStart => exact ⟨0, by omega, rfl, fun j hj => by omega, twoR_nil wB⟩
  case round =>
    obtain ⟨k, hk, rfl, hall, htw⟩ := hrel
    have HALL := hide hall
    have HTW := hide htw
    clear hall htw
    by_cases hlt : k < n
    · have hlti : (k : Int) < (n : Int) := by omega
      have hsC := HAB.out wr (below_step HB2.out HTW.out.2.2.2)
      obtain ⟨b1, o1, rfl, hc⟩ := sl_cell hsC k hlt
      have HNSk := hide (HNS.out k hlt)
      have HRSk := hide (HRS.out k hlt)
      have HAX : Hid ((-100 ≤ C.getD k 0 ∧ C.getD k 0 ≤ 100) → ∀ j, j < k + 1 → -100 ≤ C.getD j 0 ∧ C.getD j 0 ≤ 100) := fun h j hj => by
        by_cases e : j = k
        · subst e; exact h
        · exact HALL.out j (by omega)
      have HCEL : Hid (∀ W, Below wB.heap.size wB W → W.cell? ⟨b1, o1 + (n - 1 - k), none⟩ = some (.int .i64 (C.getD (n - 1 - k) 0))) := fun W hW => by
        obtain ⟨b2, o2, e, h⟩ := sl_cell (HAB.out W (below_step HB2.out hW)) (n - 1 - k) (by omega)
        cases e
        exact h
      clear hsC
      generalize C.getD k 0 = x at hc HNSk HAX
      by_cases h1 : x < -100
      · have HBR := hide (below_step HB2.out HTW.out.2.2.2)
        go_wp2
        go_ret
        exact ⟨by simp, HBR.out⟩
      · have h1' : decide (x < -100) = false := by simp; omega
        by_cases h2 : x > 100
        · have HBR := hide (below_step HB2.out HTW.out.2.2.2)
          go_wp2
          go_ret
          exact ⟨by simp, HBR.out⟩
        · have h2' : decide (x > 100) = false := by simp; omega
          have HAX2 := hide (HAX.out ⟨by omega, by omega⟩)
          have HTLn : Hid (((negL C).take k).length = k) := by show _ = _; rw [List.length_take, HNLN.out]; omega
          have HTLr : Hid ((C.reverse.take k).length = k) := by show _ = _; rw [List.length_take, HRLN.out]; omega
          have HOWN := hide HTW.out.1
          rw [HTLn.out] at HOWN
          have HSZ := hide HTW.out.2.2.2.size
          generalize C.getD (n - 1 - k) 0 = y at HRSk HCEL
          have hidx : (n : Int) - 1 - (k : Int) = ((n - 1 - k : Nat) : Int) := by omega
          have hidx2 : ((n - 1 - k : Nat) : Int) < (n : Int) := by omega
          go_wp2_with (first
            | (at_builtin; refine wpList_append_own_at _ rfl _ _ 22 rfl wB.heap.size 3 i0 (.int .i64 0) 1 8 Try.underlying22 hi0 hz0 hz1 hz2 rfl (by decide) _ k (((negL C).take k).map (Value.int .i64)) rfl (HOWN.out.alloc _) ⟨wr.heap.size, 0, none⟩ 1 1 [.int .i64 (-x)] rfl rfl (one_new _ _ _) (fun u hu => by simp at hu; subst hu; rfl) (by unfold maxLen; omega) (by omega) (by have := HSZ.out; simp; omega) ?_; intro v3 w6 hown hgrow _ hat; have HT6 := hide (twoR_left2 HTW.out (by rw [HTLn.out]; exact hown) hgrow hat); have hcy := HCEL.out w6 HT6.out.2.2.2; have HOW6 := hide HT6.out.2.1; rw [HTLr.out] at HOW6; have HSZ6 := hide HT6.out.2.2.2.size; clear hown hgrow hat)
            | (at_builtin; refine wpList_append_own_at _ rfl _ _ 22 rfl wB.heap.size 3 i0 (.int .i64 0) 1 8 Try.underlying22 hi0 hz0 hz1 hz2 rfl (by decide) _ k ((C.reverse.take k).map (Value.int .i64)) rfl (HOW6.out.alloc _) ⟨w6.heap.size, 0, none⟩ 1 1 [.int .i64 y] rfl rfl (one_new _ _ _) (fun u hu => by simp at hu; subst hu; rfl) (by unfold maxLen; omega) (by omega) (by have := HSZ6.out; simp; omega) ?_; intro v4 w7 hown hgrow _ hat; have HT7 := hide (twoR_swap (twoR_left2 (twoR_swap HT6.out) (by rw [HTLr.out]; exact hown) hgrow hat)); clear hown hgrow hat))
          go_roundw
          case rel => exact ⟨k + 1, by omega, by go_num, HAX2.out, by rw [HNSk.out, HRSk.out]; exact HT7.out⟩
          case measure => simp [intOf]; omega
    · have hlti : ¬ (k : Int) < (n : Int) := by omega
      obtain rfl : n = k := by omega
      have HBW := hide (below_step HB2.out HTW.out.2.2.2)
      by_cases hc1 : c < -1000
      · go_wp2
        go_ret
        exact ⟨by simp, HBW.out⟩
      · have hc1' : decide (c < -1000) = false := by simp; omega
        by_cases hc2 : c > 1000
        · go_wp2
          go_ret
          exact ⟨by simp, HBW.out⟩
        · have hc2' : decide (c > 1000) = false := by simp; omega
          have HTK1 : Hid ((negL C).take n = negL C) := List.take_of_length_le (by rw [HNLN.out]; exact Nat.le_refl _)
          have HTK2 : Hid (C.reverse.take n = C.reverse) := List.take_of_length_le (by rw [HRLN.out]; exact Nat.le_refl _)
          rw [HTK1.out, HTK2.out] at HTW
          obtain ⟨ho1, ho2, -, -⟩ := HTW.out
          obtain ⟨ao, co, rfl, hso⟩ := sl_of_owns rfl (by rw [HNLN.out]; unfold maxLen; omega) (fun x hx => by
            obtain ⟨y, hy, rfl⟩ := List.mem_map.1 hx
            obtain ⟨j, hj, rfl⟩ := List.getElem_of_mem hy
            have := HALL.out j (by omega)
            rw [getD_at _ j hj] at this
            exact WalkArith.wf_i64 (by omega)) ho1
          obtain ⟨ar, cr, rfl, hsr⟩ := sl_of_owns rfl (by rw [HRLN.out]; unfold maxLen; omega) (fun x hx => HCW.out x (List.mem_reverse.1 hx)) ho2
          have HSO : Hid (∀ W, Below wr.heap.size wr W → Sl W ao n (negL C)) := fun W hW => by have h := sl_below hso.1 hW; rw [HNLN.out] at h; exact h
          have HSR : Hid (∀ W, Below wr.heap.size wr W → Sl W ar n C.reverse) := fun W hW => by have h := sl_below hsr.1 hW; rw [HRLN.out] at h; exact h
          rw [HNLN.out, HRLN.out]
          obtain ⟨wL, hwL⟩ : ∃ wL : World, wL = wr := ⟨_, rfl⟩
          rw [← hwL] at HSO HSR HBW ⊢
          have hL' : C.length = n := hL
          clear ho1 ho2 hso hsr HTW HTK1 HTK2 HNS HRS HCW HALL hwL wr HB2
          have HC0 := hide (fun W h => line_saysQ b a n cap C c false W h)
          have HC1 := hide (fun W h => line_saysQ b a n cap C c true W h)
          have HC2 := hide (fun W h => line_saysQ b ao n co (negL C) (-c) true W h)
          by_cases h3 : lnC b C c false = 0 ∧ lnC b C c true = 0 ∧ lnC b (negL C) (-c) true = 0
          · obtain ⟨hz, hb, ha⟩ := h3
            have hM : codeM b (n : Int) = 0 := by have := (lnF_zero (lnC_zero hz).1).1; rw [hL'] at this; exact this
            have P1 := lp_two hz hb
            have P3 := fun hx => lp_three hz hb ha rfl rfl hx
            have P4 := lp_turn hz
            have P5 := ln_neg b C c
            rw [hL'] at P1 P3 P4
            have HC3 := hide (fun W => all_says b (n : Int) W)
            rw [hM] at HC3
            have HC6 := hide (fun W h => line_saysQ b ao n co (negL C) (-c) false W h)
            rw [P5.1, P5.2.1, P5.2.2] at HC6
            have HC7 := hide (fun W h => line_saysQ b ar n cr C.reverse c false W h)
            rw [P4.1] at HC7
            rw [hz] at HC0 HC6
            rw [hb] at HC1
            rw [ha] at HC2
            have e1 : okI 0 b = b := rfl
            have e2 : okI 0 (n : Int) = (n : Int) := rfl
            have HP1 := hide P1
            have HP3 := hide P3
            have HP4 := hide P4
            unfold PairR at HC0 HC1 HC2 HC3 HC6 HC7
            rw [e1, e2, errV_zero] at HC0 HC1 HC2 HC3 HC6 HC7
            clear P1 P3 P4 P5 hz hb ha hM hL' hL e1 e2
            generalize lnN b C c false = N0 at *
            generalize lnE b C c false = E0 at *
            generalize lnN b C c true = N1 at *
            generalize lnE b C c true = E1 at *
            generalize lnN b (negL C) (-c) true = N2 at *
            generalize lnE b (negL C) (-c) true = E2 at *
            generalize lnN b C.reverse c false = NR at *
            generalize lnE b C.reverse c false = ER at *
            generalize alN b (n : Int) = AN at *
            generalize alE b (n : Int) = AE at *
            have HBL0 := hide (Below.refl wL.heap.size wL)
            have HB := hide HBW.out
            have HL := hide HBL0.out
            clear HBL0
            go_wp2_with fail
            have HCC := hide (HC0.out wL (HAB.out wL HB.out))
            refine HCC.out.mono ?_
            rintro e w1 ⟨x1, d1, y1, g1, rfl, hnew, hb⟩
            obtain ⟨hA, hbz⟩ := autoAt_pair (b := b) (t := (n : Int)) (c := d1) (c' := g1) 26 hnew
            have hst := below_step hb hbz
            have HBt := hide (below_step HB.out hst)
            have HLt := hide (below_step HL.out hst)
            clear HB HL
            have HB := hide HBt.out
            have HL := hide HLt.out
            clear HBt HLt
            have HqZ := hide hA
            clear hA hnew hb hbz hst HCC
            go_wp2_with fail
            generalize w1.alloc (.cells #[.int .i64 b, .int .i64 (n : Int), .slice x1 N0.length d1, .slice y1 N0.length g1] 26) = v1 at HB HL HqZ ⊢
            have HCC := hide (HC1.out v1 (HAB.out v1 HB.out))
            refine HCC.out.mono ?_
            rintro e w2 ⟨x2, d2, y2, g2, rfl, hnew, hb⟩
            obtain ⟨hA, hbz⟩ := autoAt_pair (b := b) (t := (n : Int)) (c := d2) (c' := g2) 26 hnew
            have hst := below_step hb hbz
            have HqZ_2 := hide (autoAt_below HqZ.out hst)
            clear HqZ
            have HBt := hide (below_step HB.out hst)
            have HLt := hide (below_step HL.out hst)
            clear HB HL
            have HB := hide HBt.out
            have HL := hide HLt.out
            clear HBt HLt
            have HqB := hide hA
            clear hA hnew hb hbz hst HCC
            go_wp2_with fail
            generalize w2.alloc (.cells #[.int .i64 b, .int .i64 (n : Int), .slice x2 N1.length d2, .slice y2 N1.length g2] 26) = v2 at HB HL HqZ_2 HqB ⊢
            have HCC := hide (HC2.out v2 (HSO.out v2 HL.out))
            refine HCC.out.mono ?_
            rintro e w3 ⟨x3, d3, y3, g3, rfl, hnew, hb⟩
            obtain ⟨hA, hbz⟩ := autoAt_pair (b := b) (t := (n : Int)) (c := d3) (c' := g3) 26 hnew
            have hst := below_step hb hbz
            have HqZ_3 := hide (autoAt_below HqZ_2.out hst)
            clear HqZ_2
            have HqB_3 := hide (autoAt_below HqB.out hst)
            clear HqB
            have HBt := hide (below_step HB.out hst)
            have HLt := hide (below_step HL.out hst)
            clear HB HL
            have HB := hide HBt.out
            have HL := hide HLt.out
            clear HBt HLt
            have HqA := hide hA
            clear hA hnew hb hbz hst HCC
            go_wp2_with fail
            generalize w3.alloc (.cells #[.int .i64 b, .int .i64 (n : Int), .slice x3 N2.length d3, .slice y3 N2.length g3] 26) = v3 at HB HL HqZ_3 HqB_3 HqA ⊢
            have HCC := hide (HC3.out v3)
            refine HCC.out.mono ?_
            rintro e w4 ⟨x4, d4, y4, g4, rfl, hnew, hb⟩
            obtain ⟨hA, hbz⟩ := autoAt_pair (b := b) (t := (n : Int)) (c := d4) (c' := g4) 26 hnew
            have hst := below_step hb hbz
            have HqZ_4 := hide (autoAt_below HqZ_3.out hst)
            clear HqZ_3
            have HqB_4 := hide (autoAt_below HqB_3.out hst)
            clear HqB_3
            have HqA_4 := hide (autoAt_below HqA.out hst)
            clear HqA
            have HBt := hide (below_step HB.out hst)
            have HLt := hide (below_step HL.out hst)
            clear HB HL
            have HB := hide HBt.out
            have HL := hide HLt.out
            clear HBt HLt
            have HqL := hide hA
            clear hA hnew hb hbz hst HCC
            obtain ⟨⟨Z0, Z1, Z2, Z3⟩, -⟩ := HqZ_4.out
            obtain ⟨⟨B0, B1, B2, B3⟩, -⟩ := HqB_4.out
            go_wp2_with fail
            clear Z0 Z1 Z2 Z3
            clear B0 B1 B2 B3
            generalize w4.alloc (.cells #[.int .i64 b, .int .i64 (n : Int), .slice x4 AN.length d4, .slice y4 AN.length g4] 26) = v4 at HB HL HqZ_4 HqB_4 HqA_4 HqL ⊢
            have HCC := hide (both_u b (n : Int) x1 N0.length d1 y1 N0.length g1 N0 E0 b (n : Int) x2 N1.length d2 y2 N1.length g2 N1 E1 14 v4 HqZ_4.out.2.1 HqZ_4.out.2.2 HqB_4.out.2.1 HqB_4.out.2.2)
            unfold PairR at HCC
            generalize hXg : bothN 14 b (n : Int) N0 E0 N0.length b (n : Int) N1 E1 N1.length = X at HCC HP3
            generalize hXEg : bothE 14 b (n : Int) N0 E0 N0.length b (n : Int) N1 E1 N1.length = XE at HCC HP3
            generalize hXCg : bothC 14 b (n : Int) N0 E0 N0.length b (n : Int) N1 E1 N1.length = cX at HCC HP3
            clear hXg hXEg hXCg
            refine HCC.out.mono ?_
            rintro e w5 ⟨x5, d5, y5, g5, rfl, hnew, hb⟩
            obtain ⟨hA, hbz⟩ := autoAt_pair (b := (okI cX b)) (t := (okI cX (n : Int))) (c := d5) (c' := g5) 26 hnew
            have hst := below_step hb hbz
            have HqZ_5 := hide (autoAt_below HqZ_4.out hst)
            clear HqZ_4
            have HqB_5 := hide (autoAt_below HqB_4.out hst)
            clear HqB_4
            have HqA_5 := hide (autoAt_below HqA_4.out hst)
            clear HqA_4
            have HqL_5 := hide (autoAt_below HqL.out hst)
            clear HqL
            have HBt := hide (below_step HB.out hst)
            have HLt := hide (below_step HL.out hst)
            clear HB HL
            have HB := hide HBt.out
            have HL := hide HLt.out
            clear HBt HLt
            have HqX := hide hA
            clear hA hnew hb hbz hst HCC
            obtain ⟨⟨Z0, Z1, Z2, Z3⟩, -⟩ := HqZ_5.out
            obtain ⟨⟨B0, B1, B2, B3⟩, -⟩ := HqB_5.out
            go_wp2_with fail
            clear Z0 Z1 Z2 Z3
            clear B0 B1 B2 B3
            generalize w5.alloc (.cells #[.int .i64 (okI cX b), .int .i64 (okI cX (n : Int)), .slice x5 X.length d5, .slice y5 X.length g5] 26) = v5 at HB HL HqZ_5 HqB_5 HqA_5 HqL_5 HqX ⊢
            have HCC := hide (both_u b (n : Int) x1 N0.length d1 y1 N0.length g1 N0 E0 b (n : Int) x2 N1.length d2 y2 N1.length g2 N1 E1 8 v5 HqZ_5.out.2.1 HqZ_5.out.2.2 HqB_5.out.2.1 HqB_5.out.2.2)
            unfold PairR at HCC
            have HYE := hide HP1.out.2.2
            rw [HP1.out.1, HP1.out.2.1, errV_zero, show okI 0 b = b from rfl, show okI 0 (n : Int) = (n : Int) from rfl] at HCC
            generalize hYg : bothN 8 b (n : Int) N0 E0 N0.length b (n : Int) N1 E1 N1.length = Y at HCC HP1
            generalize hYEg : bothE 8 b (n : Int) N0 E0 N0.length b (n : Int) N1 E1 N1.length = YE at HCC HP1 HYE
            clear hYg hYEg HP1
            refine HCC.out.mono ?_
            rintro e w6 ⟨x6, d6, y6, g6, rfl, hnew, hb⟩
            obtain ⟨hA, hbz⟩ := autoAt_pair (b := b) (t := (n : Int)) (c := d6) (c' := g6) 26 hnew
            have hst := below_step hb hbz
            have HqZ_6 := hide (autoAt_below HqZ_5.out hst)
            clear HqZ_5
            have HqB_6 := hide (autoAt_below HqB_5.out hst)
            clear HqB_5
            have HqA_6 := hide (autoAt_below HqA_5.out hst)
            clear HqA_5
            have HqL_6 := hide (autoAt_below HqL_5.out hst)
            clear HqL_5
            have HqX_6 := hide (autoAt_below HqX.out hst)
            clear HqX
            have HBt := hide (below_step HB.out hst)
            have HLt := hide (below_step HL.out hst)
            clear HB HL
            have HB := hide HBt.out
            have HL := hide HLt.out
            clear HBt HLt
            have HqY := hide hA
            clear hA hnew hb hbz hst HCC
            by_cases hX : cX = 0
            · have HX3 := hide (HP3.out hX)
              have eX1 : okI cX b = b := by unfold okI; rw [if_pos hX]
              have eX2 : okI cX (n : Int) = (n : Int) := by unfold okI; rw [if_pos hX]
              rw [eX1, eX2] at HqX_6
              rw [errV_yes hX]
              clear HP3 eX1 eX2 hX
              obtain ⟨⟨X0, X1, X2, X3⟩, -⟩ := HqX_6.out
              obtain ⟨⟨A0, A1, A2, A3⟩, -⟩ := HqA_6.out
              go_wp2_with fail
              clear X0 X1 X2 X3
              clear A0 A1 A2 A3
              generalize w6.alloc (.cells #[.int .i64 b, .int .i64 (n : Int), .slice x6 1 d6, .slice y6 1 g6] 26) = v6 at HB HL HqZ_6 HqB_6 HqA_6 HqL_6 HqX_6 HqY ⊢
              have HCC := hide (both_u b (n : Int) x5 X.length d5 y5 X.length g5 X XE b (n : Int) x3 N2.length d3 y3 N2.length g3 N2 E2 14 v6 HqX_6.out.2.1 HqX_6.out.2.2 HqA_6.out.2.1 HqA_6.out.2.2)
              unfold PairR at HCC
              rw [HX3.out.1.1, HX3.out.1.2.1, HX3.out.1.2.2, errV_zero, show okI 0 b = b from rfl, show okI 0 (n : Int) = (n : Int) from rfl] at HCC
              refine HCC.out.mono ?_
              rintro e w7 ⟨x7, d7, y7, g7, rfl, hnew, hb⟩
              obtain ⟨hA, hbz⟩ := autoAt_pair (b := b) (t := (n : Int)) (c := d7) (c' := g7) 26 hnew
              have hst := below_step hb hbz
              have HqZ_7 := hide (autoAt_below HqZ_6.out hst)
              clear HqZ_6
              have HqB_7 := hide (autoAt_below HqB_6.out hst)
              clear HqB_6
              have HqA_7 := hide (autoAt_below HqA_6.out hst)
              clear HqA_6
              have HqL_7 := hide (autoAt_below HqL_6.out hst)
              clear HqL_6
              have HqX_7 := hide (autoAt_below HqX_6.out hst)
              clear HqX_6
              have HqY_7 := hide (autoAt_below HqY.out hst)
              clear HqY
              have HBt := hide (below_step HB.out hst)
              have HLt := hide (below_step HL.out hst)
              clear HB HL
              have HB := hide HBt.out
              have HL := hide HLt.out
              clear HBt HLt
              have HqW := hide hA
              clear hA hnew hb hbz hst HCC
              obtain ⟨⟨X0, X1, X2, X3⟩, -⟩ := HqX_7.out
              obtain ⟨⟨A0, A1, A2, A3⟩, -⟩ := HqA_7.out
              go_wp2_with fail
              clear X0 X1 X2 X3
              clear A0 A1 A2 A3
              generalize w7.alloc (.cells #[.int .i64 b, .int .i64 (n : Int), .slice x7 AN.length d7, .slice y7 AN.length g7] 26) = v7 at HB HL HqZ_7 HqB_7 HqA_7 HqL_7 HqX_7 HqY_7 HqW ⊢
              have HCC := hide (both_u b (n : Int) x5 X.length d5 y5 X.length g5 X XE b (n : Int) x3 N2.length d3 y3 N2.length g3 N2 E2 8 v7 HqX_7.out.2.1 HqX_7.out.2.2 HqA_7.out.2.1 HqA_7.out.2.2)
              unfold PairR at HCC
              have HUE := hide HX3.out.2.2.2
              rw [HX3.out.2.1, HX3.out.2.2.1, errV_zero, show okI 0 b = b from rfl, show okI 0 (n : Int) = (n : Int) from rfl] at HCC
              generalize hUg : bothN 8 b (n : Int) X XE X.length b (n : Int) N2 E2 N2.length = U at HCC HX3
              generalize hUEg : bothE 8 b (n : Int) X XE X.length b (n : Int) N2 E2 N2.length = UE at HCC HX3 HUE
              clear hUg hUEg HX3
              refine HCC.out.mono ?_
              rintro e w8 ⟨x8, d8, y8, g8, rfl, hnew, hb⟩
              obtain ⟨hA, hbz⟩ := autoAt_pair (b := b) (t := (n : Int)) (c := d8) (c' := g8) 26 hnew
              have hst := below_step hb hbz
              have HqZ_8 := hide (autoAt_below HqZ_7.out hst)
              clear HqZ_7
              have HqB_8 := hide (autoAt_below HqB_7.out hst)
              clear HqB_7
              have HqA_8 := hide (autoAt_below HqA_7.out hst)
              clear HqA_7
              have HqL_8 := hide (autoAt_below HqL_7.out hst)
              clear HqL_7
              have HqX_8 := hide (autoAt_below HqX_7.out hst)
              clear HqX_7
              have HqY_8 := hide (autoAt_below HqY_7.out hst)
              clear HqY_7
              have HqW_8 := hide (autoAt_below HqW.out hst)
              clear HqW
              have HBt := hide (below_step HB.out hst)
              have HLt := hide (below_step HL.out hst)
              clear HB HL
              have HB := hide HBt.out
              have HL := hide HLt.out
              clear HBt HLt
              have HqU := hide hA
              clear hA hnew hb hbz hst HCC
              obtain ⟨by_, oy, ey, hcy⟩ := slB_cell HqY_8.out.2.2 0 (by omega)
              obtain ⟨bu_, ou, eu, hcu⟩ := slB_cell HqU.out.2.2 0 (by omega)
              rw [HYE.out, Nat.add_zero] at hcy
              rw [HUE.out, Nat.add_zero] at hcu
              subst ey
              subst eu
              obtain ⟨⟨Y0, Y1, Y2, Y3⟩, -⟩ := HqY_8.out
              obtain ⟨⟨U0, U1, U2, U3⟩, -⟩ := HqU.out
              obtain ⟨⟨W0, W1, W2, W3⟩, -⟩ := HqW_8.out
              obtain ⟨⟨L0, L1, L2, L3⟩, -⟩ := HqL_8.out
              go_wp2_with fail
              clear W0 W1 W2 W3
              clear L0 L1 L2 L3
              clear hcy hcu Y0 Y1 Y2 Y3 U0 U1 U2 U3
              generalize w8.alloc (.cells #[.int .i64 b, .int .i64 (n : Int), .slice x8 1 d8, .slice (some ⟨bu_, ou, none⟩) 1 g8] 26) = v8 at HB HL HqZ_8 HqB_8 HqA_8 HqL_8 HqX_8 HqY_8 HqW_8 HqU ⊢
              have HCC := hide (autos_eq b (n : Int) x7 AN.length d7 y7 AN.length g7 x4 d4 y4 g4 AN AE v8 HqW_8.out.2.1 HqW_8.out.2.2 HqL_8.out.2.1 HqL_8.out.2.2)
              refine HCC.out.mono ?_
              rintro e v9 ⟨rfl, hst⟩
              have HqZ_9 := hide (autoAt_below HqZ_8.out hst)
              clear HqZ_8
              have HqB_9 := hide (autoAt_below HqB_8.out hst)
              clear HqB_8
              have HqA_9 := hide (autoAt_below HqA_8.out hst)
              clear HqA_8
              have HqL_9 := hide (autoAt_below HqL_8.out hst)
              clear HqL_8
              have HqX_9 := hide (autoAt_below HqX_8.out hst)
              clear HqX_8
              have HqY_9 := hide (autoAt_below HqY_8.out hst)
              clear HqY_8
              have HqW_9 := hide (autoAt_below HqW_8.out hst)
              clear HqW_8
              have HqU_9 := hide (autoAt_below HqU.out hst)
              clear HqU
              have HBt := hide (below_step HB.out hst)
              have HLt := hide (below_step HL.out hst)
              clear HB HL
              have HB := hide HBt.out
              have HL := hide HLt.out
              clear HBt HLt
              clear hst HCC
              clear HqB_9
              clear HqA_9
              clear HqL_9
              clear HqX_9
              clear HqY_9
              clear HqW_9
              clear HqU_9
              go_wp2_with fail
              have HCC := hide (HC6.out v9 (HSO.out v9 HL.out))
              refine HCC.out.mono ?_
              rintro e w10 ⟨x10, d10, y10, g10, rfl, hnew, hb⟩
              obtain ⟨hA, hbz⟩ := autoAt_pair (b := b) (t := (n : Int)) (c := d10) (c' := g10) 26 hnew
              have hst := below_step hb hbz
              have HqZ_10 := hide (autoAt_below HqZ_9.out hst)
              clear HqZ_9
              have HBt := hide (below_step HB.out hst)
              have HLt := hide (below_step HL.out hst)
              clear HB HL
              have HB := hide HBt.out
              have HL := hide HLt.out
              clear HBt HLt
              have HqS := hide hA
              clear hA hnew hb hbz hst HCC
              obtain ⟨⟨S0, S1, S2, S3⟩, -⟩ := HqS.out
              obtain ⟨⟨Z0, Z1, Z2, Z3⟩, -⟩ := HqZ_10.out
              go_wp2_with fail
              clear S0 S1 S2 S3
              clear Z0 Z1 Z2 Z3
              generalize w10.alloc (.cells #[.int .i64 b, .int .i64 (n : Int), .slice x10 N0.length d10, .slice y10 N0.length g10] 26) = v10 at HB HL HqZ_10 HqS ⊢
              have HCC := hide (autos_eq b (n : Int) x10 N0.length d10 y10 N0.length g10 x1 d1 y1 g1 N0 E0 v10 HqS.out.2.1 HqS.out.2.2 HqZ_10.out.2.1 HqZ_10.out.2.2)
              refine HCC.out.mono ?_
              rintro e v11 ⟨rfl, hst⟩
              have HqZ_11 := hide (autoAt_below HqZ_10.out hst)
              clear HqZ_10
              have HqS_11 := hide (autoAt_below HqS.out hst)
              clear HqS
              have HBt := hide (below_step HB.out hst)
              have HLt := hide (below_step HL.out hst)
              clear HB HL
              have HB := hide HBt.out
              have HL := hide HLt.out
              clear HBt HLt
              clear hst HCC
              clear HqS_11
              go_wp2_with fail
              have HCC := hide (HC7.out v11 (HSR.out v11 HL.out))
              refine HCC.out.mono ?_
              rintro e w12 ⟨x12, d12, y12, g12, rfl, hnew, hb⟩
              obtain ⟨hA, hbz⟩ := autoAt_pair (b := b) (t := (n : Int)) (c := d12) (c' := g12) 26 hnew
              have hst := below_step hb hbz
              have HqZ_12 := hide (autoAt_below HqZ_11.out hst)
              clear HqZ_11
              have HBt := hide (below_step HB.out hst)
              have HLt := hide (below_step HL.out hst)
              clear HB HL
              have HB := hide HBt.out
              have HL := hide HLt.out
              clear HBt HLt
              have HqK := hide hA
              clear hA hnew hb hbz hst HCC
              go_wp2_with fail
              generalize w12.alloc (.cells #[.int .i64 b, .int .i64 (n : Int), .slice x12 NR.length d12, .slice y12 NR.length g12] 26) = v12 at HB HL HqZ_12 HqK ⊢
              have HRV : Hid (∀ j, j < n → (revAt n).take (j + 1) = (revAt n).take j ++ [((n - 1 - j : Nat) : Int)]) := fun j hj => by rw [take_snocD (by rw [revAt_len]; exact hj), revAt_get hj]
              have HRVL := hide (revAt_len n)
              go_loopw [30, 31] (fun v iv wx => ∃ j : Nat, j ≤ n ∧ iv = .int .i64 j ∧ Grow v12 ((revAt n).take j) v wx) (fun _ iv _ => n - (intOf iv).toNat)
              case atStart => exact ⟨0, by omega, rfl, grow_nil v12⟩
              case round =>
                obtain ⟨j, hj, rfl, hgr⟩ := hrel
                have HGR := hide hgr
                clear hgr
                by_cases hjn : j < n
                · have hjni : (j : Int) < (n : Int) := by omega
                  have HRVj := hide (HRV.out j hjn)
                  have HTLj : Hid (((revAt n).take j).length = j) := by show _ = _; rw [List.length_take, HRVL.out]; omega
                  have HOWN := hide HGR.out.1
                  rw [HTLj.out] at HOWN
                  have HSZ := hide (grow_size HGR.out)
                  have hidx : (n : Int) - 1 - (j : Int) = ((n - 1 - j : Nat) : Int) := by omega
                  generalize hyq : ((n - 1 - j : Nat) : Int) = y at HRVj hidx
                  clear hyq
                  go_wp2_with (at_builtin; refine wpList_append_own _ rfl _ _ 22 rfl v12.heap.size 3 i0 (.int .i64 0) 1 8 Try.underlying22 hi0 hz0 hz1 hz2 rfl (by decide) _ j (((revAt n).take j).map (Value.int .i64)) rfl (HOWN.out.alloc _) ⟨wr.heap.size, 0, none⟩ 1 1 [.int .i64 y] rfl rfl (one_new _ _ _) (fun u hu => by simp at hu; subst hu; rfl) (by unfold maxLen; omega) (by omega) (by have := HSZ.out; simp; omega) ?_; intro v' w3 hown hgrow hnil)
                  go_roundw
                  case rel =>
                    exact ⟨j + 1, by omega, by go_num, by rw [HRVj.out]; exact grow_push HGR.out (by rw [HTLj.out]; exact hown) hgrow⟩
                  case measure => simp [intOf]; omega
                · have hjni : ¬ (j : Int) < (n : Int) := by omega
                  obtain rfl : n = j := by omega
                  have HTK3 : Hid ((revAt n).take n = revAt n) := List.take_of_length_le (by rw [HRVL.out]; exact Nat.le_refl _)
                  rw [HTK3.out] at HGR
                  obtain ⟨aa, ca, rfl, hsa⟩ := sl_of_owns rfl (by rw [HRVL.out]; unfold maxLen; omega) (fun x hx => by
                    obtain ⟨i, hi, rfl⟩ := List.mem_map.1 hx
                    have := List.mem_range.1 hi
                    exact WalkArith.wf_i64 (by omega)) HGR.out.1
                  have HSA := hide hsa.1
                  have hst := HGR.out.2
                  have HqZ_13 := hide (autoAt_below HqZ_12.out hst)
                  clear HqZ_12
                  have HqK_13 := hide (autoAt_below HqK.out hst)
                  clear HqK
                  have HBt := hide (below_step HB.out hst)
                  have HLt := hide (below_step HL.out hst)
                  clear HB HL
                  have HB := hide HBt.out
                  have HL := hide HLt.out
                  clear HBt HLt
                  rw [HRVL.out] at HSA ⊢
                  clear hsa hst HGR HTK3 HRV
                  obtain ⟨⟨K0, K1, K2, K3⟩, -⟩ := HqK_13.out
                  go_wp2_with fail
                  clear K0 K1 K2 K3
                  have HCC := hide (spread_u b (n : Int) x12 NR.length d12 y12 NR.length g12 NR ER (n : Int) aa n ca (revAt n) wr HqK_13.out.2.1 HqK_13.out.2.2 HSA.out)
                  unfold PairR at HCC
                  rw [HP4.out.2.1, HP4.out.2.2.1, HP4.out.2.2.2, errV_zero, show okI 0 b = b from rfl, show okI 0 (n : Int) = (n : Int) from rfl] at HCC
                  refine HCC.out.mono ?_
                  rintro e w14 ⟨x14, d14, y14, g14, rfl, hnew, hb⟩
                  obtain ⟨hA, hbz⟩ := autoAt_pair (b := b) (t := (n : Int)) (c := d14) (c' := g14) 26 hnew
                  have hst := below_step hb hbz
                  have HqZ_14 := hide (autoAt_below HqZ_13.out hst)
                  clear HqZ_13
                  have HqK_14 := hide (autoAt_below HqK_13.out hst)
                  clear HqK_13
                  have HBt := hide (below_step HB.out hst)
                  have HLt := hide (below_step HL.out hst)
                  clear HB HL
                  have HB := hide HBt.out
                  have HL := hide HLt.out
                  clear HBt HLt
                  have HqM := hide hA
                  clear hA hnew hb hbz hst HCC
                  obtain ⟨⟨M0, M1, M2, M3⟩, -⟩ := HqM.out
                  obtain ⟨⟨Z0, Z1, Z2, Z3⟩, -⟩ := HqZ_14.out
                  go_wp2_with fail
                  clear M0 M1 M2 M3
                  clear Z0 Z1 Z2 Z3
                  generalize w14.alloc (.cells #[.int .i64 b, .int .i64 (n : Int), .slice x14 N0.length d14, .slice y14 N0.length g14] 26) = v14 at HB HL HqZ_14 HqK_14 HqM ⊢
                  have HCC := hide (autos_eq b (n : Int) x14 N0.length d14 y14 N0.length g14 x1 d1 y1 g1 N0 E0 v14 HqM.out.2.1 HqM.out.2.2 HqZ_14.out.2.1 HqZ_14.out.2.2)
                  refine HCC.out.mono ?_
                  rintro e v15 ⟨rfl, hst⟩
                  have HqZ_15 := hide (autoAt_below HqZ_14.out hst)
                  clear HqZ_14
                  have HqK_15 := hide (autoAt_below HqK_14.out hst)
                  clear HqK_14
                  have HqM_15 := hide (autoAt_below HqM.out hst)
                  clear HqM
                  have HBt := hide (below_step HB.out hst)
                  have HLt := hide (below_step HL.out hst)
                  clear HB HL
                  have HB := hide HBt.out
                  have HL := hide HLt.out
                  clear HBt HLt
                  clear hst HCC
                  go_wp2
                  go_ret
                  exact ⟨by simp, HB.out⟩
            · rw [errV_no hX]
              go_wp2
              go_ret
              exact ⟨by simp, HB.out⟩
          · unfold PairR at HC0 HC1 HC2
            generalize lnC b C c false = cZ at *
            generalize lnC b C c true = cB at *
            generalize lnC b (negL C) (-c) true = cA at *
            generalize lnN b C c false = N0 at *
            generalize lnE b C c false = E0 at *
            generalize lnN b C c true = N1 at *
            generalize lnE b C c true = E1 at *
            generalize lnN b (negL C) (-c) true = N2 at *
            generalize lnE b (negL C) (-c) true = E2 at *
            have HL := hide (Below.refl wL.heap.size wL)
            have HB := hide HBW.out
            go_wp2_with fail
            refine (HC0.out wL (HAB.out wL HBW.out)).mono ?_
            rintro e w1 ⟨x1, d1, y1, g1, rfl, -, hb⟩
            have hst := hb.alloc hb.size (.cells #[.int .i64 (okI cZ b), .int .i64 (okI cZ (n : Int)), .slice x1 N0.length d1, .slice y1 N0.length g1] 26)
            have HB1 := hide (below_step HB.out hst)
            have HL1 := hide hst
            clear hb hst HB HL
            go_wp2_with fail
            generalize w1.alloc (.cells #[.int .i64 (okI cZ b), .int .i64 (okI cZ (n : Int)), .slice x1 N0.length d1, .slice y1 N0.length g1] 26) = v1 at HB1 HL1 ⊢
            refine (HC1.out v1 (HAB.out v1 HB1.out)).mono ?_
            rintro e w2 ⟨x2, d2, y2, g2, rfl, -, hb⟩
            have hst := hb.alloc hb.size (.cells #[.int .i64 (okI cB b), .int .i64 (okI cB (n : Int)), .slice x2 N1.length d2, .slice y2 N1.length g2] 26)
            have HB2 := hide (below_step HB1.out hst)
            have HL2 := hide (below_step HL1.out hst)
            clear hb hst HB1 HL1
            go_wp2_with fail
            generalize w2.alloc (.cells #[.int .i64 (okI cB b), .int .i64 (okI cB (n : Int)), .slice x2 N1.length d2, .slice y2 N1.length g2] 26) = v2 at HB2 HL2 ⊢
            refine (HC2.out v2 (HSO.out v2 HL2.out)).mono ?_
            rintro e w3 ⟨x3, d3, y3, g3, rfl, -, hb⟩
            have hst := hb.alloc hb.size (.cells #[.int .i64 (okI cA b), .int .i64 (okI cA (n : Int)), .slice x3 N2.length d3, .slice y3 N2.length g3] 26)
            have HB3 := hide (below_step HB2.out hst)
            clear hb hst HB2 HL2
            by_cases hz : cZ = 0
            · rw [errV_yes hz]
              by_cases hb : cB = 0
              · have ha : cA ≠ 0 := fun ha => h3 ⟨hz, hb, ha⟩
                rw [errV_yes hb, errV_no ha]
                go_wp2
                go_ret
                exact ⟨by simp, HB3.out⟩
              · rw [errV_no hb]
                go_wp2
                go_ret
                exact ⟨by simp, HB3.out⟩
            · rw [errV_no hz]
              go_wp2
              go_ret
              exact ⟨by simp, HB3.out⟩
end Go.Proofs.Ythadkoplbgibgaf
