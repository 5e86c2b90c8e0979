/- The walk of the law LeastAsks. -/
import Derived.Test.YtihhlddbppljpabDoorCh
import Derived.Test.YtihhlddbppljpabDoorCi
import Derived.Test.YtihhlddbppljpabDoorCk
namespace Go.Proofs.YtihhlddbppljpabDoor
open Go.RowKit

/-- Both automata in their boxes. -/
def TwoAt (w W : World) (b t : Int) (a : Option Addr) (n cap : Nat) (a' : Option Addr) (k cap' : Nat) (N : List (List Int)) (E : List Bool) (b2 t2 : Int) (a2 : Option Addr) (n2 cap2 : Nat) (a2' : Option Addr) (k2 cap2' : Nat) (N2 : List (List Int)) (E2 : List Bool) : Prop :=
  Below w.heap.size w W ∧ AutoAt W w.heap.size b t a n cap a' k cap' N E ∧ AutoAt W (w.heap.size + 1) b2 t2 a2 n2 cap2 a2' k2 cap2' N2 E2 ∧ Handle W
theorem twoAt_step {w W W' : World} {b t : Int} {a : Option Addr} {n cap : Nat} {a' : Option Addr} {k cap' : Nat} {N : List (List Int)} {E : List Bool} {b2 t2 : Int} {a2 : Option Addr} {n2 cap2 : Nat} {a2' : Option Addr} {k2 cap2' : Nat} {N2 : List (List Int)} {E2 : List Bool} (h : TwoAt w W b t a n cap a' k cap' N E b2 t2 a2 n2 cap2 a2' k2 cap2' N2 E2) (hb : Below W.heap.size W W') : TwoAt w W' b t a n cap a' k cap' N E b2 t2 a2 n2 cap2 a2' k2 cap2' N2 E2 :=
  ⟨below_step h.1 hb, autoAt_below h.2.1 hb, autoAt_below h.2.2.1 hb, h.2.2.2.below hb⟩

set_option maxHeartbeats 16000000 in
set_option maxRecDepth 8000 in
theorem asks_any (b t : Int) (a : Option Addr) (n cap : Nat) (a' : Option Addr) (k cap' : Nat) (N : List (List Int)) (E : List Bool) (b2 t2 : Int) (a2 : Option Addr) (n2 cap2 : Nat) (a2' : Option Addr) (k2 cap2' : Nat) (N2 : List (List Int)) (E2 : List Bool) (w : World) (hs : Sl2 w a n N) (he : SlB w a' k E) (hs2 : Sl2 w a2 n2 N2) (he2 : SlB w a2' k2 E2) (hg : Handle w) :
    Calls Tryd.prog 6 #[.agg #[.int .i64 b, .int .i64 t, .slice a n cap, .slice a' k cap'], .agg #[.int .i64 b2, .int .i64 t2, .slice a2 n2 cap2, .slice a2' k2 cap2']] w fun e w' => e = .returned (.bool true) ∧ Below w.heap.size w w' := by
  have hB0 := below_two w (.cells #[.int .i64 b, .int .i64 t, .slice a n cap, .slice a' k cap'] 25) (.cells #[.int .i64 b2, .int .i64 t2, .slice a2 n2 cap2, .slice a2' k2 cap2'] 25)
  have hbx := two_boxes (Below.refl _ ((w.alloc (.cells #[.int .i64 b, .int .i64 t, .slice a n cap, .slice a' k cap'] 25)).alloc (.cells #[.int .i64 b2, .int .i64 t2, .slice a2 n2 cap2, .slice a2' k2 cap2'] 25)))
  have H0 : Hid (TwoAt w _ b t a n cap a' k cap' N E b2 t2 a2 n2 cap2 a2' k2 cap2' N2 E2) := ⟨hB0, ⟨hbx.1, sl2_below hs hB0, slB_below he hB0⟩, ⟨hbx.2, sl2_below hs2 hB0, slB_below he2 hB0⟩, hg.below hB0⟩
  have HF := hide (fun W h => afault_u b t a a' n cap k cap' N W h he.2.1)
  have HFI := hide (fun W h1 h2 => first_u b t a n cap a' k cap' N E W h1 h2)
  unfold OfU at HFI
  have HAL := hide (fun W h1 h2 => alike_u b t a n cap a' k cap' b2 t2 a2 n2 cap2 a2' k2 cap2' N N2 W h1 he.2.1 h2 he2.2.1)
  have HSA := hide (fun W h1 h2 h3 h4 => same_u b t a n cap a' k cap' N E b2 t2 a2 n2 cap2 a2' k2 cap2' N2 E2 W h1 h2 h3 h4)
  have HDI := hide (fun W h1 h2 h3 h4 => differ_u b t a n cap a' k cap' N E b2 t2 a2 n2 cap2 a2' k2 cap2' N2 E2 W h1 h2 h3 h4)
  unfold OfU at HDI
  have HES := hide (fun c W (h : Handle W) => error_same c W h)
  have hLN := hs.1
  have hLN2 := hs2.1
  clear hs he hs2 he2 hg hB0 hbx
  have HA1 : Hid (autoC b t N k = 0 → ∃ m, GoodN m n N ∧ k = n ∧ (manyU b t).toNat = m ∧ n ≤ 80) := fun h => by
    obtain ⟨-, h2, h3, -⟩ := autoC_zero h
    have h4 := autoC_80 h
    rw [hLN] at h2 h3 h4
    exact ⟨_, h3, h2, rfl, h4⟩
  have HA2 : Hid (alikeC b t N k b2 t2 N2 k2 = 0 → autoC b t N k = 0 ∧ k2 = n2 ∧ n2 ≤ 80 ∧ GoodN (manyU b t).toNat n2 N2) := fun h => by
    obtain ⟨h1, h2, rfl, rfl⟩ := alikeC_zero h
    obtain ⟨-, e2, g2, -⟩ := autoC_zero h2
    have h4 := autoC_80 h2
    rw [hLN2] at e2 g2 h4
    exact ⟨h1, e2, h4, g2⟩
  have HAN : Hid (autoC b t N k ≠ 0 → alikeC b t N k b2 t2 N2 k2 = autoC b t N k) := fun h => by unfold alikeC; rw [if_neg h]
  have hFW : firstW b t N E k = if autoC b t N k = 0 then wordO (firstP N E) else [] := rfl
  have hFE : firstE b t N E k = if autoC b t N k = 0 then (if (firstP N E).isSome = true then 0 else 4) else autoC b t N k := rfl
  have hSB : sameB b t N E k b2 t2 N2 E2 k2 = if alikeC b t N k b2 t2 N2 k2 = 0 then (diffP b t N E N2 E2).isNone else false := rfl
  have hDE : diffE b t N E k b2 t2 N2 E2 k2 = if alikeC b t N k b2 t2 N2 k2 = 0 then (if (diffP b t N E N2 E2).isSome = true then 0 else 4) else alikeC b t N k b2 t2 N2 k2 := rfl
  have hDW : diffW b t N E k b2 t2 N2 E2 k2 = if alikeC b t N k b2 t2 N2 k2 = 0 then wordO (diffP b t N E N2 E2) else [] := rfl
  by_cases hA : autoC b t N k = 0
  · obtain ⟨m, hG, rfl, hmm, h80⟩ := HA1.out hA
    rw [if_pos hA] at hFW hFE
    have HEA := hide (fun W h1 h2 => earliest_any a k cap m N a' cap' E W h1 hG h2)
    unfold FirstU at HEA
    by_cases hC : alikeC b t N k b2 t2 N2 k2 = 0
    · obtain ⟨-, rfl, h80', hG2⟩ := HA2.out hC
      rw [hmm] at hG2
      rw [if_pos hC] at hSB hDE hDW
      have HPR := hide (fun W h1 h2 h3 h4 => product_any b t a k cap a' cap' m N E b2 t2 a2 k2 cap2 a2' cap2' N2 E2 6 W h1 h2 hG h3 h4 hG2 (Nat.le_trans (Nat.mul_le_mul h80 h80') (by decide)) (by decide))
      unfold ProdU at HPR
      have hdp : diffP b t N E N2 E2 = firstP (prodN N N2 m) (prodE 6 k k2 E E2) := by unfold diffP; rw [hmm, hLN, hLN2]
      rw [hdp] at hSB hDE hDW
      have hPG := prod_good hG hG2 (Nat.le_trans (Nat.mul_le_mul h80 h80') (by decide))
      have HE2A := hide (fun ax cx ax' cx' W h1 h2 => earliest_any ax (prodN N N2 m).length cx m (prodN N N2 m) ax' cx' (prodE 6 k k2 E E2) W h1 (by rw [hPG.1]; exact hPG) h2)
      unfold FirstU at HE2A
      rw [hA] at HF
      rw [hFW, hFE] at HFI
      rw [hC, hSB] at HSA
      rw [hC] at HAL
      rw [hDE, hDW] at HDI
      clear hA hC hG hG2 hmm h80 h80' hPG hdp hFW hFE hSB hDE hDW HA1 HA2 HAN hLN hLN2
      generalize firstP N E = r1 at HFI HEA
      generalize firstP (prodN N N2 m) (prodE 6 k k2 E E2) = r2 at HSA HDI HE2A
      generalize hwl1 : wordO r1 = wl1 at HFI HEA
      generalize hwl2 : wordO r2 = wl2 at HDI HE2A
      clear hwl1 hwl2
      rcases r1 with _ | pp1 <;> rcases r2 with _ | pp2
      all_goals
        simp only [Option.isSome_none, Option.isSome_some, Option.isNone_none, Option.isNone_some, if_true, Bool.false_eq_true, if_false] at HFI HEA HSA HDI HE2A
        generalize hW0 : (w.alloc (.cells #[.int .i64 b, .int .i64 t, .slice a k cap, .slice a' k cap'] 25)).alloc (.cells #[.int .i64 b2, .int .i64 t2, .slice a2 k2 cap2, .slice a2' k2 cap2'] 25) = w0 at H0
        obtain ⟨p0, p1, p2, p3⟩ := H0.out.2.1.1
        obtain ⟨q0, q1, q2, q3⟩ := H0.out.2.2.1.1
        go_enter Tryd.func6, Tryd.ntmps6
        go_wp2_with fail
        clear hW0 p0 p1 p2 p3 q0 q1 q2 q3
        refine (HF.out w0 H0.out.2.1.2.1).mono ?_
        rintro e w1 ⟨rfl, hb1⟩
        have H1 := hide (twoAt_step H0.out hb1)
        clear hb1 H0
        obtain ⟨p0, p1, p2, p3⟩ := H1.out.2.1.1
        go_wp2_with fail
        clear p0 p1 p2 p3
        refine (HFI.out w1 H1.out.2.1.2.1 H1.out.2.1.2.2).mono ?_
        rintro e w2 ⟨aw, cw, rfl, ⟨hsw, -⟩, hb2⟩
        have H2 := hide (twoAt_step H1.out hb2)
        have HSW2 := hide hsw
        clear hb2 hsw H1
        obtain ⟨p0, p1, p2, p3⟩ := H2.out.2.1.1
        go_wp2_with fail
        clear p0 p1 p2 p3
        refine (HEA.out w2 H2.out.2.1.2.1 H2.out.2.1.2.2).mono ?_
        rintro e w3 ⟨ax, cx, rfl, ⟨hsx, -⟩, hb3⟩
        have H3 := hide (twoAt_step H2.out hb3)
        have HSW3 := hide (sl_below HSW2.out hb3)
        have HSX3 := hide hsx
        clear hb3 hsx H2 HSW2
        go_wp2_with fail
        refine (HES.out _ w3 H3.out.2.2.2).mono ?_
        rintro e w4 ⟨rfl, hb4⟩
        have H4 := hide (twoAt_step H3.out hb4)
        have HSW4 := hide (sl_below HSW3.out hb4)
        have HSX4 := hide (sl_below HSX3.out hb4)
        clear hb4 H3 HSW3 HSX3
        go_wp2_with fail
        refine (ints_eq _ _ _ _ _ _ w4 HSW4.out HSX4.out).mono ?_
        rintro e w5 ⟨rfl, hb5⟩
        have H5 := hide (twoAt_step H4.out hb5)
        clear hb5 H4 HSW4 HSX4
        obtain ⟨p0, p1, p2, p3⟩ := H5.out.2.1.1
        obtain ⟨q0, q1, q2, q3⟩ := H5.out.2.2.1.1
        go_wp2_with fail
        clear p0 p1 p2 p3 q0 q1 q2 q3
        refine (HAL.out w5 H5.out.2.1.2.1 H5.out.2.2.1.2.1).mono ?_
        rintro e w6 ⟨rfl, hb6⟩
        have H6 := hide (twoAt_step H5.out hb6)
        clear hb6 H5
        obtain ⟨p0, p1, p2, p3⟩ := H6.out.2.1.1
        obtain ⟨q0, q1, q2, q3⟩ := H6.out.2.2.1.1
        go_wp2_with fail
        clear p0 p1 p2 p3 q0 q1 q2 q3
        refine (HPR.out w6 H6.out.2.1.2.1 H6.out.2.1.2.2 H6.out.2.2.1.2.1 H6.out.2.2.1.2.2).mono ?_
        rintro e w7 ⟨ay, cy, ay', cy', rfl, hsy, hey, hb7⟩
        have H7 := hide (twoAt_step H6.out hb7)
        have HCE := hide (HE2A.out ay cy ay' cy' w7 hsy hey)
        clear hb7 hsy hey H6 HPR HE2A
        go_wp2_with fail
        refine HCE.out.mono ?_
        rintro e w8 ⟨az, cz, rfl, ⟨hsz, -⟩, hb8⟩
        have H8 := hide (twoAt_step H7.out hb8)
        have HSZ8 := hide hsz
        clear hb8 hsz H7 HCE
        obtain ⟨p0, p1, p2, p3⟩ := H8.out.2.1.1
        obtain ⟨q0, q1, q2, q3⟩ := H8.out.2.2.1.1
        go_wp2_with fail
        clear p0 p1 p2 p3 q0 q1 q2 q3
        refine (HSA.out w8 H8.out.2.1.2.1 H8.out.2.1.2.2 H8.out.2.2.1.2.1 H8.out.2.2.1.2.2).mono ?_
        rintro e w9 ⟨rfl, hb9⟩
        have H9 := hide (twoAt_step H8.out hb9)
        have HSZ9 := hide (sl_below HSZ8.out hb9)
        clear hb9 H8 HSZ8
        go_wp2_with fail
        refine (HES.out _ w9 H9.out.2.2.2).mono ?_
        rintro e wa ⟨rfl, hba⟩
        have Ha := hide (twoAt_step H9.out hba)
        have HSZa := hide (sl_below HSZ9.out hba)
        clear hba H9 HSZ9
        obtain ⟨p0, p1, p2, p3⟩ := Ha.out.2.1.1
        obtain ⟨q0, q1, q2, q3⟩ := Ha.out.2.2.1.1
        go_wp2_with fail
        clear p0 p1 p2 p3 q0 q1 q2 q3
        refine (HDI.out wa Ha.out.2.1.2.1 Ha.out.2.1.2.2 Ha.out.2.2.1.2.1 Ha.out.2.2.1.2.2).mono ?_
        rintro e wc ⟨ad, cd, rfl, ⟨hsd, -⟩, hbc⟩
        have Hc := hide (twoAt_step Ha.out hbc)
        have HSZc := hide (sl_below HSZa.out hbc)
        have HSDc := hide hsd
        clear hbc hsd Ha HSZa
        go_wp2_with fail
        refine (HES.out _ wc Hc.out.2.2.2).mono ?_
        rintro e wd ⟨rfl, hbd⟩
        have Hd := hide (twoAt_step Hc.out hbd)
        have HSZd := hide (sl_below HSZc.out hbd)
        have HSDd := hide (sl_below HSDc.out hbd)
        clear hbd Hc HSZc HSDc
        go_wp2_with fail
        refine (ints_eq _ _ _ _ _ _ wd HSDd.out HSZd.out).mono ?_
        rintro e we ⟨rfl, hbe⟩
        have HBE := hide (below_step Hd.out.1 hbe)
        clear hbe Hd HSZd HSDd
        go_wp2
        go_ret
        exact ⟨by simp, HBE.out⟩
    · rw [if_neg hC] at hSB hDE hDW
      rw [hA] at HF
      rw [hFW, hFE] at HFI
      rw [hSB] at HSA
      rw [hDE, hDW] at HDI
      generalize alikeC b t N k b2 t2 N2 k2 = c at HAL HSA HDI hC
      have hc' : (c == 0) = false := by simpa using hC
      clear hA hC hG hmm h80 hFW hFE hSB hDE hDW HA1 HA2 HAN hLN hLN2
      generalize firstP N E = r1 at HFI HEA
      generalize hwl1 : wordO r1 = wl1 at HFI HEA
      clear hwl1
      rcases r1 with _ | pp1
      all_goals
        simp only [Option.isSome_none, Option.isSome_some, if_true, Bool.false_eq_true, if_false] at HFI HEA
        generalize hW0 : (w.alloc (.cells #[.int .i64 b, .int .i64 t, .slice a k cap, .slice a' k cap'] 25)).alloc (.cells #[.int .i64 b2, .int .i64 t2, .slice a2 n2 cap2, .slice a2' k2 cap2'] 25) = w0 at H0
        obtain ⟨p0, p1, p2, p3⟩ := H0.out.2.1.1
        obtain ⟨q0, q1, q2, q3⟩ := H0.out.2.2.1.1
        go_enter Tryd.func6, Tryd.ntmps6
        go_wp2_with fail
        clear hW0 p0 p1 p2 p3 q0 q1 q2 q3
        refine (HF.out w0 H0.out.2.1.2.1).mono ?_
        rintro e w1 ⟨rfl, hb1⟩
        have H1 := hide (twoAt_step H0.out hb1)
        clear hb1 H0
        obtain ⟨p0, p1, p2, p3⟩ := H1.out.2.1.1
        go_wp2_with fail
        clear p0 p1 p2 p3
        refine (HFI.out w1 H1.out.2.1.2.1 H1.out.2.1.2.2).mono ?_
        rintro e w2 ⟨aw, cw, rfl, ⟨hsw, -⟩, hb2⟩
        have H2 := hide (twoAt_step H1.out hb2)
        have HSW2 := hide hsw
        clear hb2 hsw H1
        obtain ⟨p0, p1, p2, p3⟩ := H2.out.2.1.1
        go_wp2_with fail
        clear p0 p1 p2 p3
        refine (HEA.out w2 H2.out.2.1.2.1 H2.out.2.1.2.2).mono ?_
        rintro e w3 ⟨ax, cx, rfl, ⟨hsx, -⟩, hb3⟩
        have H3 := hide (twoAt_step H2.out hb3)
        have HSW3 := hide (sl_below HSW2.out hb3)
        have HSX3 := hide hsx
        clear hb3 hsx H2 HSW2
        go_wp2_with fail
        refine (HES.out _ w3 H3.out.2.2.2).mono ?_
        rintro e w4 ⟨rfl, hb4⟩
        have H4 := hide (twoAt_step H3.out hb4)
        have HSW4 := hide (sl_below HSW3.out hb4)
        have HSX4 := hide (sl_below HSX3.out hb4)
        clear hb4 H3 HSW3 HSX3
        go_wp2_with fail
        refine (ints_eq _ _ _ _ _ _ w4 HSW4.out HSX4.out).mono ?_
        rintro e w5 ⟨rfl, hb5⟩
        have H5 := hide (twoAt_step H4.out hb5)
        clear hb5 H4 HSW4 HSX4
        obtain ⟨p0, p1, p2, p3⟩ := H5.out.2.1.1
        obtain ⟨q0, q1, q2, q3⟩ := H5.out.2.2.1.1
        go_wp2_with fail
        clear p0 p1 p2 p3 q0 q1 q2 q3
        refine (HAL.out w5 H5.out.2.1.2.1 H5.out.2.2.1.2.1).mono ?_
        rintro e w6 ⟨rfl, hb6⟩
        have H6 := hide (twoAt_step H5.out hb6)
        clear hb6 H5
        obtain ⟨p0, p1, p2, p3⟩ := H6.out.2.1.1
        obtain ⟨q0, q1, q2, q3⟩ := H6.out.2.2.1.1
        go_wp2_with fail
        clear p0 p1 p2 p3 q0 q1 q2 q3
        obtain ⟨w8, hw8⟩ : ∃ w8, w8 = w6 := ⟨_, rfl⟩
        rw [← hw8] at H6 ⊢
        have H8 := hide H6.out
        have HSZ8 := hide (sl_nil w8)
        clear H6 hw8 w6
        refine (HSA.out w8 H8.out.2.1.2.1 H8.out.2.1.2.2 H8.out.2.2.1.2.1 H8.out.2.2.1.2.2).mono ?_
        rintro e w9 ⟨rfl, hb9⟩
        have H9 := hide (twoAt_step H8.out hb9)
        have HSZ9 := hide (sl_below HSZ8.out hb9)
        clear hb9 H8 HSZ8
        go_wp2_with fail
        refine (HES.out _ w9 H9.out.2.2.2).mono ?_
        rintro e wa ⟨rfl, hba⟩
        have Ha := hide (twoAt_step H9.out hba)
        have HSZa := hide (sl_below HSZ9.out hba)
        clear hba H9 HSZ9
        obtain ⟨p0, p1, p2, p3⟩ := Ha.out.2.1.1
        obtain ⟨q0, q1, q2, q3⟩ := Ha.out.2.2.1.1
        go_wp2_with fail
        clear p0 p1 p2 p3 q0 q1 q2 q3
        refine (HDI.out wa Ha.out.2.1.2.1 Ha.out.2.1.2.2 Ha.out.2.2.1.2.1 Ha.out.2.2.1.2.2).mono ?_
        rintro e wc ⟨ad, cd, rfl, ⟨hsd, -⟩, hbc⟩
        have Hc := hide (twoAt_step Ha.out hbc)
        have HSZc := hide (sl_below HSZa.out hbc)
        have HSDc := hide hsd
        clear hbc hsd Ha HSZa
        go_wp2_with fail
        refine (HES.out _ wc Hc.out.2.2.2).mono ?_
        rintro e wd ⟨rfl, hbd⟩
        have Hd := hide (twoAt_step Hc.out hbd)
        have HSZd := hide (sl_below HSZc.out hbd)
        have HSDd := hide (sl_below HSDc.out hbd)
        clear hbd Hc HSZc HSDc
        go_wp2_with fail
        refine (ints_eq _ _ _ _ _ _ wd HSDd.out HSZd.out).mono ?_
        rintro e we ⟨rfl, hbe⟩
        have HBE := hide (below_step Hd.out.1 hbe)
        clear hbe Hd HSZd HSDd
        go_wp2
        go_ret
        exact ⟨by simp, HBE.out⟩
  · have hC := HAN.out hA
    rw [if_neg hA] at hFW hFE
    have hC0 : alikeC b t N k b2 t2 N2 k2 ≠ 0 := by rw [hC]; exact hA
    rw [if_neg hC0] at hSB hDE hDW
    rw [hFW, hFE] at HFI
    rw [hSB] at HSA
    rw [hDE, hDW] at HDI
    rw [hC] at HAL HSA HDI
    generalize autoC b t N k = c at HF HFI HAL HSA HDI hA
    have hc' : (c == 0) = false := by simpa using hA
    clear hA hC hC0 hFW hFE hSB hDE hDW HA1 HA2 HAN hLN hLN2
    generalize hW0 : (w.alloc (.cells #[.int .i64 b, .int .i64 t, .slice a n cap, .slice a' k cap'] 25)).alloc (.cells #[.int .i64 b2, .int .i64 t2, .slice a2 n2 cap2, .slice a2' k2 cap2'] 25) = w0 at H0
    obtain ⟨p0, p1, p2, p3⟩ := H0.out.2.1.1
    obtain ⟨q0, q1, q2, q3⟩ := H0.out.2.2.1.1
    go_enter Tryd.func6, Tryd.ntmps6
    go_wp2_with fail
    clear hW0 p0 p1 p2 p3 q0 q1 q2 q3
    refine (HF.out w0 H0.out.2.1.2.1).mono ?_
    rintro e w1 ⟨rfl, hb1⟩
    have H1 := hide (twoAt_step H0.out hb1)
    clear hb1 H0
    obtain ⟨p0, p1, p2, p3⟩ := H1.out.2.1.1
    go_wp2_with fail
    clear p0 p1 p2 p3
    refine (HFI.out w1 H1.out.2.1.2.1 H1.out.2.1.2.2).mono ?_
    rintro e w2 ⟨aw, cw, rfl, ⟨hsw, -⟩, hb2⟩
    have H2 := hide (twoAt_step H1.out hb2)
    have HSW2 := hide hsw
    clear hb2 hsw H1
    have H3 := hide H2.out
    have HSW3 := hide HSW2.out
    have HSX3 := hide (sl_nil w2)
    clear H2 HSW2
    go_wp2_with fail
    refine (HES.out _ w2 H3.out.2.2.2).mono ?_
    rintro e w4 ⟨rfl, hb4⟩
    have H4 := hide (twoAt_step H3.out hb4)
    have HSW4 := hide (sl_below HSW3.out hb4)
    have HSX4 := hide (sl_below HSX3.out hb4)
    clear hb4 H3 HSW3 HSX3
    go_wp2_with fail
    refine (ints_eq _ _ _ _ _ _ w4 HSW4.out HSX4.out).mono ?_
    rintro e w5 ⟨rfl, hb5⟩
    have H5 := hide (twoAt_step H4.out hb5)
    clear hb5 H4 HSW4 HSX4
    obtain ⟨p0, p1, p2, p3⟩ := H5.out.2.1.1
    obtain ⟨q0, q1, q2, q3⟩ := H5.out.2.2.1.1
    go_wp2_with fail
    clear p0 p1 p2 p3 q0 q1 q2 q3
    refine (HAL.out w5 H5.out.2.1.2.1 H5.out.2.2.1.2.1).mono ?_
    rintro e w6 ⟨rfl, hb6⟩
    have H6 := hide (twoAt_step H5.out hb6)
    clear hb6 H5
    obtain ⟨p0, p1, p2, p3⟩ := H6.out.2.1.1
    obtain ⟨q0, q1, q2, q3⟩ := H6.out.2.2.1.1
    go_wp2_with fail
    clear p0 p1 p2 p3 q0 q1 q2 q3
    obtain ⟨w8, hw8⟩ : ∃ w8, w8 = w6 := ⟨_, rfl⟩
    rw [← hw8] at H6 ⊢
    have H8 := hide H6.out
    have HSZ8 := hide (sl_nil w8)
    clear H6 hw8 w6
    refine (HSA.out w8 H8.out.2.1.2.1 H8.out.2.1.2.2 H8.out.2.2.1.2.1 H8.out.2.2.1.2.2).mono ?_
    rintro e w9 ⟨rfl, hb9⟩
    have H9 := hide (twoAt_step H8.out hb9)
    have HSZ9 := hide (sl_below HSZ8.out hb9)
    clear hb9 H8 HSZ8
    go_wp2_with fail
    refine (HES.out _ w9 H9.out.2.2.2).mono ?_
    rintro e wa ⟨rfl, hba⟩
    have Ha := hide (twoAt_step H9.out hba)
    have HSZa := hide (sl_below HSZ9.out hba)
    clear hba H9 HSZ9
    obtain ⟨p0, p1, p2, p3⟩ := Ha.out.2.1.1
    obtain ⟨q0, q1, q2, q3⟩ := Ha.out.2.2.1.1
    go_wp2_with fail
    clear p0 p1 p2 p3 q0 q1 q2 q3
    refine (HDI.out wa Ha.out.2.1.2.1 Ha.out.2.1.2.2 Ha.out.2.2.1.2.1 Ha.out.2.2.1.2.2).mono ?_
    rintro e wc ⟨ad, cd, rfl, ⟨hsd, -⟩, hbc⟩
    have Hc := hide (twoAt_step Ha.out hbc)
    have HSZc := hide (sl_below HSZa.out hbc)
    have HSDc := hide hsd
    clear hbc hsd Ha HSZa
    go_wp2_with fail
    refine (HES.out _ wc Hc.out.2.2.2).mono ?_
    rintro e wd ⟨rfl, hbd⟩
    have Hd := hide (twoAt_step Hc.out hbd)
    have HSZd := hide (sl_below HSZc.out hbd)
    have HSDd := hide (sl_below HSDc.out hbd)
    clear hbd Hc HSZc HSDc
    go_wp2_with fail
    refine (ints_eq _ _ _ _ _ _ wd HSDd.out HSZd.out).mono ?_
    rintro e we ⟨rfl, hbe⟩
    have HBE := hide (below_step Hd.out.1 hbe)
    clear hbe Hd HSZd HSDd
    go_wp2
    go_ret
    exact ⟨by simp, HBE.out⟩
end Go.Proofs.YtihhlddbppljpabDoor
