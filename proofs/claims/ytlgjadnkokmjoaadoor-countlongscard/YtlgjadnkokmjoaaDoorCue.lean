/- CountLongs: the law's whole walk. -/
import Derived.Test.YtlgjadnkokmjoaaDoorCto
import Derived.Test.YtlgjadnkokmjoaaDoorZCts
import Derived.Test.YtlgjadnkokmjoaaDoorZNx
import Derived.Test.YtlgjadnkokmjoaaDoorRe
namespace Go.Proofs.YtlgjadnkokmjoaaDoor
open Go.RowKit

theorem sl_none (w : World) : Sl w none 0 [] := ⟨rfl, by decide, by decide, Or.inl rfl⟩
theorem sl3_none (w : World) : Sl3 w none 0 [] := ⟨rfl, by decide, Or.inl rfl⟩
set_option maxHeartbeats 32000000 in
set_option maxRecDepth 8000 in
theorem countlongs_any (b t : Int) (a : Option Addr) (n cap : Nat) (a' : Option Addr) (k cap' : Nat) (N : List (List Int)) (E : List Bool) (x tk : Int) (w : World) (hs : Sl2 w a n N) (he : SlB w a' k E) (hg : Handle w) :
    Calls Tryd.prog 3 #[.agg #[.int .i64 b, .int .i64 t, .slice a n cap, .slice a' k cap'], .int .i64 x, .int .i64 tk] w fun e w' => e = .returned (.bool true) ∧ Below w.heap.size w w' := by
  have hB0 : Below w.heap.size w (w.alloc (.cells #[.int .i64 b, .int .i64 t, .slice a n cap, .slice a' k cap'] 25)) := (Below.refl _ _).alloc (Nat.le_refl _) _
  have HB0 := hide hB0
  have HAT := hide (fun w' => @box4 w w' (.int .i64 b) (.int .i64 t) (.slice a n cap) (.slice a' k cap') 25)
  have HF := hide (afault_u b t a a' n cap k cap' N _ (sl2_below hs hB0) he.2.1)
  have HLG := hide (fun W (h : Below w.heap.size w W) => long_any b t a n cap a' k cap' N E x W (sl2_below hs h) (slB_below he h))
  have HRP := hide (fun W (h : Below w.heap.size w W) => rep_any b t a n cap a' k cap' N E tk W (sl2_below hs h) (slB_below he h))
  have HH : Hid (∀ W, Below w.heap.size w W → Handle W) := fun W h => hg.below h
  have HES := hide (fun c W (h : Handle W) => error_same c W h)
  have HLO : Hid (autoC b t N k = 0 → 0 ≤ x → x ≤ 400 → ∀ W, Below w.heap.size w W → Calls Tryd.prog 7 #[.agg #[.int .i64 b, .int .i64 t, .slice a n cap, .slice a' k cap'], .int .i64 x] W fun e w' => e = .returned (.tuple #[.int .i64 (lgV N E (manyU b t).toNat x.toNat), .bool (decide (lgV N E (manyU b t).toNat x.toNat ≤ 1152921504606846976))]) ∧ Below W.heap.size W w') := by
    intro h0 h1 h2 W h
    have hkn : k = n := by rw [(autoC_zero h0).2.1, hs.1]
    subst hkn
    obtain ⟨q, rfl⟩ : ∃ q : Nat, x = q := ⟨x.toNat, by omega⟩
    have hG := (autoC_zero h0).2.2.1
    have h80 := autoC_80 h0
    rw [hs.1] at hG h80
    rw [Int.toNat_natCast]
    exact longOf_any b t a k cap a' cap' N E (manyU b t).toNat q W (sl2_below hs h) (slB_below he h) hG h80 (by omega)
  have HRO : Hid (autoC b t N k = 0 → 0 ≤ tk → tk < t → ∀ W, Below w.heap.size w W → Calls Tryd.prog 10 #[.agg #[.int .i64 b, .int .i64 t, .slice a n cap, .slice a' k cap'], .int .i64 tk] W (RofR W b (t - 1) (fst0L n) (repS b (t.toNat - 1) tk.toNat (manyU b t).toNat (manyU b (t - 1)).toNat N) (lastL E n))) := by
    intro hA h1 h2 W hW
    have hkn : k = n := by rw [(autoC_zero hA).2.1, hs.1]
    subst hkn
    obtain ⟨tr, rfl⟩ : ∃ tr : Nat, t = (tr : Int) + 1 := ⟨(t - 1).toNat, by omega⟩
    obtain ⟨tkn, rfl⟩ : ∃ y : Nat, tk = y := ⟨tk.toNat, by omega⟩
    obtain ⟨hM, -, -, hmm⟩ := autoC_zero hA
    obtain ⟨-, hm1, hm2, -, -, -⟩ := many_less hM
    have e1 : ((tr : Int) + 1).toNat - 1 = tr := by omega
    have e2 : (tr : Int) + 1 - 1 = (tr : Int) := by omega
    have hN : ((tr + 1 : Nat) : Int) = (tr : Int) + 1 := by omega
    have h := repOf_ok b (tr + 1) tr tkn (manyU b ((tr : Int) + 1)).toNat (manyU b (tr : Int)).toNat a k cap a' cap' N E W (sl2_below hs hW) (slB_below he hW) rfl (by omega) (by rw [hN]; exact hA) (by rw [hN]; exact hmm.symm) (by rw [← hm1]; omega)
    rw [hN] at h
    rw [e1, e2, Int.toNat_natCast]
    exact h
  unfold EvlR at HLG
  unfold RepR RepNew repZ at HRP
  unfold RofR at HRO
  have HV : Hid (longV b t N E k x = if longC b t N E k x = 0 then lgV N E (manyU b t).toNat x.toNat else 0) := rfl
  have HC : Hid (longC b t N E k x = if autoC b t N k = 0 then (if 0 ≤ x ∧ x ≤ 400 then (if lgV N E (manyU b t).toNat x.toNat ≤ 1152921504606846976 then 0 else 3) else 1) else autoC b t N k) := rfl
  clear hs he hg hB0
  generalize hwb : w.alloc (.cells #[.int .i64 b, .int .i64 t, .slice a n cap, .slice a' k cap'] 25) = wb at HB0 HAT HF
  obtain ⟨p0, p1, p2, p3⟩ := HAT.out wb (Below.refl _ _)
  go_enter Tryd.func3, Tryd.ntmps3
  go_wp2_with fail
  clear hwb p0 p1 p2 p3
  refine HF.out.mono ?_
  rintro e w1 ⟨rfl, hb1⟩
  have HB := hide hb1
  obtain ⟨p0, p1, p2, p3⟩ := HAT.out w1 hb1
  clear hb1 HF
  by_cases hA : autoC b t N k = 0
  · have HA := hide hA
    rw [hA, if_pos rfl] at HC
    rw [hA] at HRO ⊢
    by_cases hx1 : x < 0
    · rw [if_neg (by omega)] at HC
      rw [HC.out] at HV
      rw [if_neg (by decide)] at HV
      rw [HC.out, HV.out] at HLG
      clear HC HV HLO hA
      go_wp2_with fail
      clear p0 p1 p2 p3
      refine (HLG.out w1 (below_step HB0.out HB.out)).mono ?_
      rintro e w3 ⟨rfl, hb3⟩
      have HB3 := hide (below_step HB.out hb3)
      have HE3 := hide (HES.out (1) w3 (HH.out w3 (below_step HB0.out HB3.out)))
      skip
      clear hb3 HLG HB
      go_wp2_with fail
      refine HE3.out.mono ?_
      rintro e w4 ⟨rfl, hb4⟩
      have HB4 := hide (below_step HB3.out hb4)
      clear hb4 HE3 HB3
      have HB5 : Hid (Below wb.heap.size wb (w4.alloc (.cells #[.int .i64 0, .int .i64 0, .slice none 0 0, .slice none 0 0, .slice none 0 0] 38))) := hide (HB4.out.alloc HB4.out.size _)
      have HZB := hide (fun w' => @box5R w4 w' (.int .i64 0) (.int .i64 0) (.slice none 0 0) (.slice none 0 0) (.slice none 0 0) 38)
      obtain ⟨p0, p1, p2, p3⟩ := HAT.out _ HB5.out
      by_cases h1 : 0 ≤ tk
      · have h1n : ¬ tk < 0 := by omega
        by_cases h2 : tk < t
        · have h2n : ¬ t ≤ tk := by omega
          have HRC : Hid (repRC b t N k tk = 0) := by show _ = _; unfold repRC; rw [HA.out, if_pos rfl, if_pos ⟨h1, h2⟩]
          go_wp2_with fail
          clear p0 p1 p2 p3
          refine (HRO.out trivial h1 h2 _ (below_step HB0.out HB5.out)).mono ?_
          rintro e w6 ⟨aF, cF, aS, cS, aL, cL, rfl, hkp, hb6⟩
          have hzb := (hb6.block w4.heap.size (by rw [World.size_alloc]; omega)).trans (heap_alloc_last w4 (.cells #[.int .i64 0, .int .i64 0, .slice none 0 0, .slice none 0 0, .slice none 0 0] 38))
          have HB6 := hide (below_step HB5.out hb6)
          have HLT : Hid (w4.heap.size < w6.heap.size) := by
            have h8 := hb6.size
            rw [World.size_alloc] at h8
            show _ < _
            omega
          obtain ⟨⟨z0, z1, z2, z3, z4⟩, zf⟩ := box5R_cells hzb
          obtain ⟨w7, hw7⟩ : ∃ W : World, W = ((((w6.setCell ⟨w4.heap.size, 0, none⟩ (.int .i64 b)).setCell ⟨w4.heap.size, 1, none⟩ (.int .i64 (t - 1))).setCell ⟨w4.heap.size, 2, none⟩ (.slice aF (fst0L n).length cF)).setCell ⟨w4.heap.size, 3, none⟩ (.slice aS (repS b (t.toNat - 1) tk.toNat (manyU b t).toNat (manyU b (t - 1)).toNat N).length cS)).setCell ⟨w4.heap.size, 4, none⟩ (.slice aL (lastL E n).length cL) := ⟨_, rfl⟩
          obtain ⟨⟨hset, hsz7, hoth⟩, hbel⟩ := box5R_set hzb hw7
          have HB7 := hide (hbel wb wb.heap.size HB6.out HB4.out.size)
          have HKP := hide (hkp w7 fun y h3 h4 => hoth y (by rw [World.size_alloc] at h3; omega))
          have HSET := hide hset
          have HSZ := hide hsz7
          have hp := HAT.out w7 HB7.out
          rw [hw7] at hp
          obtain ⟨p0, p1, p2, p3⟩ := hp
          have HW7 := hide hw7
          clear hw7 hset hsz7 hoth hbel hkp hzb hb6
          go_wp2_with fail
          clear p0 p1 p2 p3 z0 z1 z2 z3 z4 zf
          rw [← HW7.out]
          refine (HRP.out w7 (below_step HB0.out HB7.out)).mono ?_
          rintro e w8 ⟨hok, -⟩
          obtain ⟨aF2, cF2, aS2, cS2, aL2, cL2, rfl, ⟨hs1, hs2, hs3⟩, hb8⟩ := hok HRC.out
          have HB8 := hide hb8
          have HS1 := hide hs1
          have HS2 := hide hs2
          have HS3 := hide hs3
          clear hok hs1 hs2 hs3 hb8 HRP HW7
          generalize fst0L n = F at HKP HS1 HSET
          generalize repS b (t.toNat - 1) tk.toNat (manyU b t).toNat (manyU b (t - 1)).toNat N = S at HKP HS2 HSET
          generalize lastL E n = L at HKP HS3 HSET
          have HY := hide (fun w' => @box5R w8 w' (.int .i64 b) (.int .i64 (t - 1)) (.slice aF2 F.length cF2) (.slice aS2 S.length cS2) (.slice aL2 L.length cL2) 38)
          have HB9 : Hid (Below w8.heap.size w8 (w8.alloc (.cells #[.int .i64 b, .int .i64 (t - 1), .slice aF2 F.length cF2, .slice aS2 S.length cS2, .slice aL2 L.length cL2] 38))) := hide ((Below.refl _ _).alloc (Nat.le_refl _) _)
          have HE9 := hide (HES.out 0 _ (HH.out _ (below_step (below_step HB0.out HB7.out) (below_step HB8.out HB9.out))))
          rw [errV_zero] at HE9
          go_wp2_with fail
          refine HE9.out.mono ?_
          rintro e w10 ⟨rfl, hb10⟩
          have HB10 := hide hb10
          obtain ⟨y0, y1, y2, y3, y4⟩ := HY.out w10 HB10.out
          have hb710 := below_step HB8.out (below_step HB9.out HB10.out)
          obtain ⟨⟨z0, z1, z2, z3, z4⟩, -⟩ := box5R_cells ((hb710.block w4.heap.size (by rw [HSZ.out]; exact HLT.out)).trans HSET.out)
          have HB710 := hide hb710
          clear hb10 HE9 hb710
          go_wp2_with fail
          clear z0 z1 z2 z3 z4 y0 y1 y2 y3 y4
          refine (reps_eq b (t - 1) aF2 F.length cF2 aS2 S.length cS2 aL2 L.length cL2 aF cF aS cS aL cL F S L w10 (sl_below HS1.out (below_step HB9.out HB10.out)) (sl3_below HS2.out (below_step HB9.out HB10.out)) (sl_below HS3.out (below_step HB9.out HB10.out)) (sl_below HKP.out.1 HB710.out) (sl3_below HKP.out.2.1 HB710.out) (sl_below HKP.out.2.2 HB710.out)).mono ?_
          rintro e w11 ⟨rfl, hb11⟩
          have HB11 := hide (below_step (below_step HB0.out HB7.out) (below_step HB710.out hb11))
          clear hb11
          go_wp2
          go_ret
          exact ⟨by simp, HB11.out⟩
        · have h2n : t ≤ tk := by omega
          have hrc : repRC b t N k tk = 1 := by unfold repRC; rw [HA.out, if_pos rfl, if_neg (by omega)]
          rw [hrc] at HRP
          go_wp2_with fail
          clear p0 p1 p2 p3
          refine (HRP.out _ (below_step HB0.out HB5.out)).mono ?_
          rintro e w6 ⟨-, hno⟩
          obtain ⟨rfl, hb6⟩ := hno (by decide)
          have HY := hide (fun w' => @box5R w6 w' (.int .i64 0) (.int .i64 0) (.slice none 0 0) (.slice none 0 0) (.slice none 0 0) 38)
          have HB7 : Hid (Below w6.heap.size w6 (w6.alloc (.cells #[.int .i64 0, .int .i64 0, .slice none 0 0, .slice none 0 0, .slice none 0 0] 38))) := hide ((Below.refl _ _).alloc (Nat.le_refl _) _)
          have HB6 := hide hb6
          have HE7 := hide (HES.out (1) (w6.alloc (.cells #[.int .i64 0, .int .i64 0, .slice none 0 0, .slice none 0 0, .slice none 0 0] 38)) (HH.out _ (below_step (below_step HB0.out HB5.out) (below_step HB6.out HB7.out))))
          clear hb6 hno HRP
          go_wp2_with fail
          refine HE7.out.mono ?_
          rintro e w8 ⟨rfl, hb8⟩
          have HB8 := hide hb8
          obtain ⟨z0, z1, z2, z3, z4⟩ := HZB.out w8 (below_step HB6.out (below_step HB7.out HB8.out))
          obtain ⟨y0, y1, y2, y3, y4⟩ := HY.out w8 HB8.out
          clear hb8 HE7
          go_wp2_with fail
          clear z0 z1 z2 z3 z4 y0 y1 y2 y3 y4
          refine (reps_eq 0 0 none 0 0 none 0 0 none 0 0 none 0 none 0 none 0 [] [] [] w8 (sl_none w8) (sl3_none w8) (sl_none w8) (sl_none w8) (sl3_none w8) (sl_none w8)).mono ?_
          rintro e w9 ⟨rfl, hb9⟩
          have HB9 := hide (below_step (below_step (below_step HB0.out HB5.out) (below_step HB6.out HB7.out)) (below_step HB8.out hb9))
          clear hb9
          go_wp2
          go_ret
          exact ⟨by simp, HB9.out⟩
      · have h1n : tk < 0 := by omega
        have hrc : repRC b t N k tk = 1 := by unfold repRC; rw [HA.out, if_pos rfl, if_neg (by omega)]
        rw [hrc] at HRP
        go_wp2_with fail
        clear p0 p1 p2 p3
        refine (HRP.out _ (below_step HB0.out HB5.out)).mono ?_
        rintro e w6 ⟨-, hno⟩
        obtain ⟨rfl, hb6⟩ := hno (by decide)
        have HY := hide (fun w' => @box5R w6 w' (.int .i64 0) (.int .i64 0) (.slice none 0 0) (.slice none 0 0) (.slice none 0 0) 38)
        have HB7 : Hid (Below w6.heap.size w6 (w6.alloc (.cells #[.int .i64 0, .int .i64 0, .slice none 0 0, .slice none 0 0, .slice none 0 0] 38))) := hide ((Below.refl _ _).alloc (Nat.le_refl _) _)
        have HB6 := hide hb6
        have HE7 := hide (HES.out (1) (w6.alloc (.cells #[.int .i64 0, .int .i64 0, .slice none 0 0, .slice none 0 0, .slice none 0 0] 38)) (HH.out _ (below_step (below_step HB0.out HB5.out) (below_step HB6.out HB7.out))))
        clear hb6 hno HRP
        go_wp2_with fail
        refine HE7.out.mono ?_
        rintro e w8 ⟨rfl, hb8⟩
        have HB8 := hide hb8
        obtain ⟨z0, z1, z2, z3, z4⟩ := HZB.out w8 (below_step HB6.out (below_step HB7.out HB8.out))
        obtain ⟨y0, y1, y2, y3, y4⟩ := HY.out w8 HB8.out
        clear hb8 HE7
        go_wp2_with fail
        clear z0 z1 z2 z3 z4 y0 y1 y2 y3 y4
        refine (reps_eq 0 0 none 0 0 none 0 0 none 0 0 none 0 none 0 none 0 [] [] [] w8 (sl_none w8) (sl3_none w8) (sl_none w8) (sl_none w8) (sl3_none w8) (sl_none w8)).mono ?_
        rintro e w9 ⟨rfl, hb9⟩
        have HB9 := hide (below_step (below_step (below_step HB0.out HB5.out) (below_step HB6.out HB7.out)) (below_step HB8.out hb9))
        clear hb9
        go_wp2
        go_ret
        exact ⟨by simp, HB9.out⟩
    · by_cases hx2 : 400 < x
      · rw [if_neg (by omega)] at HC
        rw [HC.out] at HV
        rw [if_neg (by decide)] at HV
        rw [HC.out, HV.out] at HLG
        clear HC HV HLO hA
        go_wp2_with fail
        clear p0 p1 p2 p3
        refine (HLG.out w1 (below_step HB0.out HB.out)).mono ?_
        rintro e w3 ⟨rfl, hb3⟩
        have HB3 := hide (below_step HB.out hb3)
        have HE3 := hide (HES.out (1) w3 (HH.out w3 (below_step HB0.out HB3.out)))
        skip
        clear hb3 HLG HB
        go_wp2_with fail
        refine HE3.out.mono ?_
        rintro e w4 ⟨rfl, hb4⟩
        have HB4 := hide (below_step HB3.out hb4)
        clear hb4 HE3 HB3
        have HB5 : Hid (Below wb.heap.size wb (w4.alloc (.cells #[.int .i64 0, .int .i64 0, .slice none 0 0, .slice none 0 0, .slice none 0 0] 38))) := hide (HB4.out.alloc HB4.out.size _)
        have HZB := hide (fun w' => @box5R w4 w' (.int .i64 0) (.int .i64 0) (.slice none 0 0) (.slice none 0 0) (.slice none 0 0) 38)
        obtain ⟨p0, p1, p2, p3⟩ := HAT.out _ HB5.out
        by_cases h1 : 0 ≤ tk
        · have h1n : ¬ tk < 0 := by omega
          by_cases h2 : tk < t
          · have h2n : ¬ t ≤ tk := by omega
            have HRC : Hid (repRC b t N k tk = 0) := by show _ = _; unfold repRC; rw [HA.out, if_pos rfl, if_pos ⟨h1, h2⟩]
            go_wp2_with fail
            clear p0 p1 p2 p3
            refine (HRO.out trivial h1 h2 _ (below_step HB0.out HB5.out)).mono ?_
            rintro e w6 ⟨aF, cF, aS, cS, aL, cL, rfl, hkp, hb6⟩
            have hzb := (hb6.block w4.heap.size (by rw [World.size_alloc]; omega)).trans (heap_alloc_last w4 (.cells #[.int .i64 0, .int .i64 0, .slice none 0 0, .slice none 0 0, .slice none 0 0] 38))
            have HB6 := hide (below_step HB5.out hb6)
            have HLT : Hid (w4.heap.size < w6.heap.size) := by
              have h8 := hb6.size
              rw [World.size_alloc] at h8
              show _ < _
              omega
            obtain ⟨⟨z0, z1, z2, z3, z4⟩, zf⟩ := box5R_cells hzb
            obtain ⟨w7, hw7⟩ : ∃ W : World, W = ((((w6.setCell ⟨w4.heap.size, 0, none⟩ (.int .i64 b)).setCell ⟨w4.heap.size, 1, none⟩ (.int .i64 (t - 1))).setCell ⟨w4.heap.size, 2, none⟩ (.slice aF (fst0L n).length cF)).setCell ⟨w4.heap.size, 3, none⟩ (.slice aS (repS b (t.toNat - 1) tk.toNat (manyU b t).toNat (manyU b (t - 1)).toNat N).length cS)).setCell ⟨w4.heap.size, 4, none⟩ (.slice aL (lastL E n).length cL) := ⟨_, rfl⟩
            obtain ⟨⟨hset, hsz7, hoth⟩, hbel⟩ := box5R_set hzb hw7
            have HB7 := hide (hbel wb wb.heap.size HB6.out HB4.out.size)
            have HKP := hide (hkp w7 fun y h3 h4 => hoth y (by rw [World.size_alloc] at h3; omega))
            have HSET := hide hset
            have HSZ := hide hsz7
            have hp := HAT.out w7 HB7.out
            rw [hw7] at hp
            obtain ⟨p0, p1, p2, p3⟩ := hp
            have HW7 := hide hw7
            clear hw7 hset hsz7 hoth hbel hkp hzb hb6
            go_wp2_with fail
            clear p0 p1 p2 p3 z0 z1 z2 z3 z4 zf
            rw [← HW7.out]
            refine (HRP.out w7 (below_step HB0.out HB7.out)).mono ?_
            rintro e w8 ⟨hok, -⟩
            obtain ⟨aF2, cF2, aS2, cS2, aL2, cL2, rfl, ⟨hs1, hs2, hs3⟩, hb8⟩ := hok HRC.out
            have HB8 := hide hb8
            have HS1 := hide hs1
            have HS2 := hide hs2
            have HS3 := hide hs3
            clear hok hs1 hs2 hs3 hb8 HRP HW7
            generalize fst0L n = F at HKP HS1 HSET
            generalize repS b (t.toNat - 1) tk.toNat (manyU b t).toNat (manyU b (t - 1)).toNat N = S at HKP HS2 HSET
            generalize lastL E n = L at HKP HS3 HSET
            have HY := hide (fun w' => @box5R w8 w' (.int .i64 b) (.int .i64 (t - 1)) (.slice aF2 F.length cF2) (.slice aS2 S.length cS2) (.slice aL2 L.length cL2) 38)
            have HB9 : Hid (Below w8.heap.size w8 (w8.alloc (.cells #[.int .i64 b, .int .i64 (t - 1), .slice aF2 F.length cF2, .slice aS2 S.length cS2, .slice aL2 L.length cL2] 38))) := hide ((Below.refl _ _).alloc (Nat.le_refl _) _)
            have HE9 := hide (HES.out 0 _ (HH.out _ (below_step (below_step HB0.out HB7.out) (below_step HB8.out HB9.out))))
            rw [errV_zero] at HE9
            go_wp2_with fail
            refine HE9.out.mono ?_
            rintro e w10 ⟨rfl, hb10⟩
            have HB10 := hide hb10
            obtain ⟨y0, y1, y2, y3, y4⟩ := HY.out w10 HB10.out
            have hb710 := below_step HB8.out (below_step HB9.out HB10.out)
            obtain ⟨⟨z0, z1, z2, z3, z4⟩, -⟩ := box5R_cells ((hb710.block w4.heap.size (by rw [HSZ.out]; exact HLT.out)).trans HSET.out)
            have HB710 := hide hb710
            clear hb10 HE9 hb710
            go_wp2_with fail
            clear z0 z1 z2 z3 z4 y0 y1 y2 y3 y4
            refine (reps_eq b (t - 1) aF2 F.length cF2 aS2 S.length cS2 aL2 L.length cL2 aF cF aS cS aL cL F S L w10 (sl_below HS1.out (below_step HB9.out HB10.out)) (sl3_below HS2.out (below_step HB9.out HB10.out)) (sl_below HS3.out (below_step HB9.out HB10.out)) (sl_below HKP.out.1 HB710.out) (sl3_below HKP.out.2.1 HB710.out) (sl_below HKP.out.2.2 HB710.out)).mono ?_
            rintro e w11 ⟨rfl, hb11⟩
            have HB11 := hide (below_step (below_step HB0.out HB7.out) (below_step HB710.out hb11))
            clear hb11
            go_wp2
            go_ret
            exact ⟨by simp, HB11.out⟩
          · have h2n : t ≤ tk := by omega
            have hrc : repRC b t N k tk = 1 := by unfold repRC; rw [HA.out, if_pos rfl, if_neg (by omega)]
            rw [hrc] at HRP
            go_wp2_with fail
            clear p0 p1 p2 p3
            refine (HRP.out _ (below_step HB0.out HB5.out)).mono ?_
            rintro e w6 ⟨-, hno⟩
            obtain ⟨rfl, hb6⟩ := hno (by decide)
            have HY := hide (fun w' => @box5R w6 w' (.int .i64 0) (.int .i64 0) (.slice none 0 0) (.slice none 0 0) (.slice none 0 0) 38)
            have HB7 : Hid (Below w6.heap.size w6 (w6.alloc (.cells #[.int .i64 0, .int .i64 0, .slice none 0 0, .slice none 0 0, .slice none 0 0] 38))) := hide ((Below.refl _ _).alloc (Nat.le_refl _) _)
            have HB6 := hide hb6
            have HE7 := hide (HES.out (1) (w6.alloc (.cells #[.int .i64 0, .int .i64 0, .slice none 0 0, .slice none 0 0, .slice none 0 0] 38)) (HH.out _ (below_step (below_step HB0.out HB5.out) (below_step HB6.out HB7.out))))
            clear hb6 hno HRP
            go_wp2_with fail
            refine HE7.out.mono ?_
            rintro e w8 ⟨rfl, hb8⟩
            have HB8 := hide hb8
            obtain ⟨z0, z1, z2, z3, z4⟩ := HZB.out w8 (below_step HB6.out (below_step HB7.out HB8.out))
            obtain ⟨y0, y1, y2, y3, y4⟩ := HY.out w8 HB8.out
            clear hb8 HE7
            go_wp2_with fail
            clear z0 z1 z2 z3 z4 y0 y1 y2 y3 y4
            refine (reps_eq 0 0 none 0 0 none 0 0 none 0 0 none 0 none 0 none 0 [] [] [] w8 (sl_none w8) (sl3_none w8) (sl_none w8) (sl_none w8) (sl3_none w8) (sl_none w8)).mono ?_
            rintro e w9 ⟨rfl, hb9⟩
            have HB9 := hide (below_step (below_step (below_step HB0.out HB5.out) (below_step HB6.out HB7.out)) (below_step HB8.out hb9))
            clear hb9
            go_wp2
            go_ret
            exact ⟨by simp, HB9.out⟩
        · have h1n : tk < 0 := by omega
          have hrc : repRC b t N k tk = 1 := by unfold repRC; rw [HA.out, if_pos rfl, if_neg (by omega)]
          rw [hrc] at HRP
          go_wp2_with fail
          clear p0 p1 p2 p3
          refine (HRP.out _ (below_step HB0.out HB5.out)).mono ?_
          rintro e w6 ⟨-, hno⟩
          obtain ⟨rfl, hb6⟩ := hno (by decide)
          have HY := hide (fun w' => @box5R w6 w' (.int .i64 0) (.int .i64 0) (.slice none 0 0) (.slice none 0 0) (.slice none 0 0) 38)
          have HB7 : Hid (Below w6.heap.size w6 (w6.alloc (.cells #[.int .i64 0, .int .i64 0, .slice none 0 0, .slice none 0 0, .slice none 0 0] 38))) := hide ((Below.refl _ _).alloc (Nat.le_refl _) _)
          have HB6 := hide hb6
          have HE7 := hide (HES.out (1) (w6.alloc (.cells #[.int .i64 0, .int .i64 0, .slice none 0 0, .slice none 0 0, .slice none 0 0] 38)) (HH.out _ (below_step (below_step HB0.out HB5.out) (below_step HB6.out HB7.out))))
          clear hb6 hno HRP
          go_wp2_with fail
          refine HE7.out.mono ?_
          rintro e w8 ⟨rfl, hb8⟩
          have HB8 := hide hb8
          obtain ⟨z0, z1, z2, z3, z4⟩ := HZB.out w8 (below_step HB6.out (below_step HB7.out HB8.out))
          obtain ⟨y0, y1, y2, y3, y4⟩ := HY.out w8 HB8.out
          clear hb8 HE7
          go_wp2_with fail
          clear z0 z1 z2 z3 z4 y0 y1 y2 y3 y4
          refine (reps_eq 0 0 none 0 0 none 0 0 none 0 0 none 0 none 0 none 0 [] [] [] w8 (sl_none w8) (sl3_none w8) (sl_none w8) (sl_none w8) (sl3_none w8) (sl_none w8)).mono ?_
          rintro e w9 ⟨rfl, hb9⟩
          have HB9 := hide (below_step (below_step (below_step HB0.out HB5.out) (below_step HB6.out HB7.out)) (below_step HB8.out hb9))
          clear hb9
          go_wp2
          go_ret
          exact ⟨by simp, HB9.out⟩
      · have HL1 := hide (HLO.out hA (by omega) (by omega))
        rw [if_pos (by omega)] at HC
        clear HLO hA
        generalize lgV N E (manyU b t).toNat x.toNat = v at HC HV HL1
        go_wp2_with fail
        clear p0 p1 p2 p3
        refine (HL1.out w1 (below_step HB0.out HB.out)).mono ?_
        rintro e w2 ⟨rfl, hb2⟩
        have HB' := hide (below_step HB.out hb2)
        clear hb2 HB HL1
        have HB := HB'
        clear HB'
        obtain ⟨p0, p1, p2, p3⟩ := HAT.out w2 HB.out
        by_cases hv : v ≤ 1152921504606846976
        · rw [if_pos hv] at HC
          rw [HC.out] at HV
          rw [if_pos rfl] at HV
          rw [HC.out, HV.out, errV_zero] at HLG
          rw [decide_eq_true hv]
          have hvv : (v != v) = false := by simp
          clear HC HV hv
          go_wp2_with fail
          clear p0 p1 p2 p3
          refine (HLG.out w2 (below_step HB0.out HB.out)).mono ?_
          rintro e w3 ⟨rfl, hb3⟩
          have HB3 := hide (below_step HB.out hb3)
          have HE3 := hide (HES.out (0) w3 (HH.out w3 (below_step HB0.out HB3.out)))
          rw [errV_zero] at HE3
          clear hb3 HLG HB
          go_wp2_with fail
          refine HE3.out.mono ?_
          rintro e w4 ⟨rfl, hb4⟩
          have HB4 := hide (below_step HB3.out hb4)
          clear hb4 HE3 HB3
          have HB5 : Hid (Below wb.heap.size wb (w4.alloc (.cells #[.int .i64 0, .int .i64 0, .slice none 0 0, .slice none 0 0, .slice none 0 0] 38))) := hide (HB4.out.alloc HB4.out.size _)
          have HZB := hide (fun w' => @box5R w4 w' (.int .i64 0) (.int .i64 0) (.slice none 0 0) (.slice none 0 0) (.slice none 0 0) 38)
          obtain ⟨p0, p1, p2, p3⟩ := HAT.out _ HB5.out
          by_cases h1 : 0 ≤ tk
          · have h1n : ¬ tk < 0 := by omega
            by_cases h2 : tk < t
            · have h2n : ¬ t ≤ tk := by omega
              have HRC : Hid (repRC b t N k tk = 0) := by show _ = _; unfold repRC; rw [HA.out, if_pos rfl, if_pos ⟨h1, h2⟩]
              go_wp2_with fail
              clear p0 p1 p2 p3
              refine (HRO.out trivial h1 h2 _ (below_step HB0.out HB5.out)).mono ?_
              rintro e w6 ⟨aF, cF, aS, cS, aL, cL, rfl, hkp, hb6⟩
              have hzb := (hb6.block w4.heap.size (by rw [World.size_alloc]; omega)).trans (heap_alloc_last w4 (.cells #[.int .i64 0, .int .i64 0, .slice none 0 0, .slice none 0 0, .slice none 0 0] 38))
              have HB6 := hide (below_step HB5.out hb6)
              have HLT : Hid (w4.heap.size < w6.heap.size) := by
                have h8 := hb6.size
                rw [World.size_alloc] at h8
                show _ < _
                omega
              obtain ⟨⟨z0, z1, z2, z3, z4⟩, zf⟩ := box5R_cells hzb
              obtain ⟨w7, hw7⟩ : ∃ W : World, W = ((((w6.setCell ⟨w4.heap.size, 0, none⟩ (.int .i64 b)).setCell ⟨w4.heap.size, 1, none⟩ (.int .i64 (t - 1))).setCell ⟨w4.heap.size, 2, none⟩ (.slice aF (fst0L n).length cF)).setCell ⟨w4.heap.size, 3, none⟩ (.slice aS (repS b (t.toNat - 1) tk.toNat (manyU b t).toNat (manyU b (t - 1)).toNat N).length cS)).setCell ⟨w4.heap.size, 4, none⟩ (.slice aL (lastL E n).length cL) := ⟨_, rfl⟩
              obtain ⟨⟨hset, hsz7, hoth⟩, hbel⟩ := box5R_set hzb hw7
              have HB7 := hide (hbel wb wb.heap.size HB6.out HB4.out.size)
              have HKP := hide (hkp w7 fun y h3 h4 => hoth y (by rw [World.size_alloc] at h3; omega))
              have HSET := hide hset
              have HSZ := hide hsz7
              have hp := HAT.out w7 HB7.out
              rw [hw7] at hp
              obtain ⟨p0, p1, p2, p3⟩ := hp
              have HW7 := hide hw7
              clear hw7 hset hsz7 hoth hbel hkp hzb hb6
              go_wp2_with fail
              clear p0 p1 p2 p3 z0 z1 z2 z3 z4 zf
              rw [← HW7.out]
              refine (HRP.out w7 (below_step HB0.out HB7.out)).mono ?_
              rintro e w8 ⟨hok, -⟩
              obtain ⟨aF2, cF2, aS2, cS2, aL2, cL2, rfl, ⟨hs1, hs2, hs3⟩, hb8⟩ := hok HRC.out
              have HB8 := hide hb8
              have HS1 := hide hs1
              have HS2 := hide hs2
              have HS3 := hide hs3
              clear hok hs1 hs2 hs3 hb8 HRP HW7
              generalize fst0L n = F at HKP HS1 HSET
              generalize repS b (t.toNat - 1) tk.toNat (manyU b t).toNat (manyU b (t - 1)).toNat N = S at HKP HS2 HSET
              generalize lastL E n = L at HKP HS3 HSET
              have HY := hide (fun w' => @box5R w8 w' (.int .i64 b) (.int .i64 (t - 1)) (.slice aF2 F.length cF2) (.slice aS2 S.length cS2) (.slice aL2 L.length cL2) 38)
              have HB9 : Hid (Below w8.heap.size w8 (w8.alloc (.cells #[.int .i64 b, .int .i64 (t - 1), .slice aF2 F.length cF2, .slice aS2 S.length cS2, .slice aL2 L.length cL2] 38))) := hide ((Below.refl _ _).alloc (Nat.le_refl _) _)
              have HE9 := hide (HES.out 0 _ (HH.out _ (below_step (below_step HB0.out HB7.out) (below_step HB8.out HB9.out))))
              rw [errV_zero] at HE9
              go_wp2_with fail
              refine HE9.out.mono ?_
              rintro e w10 ⟨rfl, hb10⟩
              have HB10 := hide hb10
              obtain ⟨y0, y1, y2, y3, y4⟩ := HY.out w10 HB10.out
              have hb710 := below_step HB8.out (below_step HB9.out HB10.out)
              obtain ⟨⟨z0, z1, z2, z3, z4⟩, -⟩ := box5R_cells ((hb710.block w4.heap.size (by rw [HSZ.out]; exact HLT.out)).trans HSET.out)
              have HB710 := hide hb710
              clear hb10 HE9 hb710
              go_wp2_with fail
              clear z0 z1 z2 z3 z4 y0 y1 y2 y3 y4
              refine (reps_eq b (t - 1) aF2 F.length cF2 aS2 S.length cS2 aL2 L.length cL2 aF cF aS cS aL cL F S L w10 (sl_below HS1.out (below_step HB9.out HB10.out)) (sl3_below HS2.out (below_step HB9.out HB10.out)) (sl_below HS3.out (below_step HB9.out HB10.out)) (sl_below HKP.out.1 HB710.out) (sl3_below HKP.out.2.1 HB710.out) (sl_below HKP.out.2.2 HB710.out)).mono ?_
              rintro e w11 ⟨rfl, hb11⟩
              have HB11 := hide (below_step (below_step HB0.out HB7.out) (below_step HB710.out hb11))
              clear hb11
              go_wp2
              go_ret
              exact ⟨by simp, HB11.out⟩
            · have h2n : t ≤ tk := by omega
              have hrc : repRC b t N k tk = 1 := by unfold repRC; rw [HA.out, if_pos rfl, if_neg (by omega)]
              rw [hrc] at HRP
              go_wp2_with fail
              clear p0 p1 p2 p3
              refine (HRP.out _ (below_step HB0.out HB5.out)).mono ?_
              rintro e w6 ⟨-, hno⟩
              obtain ⟨rfl, hb6⟩ := hno (by decide)
              have HY := hide (fun w' => @box5R w6 w' (.int .i64 0) (.int .i64 0) (.slice none 0 0) (.slice none 0 0) (.slice none 0 0) 38)
              have HB7 : Hid (Below w6.heap.size w6 (w6.alloc (.cells #[.int .i64 0, .int .i64 0, .slice none 0 0, .slice none 0 0, .slice none 0 0] 38))) := hide ((Below.refl _ _).alloc (Nat.le_refl _) _)
              have HB6 := hide hb6
              have HE7 := hide (HES.out (1) (w6.alloc (.cells #[.int .i64 0, .int .i64 0, .slice none 0 0, .slice none 0 0, .slice none 0 0] 38)) (HH.out _ (below_step (below_step HB0.out HB5.out) (below_step HB6.out HB7.out))))
              clear hb6 hno HRP
              go_wp2_with fail
              refine HE7.out.mono ?_
              rintro e w8 ⟨rfl, hb8⟩
              have HB8 := hide hb8
              obtain ⟨z0, z1, z2, z3, z4⟩ := HZB.out w8 (below_step HB6.out (below_step HB7.out HB8.out))
              obtain ⟨y0, y1, y2, y3, y4⟩ := HY.out w8 HB8.out
              clear hb8 HE7
              go_wp2_with fail
              clear z0 z1 z2 z3 z4 y0 y1 y2 y3 y4
              refine (reps_eq 0 0 none 0 0 none 0 0 none 0 0 none 0 none 0 none 0 [] [] [] w8 (sl_none w8) (sl3_none w8) (sl_none w8) (sl_none w8) (sl3_none w8) (sl_none w8)).mono ?_
              rintro e w9 ⟨rfl, hb9⟩
              have HB9 := hide (below_step (below_step (below_step HB0.out HB5.out) (below_step HB6.out HB7.out)) (below_step HB8.out hb9))
              clear hb9
              go_wp2
              go_ret
              exact ⟨by simp, HB9.out⟩
          · have h1n : tk < 0 := by omega
            have hrc : repRC b t N k tk = 1 := by unfold repRC; rw [HA.out, if_pos rfl, if_neg (by omega)]
            rw [hrc] at HRP
            go_wp2_with fail
            clear p0 p1 p2 p3
            refine (HRP.out _ (below_step HB0.out HB5.out)).mono ?_
            rintro e w6 ⟨-, hno⟩
            obtain ⟨rfl, hb6⟩ := hno (by decide)
            have HY := hide (fun w' => @box5R w6 w' (.int .i64 0) (.int .i64 0) (.slice none 0 0) (.slice none 0 0) (.slice none 0 0) 38)
            have HB7 : Hid (Below w6.heap.size w6 (w6.alloc (.cells #[.int .i64 0, .int .i64 0, .slice none 0 0, .slice none 0 0, .slice none 0 0] 38))) := hide ((Below.refl _ _).alloc (Nat.le_refl _) _)
            have HB6 := hide hb6
            have HE7 := hide (HES.out (1) (w6.alloc (.cells #[.int .i64 0, .int .i64 0, .slice none 0 0, .slice none 0 0, .slice none 0 0] 38)) (HH.out _ (below_step (below_step HB0.out HB5.out) (below_step HB6.out HB7.out))))
            clear hb6 hno HRP
            go_wp2_with fail
            refine HE7.out.mono ?_
            rintro e w8 ⟨rfl, hb8⟩
            have HB8 := hide hb8
            obtain ⟨z0, z1, z2, z3, z4⟩ := HZB.out w8 (below_step HB6.out (below_step HB7.out HB8.out))
            obtain ⟨y0, y1, y2, y3, y4⟩ := HY.out w8 HB8.out
            clear hb8 HE7
            go_wp2_with fail
            clear z0 z1 z2 z3 z4 y0 y1 y2 y3 y4
            refine (reps_eq 0 0 none 0 0 none 0 0 none 0 0 none 0 none 0 none 0 [] [] [] w8 (sl_none w8) (sl3_none w8) (sl_none w8) (sl_none w8) (sl3_none w8) (sl_none w8)).mono ?_
            rintro e w9 ⟨rfl, hb9⟩
            have HB9 := hide (below_step (below_step (below_step HB0.out HB5.out) (below_step HB6.out HB7.out)) (below_step HB8.out hb9))
            clear hb9
            go_wp2
            go_ret
            exact ⟨by simp, HB9.out⟩
        · rw [if_neg hv] at HC
          rw [HC.out] at HV
          rw [if_neg (by decide)] at HV
          rw [HC.out, HV.out] at HLG
          rw [decide_eq_false hv]
          clear HC HV hv
          go_wp2_with fail
          clear p0 p1 p2 p3
          refine (HLG.out w2 (below_step HB0.out HB.out)).mono ?_
          rintro e w3 ⟨rfl, hb3⟩
          have HB3 := hide (below_step HB.out hb3)
          have HE3 := hide (HES.out (3) w3 (HH.out w3 (below_step HB0.out HB3.out)))
          skip
          clear hb3 HLG HB
          go_wp2_with fail
          refine HE3.out.mono ?_
          rintro e w4 ⟨rfl, hb4⟩
          have HB4 := hide (below_step HB3.out hb4)
          clear hb4 HE3 HB3
          have HB5 : Hid (Below wb.heap.size wb (w4.alloc (.cells #[.int .i64 0, .int .i64 0, .slice none 0 0, .slice none 0 0, .slice none 0 0] 38))) := hide (HB4.out.alloc HB4.out.size _)
          have HZB := hide (fun w' => @box5R w4 w' (.int .i64 0) (.int .i64 0) (.slice none 0 0) (.slice none 0 0) (.slice none 0 0) 38)
          obtain ⟨p0, p1, p2, p3⟩ := HAT.out _ HB5.out
          by_cases h1 : 0 ≤ tk
          · have h1n : ¬ tk < 0 := by omega
            by_cases h2 : tk < t
            · have h2n : ¬ t ≤ tk := by omega
              have HRC : Hid (repRC b t N k tk = 0) := by show _ = _; unfold repRC; rw [HA.out, if_pos rfl, if_pos ⟨h1, h2⟩]
              go_wp2_with fail
              clear p0 p1 p2 p3
              refine (HRO.out trivial h1 h2 _ (below_step HB0.out HB5.out)).mono ?_
              rintro e w6 ⟨aF, cF, aS, cS, aL, cL, rfl, hkp, hb6⟩
              have hzb := (hb6.block w4.heap.size (by rw [World.size_alloc]; omega)).trans (heap_alloc_last w4 (.cells #[.int .i64 0, .int .i64 0, .slice none 0 0, .slice none 0 0, .slice none 0 0] 38))
              have HB6 := hide (below_step HB5.out hb6)
              have HLT : Hid (w4.heap.size < w6.heap.size) := by
                have h8 := hb6.size
                rw [World.size_alloc] at h8
                show _ < _
                omega
              obtain ⟨⟨z0, z1, z2, z3, z4⟩, zf⟩ := box5R_cells hzb
              obtain ⟨w7, hw7⟩ : ∃ W : World, W = ((((w6.setCell ⟨w4.heap.size, 0, none⟩ (.int .i64 b)).setCell ⟨w4.heap.size, 1, none⟩ (.int .i64 (t - 1))).setCell ⟨w4.heap.size, 2, none⟩ (.slice aF (fst0L n).length cF)).setCell ⟨w4.heap.size, 3, none⟩ (.slice aS (repS b (t.toNat - 1) tk.toNat (manyU b t).toNat (manyU b (t - 1)).toNat N).length cS)).setCell ⟨w4.heap.size, 4, none⟩ (.slice aL (lastL E n).length cL) := ⟨_, rfl⟩
              obtain ⟨⟨hset, hsz7, hoth⟩, hbel⟩ := box5R_set hzb hw7
              have HB7 := hide (hbel wb wb.heap.size HB6.out HB4.out.size)
              have HKP := hide (hkp w7 fun y h3 h4 => hoth y (by rw [World.size_alloc] at h3; omega))
              have HSET := hide hset
              have HSZ := hide hsz7
              have hp := HAT.out w7 HB7.out
              rw [hw7] at hp
              obtain ⟨p0, p1, p2, p3⟩ := hp
              have HW7 := hide hw7
              clear hw7 hset hsz7 hoth hbel hkp hzb hb6
              go_wp2_with fail
              clear p0 p1 p2 p3 z0 z1 z2 z3 z4 zf
              rw [← HW7.out]
              refine (HRP.out w7 (below_step HB0.out HB7.out)).mono ?_
              rintro e w8 ⟨hok, -⟩
              obtain ⟨aF2, cF2, aS2, cS2, aL2, cL2, rfl, ⟨hs1, hs2, hs3⟩, hb8⟩ := hok HRC.out
              have HB8 := hide hb8
              have HS1 := hide hs1
              have HS2 := hide hs2
              have HS3 := hide hs3
              clear hok hs1 hs2 hs3 hb8 HRP HW7
              generalize fst0L n = F at HKP HS1 HSET
              generalize repS b (t.toNat - 1) tk.toNat (manyU b t).toNat (manyU b (t - 1)).toNat N = S at HKP HS2 HSET
              generalize lastL E n = L at HKP HS3 HSET
              have HY := hide (fun w' => @box5R w8 w' (.int .i64 b) (.int .i64 (t - 1)) (.slice aF2 F.length cF2) (.slice aS2 S.length cS2) (.slice aL2 L.length cL2) 38)
              have HB9 : Hid (Below w8.heap.size w8 (w8.alloc (.cells #[.int .i64 b, .int .i64 (t - 1), .slice aF2 F.length cF2, .slice aS2 S.length cS2, .slice aL2 L.length cL2] 38))) := hide ((Below.refl _ _).alloc (Nat.le_refl _) _)
              have HE9 := hide (HES.out 0 _ (HH.out _ (below_step (below_step HB0.out HB7.out) (below_step HB8.out HB9.out))))
              rw [errV_zero] at HE9
              go_wp2_with fail
              refine HE9.out.mono ?_
              rintro e w10 ⟨rfl, hb10⟩
              have HB10 := hide hb10
              obtain ⟨y0, y1, y2, y3, y4⟩ := HY.out w10 HB10.out
              have hb710 := below_step HB8.out (below_step HB9.out HB10.out)
              obtain ⟨⟨z0, z1, z2, z3, z4⟩, -⟩ := box5R_cells ((hb710.block w4.heap.size (by rw [HSZ.out]; exact HLT.out)).trans HSET.out)
              have HB710 := hide hb710
              clear hb10 HE9 hb710
              go_wp2_with fail
              clear z0 z1 z2 z3 z4 y0 y1 y2 y3 y4
              refine (reps_eq b (t - 1) aF2 F.length cF2 aS2 S.length cS2 aL2 L.length cL2 aF cF aS cS aL cL F S L w10 (sl_below HS1.out (below_step HB9.out HB10.out)) (sl3_below HS2.out (below_step HB9.out HB10.out)) (sl_below HS3.out (below_step HB9.out HB10.out)) (sl_below HKP.out.1 HB710.out) (sl3_below HKP.out.2.1 HB710.out) (sl_below HKP.out.2.2 HB710.out)).mono ?_
              rintro e w11 ⟨rfl, hb11⟩
              have HB11 := hide (below_step (below_step HB0.out HB7.out) (below_step HB710.out hb11))
              clear hb11
              go_wp2
              go_ret
              exact ⟨by simp, HB11.out⟩
            · have h2n : t ≤ tk := by omega
              have hrc : repRC b t N k tk = 1 := by unfold repRC; rw [HA.out, if_pos rfl, if_neg (by omega)]
              rw [hrc] at HRP
              go_wp2_with fail
              clear p0 p1 p2 p3
              refine (HRP.out _ (below_step HB0.out HB5.out)).mono ?_
              rintro e w6 ⟨-, hno⟩
              obtain ⟨rfl, hb6⟩ := hno (by decide)
              have HY := hide (fun w' => @box5R w6 w' (.int .i64 0) (.int .i64 0) (.slice none 0 0) (.slice none 0 0) (.slice none 0 0) 38)
              have HB7 : Hid (Below w6.heap.size w6 (w6.alloc (.cells #[.int .i64 0, .int .i64 0, .slice none 0 0, .slice none 0 0, .slice none 0 0] 38))) := hide ((Below.refl _ _).alloc (Nat.le_refl _) _)
              have HB6 := hide hb6
              have HE7 := hide (HES.out (1) (w6.alloc (.cells #[.int .i64 0, .int .i64 0, .slice none 0 0, .slice none 0 0, .slice none 0 0] 38)) (HH.out _ (below_step (below_step HB0.out HB5.out) (below_step HB6.out HB7.out))))
              clear hb6 hno HRP
              go_wp2_with fail
              refine HE7.out.mono ?_
              rintro e w8 ⟨rfl, hb8⟩
              have HB8 := hide hb8
              obtain ⟨z0, z1, z2, z3, z4⟩ := HZB.out w8 (below_step HB6.out (below_step HB7.out HB8.out))
              obtain ⟨y0, y1, y2, y3, y4⟩ := HY.out w8 HB8.out
              clear hb8 HE7
              go_wp2_with fail
              clear z0 z1 z2 z3 z4 y0 y1 y2 y3 y4
              refine (reps_eq 0 0 none 0 0 none 0 0 none 0 0 none 0 none 0 none 0 [] [] [] w8 (sl_none w8) (sl3_none w8) (sl_none w8) (sl_none w8) (sl3_none w8) (sl_none w8)).mono ?_
              rintro e w9 ⟨rfl, hb9⟩
              have HB9 := hide (below_step (below_step (below_step HB0.out HB5.out) (below_step HB6.out HB7.out)) (below_step HB8.out hb9))
              clear hb9
              go_wp2
              go_ret
              exact ⟨by simp, HB9.out⟩
          · have h1n : tk < 0 := by omega
            have hrc : repRC b t N k tk = 1 := by unfold repRC; rw [HA.out, if_pos rfl, if_neg (by omega)]
            rw [hrc] at HRP
            go_wp2_with fail
            clear p0 p1 p2 p3
            refine (HRP.out _ (below_step HB0.out HB5.out)).mono ?_
            rintro e w6 ⟨-, hno⟩
            obtain ⟨rfl, hb6⟩ := hno (by decide)
            have HY := hide (fun w' => @box5R w6 w' (.int .i64 0) (.int .i64 0) (.slice none 0 0) (.slice none 0 0) (.slice none 0 0) 38)
            have HB7 : Hid (Below w6.heap.size w6 (w6.alloc (.cells #[.int .i64 0, .int .i64 0, .slice none 0 0, .slice none 0 0, .slice none 0 0] 38))) := hide ((Below.refl _ _).alloc (Nat.le_refl _) _)
            have HB6 := hide hb6
            have HE7 := hide (HES.out (1) (w6.alloc (.cells #[.int .i64 0, .int .i64 0, .slice none 0 0, .slice none 0 0, .slice none 0 0] 38)) (HH.out _ (below_step (below_step HB0.out HB5.out) (below_step HB6.out HB7.out))))
            clear hb6 hno HRP
            go_wp2_with fail
            refine HE7.out.mono ?_
            rintro e w8 ⟨rfl, hb8⟩
            have HB8 := hide hb8
            obtain ⟨z0, z1, z2, z3, z4⟩ := HZB.out w8 (below_step HB6.out (below_step HB7.out HB8.out))
            obtain ⟨y0, y1, y2, y3, y4⟩ := HY.out w8 HB8.out
            clear hb8 HE7
            go_wp2_with fail
            clear z0 z1 z2 z3 z4 y0 y1 y2 y3 y4
            refine (reps_eq 0 0 none 0 0 none 0 0 none 0 0 none 0 none 0 none 0 [] [] [] w8 (sl_none w8) (sl3_none w8) (sl_none w8) (sl_none w8) (sl3_none w8) (sl_none w8)).mono ?_
            rintro e w9 ⟨rfl, hb9⟩
            have HB9 := hide (below_step (below_step (below_step HB0.out HB5.out) (below_step HB6.out HB7.out)) (below_step HB8.out hb9))
            clear hb9
            go_wp2
            go_ret
            exact ⟨by simp, HB9.out⟩
  · rw [if_neg hA] at HC
    rw [HC.out] at HV
    rw [if_neg hA] at HV
    have hrc : repRC b t N k tk = autoC b t N k := by unfold repRC; rw [if_neg hA]
    rw [HC.out, HV.out] at HLG
    rw [hrc] at HRP
    clear HC HV HLO HRO hrc
    have hA0 : (autoC b t N k == 0) = false := by simpa using hA
    generalize autoC b t N k = A at HLG HRP hA hA0 ⊢
    go_wp2_with fail
    clear p0 p1 p2 p3
    refine (HLG.out w1 (below_step HB0.out HB.out)).mono ?_
    rintro e w3 ⟨rfl, hb3⟩
    have HB3 := hide (below_step HB.out hb3)
    have HE3 := hide (HES.out (A) w3 (HH.out w3 (below_step HB0.out HB3.out)))
    skip
    clear hb3 HLG HB
    go_wp2_with fail
    refine HE3.out.mono ?_
    rintro e w4 ⟨rfl, hb4⟩
    have HB4 := hide (below_step HB3.out hb4)
    clear hb4 HE3 HB3
    have HB5 : Hid (Below wb.heap.size wb (w4.alloc (.cells #[.int .i64 0, .int .i64 0, .slice none 0 0, .slice none 0 0, .slice none 0 0] 38))) := hide (HB4.out.alloc HB4.out.size _)
    have HZB := hide (fun w' => @box5R w4 w' (.int .i64 0) (.int .i64 0) (.slice none 0 0) (.slice none 0 0) (.slice none 0 0) 38)
    obtain ⟨p0, p1, p2, p3⟩ := HAT.out _ HB5.out
    go_wp2_with fail
    clear p0 p1 p2 p3
    refine (HRP.out _ (below_step HB0.out HB5.out)).mono ?_
    rintro e w6 ⟨-, hno⟩
    obtain ⟨rfl, hb6⟩ := hno (hA)
    have HY := hide (fun w' => @box5R w6 w' (.int .i64 0) (.int .i64 0) (.slice none 0 0) (.slice none 0 0) (.slice none 0 0) 38)
    have HB7 : Hid (Below w6.heap.size w6 (w6.alloc (.cells #[.int .i64 0, .int .i64 0, .slice none 0 0, .slice none 0 0, .slice none 0 0] 38))) := hide ((Below.refl _ _).alloc (Nat.le_refl _) _)
    have HB6 := hide hb6
    have HE7 := hide (HES.out (A) (w6.alloc (.cells #[.int .i64 0, .int .i64 0, .slice none 0 0, .slice none 0 0, .slice none 0 0] 38)) (HH.out _ (below_step (below_step HB0.out HB5.out) (below_step HB6.out HB7.out))))
    clear hb6 hno HRP
    go_wp2_with fail
    refine HE7.out.mono ?_
    rintro e w8 ⟨rfl, hb8⟩
    have HB8 := hide hb8
    obtain ⟨z0, z1, z2, z3, z4⟩ := HZB.out w8 (below_step HB6.out (below_step HB7.out HB8.out))
    obtain ⟨y0, y1, y2, y3, y4⟩ := HY.out w8 HB8.out
    clear hb8 HE7
    go_wp2_with fail
    clear z0 z1 z2 z3 z4 y0 y1 y2 y3 y4
    refine (reps_eq 0 0 none 0 0 none 0 0 none 0 0 none 0 none 0 none 0 [] [] [] w8 (sl_none w8) (sl3_none w8) (sl_none w8) (sl_none w8) (sl3_none w8) (sl_none w8)).mono ?_
    rintro e w9 ⟨rfl, hb9⟩
    have HB9 := hide (below_step (below_step (below_step HB0.out HB5.out) (below_step HB6.out HB7.out)) (below_step HB8.out hb9))
    clear hb9
    go_wp2
    go_ret
    exact ⟨by simp, HB9.out⟩
end Go.Proofs.YtlgjadnkokmjoaaDoor
