/- The walk of the law SomeTakes, from what some.Some answers. -/
import Derived.Deep.RegionHeldLaw
import Derived.Test.YtleebojibobgaaaZEg
import Derived.Test.YtleebojibobgaaaGu
import Derived.Test.YtleebojibobgaaaZHh
namespace Go.Proofs.Ytleebojibobgaaa
open Go.RowKit

theorem made_bits (w : World) (n : Nat) : (w.alloc (.cells (madeCells #[.bool false] n) 4)).rowIs w.heap.size 4 n fun p => .bool ((0 : Nat).testBit p) := (World.rowIs_made w (.bool false) n 4).congr fun p _ => by simp
theorem made_put (w : World) (n : Nat) : (w.alloc (.cells ((madeCells #[.bool false] n).setIfInBounds 0 (.bool true)) 4)).rowIs w.heap.size 4 n fun p => .bool ((putM 0 0).testBit p) := by
  obtain ⟨c, h1, h2, h3⟩ := made_bits w n
  rw [heap_alloc_last] at h1
  simp only [Option.some.injEq, Obj.cells.injEq, and_true] at h1
  subst h1
  refine ⟨_, heap_alloc_last _ _, by rw [Array.size_setIfInBounds]; exact h2, fun i hi => ?_⟩
  rw [Array.getElem?_setIfInBounds]
  by_cases e : 0 = i
  · subst e
    rw [if_pos rfl, if_pos (by omega)]
    show some (Value.bool true) = some (Value.bool ((putM 0 0).testBit 0))
    rw [put_self]
  · rw [if_neg e, h3 i hi]
    show some (Value.bool ((0 : Nat).testBit i)) = some (Value.bool ((putM 0 0).testBit i))
    rw [putM_bit]
    simp [e]
/-- What is so where both calls go well. -/
theorem st_math {b t tk : Int} {N : List (List Int)} {E : List Bool} {k : Nat} {u : List Int} (hc : smC b t N E k tk = 0) (hr : runC b (t - 1) (smN b t N E k tk) (smN b t N E k tk).length u = 0) :
    ∃ tr tkn m mu : Nat, t = (tr : Int) + 1 ∧ tk = (tkn : Int) ∧ k = N.length ∧ SmWell b tr tkn N E m mu ∧ okW mu u ∧ u.length ≤ 400 ∧ takesB b (t - 1) (smN b t N E k tk) (smE b t N E k tk) u = endM N.length E (runG (dM N N.length (readS b tr tkn mu)) (cloM N N.length (withL b tr tkn 0)) u) := by
  obtain ⟨hS, hK⟩ := smC_zero hc
  obtain ⟨hF, hL⟩ := smS_zero hS
  obtain ⟨tr, tkn, m, mu, rfl, rfl, hk, H⟩ := sm_well E hF
  obtain ⟨h1, h2, h3⟩ := smN_auto H hc
  have e : (tr : Int) + 1 - 1 = (tr : Int) := by omega
  rw [e] at hr ⊢
  obtain ⟨-, hw⟩ := runC_parts hr
  have hmu : (manyU b (tr : Int)).toNat = mu := by rw [H.fU]; rfl
  rw [hmu] at hw
  have hok := wordC_okW hw
  refine ⟨tr, tkn, m, mu, rfl, rfl, hk, H, hok, (wordC_zero hw).1, ?_⟩
  rw [takesB_of h2 hr]
  exact some_takes H hc hok

set_option maxHeartbeats 32000000 in
set_option maxRecDepth 8000 in
theorem sometakes_of (b t : Int) (a : Option Addr) (n cap : Nat) (a' : Option Addr) (k cap' : Nat) (N : List (List Int)) (E : List Bool) (tk : Int) (aw : Option Addr) (lw cw : Nat) (u : List Int) (w : World) (hs : Sl2 w a n N) (he : SlB w a' k E) (hw : Sl w aw lw u) (hSM : SomeSays) :
    Calls Try.prog 3 #[.agg #[.int .i64 b, .int .i64 t, .slice a n cap, .slice a' k cap'], .int .i64 tk, .slice aw lw cw] w fun e w' => e = .returned (.bool true) ∧ Below w.heap.size w w' := by
  have hE := he.1
  have hN := hs.1
  have hU := hw.1
  have hB0 : Below w.heap.size w (w.alloc (.cells #[.int .i64 b, .int .i64 t, .slice a n cap, .slice a' k cap'] 25)) := (Below.refl _ _).alloc (Nat.le_refl _) _
  have HB0 := hide hB0
  have HAB : Hid (∀ W, Below (w.alloc (.cells #[.int .i64 b, .int .i64 t, .slice a n cap, .slice a' k cap'] 25)).heap.size (w.alloc (.cells #[.int .i64 b, .int .i64 t, .slice a n cap, .slice a' k cap'] 25)) W → AutoAt W w.heap.size b t a n cap a' k cap' N E ∧ Sl W aw lw u) := fun W h => ⟨autoAt_below (autoAt_new (cap := cap) (cap' := cap') (T := 25) hs he) h, sl_below (sl_below hw hB0) h⟩
  have HSA := hide (fun W => sme_any W)
  unfold GivesAuto at HSA
  rw [show smeN.length = 2 from rfl] at HSA
  have HS0 := hide (fun aa cc aa' cc' W h1 h2 => hSM 2 2 aa 2 cc aa' 2 cc' smeN smeE 0 W h1 h2)
  rw [sme_code, sme_next, sme_ends, show okI 0 2 = 2 from rfl, show okI 0 ((2 : Int) - 1) = 1 from rfl] at HS0
  unfold PairR at HS0
  rw [show ([[0, 0]] : List (List Int)).length = 1 from rfl, errV_yes rfl] at HS0
  have HS1 := hide (fun W h1 h2 => hSM b t a n cap a' k cap' N E tk W h1 h2)
  unfold PairR at HS1
  have HTK := hide (fun x cx x' cx' W h1 h2 h3 => takes_u b (t - 1) x x' (smN b t N E k tk).length cx (smN b t N E k tk).length cx' (smN b t N E k tk) (smE b t N E k tk) aw lw cw u W h1 h2 h3)
  have HMA := hide (@st_math b t tk N E k u)
  generalize smN b t N E k tk = MN at HS1 HTK HMA
  generalize smE b t N E k tk = ME at HS1 HTK HMA
  generalize smC b t N E k tk = c at HS1 HMA
  generalize runC b (t - 1) MN MN.length u = e1 at HTK HMA
  generalize takesB b (t - 1) MN ME u = X at HTK HMA
  clear hs he hw hSM hB0
  generalize hW0 : w.alloc (.cells #[.int .i64 b, .int .i64 t, .slice a n cap, .slice a' k cap'] 25) = w0 at HB0 HAB
  have HSZ0 : Hid (w0.heap.size = w.heap.size + 1) := by show _ = _; rw [← hW0]; simp
  go_enter Try.func3, Try.ntmps3
  go_wp2_with fail
  clear hW0
  refine (HSA.out w0).mono ?_
  rintro e w1 ⟨x1, y1, x2, y2, rfl, hnew, hb1⟩
  have HB1 := hide hb1
  have HN1 := hide hnew.here
  clear hnew hb1 HSA
  go_wp2_with fail
  refine (HS0.out x1 y1 x2 y2 w1 HN1.out.1 HN1.out.2).mono ?_
  rintro e w2 ⟨fa, fc, fa', fc', rfl, hnew, hb2⟩
  have hbz := (Below.refl w2.heap.size w2).alloc (Nat.le_refl _) (.cells #[.int .i64 2, .int .i64 1, .slice fa 1 fc, .slice fa' 1 fc'] 25)
  have HB3 := hide (below_step HB1.out (below_step hb2 hbz))
  have HX3 := hide (heap_alloc_last w2 (.cells #[.int .i64 2, .int .i64 1, .slice fa 1 fc, .slice fa' 1 fc'] 25))
  obtain ⟨be, oe, rfl, hce⟩ := slB_cell (hnew.below hbz).here.2 0 (by decide)
  rw [show ([true] : List Bool).getD 0 false = true from rfl, Nat.add_zero] at hce
  clear hnew hb2 hbz HN1 HB1 HS0
  generalize hW3 : w2.alloc (.cells #[.int .i64 2, .int .i64 1, .slice fa 1 fc, .slice (some ⟨be, oe, none⟩) 1 fc'] 25) = w3 at HB3 HX3 hce
  obtain ⟨⟨q0, q1, q2, q3⟩, -⟩ := box_cells HX3.out
  obtain ⟨⟨⟨p0, p1, p2, p3⟩, -⟩, -⟩ := HAB.out w3 HB3.out
  go_wp2_with fail
  clear hW3 q0 q1 q2 q3 p0 p1 p2 p3 hce HX3
  refine (HS1.out w3 (HAB.out w3 HB3.out).1.2.1 (HAB.out w3 HB3.out).1.2.2).mono ?_
  rintro e w4 ⟨ax, cx, ax', cx', rfl, hnew, hb4⟩
  have hbz := (Below.refl w4.heap.size w4).alloc (Nat.le_refl _) (.cells #[.int .i64 (okI c b), .int .i64 (okI c (t - 1)), .slice ax MN.length cx, .slice ax' MN.length cx'] 25)
  have HB5 := hide (below_step HB3.out (below_step hb4 hbz))
  have HX5 := hide (heap_alloc_last w4 (.cells #[.int .i64 (okI c b), .int .i64 (okI c (t - 1)), .slice ax MN.length cx, .slice ax' MN.length cx'] 25))
  have HN5 := hide (hnew.below hbz).here
  clear hnew hb4 hbz HB3 HS1
  generalize hW5 : w4.alloc (.cells #[.int .i64 (okI c b), .int .i64 (okI c (t - 1)), .slice ax MN.length cx, .slice ax' MN.length cx'] 25) = w5 at HB5 HX5 HN5
  by_cases hc : c = 0
  · rw [show okI c b = b by unfold okI; rw [if_pos hc], show okI c (t - 1) = t - 1 by unfold okI; rw [if_pos hc]] at HX5 hW5 ⊢
    rw [errV_yes hc]
    obtain ⟨⟨q0, q1, q2, q3⟩, -⟩ := box_cells HX5.out
    have HHC := hide hc
    clear hc
    go_wp2_with fail
    clear hW5 q0 q1 q2 q3
    refine (HTK.out ax cx ax' cx' w5 HN5.out.1 HN5.out.2 (HAB.out w5 HB5.out).2).mono ?_
    rintro e w6 ⟨rfl, hb6⟩
    have HB6 := hide (below_step HB5.out hb6)
    clear hb6 HB5 HX5 HN5 HTK
    by_cases hr : e1 = 0
    · obtain ⟨tr, tkn, m, mu, rfl, rfl, rfl, H, hok, h400, hX⟩ := HMA.out HHC.out hr
      rw [errV_yes hr]
      subst hX
      have hn : n = N.length := hN.symm
      subst hn
      have hlw : lw = u.length := hU.symm
      subst hlw
      clear hr HMA HHC
      have hG := H.good
      have hn80 := H.n80
      obtain ⟨htr4, htk⟩ := H.tracks
      obtain ⟨hb1, hb2⟩ := H.base
      have hm36 := hG.2.2.2.1
      have hn1 := hG.2.1
      have HG := hide hG
      have HOK := hide hok
      have HMU := hide H.few36
      have HWL := hide (fun l => withL_ok hb2 htk H.many l)
      have HWLN : Hid (∀ l, (withL b tr tkn l).length ≤ 6) := fun l => by show _ ≤ _; rw [withL_len]; have := kinds_bd2 b hb2; omega
      have HWO := hide (fun l W h1 h2 => withoutOf_any b tr tkn l W hb1 hb2 htr4 htk h1 h2)
      unfold GivesRow at HWO
      have HRT := hide (fun i (hi : i < u.length) => @runS_take b tr tkn mu N N.length (cloM N N.length (withL b tr tkn 0)) u i hok hi)
      have HR0 : Hid (runG (dM N N.length (readS b tr tkn mu)) (cloM N N.length (withL b tr tkn 0)) (u.take 0) = cloM N N.length (withL b tr tkn 0)) := by show _ = _; rw [List.take_zero]; rfl
      have HRE : Hid (runG (dM N N.length (readS b tr tkn mu)) (cloM N N.length (withL b tr tkn 0)) (u.take u.length) = runG (dM N N.length (readS b tr tkn mu)) (cloM N N.length (withL b tr tkn 0)) u) := by show _ = _; rw [List.take_length]
      have HRLT : Hid (∀ v, runG (dM N N.length (readS b tr tkn mu)) (cloM N N.length (withL b tr tkn 0)) v < 2 ^ N.length) := fun v => by
        induction v using list_snoc_ind with
        | h0 => exact cloM_lt _ _ _
        | h1 v x _ => rw [runG_snoc]; exact stepM_lt _ _ _ _
      clear H hG hok hN hU
      generalize runG (dM N N.length (readS b tr tkn mu)) (cloM N N.length (withL b tr tkn 0)) = RU at HRT HR0 HRE HRLT ⊢
      have hmkb := make_bools N.length (by omega)
      obtain ⟨⟨⟨p0, p1, p2, p3⟩, -⟩, -⟩ := HAB.out w6 HB6.out
      have HHR := hide (made_put w6 N.length)
      have HBD := hide ((Below.refl w6.heap.size w6).alloc (Nat.le_refl _) (.cells ((madeCells #[.bool false] N.length).setIfInBounds 0 (.bool true)) 4))
      have HB7 := hide (below_step HB6.out HBD.out)
      have hcz := (made_bits w6 N.length).cell (i := 0) (by omega)
      have hfz := (made_bits w6 N.length).frozen 0
      have hni : (0 : Int) < (N.length : Int) := by omega
      generalize hW7 : w6.alloc (.cells ((madeCells #[.bool false] N.length).setIfInBounds 0 (.bool true)) 4) = w7 at HHR HBD HB7
      obtain ⟨⟨⟨r0, r1, r2, r3⟩, -⟩, -⟩ := HAB.out w7 HB7.out
      go_wp2_with fail
      clear hW7 hmkb hcz hfz p0 p1 p2 p3 r0 r1 r2 r3
      refine (HWO.out 0 w7 (by omega) (by omega)).mono ?_
      rintro e w8 ⟨az, cz, rfl, hsz, hb8⟩
      have HLZ := hide (HWL.out 0)
      have HLZN := hide (HWLN.out 0)
      obtain ⟨ls, hls⟩ : ∃ ls, ls = withL b tr tkn 0 := ⟨_, rfl⟩
      rw [← hls] at hsz HLZ HLZN HR0 ⊢
      clear hls
      have hll := HLZN.out
      have HB8 := hide (below_step HB7.out hb8)
      have HHB : Hid (w6.heap.size < w7.heap.size ∧ w0.heap.size ≤ w6.heap.size) := ⟨HHR.out.lt, HB6.out.size⟩
      have HH8 := hide (HHR.out.of_block (hb8.block _ HHR.out.lt))
      have HSZ : Hid (∀ W, Tch (fun x => x = w6.heap.size) w8 W → Sl W az ls.length ls) := fun W hT => sl_keep hsz.1 fun x hx => hT.block x (slB_lt hsz.1 hx) (fun e => by
        obtain ⟨-, ad, e1, e2⟩ := hx
        have := hsz.2 ad e1
        have := HHB.out
        omega)
      have HBT : Hid (∀ W, Tch (fun x => x = w6.heap.size) w8 W → Below w0.heap.size w0 W) := fun W hT => below_tch HB8.out hT (fun x hx => by have := HHB.out; omega) HB8.out.size
      clear hsz hb8 HB7 HHR HBD
      obtain ⟨hb, hhb⟩ : ∃ hb, hb = w6.heap.size := ⟨_, rfl⟩
      have HHB0 : Hid (w0.heap.size ≤ hb) := by show _ ≤ _; rw [hhb]; exact HHB.out.2
      rw [← hhb] at HH8 HSZ HBT ⊢
      clear hhb HHB HB6 w6
      go_wp2
      go_loopw [15] (fun jv wx => ∃ j M : Nat, j ≤ N.length ∧ jv = .int .i64 j ∧ RndI N N.length ls j M ∧ (wx.rowIs hb 4 N.length fun p => .bool (M.testBit p)) ∧ Tch (fun x => x = hb) w8 wx) (fun jv _ => N.length - (intOf jv).toNat)
      case atStart => exact ⟨0, putM 0 0, by omega, rfl, rnd_start HG.out HLZ.out, HH8.out, tch_refl _ _⟩
      case round =>
        obtain ⟨j, M0, hj, rfl, hrn, hrw, htc⟩ := hrel
        have HRN := hide hrn
        have HRW := hide hrw
        have HTC := hide htc
        obtain ⟨⟨⟨p0, p1, p2, p3⟩, -⟩, -⟩ := HAB.out wr (HBT.out wr htc)
        clear hrn hrw htc
        by_cases hlt : j < N.length
        · have hlti : (j : Int) < (N.length : Int) := by omega
          have HCL0 := hide (rnd_clo HRN.out)
          go_wp2
          clear p0 p1 p2 p3
          go_loopw [16] (fun sv wx => ∃ s M : Nat, s ≤ N.length ∧ sv = .int .i64 s ∧ CloI N N.length ls M0 M s 0 ∧ (wx.rowIs hb 4 N.length fun p => .bool (M.testBit p)) ∧ Tch (fun x => x = hb) w8 wx) (fun sv _ => N.length - (intOf sv).toNat)
          case atStart => exact ⟨0, M0, by omega, rfl, HCL0.out, HRW.out, HTC.out⟩
          case round =>
            obtain ⟨s, M1, hsn, rfl, hcl, hrw, htc⟩ := hrel
            have HCL := hide hcl
            have HRW1 := hide hrw
            have HTC1 := hide htc
            obtain ⟨⟨⟨p0, p1, p2, p3⟩, -⟩, -⟩ := HAB.out wr (HBT.out wr htc)
            clear hcl hrw htc
            by_cases hlt2 : s < N.length
            · have hlti2 : (s : Int) < (N.length : Int) := by omega
              go_wp2
              clear p0 p1 p2 p3
              go_loopw [17] (fun iv wx => ∃ i M : Nat, i ≤ ls.length ∧ iv = .int .i64 i ∧ CloI N N.length ls M0 M s i ∧ (i = 0 ∨ M.testBit s = true) ∧ (wx.rowIs hb 4 N.length fun p => .bool (M.testBit p)) ∧ Tch (fun x => x = hb) w8 wx) (fun iv _ => ls.length - (intOf iv).toNat)
              case atStart => exact ⟨0, M1, by omega, rfl, HCL.out, .inl rfl, HRW1.out, HTC1.out⟩
              case round =>
                obtain ⟨i, M, hi, rfl, hcl, hor, hrw, htc⟩ := hrel
                have HCL2 := hide hcl
                have HRW2 := hide hrw
                have HTC2 := hide htc
                have HOR := hide hor
                have hcs := hrw.cell hlt2
                clear hcl hrw htc hor
                by_cases hlt3 : i < ls.length
                · have hlti3 : (i : Int) < (ls.length : Int) := by omega
                  cases hm : M.testBit s with
                  | true =>
                    have HMT := hide hm
                    rw [hm] at hcs
                    obtain ⟨⟨⟨p0, p1, p2, p3⟩, hNs, -⟩, -⟩ := HAB.out wr (HBT.out wr HTC2.out)
                    obtain ⟨bn, on, an, cn, rfl, hcn, hsn2⟩ := sl2_cell hNs s hlt2
                    rw [(HG.out.2.2.2.2.2 s hlt2).1] at hcn hsn2
                    obtain ⟨bl, ol, rfl, hcl⟩ := sl_cell (HSZ.out wr HTC2.out) i hlt3
                    have hx := HLZ.out (ls.getD i 0) (by rw [getD_at _ i hlt3]; exact List.getElem_mem _)
                    have HPT := hide (cloI_put HG.out HLZ.out HCL2.out hm hlt3)
                    have hst : stepL N s (ls.getD i 0) = nxt N s (ls.getD i 0).toNat := rfl
                    rw [hst] at HPT
                    obtain ⟨x, hxe⟩ : ∃ x : Nat, ls.getD i 0 = (x : Int) := ⟨(ls.getD i 0).toNat, by omega⟩
                    rw [hxe] at hcl hx HPT
                    rw [Int.toNat_natCast] at HPT
                    have hxm : x < m := by omega
                    have hxi : (x : Int) < (m : Int) := by omega
                    obtain ⟨b1', o1', rfl, hcx⟩ := sl_cell hsn2 x hxm
                    obtain ⟨hy1, hy2⟩ := nxt_cell HG.out hlt2 hxm
                    rw [hy2] at hcx
                    have hcy := HRW2.out.cell hy1
                    have hfy := HRW2.out.frozen (nxt N s x)
                    have hyi : ((nxt N s x : Nat) : Int) < (N.length : Int) := by omega
                    have HST := hide (bit_set HRW2.out (nxt N s x))
                    have HSP : Hid ((putM M (nxt N s x)).testBit s = true) := sub_put _ _ _ hm
                    generalize nxt N s x = y at hcx hy1 HPT hcy hfy hyi HST HSP
                    clear hsn2 hst hxe hx hy2 hNs hm
                    go_wp2
                    go_region
                    all_goals
                      have HT3 : Hid (Tch (fun x => x = hb) w8 (wr.setCell ⟨hb, y, none⟩ (.bool true))) := tch_trans HTC2.out (tch_set (F := fun x => x = hb) wr (a := ⟨hb, y, none⟩) rfl _) (fun _ _ hx => hx)
                      go_wp2
                      go_roundw
                      case rel => exact ⟨i + 1, putM M y, by omega, by go_num, HPT.out, .inr HSP.out, HST.out, ⟨HT3.out.os, HT3.out.tape, HT3.out.output, HT3.out.size, HT3.out.block⟩⟩
                      case measure => simp [intOf]; omega
                  | false =>
                    rw [hm] at hcs
                    have hi0 : i = 0 := by
                      rcases HOR.out with h | h
                      · exact h
                      · rw [hm] at h; cases h
                    subst hi0
                    have HSK := hide (cloI_skip HCL2.out hm)
                    clear hm
                    go_wp2
                    go_roundw
                    case rel => exact ⟨s + 1, M, by omega, by go_num, HSK.out, HRW2.out, HTC2.out⟩
                    case measure => simp [intOf]; omega
                · have hlti3 : ¬ (i : Int) < (ls.length : Int) := by omega
                  obtain rfl : i = ls.length := by omega
                  have HSK := hide (cloI_row HCL2.out)
                  go_wp2
                  go_roundw
                  case rel => exact ⟨s + 1, M, by omega, by go_num, HSK.out, HRW2.out, HTC2.out⟩
                  case measure => simp [intOf]; omega
            · have hlti2 : ¬ (s : Int) < (N.length : Int) := by omega
              obtain rfl : s = N.length := by omega
              have HNX := hide (rnd_next HRN.out HCL.out)
              go_wp2
              go_roundw
              case rel => exact ⟨j + 1, M1, by omega, by go_num, HNX.out, HRW1.out, HTC1.out⟩
              case measure => simp [intOf]; omega
        · have hlti : ¬ (j : Int) < (N.length : Int) := by omega
          obtain rfl : j = N.length := by omega
          have hend := rnd_end HRN.out
          rw [← HR0.out] at hend
          subst hend
          have HBr := hide (HBT.out wr HTC.out)
          have HHX : Hid (RU (u.take 0) < 2 ^ N.length) := HRLT.out _
          have HOUT : Hid (∀ i, i < u.length → 0 ≤ u.getD i 0 ∧ u.getD i 0 < (mu : Int)) := fun i hi => HOK.out _ (by rw [getD_at _ i hi]; exact List.getElem_mem _)
          have HMU2 := hide HMU.out.2
          clear HTC HRN HBT HSZ HLZ HLZN hll HH8 HB8 HR0 HOK HMU
          go_wp2
          clear p0 p1 p2 p3
          obtain ⟨wk, hwk⟩ : ∃ wk : World, wk = wr := ⟨_, rfl⟩
          rw [← hwk] at HRW HBr ⊢
          clear hwk wr
          go_loopw [13, 18] (fun v iv wx => ∃ i g : Nat, i ≤ u.length ∧ iv = .int .i64 i ∧ v = .slice (some ⟨g, 0, none⟩) N.length N.length ∧ (wx.rowIs g 4 N.length fun p => .bool ((RU (u.take i)).testBit p)) ∧ Below w0.heap.size w0 wx) (fun _ iv _ => u.length - (intOf iv).toNat)
          case atStart => exact ⟨0, hb, by omega, rfl, rfl, HRW.out, HBr.out⟩
          case round =>
            obtain ⟨i, g, hi, rfl, rfl, hrw, hbx⟩ := hrel
            have HRW4 := hide hrw
            have HB4 := hide hbx
            obtain ⟨⟨⟨p0, p1, p2, p3⟩, -⟩, hsu⟩ := HAB.out wr hbx
            clear hrw hbx HRW HBr
            by_cases hlt4 : i < u.length
            · have hlti4 : (i : Int) < (u.length : Int) := by omega
              obtain ⟨bu, ou, rfl, hcu⟩ := sl_cell hsu i hlt4
              have hub := HOUT.out i hlt4
              have HRTi := hide (HRT.out i hlt4)
              have hmu36 := HMU2.out
              have HC1 := hide (HWO.out (u.getD i 0) wr.drew (by omega) (by omega))
              have HWi := hide (HWL.out (u.getD i 0))
              have HWNi := hide (HWLN.out (u.getD i 0))
              obtain ⟨ui, hui⟩ : ∃ ui, ui = u.getD i 0 := ⟨_, rfl⟩
              rw [← hui] at hcu hub HRTi HC1 HWi HWNi
              clear hui
              obtain ⟨l2, hl2⟩ : ∃ l2, l2 = withL b tr tkn ui := ⟨_, rfl⟩
              rw [← hl2] at HRTi HC1 HWi HWNi
              clear hl2
              have hl26 := HWNi.out
              clear hsu
              go_wp2
              have HKP : Hid (∀ W, Below wr.heap.size wr W → W.cell? ⟨w.heap.size, 0, none⟩ = some (.int .i64 b) ∧ W.cell? ⟨w.heap.size, 1, none⟩ = some (.int .i64 ((tr : Int) + 1)) ∧ W.cell? ⟨bu, ou + i, none⟩ = some (.int .i64 ui)) := fun W hW => by
                have k := fun (p : Addr) v (h : wr.cell? p = some v) => (hW.cell (p := p) (World.block_lt_of_cell? _ _ h)).trans h
                exact ⟨k _ _ p0, k _ _ p1, k _ _ hcu⟩
              go_region_held_law (fun W => W.cell? ⟨w.heap.size, 0, none⟩ = some (.int .i64 b) ∧ W.cell? ⟨w.heap.size, 1, none⟩ = some (.int .i64 ((tr : Int) + 1)) ∧ W.cell? ⟨bu, ou + i, none⟩ = some (.int .i64 ui)) (first | exact HKP.out _ HB9.out | go_keep)
                (first | (go_at_call 9; refine HC1.out.mono ?_; rintro e w9 ⟨az, cz2, rfl, hsz, hb9⟩; have HB9 := hide ((Below.refl wr.heap.size wr).drew.trans hb9); have HSZ9 := hide hsz; clear hsz hb9))
              all_goals
                have hmkb := make_bools N.length (by omega)
                obtain ⟨⟨⟨r0, r1, r2, r3⟩, -⟩, -⟩ := HAB.out w9 (below_step HB4.out HB9.out)
                have HMB := hide (made_bits w9 N.length)
                have HBM := hide ((Below.refl w9.heap.size w9).alloc (Nat.le_refl _) (.cells (madeCells #[.bool false] N.length) 4))
                have HRWM := hide ((HRW4.out.of_block (HB9.out.block _ HRW4.out.lt)).of_block (HBM.out.block _ (Nat.lt_of_lt_of_le HRW4.out.lt HB9.out.size)))
                have HGN : Hid (g < w9.heap.size) := Nat.lt_of_lt_of_le HRW4.out.lt HB9.out.size
                have HSM : Hid (Sl (w9.alloc (.cells (madeCells #[.bool false] N.length) 4)) az l2.length l2) := sl_below HSZ9.out.1 HBM.out
                have HAZ : Hid (∀ x, slB az l2.length x → x < w9.heap.size) := fun x hx => slB_lt HSZ9.out.1 hx
                have HBA := hide (below_step (below_step HB4.out HB9.out) HBM.out)
                have HW0L : Hid (w0.heap.size ≤ w9.heap.size) := Nat.le_trans HB4.out.size HB9.out.size
                clear p0 p1 p2 p3 hcu HC1
                go_wp2
                clear r0 r1 r2 r3 hmkb
                generalize w9.alloc (.cells (madeCells #[.bool false] N.length) 4) = wA at HMB HRWM HSM HBA
                clear HBM
                obtain ⟨nb, hnb⟩ : ∃ nb, nb = w9.heap.size := ⟨_, rfl⟩
                rw [← hnb] at HMB HGN HAZ HW0L ⊢
                clear hnb
                have HBT : Hid (∀ W, Tch (fun x => x = nb) wA W → Below w0.heap.size w0 W) := fun W hT => below_tch HBA.out hT (fun x hx => by have := HW0L.out; omega) HBA.out.size
                have HSZ : Hid (∀ W, Tch (fun x => x = nb) wA W → Sl W az l2.length l2) := fun W hT => sl_keep HSM.out fun x hx => hT.block x (slB_lt HSM.out hx) (fun e => by have := HAZ.out x hx; omega)
                have HRG : Hid (∀ W, Tch (fun x => x = nb) wA W → W.rowIs g 4 N.length fun p => .bool ((RU (u.take i)).testBit p)) := fun W hT => HRWM.out.of_block (hT.block g HRWM.out.lt (fun e => by have := HGN.out; omega))
                obtain ⟨M0, hM0⟩ : ∃ M0, M0 = RU (u.take i) := ⟨_, rfl⟩
                rw [← hM0] at HRTi HRG
                clear hM0
                go_loopw [21] (fun sv wx => ∃ s M : Nat, s ≤ N.length ∧ sv = .int .i64 s ∧ StpI N N.length l2 M0 M s 0 ∧ (wx.rowIs nb 4 N.length fun p => .bool (M.testBit p)) ∧ Tch (fun x => x = nb) wA wx) (fun sv _ => N.length - (intOf sv).toNat)
                case atStart => exact ⟨0, 0, by omega, rfl, stp_start _ _ _ _, HMB.out, tch_refl _ _⟩
                case round =>
                  obtain ⟨s, M1, hsn, rfl, hcl, hrw, htc⟩ := hrel
                  have HCL := hide hcl
                  have HRW1 := hide hrw
                  have HTC1 := hide htc
                  obtain ⟨⟨⟨p0, p1, p2, p3⟩, -⟩, -⟩ := HAB.out wr (HBT.out wr htc)
                  clear hcl hrw htc
                  by_cases hlt2 : s < N.length
                  · have hlti2 : (s : Int) < (N.length : Int) := by omega
                    go_wp2
                    clear p0 p1 p2 p3
                    go_loopw [22] (fun iv wx => ∃ q M : Nat, q ≤ l2.length ∧ iv = .int .i64 q ∧ StpI N N.length l2 M0 M s q ∧ (q = 0 ∨ M0.testBit s = true) ∧ (wx.rowIs nb 4 N.length fun p => .bool (M.testBit p)) ∧ Tch (fun x => x = nb) wA wx) (fun iv _ => l2.length - (intOf iv).toNat)
                    case atStart => exact ⟨0, M1, by omega, rfl, HCL.out, .inl rfl, HRW1.out, HTC1.out⟩
                    case round =>
                      obtain ⟨q, M, hq, rfl, hcl, hor, hrw, htc⟩ := hrel
                      have HCL2 := hide hcl
                      have HRW2 := hide hrw
                      have HTC2 := hide htc
                      have HOR := hide hor
                      have hcs := (HRG.out wr htc).cell hlt2
                      clear hcl hrw htc hor
                      by_cases hlt3 : q < l2.length
                      · have hlti3 : (q : Int) < (l2.length : Int) := by omega
                        cases hm : M0.testBit s with
                        | true =>
                          have HMT := hide hm
                          rw [hm] at hcs
                          obtain ⟨⟨⟨p0, p1, p2, p3⟩, hNs, -⟩, -⟩ := HAB.out wr (HBT.out wr HTC2.out)
                          obtain ⟨bn, on, an, cn, rfl, hcn, hsn2⟩ := sl2_cell hNs s hlt2
                          rw [(HG.out.2.2.2.2.2 s hlt2).1] at hcn hsn2
                          obtain ⟨bl, ol, rfl, hcl⟩ := sl_cell (HSZ.out wr HTC2.out) q hlt3
                          have hx := HWi.out (l2.getD q 0) (by rw [getD_at _ q hlt3]; exact List.getElem_mem _)
                          have hst : stepL N s (l2.getD q 0) = nxt N s (l2.getD q 0).toNat := rfl
                          have HPT0 := hide (fun h => stp_put HCL2.out hlt2 hm hlt3 h)
                          rw [hst] at HPT0
                          obtain ⟨x, hxe⟩ : ∃ x : Nat, l2.getD q 0 = (x : Int) := ⟨(l2.getD q 0).toNat, by omega⟩
                          rw [hxe] at hcl hx HPT0
                          rw [Int.toNat_natCast] at HPT0
                          have hxm : x < m := by omega
                          have hxi : (x : Int) < (m : Int) := by omega
                          obtain ⟨b1', o1', rfl, hcx⟩ := sl_cell hsn2 x hxm
                          obtain ⟨hy1, hy2⟩ := nxt_cell HG.out hlt2 hxm
                          rw [hy2] at hcx
                          have HPT := hide (HPT0.out hy1)
                          have hcy := HRW2.out.cell hy1
                          have hfy := HRW2.out.frozen (nxt N s x)
                          have hyi : ((nxt N s x : Nat) : Int) < (N.length : Int) := by omega
                          have HST := hide (bit_set HRW2.out (nxt N s x))
                          generalize nxt N s x = y at hcx hy1 HPT hcy hfy hyi HST HPT0
                          clear hsn2 hst hxe hx hy2 hNs hm HPT0
                          go_wp2
                          go_region
                          all_goals
                            have HT3 : Hid (Tch (fun x => x = nb) wA (wr.setCell ⟨nb, y, none⟩ (.bool true))) := tch_trans HTC2.out (tch_set (F := fun x => x = nb) wr (a := ⟨nb, y, none⟩) rfl _) (fun _ _ hx => hx)
                            go_wp2
                            go_roundw
                            case rel => exact ⟨q + 1, putM M y, by omega, by go_num, HPT.out, .inr (by first | exact HMT.out | trivial), HST.out, ⟨HT3.out.os, HT3.out.tape, HT3.out.output, HT3.out.size, HT3.out.block⟩⟩
                            case measure => simp [intOf]; omega
                        | false =>
                          rw [hm] at hcs
                          have hi0 : q = 0 := by
                            rcases HOR.out with h | h
                            · exact h
                            · rw [hm] at h; cases h
                          subst hi0
                          have HSK := hide (stp_skip HCL2.out hm)
                          clear hm
                          go_wp2
                          go_roundw
                          case rel => exact ⟨s + 1, M, by omega, by go_num, HSK.out, HRW2.out, HTC2.out⟩
                          case measure => simp [intOf]; omega
                      · have hlti3 : ¬ (q : Int) < (l2.length : Int) := by omega
                        obtain rfl : q = l2.length := by omega
                        have HSK := hide (stp_row HCL2.out)
                        go_wp2
                        go_roundw
                        case rel => exact ⟨s + 1, M, by omega, by go_num, HSK.out, HRW2.out, HTC2.out⟩
                        case measure => simp [intOf]; omega
                  · have hlti2 : ¬ (s : Int) < (N.length : Int) := by omega
                    obtain rfl : s = N.length := by omega
                    have hend := stp_end HCL.out
                    have HEND : Hid (RU (u.take (i + 1)) = M1) := by show _ = _; rw [HRTi.out, hend]
                    clear hend
                    go_wp2
                    go_roundw
                    case rel => exact ⟨i + 1, nb, by omega, by go_num, rfl, by rw [HEND.out]; exact HRW1.out, HBT.out wr HTC1.out⟩
                    case measure => simp [intOf]; omega
            · have hlti4 : ¬ (i : Int) < (u.length : Int) := by omega
              obtain rfl : i = u.length := by omega
              rw [HRE.out] at HRW4
              have HET := hide (fun s => endTo_next E (RU u) s)
              have HEA := hide (endTo_all N.length E (RU u))
              have HEZ := hide (endTo_zero E (RU u))
              rw [← HEA.out]
              generalize endTo E (RU u) = ET at HET HEZ ⊢
              clear HEA HRT HRE HRLT hsu HOUT HMU2 HWO HWL HWLN
              go_wp2
              clear p0 p1 p2 p3
              go_loopw [23, 24] (fun v sv wx => ∃ s : Nat, s ≤ N.length ∧ sv = .int .i64 s ∧ v = .bool (ET s) ∧ (wx.rowIs g 4 N.length fun p => .bool ((RU u).testBit p)) ∧ Below w0.heap.size w0 wx) (fun _ sv _ => N.length - (intOf sv).toNat)
              case atStart => exact ⟨0, by omega, rfl, by rw [HEZ.out], HRW4.out, HB4.out⟩
              case round =>
                obtain ⟨s, hsn, rfl, rfl, hrw, hbx⟩ := hrel
                have HRW5 := hide hrw
                have HB5 := hide hbx
                obtain ⟨⟨⟨p0, p1, p2, p3⟩, -, hEs⟩, -⟩ := HAB.out wr hbx
                clear hrw hbx HRW4 HB4
                by_cases hlt7 : s < N.length
                · have hlti7 : (s : Int) < (N.length : Int) := by omega
                  obtain ⟨be7, oe7, rfl, hce7⟩ := slB_cell hEs s hlt7
                  have hch := HRW5.out.cell hlt7
                  have HN7 := hide (HET.out s)
                  clear hEs
                  cases h0 : ET s <;> cases h1 : (RU u).testBit s <;> cases h2 : E.getD s false
                  all_goals
                    rw [h0, h1, h2] at HN7
                    rw [h1] at hch
                    rw [h2] at hce7
                    clear h0 h1 h2
                    go_wp2
                    go_roundw
                    case rel => exact ⟨s + 1, by omega, by go_num, by rw [HN7.out]; rfl, HRW5.out, HB5.out⟩
                    case measure => simp [intOf]; omega
                · have hlti7 : ¬ (s : Int) < (N.length : Int) := by omega
                  obtain rfl : s = N.length := by omega
                  have HBF := hide (below_step HB0.out HB5.out)
                  cases h0 : ET N.length
                  all_goals
                    clear h0
                    go_wp2
                    go_ret
                    exact ⟨rfl, HBF.out⟩
    · rw [errV_no hr]
      clear hr HMA
      go_wp2_with fail
      go_ret
      exact ⟨rfl, below_step HB0.out HB6.out⟩
  · rw [errV_no hc]
    clear hc HMA
    go_wp2_with fail
    go_ret
    exact ⟨rfl, below_step HB0.out HB5.out⟩
end Go.Proofs.Ytleebojibobgaaa
