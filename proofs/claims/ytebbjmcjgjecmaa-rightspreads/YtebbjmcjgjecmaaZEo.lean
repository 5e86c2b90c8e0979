/- 3 texts in one. -/
import Derived.Test.YtebbjmcjgjecmaaBy
import Derived.Test.YtebbjmcjgjecmaaZDh
import Derived.Test.YtebbjmcjgjecmaaDd
import Derived.Test.YtebbjmcjgjecmaaZNx
import Derived.Test.YtebbjmcjgjecmaaEn
import Derived.Test.YtebbjmcjgjecmaaEe
/- track.readAnew, whatever closure is handed in: contract. -/
namespace Go.Proofs.Ytebbjmcjgjecmaa
open Go.RowKit

set_option maxHeartbeats 16000000 in
set_option maxRecDepth 8000 in
theorem readAnew_any (f : FuncId) (cs : Array Value) (b t : Int) (a : Option Addr) (n cap : Nat) (a' : Option Addr) (cap' : Nat) (N : List (List Int)) (E : List Bool) (trn mu m : Nat) (F : Nat → List Int) (T : List Int) (w : World) (hs : Sl2 w a n N) (he : SlB w a' n E)
    (hG : GoodN m n N) (hn80 : n ≤ 80) (hM : codeM b (trn : Int) = 0) (hmu : manyU b (trn : Int) = (mu : Int))
    (hen : ∀ (args : Array Value) (W : World), (callFunc f args).run Try.prog W = .ok (.enter f args) W)
    (hF : ∀ (W : World) (g l : Nat), Below w.heap.size w W → l < mu → Sl W (some ⟨g, 0, none⟩) trn (splitL b trn (l : Int)) → Calls Try.prog f (#[.slice (some ⟨g, 0, none⟩) trn trn] ++ cs) W (GivesRow W (F l)))
    (hP : ∀ l, l < mu → codeP b (F l) = 0 ∧ packL b (F l) = T.getD l 0) (hT : T.length = mu) (h1 : 1 ≤ mu) (h36 : mu ≤ 36) (hok : okTo m T) :
    Calls Try.prog 14 #[.agg #[.int .i64 b, .int .i64 t, .slice a n cap, .slice a' n cap'], .int .i64 (trn : Int), .func (.func f) #[] cs] w (PairR w b (trn : Int) (leastN (relN N T) E mu) (leastE (relN N T) E mu) 0) := by
  have hm36 := hG.2.2.2.1
  have hR := rel_good hG hok (by omega) (by omega)
  rw [hT] at hR
  have hB0 := below_two w (.cells #[.int .i64 b, .int .i64 t, .slice a n cap, .slice a' n cap'] 25) (.cells #[.int .i64 0, .int .i64 0, .slice none 0 0, .slice none 0 0] 25)
  have HB0 := hide hB0
  have HS := hide (sl2_below hs hB0)
  have HE := hide (slB_below he hB0)
  have HBX := hide (fun W (h : Below _ _ W) => (@two_boxes w W (.int .i64 b) (.int .i64 t) (.slice a n cap) (.slice a' n cap') (.int .i64 0) (.int .i64 0) (.slice none 0 0) (.slice none 0 0) 25 h).1)
  have HRX := hide (heap_alloc2_snd w (.cells #[.int .i64 b, .int .i64 t, .slice a n cap, .slice a' n cap'] 25) (.cells #[.int .i64 0, .int .i64 0, .slice none 0 0, .slice none 0 0] 25))
  have hwT : ∀ x ∈ T, (Lit.int .i64 x).wf = true := fun x hx => by have := hok x hx; exact WalkArith.wf_i64 (by omega)
  have HOL := hide (oldLetters_any f cs b trn mu F T _ hM hmu hen (fun W g l h => hF W g l (below_step hB0 h)) hP hT h36 hwT)
  unfold OfU at HOL
  rw [hT] at HOL
  have HG := hide hG
  have HT := hide hok
  have HTL := hide hT
  have HRC := hide (fun s j (h : s < n) (h' : j < T.length) => rel_cell hG h h')
  rw [hT] at HRC
  have HRR := hide hR
  have HLE := hide (fun an cn W h1 h2 => least_ok b (trn : Int) an n cn (relN N T) a' cap' E W h1 h2 (autoC_good hM (by rw [hmu, Int.toNat_natCast]; exact hR) hn80))
  rw [hmu, Int.toNat_natCast] at HLE
  unfold LeastU at HLE
  have HRLN : Hid ((relN N T).length = n) := by show _ = _; rw [relN_len]; exact hG.1
  clear hs he hG hok hR hB0 hF hP hT hM hmu hen hwT
  unfold PairR
  rw [errV_zero]
  generalize leastN (relN N T) E mu = LN at HLE ⊢
  generalize leastE (relN N T) E mu = LE at HLE ⊢
  generalize relN N T = RN at HRC HRR HLE HRLN
  generalize hW0 : (w.alloc (.cells #[.int .i64 b, .int .i64 t, .slice a n cap, .slice a' n cap'] 25)).alloc (.cells #[.int .i64 0, .int .i64 0, .slice none 0 0, .slice none 0 0] 25) = wb at HB0 HS HE HBX HRX HOL
  have HSZ0 : Hid (wb.heap.size = w.heap.size + 2) := by show _ = _; rw [← hW0]; simp
  obtain ⟨j0, hj0, hy0, hy1, hy2⟩ := info_parts infoS2
  have hmk := make_ints mu (by omega)
  obtain ⟨p0, p1, p2, p3⟩ := HBX.out wb (Below.refl _ _)
  go_enter Try.func14, Try.ntmps14
  go_wp2_with fail
  clear hW0 p0 p1 p2 p3
  refine HOL.out.mono ?_
  rintro e w1 ⟨at', ct', rfl, ⟨hst, -⟩, hb1⟩
  have HB1 := hide hb1
  have HST := hide hst
  obtain ⟨p0, p1, p2, p3⟩ := HBX.out w1 hb1
  have HOS := hide (nxAt_start w1 b (trn : Int) (fun s => RN.getD s []) (.slice a' n cap'))
  have hbA := (Below.refl w1.heap.size w1).alloc (Nat.le_refl _) (.cells #[.int .i64 b, .int .i64 (trn : Int), .slice none 0 0, .slice a' n cap'] 25)
  obtain ⟨q0, q1, q2, q3⟩ := HBX.out _ (below_step hb1 hbA)
  clear hb1 hst HOL hbA
  go_wp2
  clear p0 p1 p2 p3 q0 q1 q2 q3
  generalize w1.alloc (.cells #[.int .i64 b, .int .i64 (trn : Int), .slice none 0 0, .slice a' n cap'] 25) = wB at HOS ⊢
  go_loopw [37] (fun iv wx => ∃ s : Nat, s ≤ n ∧ iv = .int .i64 s ∧ NxAt w1 b (trn : Int) (fun s => RN.getD s []) (.slice a' n cap') s wx) (fun iv _ => n - (intOf iv).toNat)
  case atStart => exact ⟨0, by omega, rfl, HOS.out⟩
  case round =>
    obtain ⟨s, hs, rfl, hpr⟩ := hrel
    have HPR := hide hpr
    have HBW : Hid (Below w1.heap.size w1 wr) := by obtain ⟨_, _, _, _, _, h⟩ := hpr; exact h
    clear hpr HOS
    by_cases hsl : s < n
    · have hsi : (s : Int) < (n : Int) := by omega
      have HRL : Hid ((RN.getD s []).length = mu) := (HRR.out.2.2.2.2.2 s hsl).1
      have HRV : Hid (∀ j, j < mu → 0 ≤ (RN.getD s []).getD j 0 ∧ (RN.getD s []).getD j 0 < (n : Int)) := (HRR.out.2.2.2.2.2 s hsl).2
      have HRC1 := hide (fun j h => HRC.out s j hsl h)
      obtain ⟨bn, on, an, cn, rfl, hcn, hsn⟩ := sl2_cell (sl2_below HS.out (below_step HB1.out HBW.out)) s hsl
      rw [(HG.out.2.2.2.2.2 s hsl).1] at hcn hsn
      have HSN := hide hsn
      obtain ⟨row, hrow⟩ : ∃ row, row = RN.getD s [] := ⟨_, rfl⟩
      rw [← hrow] at HRL HRV HRC1
      have HROW := hide hrow
      have HF0 := hide (fillAt_start wr row mu)
      clear hsn hrow
      go_wp2
      clear hcn
      generalize wr.alloc (.cells (madeCells #[.int .i64 0] mu) 3) = wI at HF0 ⊢
      obtain ⟨wq, hwq⟩ : ∃ wq : World, wq = wr := ⟨_, rfl⟩
      rw [← hwq] at HPR HBW HSN HF0 ⊢
      clear hwq wr
      go_loopw [46] (fun lv wx => ∃ l : Nat, l ≤ mu ∧ lv = .int .i64 l ∧ FillAt wq row mu l wx) (fun lv _ => mu - (intOf lv).toNat)
      case atStart => exact ⟨0, by omega, rfl, HF0.out⟩
      case round =>
        obtain ⟨l, hl, rfl, hfl⟩ := hrel
        have HFL := hide hfl
        clear hfl
        by_cases hlm : l < mu
        · have hlmi : (l : Int) < (mu : Int) := by omega
          obtain ⟨bt, ot, rfl, hct⟩ := sl_cell (sl_below HST.out (below_step HBW.out HFL.out.2)) l hlm
          have hxr := okTo_get HT.out (j := l) (by have := HTL.out; omega)
          have hrc := HRC1.out l hlm
          obtain ⟨x, hx⟩ : ∃ x : Nat, T.getD l 0 = (x : Int) := ⟨(T.getD l 0).toNat, by omega⟩
          rw [hx] at hct hxr hrc
          rw [Int.toNat_natCast] at hrc
          have hxm : x < m := by omega
          have hxi : (x : Int) < (m : Int) := by omega
          obtain ⟨b1, o1, rfl, hcx⟩ := sl_cell (sl_below HSN.out HFL.out.2) x hxm
          rw [← hrc] at hcx
          have hcell := HFL.out.1.cell hlm
          have hfz := HFL.out.1.frozen l
          have HNX := hide (fillAt_step HFL.out)
          rw [if_neg (Nat.lt_irrefl _)] at hcell
          generalize row.getD l 0 = u at hcx HNX
          clear hrc hx hxr
          go_wp2
          go_roundw
          case rel => exact ⟨l + 1, by omega, by go_num, HNX.out⟩
          case measure => simp [intOf]; omega
        · have hlmi : ¬ ((l : Int) < (mu : Int)) := by omega
          obtain rfl : mu = l := by omega
          have hwf : ∀ z ∈ row, (Lit.int .i64 z).wf = true := fun z hz => by
            obtain ⟨i, hi, rfl⟩ := List.getElem_of_mem hz
            have h1 := HRV.out i (by have := HRL.out; omega)
            rw [getD_at _ i hi] at h1
            exact WalkArith.wf_i64 (by omega)
          have hsr := fillAt_end HFL.out HRL.out (by unfold maxLen; omega) hwf
          have HON : Hid (∃ (vN : Value) (vals : List Value), _ ∧ _) := @nxAt_N w1 b (trn : Int) (fun s => RN.getD s []) (.slice a' n cap') s wq wr (some ⟨wq.heap.size, 0, none⟩) mu HPR.out HFL.out.2 (by simp only [← HROW.out]; rw [HRL.out]; exact ⟨hsr, fun ad had => by cases had; exact Nat.le_refl _⟩)
          simp only [← HROW.out] at HON
          rw [HRL.out] at HON
          obtain ⟨vN, vals, hcN, hoN, hszN, hnx⟩ := HON.out
          have HNX := hide hnx
          have HOWN := hide hoN
          have HSZ := hide hszN
          clear hnx hoN hszN HON hsr hwf
          go_wp2_with (at_builtin; refine wpList_append_lies _ rfl _ _ 22 rfl (w1.heap.size + 1) 31 j0 (.slice none 0 0) 1 24 Try.underlying22 hj0 hy0 hy1 hy2 rfl (by decide) vN s vals rfl (HOWN.out.alloc _) ⟨wr.heap.size, 0, none⟩ 1 1 [.slice (some ⟨wq.heap.size, 0, none⟩) mu mu] rfl rfl (one_new _ _ _) (fun u hu => by simp at hu; subst hu; rfl) (by omega) (by unfold maxLen; omega) (by omega) (by have := HSZ.out; simp; omega) (wr.heap.size + 1) (by simp) ?_; intro g' cg w3 hown3 hgrow3 hat3 hlt3; obtain ⟨⟨hn1', hn2'⟩, hn3'⟩ := HNX.out w3 _ g' cg hown3 hgrow3 hat3; have HN3 := hide hn3'; clear hown3 hgrow3 hat3 hn3')
          go_roundw
          case rel => exact ⟨s + 1, by omega, by go_num, HN3.out⟩
          case measure => simp [intOf]; omega
    · have hsi : ¬ ((s : Int) < (n : Int)) := by omega
      obtain rfl : n = s := by omega
      obtain ⟨ax, cx, hbox, hbE, hsx⟩ := nxAt_end HPR.out (by unfold maxLen; omega) RN HRLN.out (fun _ _ => rfl)
      have HC := hide (HLE.out ax cx wr hsx (slB_below HE.out (below_step HB1.out HBW.out)))
      have HR := hide (((below_step HB1.out HBW.out).block _ (Array.getElem?_eq_some_iff.1 HRX.out).1).trans HRX.out)
      obtain ⟨⟨p0, p1, p2, p3⟩, -⟩ := box_cells hbox
      clear hsx HPR HLE hbox hbE
      go_wp2_with fail
      clear p0 p1 p2 p3
      refine HC.out.mono ?_
      rintro e w3 ⟨ay, cy, ay', cy', rfl, hnew, hb3⟩
      have hold := (hb3.block _ (Array.getElem?_eq_some_iff.1 HR.out).1).trans HR.out
      have HHOLD := hide hold
      have HNEW := hide hnew
      have HBF := hide (below_step HB0.out (below_step HB1.out (below_step HBW.out hb3)))
      have HSW := hide (below_step HB1.out HBW.out).size
      obtain ⟨⟨o0, o1, o2, o3⟩, of⟩ := box_cells hold
      clear hnew hb3 hold HC
      go_wp2
      obtain ⟨⟨hset, hsz, hoth⟩, hbel⟩ := box_set (v0 := .int .i64 b) (v1 := .int .i64 (trn : Int)) (v2 := .slice ay LN.length cy) (v3 := .slice ay' LN.length cy') HHOLD.out rfl
      have hfin : AutoNew w ay LN.length LN ay' LE ((((w3.setCell ⟨w.heap.size + 1, 0, none⟩ (.int .i64 b)).setCell ⟨w.heap.size + 1, 1, none⟩ (.int .i64 (trn : Int))).setCell ⟨w.heap.size + 1, 2, none⟩ (.slice ay LN.length cy)).setCell ⟨w.heap.size + 1, 3, none⟩ (.slice ay' LN.length cy')) := fun W' hW' => HNEW.out W' (fun x hx hxl => by
        have h1 := HSW.out
        have h2 := HSZ0.out
        rw [hW' x (by omega) (by rw [hsz]; exact hxl), hoth x (by omega)])
      have hb := hbel w w.heap.size HBF.out (by omega)
      obtain ⟨⟨z0, z1, z2, z3⟩, -⟩ := box_cells hset
      exact bodyPost_ret (v := .tuple #[.agg #[.int .i64 b, .int .i64 (trn : Int), .slice ay LN.length cy, .slice ay' LN.length cy'], .nilIface]) (by simp [results, Try.results14, go_sem, z0, z1, z2, z3]) rfl ⟨ay, cy, ay', cy', rfl, hfin, hb⟩
end Go.Proofs.Ytebbjmcjgjecmaa

/- track.checkSpread, track.Spread: contracts. -/
namespace Go.Proofs.Ytebbjmcjgjecmaa
open Go.RowKit

def SayErr (w : World) (c : Int) (e : Ending) (w' : World) : Prop := e = .returned (errV c) ∧ Below w.heap.size w w'

set_option maxHeartbeats 4000000 in
set_option maxRecDepth 8000 in
theorem checkSpread_u (b t : Int) (a : Option Addr) (n cap : Nat) (a' : Option Addr) (k cap' : Nat) (N : List (List Int)) (tr : Int) (aa : Option Addr) (la ca : Nat) (at_ : List Int) (w : World) (hs : Sl2 w a n N) (hk : k ≤ maxLen) (ha : Sl w aa la at_) :
    Calls Try.prog 13 #[.agg #[.int .i64 b, .int .i64 t, .slice a n cap, .slice a' k cap'], .int .i64 tr, .slice aa la ca] w (SayErr w (sprC b t N k tr at_)) := by
  have hLa := ha.1
  have hmA := ha.2.1
  unfold maxLen at hmA
  have hB0 := (Below.refl w.heap.size w).alloc (Nat.le_refl _) (.cells #[.int .i64 b, .int .i64 t, .slice a n cap, .slice a' k cap'] 25)
  have HB0 := hide hB0
  have HCK := hide (check_u b t a a' n cap k cap' N _ (sl2_below hs hB0) hk)
  have HMC := hide (fun W => many_u b tr W)
  have HA := hide (sl_below ha hB0)
  have HBX := hide (heap_alloc_last w (.cells #[.int .i64 b, .int .i64 t, .slice a n cap, .slice a' k cap'] 25))
  generalize hW0 : w.alloc (.cells #[.int .i64 b, .int .i64 t, .slice a n cap, .slice a' k cap'] 25) = wb at HB0 HCK HA HBX
  have HC : Hid (sprC b t N k tr at_ = if autoC b t N k = 0 then (if codeM b tr = 0 then (if (la : Int) = t then atC tr at_ else 2) else codeM b tr) else autoC b t N k) := by show _ = _; unfold sprC; rw [hLa]
  have HBAD := hide (fun i => @atC_not tr at_ i)
  have HALL := hide (@atC_all tr at_)
  rw [hLa] at HBAD HALL
  clear hs hk ha hB0 hLa
  generalize sprC b t N k tr at_ = c at HC ⊢
  generalize autoC b t N k = cx at HC HCK
  generalize codeM b tr = cm at HC HMC
  generalize manyU b tr = mu at HMC
  generalize atC tr at_ = ac at HC HBAD HALL
  obtain ⟨⟨p0, p1, p2, p3⟩, -⟩ := box_cells HBX.out
  by_cases hx : cx = 0
  · rw [if_pos hx] at HC
    subst hx
    rw [errV_zero] at HCK
    go_enter Try.func13, Try.ntmps13
    go_wp2_with fail
    clear hW0 p0 p1 p2 p3
    refine HCK.out.mono ?_
    rintro e w1 ⟨rfl, hb1⟩
    have HB1 := hide hb1
    obtain ⟨⟨p0, p1, p2, p3⟩, -⟩ := box_cells ((hb1.block _ (Array.getElem?_eq_some_iff.1 HBX.out).1).trans HBX.out)
    have HEND := hide (below_step HB0.out hb1)
    clear hb1 HCK
    by_cases hM : cm = 0
    · rw [if_pos hM] at HC
      subst hM
      rw [errV_zero] at HMC
      by_cases hT : (la : Int) = t
      · rw [if_pos hT] at HC
        have hTi : ((la : Int) != t) = false := by simpa using hT
        go_wp2_with (go_at_call 9; refine (HMC.out _).mono ?_; rintro e w' ⟨rfl, hw⟩; rw [hw]; clear hw w')
        clear p0 p1 p2 p3
        go_loop [35] (fun i => ∃ j : Nat, j ≤ la ∧ i = .int .i64 j ∧ ∀ q, q < j → 0 ≤ at_.getD q 0 ∧ at_.getD q 0 < tr) (fun i => la - (intOf i).toNat)
        case atStart => exact ⟨0, by omega, rfl, by omega⟩
        case round =>
          obtain ⟨j, hj, rfl, hd⟩ := hrel
          have HD := hide hd
          clear hd
          by_cases hlt : j < la
          · have hlti : (j : Int) < (la : Int) := by omega
            obtain ⟨ba, oa, rfl, hca⟩ := sl_cell (sl_below HA.out HB1.out) j hlt
            have HB' := hide (HBAD.out j hlt)
            have HD' : Hid (0 ≤ at_.getD j 0 ∧ at_.getD j 0 < tr → ∀ q, q < j + 1 → 0 ≤ at_.getD q 0 ∧ at_.getD q 0 < tr) := by
              intro h q hq
              by_cases e : q = j
              · subst e; exact h
              · exact HD.out q (by omega)
            generalize at_.getD j 0 = x at hca HB' HD'
            by_cases hg : 0 ≤ x ∧ x < tr
            · have HD2 := hide (HD'.out hg)
              have hg1 : decide (x < 0) = false := by simp; omega
              have hg2 : ¬ tr ≤ x := by omega
              clear HD' HB' hg
              go_wp2
              go_round
              case rel => exact ⟨j + 1, by omega, by go_num, HD2.out⟩
              case measure => simp [intOf]; omega
            · have hac := HB'.out hg
              rw [hac] at HC
              have hg' : decide (x < 0) = true ∨ (decide (x < 0) = false ∧ tr ≤ x) := by
                by_cases h0 : x < 0
                · exact .inl (by simpa using h0)
                · exact .inr ⟨by simpa using h0, by omega⟩
              clear HD' HB' hg hac
              rcases hg' with hg | ⟨hg, hg2⟩
              all_goals
                go_wp2
                go_ret
                exact ⟨by rw [HC.out, errV_ne (by decide)]; simp, HEND.out⟩
          · have hlti : ¬ (j : Int) < (la : Int) := by omega
            rw [HALL.out fun q hq => HD.out q (by omega)] at HC
            go_wp2
            go_ret
            exact ⟨by rw [HC.out, errV_zero]; simp, HEND.out⟩
      · rw [if_neg hT] at HC
        have hTi : ((la : Int) != t) = true := by simpa using hT
        go_wp2_with (go_at_call 9; refine (HMC.out _).mono ?_; rintro e w' ⟨rfl, hw⟩; rw [hw]; clear hw w')
        go_ret
        exact ⟨by rw [HC.out, errV_ne (by decide)]; simp, HEND.out⟩
    · rw [if_neg hM] at HC
      rw [errV_ne hM] at HMC
      have HM := hide hM
      clear hM
      go_wp2_with (go_at_call 9; refine (HMC.out _).mono ?_; rintro e w' ⟨rfl, hw⟩; rw [hw]; clear hw w')
      go_ret
      exact ⟨by rw [HC.out, errV_ne HM.out]; simp, HEND.out⟩
  · rw [if_neg hx] at HC
    rw [errV_ne hx] at HCK
    have HX := hide hx
    clear hx
    go_enter Try.func13, Try.ntmps13
    go_wp2_with fail
    clear hW0 p0 p1 p2 p3
    refine HCK.out.mono ?_
    rintro e w1 ⟨rfl, hb1⟩
    have HEND := hide (below_step HB0.out hb1)
    clear hb1 HCK
    go_wp2
    go_ret
    exact ⟨by rw [HC.out, errV_ne HX.out]; simp, HEND.out⟩
end Go.Proofs.Ytebbjmcjgjecmaa

/- track.Spread: contract. -/
namespace Go.Proofs.Ytebbjmcjgjecmaa
open Go.RowKit

theorem three_new (w : World) (o1 o2 o3 : Obj) : (((w.alloc o1).alloc o2).alloc o3).heap[w.heap.size]? = some o1 ∧ (((w.alloc o1).alloc o2).alloc o3).heap[w.heap.size + 1]? = some o2 ∧ (((w.alloc o1).alloc o2).alloc o3).heap[w.heap.size + 2]? = some o3 := by
  have h3 := heap_alloc_last ((w.alloc o1).alloc o2) o3
  simp only [World.size_alloc] at h3
  refine ⟨?_, ?_, h3⟩
  · rw [Below.heap_alloc _ _ _ (by simp; omega)]
    exact heap_alloc2_fst w o1 o2
  · rw [Below.heap_alloc _ _ _ (by simp)]
    exact heap_alloc2_snd w o1 o2
theorem spread_pick {b : Int} {trn : Nat} {at_ : List Int} (h : ∀ i, i < at_.length → 0 ≤ at_.getD i 0 ∧ at_.getD i 0 < (trn : Int)) (l : Int) : (at_.map fun i => (splitL b trn l).getD i.toNat 0) = spreadD b trn at_ l := by
  unfold spreadD
  apply List.map_congr_left
  intro x hx
  obtain ⟨i, hi, rfl⟩ := List.getElem_of_mem hx
  have := h i hi
  rw [getD_at _ i hi] at this
  exact splitL_get b trn l _ (by omega)

set_option maxHeartbeats 8000000 in
set_option maxRecDepth 8000 in
theorem spread_ok_u (b t : Int) (a : Option Addr) (n cap : Nat) (a' : Option Addr) (cap' : Nat) (N : List (List Int)) (E : List Bool) (tr : Int) (aa : Option Addr) (la ca : Nat) (at_ : List Int) (w : World) (hs : Sl2 w a n N) (he : SlB w a' n E) (ha : Sl w aa la at_) (hC : sprC b t N n tr at_ = 0) :
    Calls Try.prog 5 #[.agg #[.int .i64 b, .int .i64 t, .slice a n cap, .slice a' n cap'], .int .i64 tr, .slice aa la ca] w (PairR w b tr (leastN (relN N (spreadT b tr.toNat at_ (manyU b tr).toNat)) E (manyU b tr).toNat) (leastE (relN N (spreadT b tr.toNat at_ (manyU b tr).toNat)) E (manyU b tr).toNat) 0) := by
  have hLa := ha.1
  obtain ⟨hA, hM, hT, hat⟩ := sprC_zero hC
  obtain ⟨hMt, -, hG, hmu⟩ := autoC_zero hA
  have hn80 := autoC_80 hA
  rw [hs.1] at hG hn80
  obtain ⟨h1, h2, h3, h4, h5, h6⟩ := codeM_zero hM
  obtain ⟨-, -, g3, g4, g5, g6⟩ := codeM_zero hMt
  have hkb := kinds_bd2 b h2
  have hpos := pw_pos (kindsI b) hkb.1 tr.toNat
  obtain ⟨trn, htr⟩ : ∃ trn : Nat, tr = (trn : Int) := ⟨tr.toNat, by omega⟩
  subst htr
  rw [Int.toNat_natCast] at h5 h6 hpos ⊢
  have hmm : manyU b (trn : Int) = ((manyU b (trn : Int)).toNat : Int) := by omega
  have hmm1 : 1 ≤ (manyU b (trn : Int)).toNat := by omega
  have hmm36 : (manyU b (trn : Int)).toNat ≤ 36 := by omega
  have hla : t.toNat = la := by omega
  have hpm : pw (kindsI b) at_.length = ((manyU b t).toNat : Int) := by rw [hLa, ← hla, ← g6]; omega
  have hok := spread_ok b h2 trn at_ (manyU b (trn : Int)).toNat (manyU b t).toNat hpm
  have hla5 : la ≤ 5 := by omega
  have hrng : ∀ i, i < la → 0 ≤ at_.getD i 0 ∧ at_.getD i 0 < (trn : Int) := fun i hi => atC_get hat i (by omega)
  have hB0 := below_three w (.cells #[.int .i64 b, .int .i64 t, .slice a n cap, .slice a' n cap'] 25) (.cells #[.slice aa la ca] 31) (.cells #[.int .i64 0, .int .i64 0, .slice none 0 0, .slice none 0 0] 25)
  obtain ⟨hx1, hx2, hx3⟩ := three_new w (.cells #[.int .i64 b, .int .i64 t, .slice a n cap, .slice a' n cap'] 25) (.cells #[.slice aa la ca] 31) (.cells #[.int .i64 0, .int .i64 0, .slice none 0 0, .slice none 0 0] 25)
  have HB0 := hide hB0
  have HX1 := hide hx1
  have HX2 := hide hx2
  have HX3 := hide hx3
  have HS := hide (sl2_below hs hB0)
  have HE := hide (slB_below he hB0)
  have HA := hide (sl_below ha hB0)
  have HCS := hide (checkSpread_u b t a n cap a' n cap' N (trn : Int) aa la ca at_ _ HS.out he.2.1 HA.out)
  rw [hC] at HCS
  unfold SayErr at HCS
  rw [errV_zero] at HCS
  have HF : Hid (∀ (W : World) (B g l : Nat), W.cell? ⟨B, 0, none⟩ = some (.slice aa la ca) → Sl W aa la at_ → l < (manyU b (trn : Int)).toNat → Sl W (some ⟨g, 0, none⟩) trn (splitL b trn (l : Int)) → Calls Try.prog 15 #[.slice (some ⟨g, 0, none⟩) trn trn, .pointer (some ⟨B, 0, none⟩)] W (GivesRow W (spreadD b trn at_ (l : Int)))) := fun W B g l k1 k2 k3 k4 => by
    have := spread1_any B aa la ca at_ (some ⟨g, 0, none⟩) trn trn (splitL b trn (l : Int)) W k1 k2 k4 (by omega) hrng
    rwa [spread_pick (fun i hi => hrng i (by omega))] at this
  have HRA := hide (fun cs W k1 k2 k3 => readAnew_any 15 cs b t a n cap a' cap' N E trn (manyU b (trn : Int)).toNat (manyU b t).toNat (fun l => spreadD b trn at_ (l : Int)) (spreadT b trn at_ (manyU b (trn : Int)).toNat) W k1 k2 hG hn80 hM hmm (enters_of Try.func15 (by kernel_rfl) rfl) k3
    (fun l hl => ⟨by unfold codeP; rw [show ((spreadD b trn at_ (l : Int)).length : Int) = t by simp [spreadD, hLa]; omega, if_pos hMt, if_pos (digB_spread b h2 trn at_ _)], by
      have := spread_get b trn at_ (n := (manyU b (trn : Int)).toNat) (x := (l : Int)) (by omega) (by omega)
      rw [Int.toNat_natCast] at this
      exact this.symm⟩) (spread_len b trn at_ _) hmm1 hmm36 hok)
  unfold PairR at HRA ⊢
  rw [errV_zero] at HRA ⊢
  clear hs he ha hA hM hMt hG hC hok hB0 hmu g3 g4 g5 g6 h3 h4 h5 h6 hpm hpos hat hmm hx1 hx2 hx3 hrng hT
  generalize leastN (relN N (spreadT b trn at_ (manyU b (trn : Int)).toNat)) E (manyU b (trn : Int)).toNat = LN at HRA ⊢
  generalize leastE (relN N (spreadT b trn at_ (manyU b (trn : Int)).toNat)) E (manyU b (trn : Int)).toNat = LE at HRA ⊢
  generalize hW0 : ((w.alloc (.cells #[.int .i64 b, .int .i64 t, .slice a n cap, .slice a' n cap'] 25)).alloc (.cells #[.slice aa la ca] 31)).alloc (.cells #[.int .i64 0, .int .i64 0, .slice none 0 0, .slice none 0 0] 25) = wb at HB0 HX1 HX2 HX3 HS HE HA HCS
  have HSZ0 : Hid (wb.heap.size = w.heap.size + 3) := by show _ = _; rw [← hW0]; simp
  obtain ⟨⟨p0, p1, p2, p3⟩, -⟩ := box_cells HX1.out
  have pa : wb.cell? ⟨w.heap.size + 1, 0, none⟩ = some (.slice aa la ca) := by simp [World.cell?, HX2.out]
  go_enter Try.func5, Try.ntmps5
  go_wp2_with fail
  clear hW0 p0 p1 p2 p3 pa
  refine HCS.out.mono ?_
  rintro e w1 ⟨rfl, hb1⟩
  have HB1 := hide hb1
  obtain ⟨⟨p0, p1, p2, p3⟩, -⟩ := box_cells ((hb1.block _ (by have := HSZ0.out; omega)).trans HX1.out)
  have HY2 : Hid (w1.heap[w.heap.size + 1]? = some (.cells #[.slice aa la ca] 31)) := (hb1.block _ (by have := HSZ0.out; omega)).trans HX2.out
  have HY3 := hide ((hb1.block _ (by have := HSZ0.out; omega)).trans HX3.out)
  have HC := hide (HRA.out #[.pointer (some ⟨w.heap.size + 1, 0, none⟩)] w1 (sl2_below HS.out hb1) (slB_below HE.out hb1) (fun W g l k1 k2 k3 => HF.out W (w.heap.size + 1) g l (by
    have h := (k1.block _ (Array.getElem?_eq_some_iff.1 HY2.out).1).trans HY2.out
    simp [World.cell?, h]) (sl_below HA.out (below_step HB1.out k1)) k2 k3))
  clear hb1 HCS HRA HF
  go_wp2_with fail
  clear p0 p1 p2 p3
  refine HC.out.mono ?_
  rintro e w3 ⟨ay, cy, ay', cy', rfl, hnew, hb3⟩
  have hold := (hb3.block _ (Array.getElem?_eq_some_iff.1 HY3.out).1).trans HY3.out
  have HHOLD := hide hold
  have HNEW := hide hnew
  have HBF := hide (below_step HB0.out (below_step HB1.out hb3))
  have HSW := hide HB1.out.size
  obtain ⟨⟨o0, o1, o2, o3⟩, of⟩ := box_cells hold
  clear hnew hb3 hold HC
  go_wp2
  obtain ⟨⟨hset, hsz, hoth⟩, hbel⟩ := box_set (v0 := .int .i64 b) (v1 := .int .i64 (trn : Int)) (v2 := .slice ay LN.length cy) (v3 := .slice ay' LN.length cy') HHOLD.out rfl
  have hfin : AutoNew w ay LN.length LN ay' LE ((((w3.setCell ⟨w.heap.size + 2, 0, none⟩ (.int .i64 b)).setCell ⟨w.heap.size + 2, 1, none⟩ (.int .i64 (trn : Int))).setCell ⟨w.heap.size + 2, 2, none⟩ (.slice ay LN.length cy)).setCell ⟨w.heap.size + 2, 3, none⟩ (.slice ay' LN.length cy')) := fun W' hW' => HNEW.out W' (fun x hx hxl => by
    have h1 := HSW.out
    have h2 := HSZ0.out
    rw [hW' x (by omega) (by rw [hsz]; exact hxl), hoth x (by omega)])
  have hb := hbel w w.heap.size HBF.out (by omega)
  obtain ⟨⟨z0, z1, z2, z3⟩, -⟩ := box_cells hset
  exact bodyPost_ret (v := .tuple #[.agg #[.int .i64 b, .int .i64 (trn : Int), .slice ay LN.length cy, .slice ay' LN.length cy'], .nilIface]) (by simp [results, Try.results5, go_sem, z0, z1, z2, z3]) rfl ⟨ay, cy, ay', cy', rfl, hfin, hb⟩

set_option maxHeartbeats 8000000 in
set_option maxRecDepth 8000 in
theorem spread_bad (b t : Int) (a : Option Addr) (n cap : Nat) (a' : Option Addr) (k cap' : Nat) (N : List (List Int)) (tr : Int) (aa : Option Addr) (la ca : Nat) (at_ : List Int) (w : World) (hs : Sl2 w a n N) (hk : k ≤ maxLen) (ha : Sl w aa la at_) (hC : sprC b t N k tr at_ ≠ 0) :
    Calls Try.prog 5 #[.agg #[.int .i64 b, .int .i64 t, .slice a n cap, .slice a' k cap'], .int .i64 tr, .slice aa la ca] w (PairR w 0 0 [] [] (sprC b t N k tr at_)) := by
  have hB0 := below_three w (.cells #[.int .i64 b, .int .i64 t, .slice a n cap, .slice a' k cap'] 25) (.cells #[.slice aa la ca] 31) (.cells #[.int .i64 0, .int .i64 0, .slice none 0 0, .slice none 0 0] 25)
  obtain ⟨hx1, hx2, hx3⟩ := three_new w (.cells #[.int .i64 b, .int .i64 t, .slice a n cap, .slice a' k cap'] 25) (.cells #[.slice aa la ca] 31) (.cells #[.int .i64 0, .int .i64 0, .slice none 0 0, .slice none 0 0] 25)
  have HB0 := hide hB0
  have HX1 := hide hx1
  have HX2 := hide hx2
  have HX3 := hide hx3
  have HCS := hide (checkSpread_u b t a n cap a' k cap' N tr aa la ca at_ _ (sl2_below hs hB0) hk (sl_below ha hB0))
  unfold SayErr at HCS
  unfold PairR
  rw [errV_ne hC] at HCS ⊢
  clear hs ha hB0 hx1 hx2 hx3 hk
  generalize sprC b t N k tr at_ = c at HCS ⊢
  generalize hW0 : ((w.alloc (.cells #[.int .i64 b, .int .i64 t, .slice a n cap, .slice a' k cap'] 25)).alloc (.cells #[.slice aa la ca] 31)).alloc (.cells #[.int .i64 0, .int .i64 0, .slice none 0 0, .slice none 0 0] 25) = wb at HB0 HX1 HX2 HX3 HCS
  obtain ⟨⟨p0, p1, p2, p3⟩, -⟩ := box_cells HX1.out
  have pa : wb.cell? ⟨w.heap.size + 1, 0, none⟩ = some (.slice aa la ca) := by simp [World.cell?, HX2.out]
  go_enter Try.func5, Try.ntmps5
  go_wp2_with fail
  clear hW0 p0 p1 p2 p3 pa
  refine HCS.out.mono ?_
  rintro e w1 ⟨rfl, hb1⟩
  have hr := (hb1.block _ (Array.getElem?_eq_some_iff.1 HX3.out).1).trans HX3.out
  obtain ⟨⟨r0, r1, r2, r3⟩, rf⟩ := box_cells hr
  have HR := hide hr
  have HB1 := hide (below_step HB0.out hb1)
  clear hr hb1
  go_wp2
  obtain ⟨⟨hset, -, -⟩, hbel⟩ := box_set0 HR.out rfl
  obtain ⟨⟨z0, z1, z2, z3⟩, -⟩ := box_cells hset
  exact bodyPost_ret (v := .tuple #[.agg #[.int .i64 0, .int .i64 0, .slice none 0 0, .slice none 0 0], .iface 44 (.int .i64 c)]) (by simp [results, Try.results5, go_sem, z0, z1, z2, z3]) rfl ⟨none, 0, none, 0, rfl, autoNew_nil _ _, hbel _ _ HB1.out (by omega)⟩

theorem spread_u (b t : Int) (a : Option Addr) (n cap : Nat) (a' : Option Addr) (k cap' : Nat) (N : List (List Int)) (E : List Bool) (tr : Int) (aa : Option Addr) (la ca : Nat) (at_ : List Int) (w : World) (hs : Sl2 w a n N) (he : SlB w a' k E) (ha : Sl w aa la at_) :
    Calls Try.prog 5 #[.agg #[.int .i64 b, .int .i64 t, .slice a n cap, .slice a' k cap'], .int .i64 tr, .slice aa la ca] w (PairR w (okI (sprC b t N k tr at_) b) (okI (sprC b t N k tr at_) tr) (sprN b t N E k tr at_) (sprE b t N E k tr at_) (sprC b t N k tr at_)) := by
  by_cases hc : sprC b t N k tr at_ = 0
  · obtain rfl : k = n := by rw [(autoC_zero (sprC_zero hc).1).2.1, hs.1]
    unfold sprN sprE okI
    rw [if_pos hc, if_pos hc, if_pos hc, if_pos hc, hc]
    exact spread_ok_u b t a k cap a' cap' N E tr aa la ca at_ w hs he ha hc
  · unfold sprN sprE okI
    rw [if_neg hc, if_neg hc, if_neg hc, if_neg hc]
    exact spread_bad b t a n cap a' k cap' N tr aa la ca at_ w hs he.2.1 ha hc
end Go.Proofs.Ytebbjmcjgjecmaa
