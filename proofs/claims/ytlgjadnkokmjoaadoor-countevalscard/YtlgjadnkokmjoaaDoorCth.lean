/- count.hasCounts, checkWord, check: contracts. -/
import Derived.Test.YtlgjadnkokmjoaaDoorCtg
import Derived.Test.YtlgjadnkokmjoaaDoorLa
namespace Go.Proofs.YtlgjadnkokmjoaaDoor
open Go.RowKit

set_option maxHeartbeats 4000000 in
set_option maxRecDepth 4000 in
theorem hasCounts_any (b t : Int) (a1 : Option Addr) (n1 c1 : Nat) (a2 : Option Addr) (n2 c2 : Nat) (a3 : Option Addr) (n3 c3 : Nat) (F : List Int) (S : List (List (List Int))) (L : List Int) (w : World) (hF : Sl w a1 n1 F) (hS : Sl3 w a2 n2 S) (hL : Sl w a3 n3 L) :
    Calls Tryd.prog 67 #[.agg #[.int .i64 b, .int .i64 t, .slice a1 n1 c1, .slice a2 n2 c2, .slice a3 n3 c3]] w (retQB (cntsB F S L) w) := by
  have hBX : Below w.heap.size w (w.alloc (.cells #[.int .i64 b, .int .i64 t, .slice a1 n1 c1, .slice a2 n2 c2, .slice a3 n3 c3] 38)) := (Below.refl _ _).alloc (Nat.le_refl _) _
  have HBX := hide hBX
  obtain ⟨p0, p1, p2, p3, p4⟩ := @box5R w _ (.int .i64 b) (.int .i64 t) (.slice a1 n1 c1) (.slice a2 n2 c2) (.slice a3 n3 c3) 38 (Below.refl _ _)
  have HS := hide (sl3_below hS hBX)
  have hSl := hS.1
  have hm2 := hS.2.1
  unfold maxLen at hm2
  have HCF := hide (areCounts_any a1 n1 c1 F _ (sl_below hF hBX))
  have HCL := hide (areCounts_any a3 n3 c3 L _ (sl_below hL hBX))
  unfold retQ at HCF HCL
  have HSB : Hid (cntsB F S L = ((F.all amtB && L.all amtB) && S.all (fun s => s.all (fun r => r.all amtB)))) := rfl
  have HY := hide (@allD_yes _ S (fun s => s.all (fun r => r.all amtB)) [])
  have HN := hide (@allD_no _ S (fun s => s.all (fun r => r.all amtB)) [])
  rw [hSl] at HY HN
  generalize hwb : w.alloc (.cells #[.int .i64 b, .int .i64 t, .slice a1 n1 c1, .slice a2 n2 c2, .slice a3 n3 c3] 38) = wb at HBX p0 p1 p2 p3 p4 HS HCF HCL
  generalize S.all (fun s => s.all (fun r => r.all amtB)) = R at HSB HY HN
  generalize cntsB F S L = Q at HSB ⊢
  generalize F.all amtB = qF at HCF HSB
  generalize L.all amtB = qL at HCL HSB
  clear hF hS hL hSl hBX
  cases qF with
  | false =>
    have HQ : Hid (Q = false) := by show _ = _; rw [HSB.out]; simp
    go_enter Tryd.func67, Tryd.ntmps67
    go_wp2_with fail
    refine HCF.out.mono ?_
    rintro e w' ⟨rfl, hw⟩
    rw [hw]
    clear hw w'
    go_wp2
    go_ret
    exact ⟨by rw [HQ.out]; rfl, HBX.out⟩
  | true =>
    cases qL with
    | false =>
      have HQ : Hid (Q = false) := by show _ = _; rw [HSB.out]; simp
      go_enter Tryd.func67, Tryd.ntmps67
      go_wp2_with fail
      refine HCF.out.mono ?_
      rintro e w' ⟨rfl, hw⟩
      rw [hw]
      clear hw w'
      go_wp2_with fail
      refine HCL.out.mono ?_
      rintro e w' ⟨rfl, hw⟩
      rw [hw]
      clear hw w'
      go_wp2
      go_ret
      exact ⟨by rw [HQ.out]; rfl, HBX.out⟩
    | true =>
      have HQ : Hid (Q = R) := by show _ = _; rw [HSB.out]; simp
      go_enter Tryd.func67, Tryd.ntmps67
      go_wp2_with fail
      refine HCF.out.mono ?_
      rintro e w' ⟨rfl, hw⟩
      rw [hw]
      clear hw w'
      go_wp2_with fail
      refine HCL.out.mono ?_
      rintro e w' ⟨rfl, hw⟩
      rw [hw]
      clear hw w'
      go_wp2
      clear hwb p0 p1 p2 p3 p4 HCF HCL HSB
      go_loop [20] (fun u => ∃ k : Nat, k ≤ n2 ∧ u = .int .i64 k ∧ ∀ i, i < k → (S.getD i []).all (fun r => r.all amtB) = true) (fun u => n2 - (intOf u).toNat)
      case atStart => exact ⟨0, by omega, rfl, fun i hi => by omega⟩
      case round =>
        obtain ⟨k, hk, rfl, hd⟩ := hrel
        have HD := hide hd
        clear hd
        by_cases hlt : k < n2
        · have hlti : (k : Int) < (n2 : Int) := by omega
          obtain ⟨b1, o1, a4, c4, rfl, hc, hs4⟩ := sl3_cell HS.out k hlt
          have HB := hide (HN.out k hlt)
          have HD2 : Hid ((S.getD k []).all (fun r => r.all amtB) = true → ∀ i, i < k + 1 → (S.getD i []).all (fun r => r.all amtB) = true) := fun h i hi => by
            by_cases e : i = k
            · subst e; exact h
            · exact HD.out i (by omega)
          generalize S.getD k [] = s at hc hs4 HB HD2
          have hsl : s.length ≤ maxLen := hs4.2.1
          unfold maxLen at hsl
          have HS4 := hide hs4
          have HY2 := hide (@allD_yes _ s (fun r => r.all amtB) [])
          have HN2 := hide (@allD_no _ s (fun r => r.all amtB) [])
          generalize s.all (fun r => r.all amtB) = R2 at HB HD2 HY2 HN2
          generalize hsn : s.length = ns at hc HS4 hsl HY2 HN2
          clear hs4 hsn
          go_wp2
          go_loop [26] (fun u => ∃ j : Nat, j ≤ ns ∧ u = .int .i64 j ∧ ∀ i, i < j → (s.getD i []).all amtB = true) (fun u => ns - (intOf u).toNat)
          case atStart => exact ⟨0, by omega, rfl, fun i hi => by omega⟩
          case round =>
            obtain ⟨j, hj, rfl, hd⟩ := hrel
            have HDJ := hide hd
            clear hd
            by_cases hltj : j < ns
            · have hltji : (j : Int) < (ns : Int) := by omega
              obtain ⟨b5, o5, a5, c5, rfl, hc5, hs5⟩ := sl2_cell HS4.out j hltj
              have HBJ := hide (HN2.out j hltj)
              have HDJ2 : Hid ((s.getD j []).all amtB = true → ∀ i, i < j + 1 → (s.getD i []).all amtB = true) := fun h i hi => by
                by_cases e : i = j
                · subst e; exact h
                · exact HDJ.out i (by omega)
              have HC5 := hide (areCounts_any a5 _ c5 _ _ hs5)
              unfold retQ at HC5
              clear hs5
              generalize (s.getD j []).length = nr at hc5 HC5
              generalize (s.getD j []).all amtB = q at HBJ HDJ2 HC5
              cases q with
              | true =>
                have HDJ3 := hide (HDJ2.out rfl)
                go_wp2_with fail
                refine HC5.out.mono ?_
                rintro e w' ⟨rfl, hw⟩
                rw [hw]
                clear hw w'
                go_wp2
                go_round
                case rel => exact ⟨j + 1, by omega, by go_num, HDJ3.out⟩
                case measure => simp [intOf]; omega
              | false =>
                have HF : Hid (Q = false) := HQ.out.trans (HB.out (HBJ.out rfl))
                go_wp2_with fail
                refine HC5.out.mono ?_
                rintro e w' ⟨rfl, hw⟩
                rw [hw]
                clear hw w'
                go_wp2
                go_ret
                exact ⟨by rw [HF.out]; rfl, HBX.out⟩
            · have hltji : ¬ (j : Int) < (ns : Int) := by omega
              obtain rfl : j = ns := by omega
              have HD3 := hide (HD2.out (HY2.out HDJ.out))
              go_wp2
              go_round
              case rel => exact ⟨k + 1, by omega, by go_num, HD3.out⟩
              case measure => simp [intOf]; omega
        · have hlti : ¬ (k : Int) < (n2 : Int) := by omega
          obtain rfl : k = n2 := by omega
          have HR := hide (HQ.out.trans (HY.out HD.out))
          go_wp2
          go_ret
          exact ⟨by rw [HR.out]; rfl, HBX.out⟩
set_option maxHeartbeats 1000000 in
set_option maxRecDepth 4000 in
theorem checkWord_any (m : Nat) (aw : Option Addr) (lw cw : Nat) (l : List Int) (w : World) (hs : Sl w aw lw l) :
    Calls Tryd.prog 44 #[.slice aw lw cw, .int .i64 m] w fun e w' => e = .returned (errV (wordC m l)) ∧ w' = w := by
  have hL := hs.1
  have hm := hs.2.1
  unfold maxLen at hm
  have HS := hide hs
  clear hs
  by_cases hlong : 400 < lw
  · rw [@wordC_long m l (by omega)]
    have hlong' : (400 : Int) < (lw : Int) := by omega
    go_enter Tryd.func44, Tryd.ntmps44
    go_wp2
    go_ret
    exact ⟨by simp [errV], rfl⟩
  · have hlong' : ¬ (400 : Int) < (lw : Int) := by omega
    have HBAD := hide (fun k => @wordC_bad m l (by omega) k)
    have HGOOD := hide (@wordC_good m l (by omega))
    rw [hL] at HBAD HGOOD
    generalize wordC m l = c at HBAD HGOOD ⊢
    go_enter Tryd.func44, Tryd.ntmps44
    go_wp2
    go_loop [13] (fun i => ∃ k : Nat, k ≤ lw ∧ i = .int .i64 k ∧ ∀ j, j < k → 0 ≤ l.getD j 0 ∧ l.getD j 0 < (m : Int)) (fun i => lw - (intOf i).toNat)
    case atStart => exact ⟨0, by omega, rfl, by omega⟩
    case round =>
      obtain ⟨k, hk, rfl, hd⟩ := hrel
      have HD := hide hd
      clear hd
      by_cases hlt : k < lw
      · have hlti : (k : Int) < (lw : Int) := by omega
        obtain ⟨bb, o, rfl, hck⟩ := sl_cell HS.out k hlt
        have HB' := hide (HBAD.out k hlt)
        have HD' : Hid (0 ≤ l.getD k 0 ∧ l.getD k 0 < (m : Int) → ∀ j, j < k + 1 → 0 ≤ l.getD j 0 ∧ l.getD j 0 < (m : Int)) := by
          intro h j hj
          by_cases e : j = k
          · subst e; exact h
          · exact HD.out j (by omega)
        generalize l.getD k 0 = x at hck HB' HD'
        by_cases hx : 0 ≤ x ∧ x < (m : Int)
        · have HD2 := hide (HD'.out hx)
          obtain ⟨hx1, hx2⟩ := hx
          have hx3 : ¬ x ≥ (m : Int) := by omega
          go_wp2
          go_round
          case rel => exact ⟨k + 1, by omega, by go_num, HD2.out⟩
          case measure => simp [intOf]; omega
        · have HB2 := hide (HB'.out hx)
          have hx' : x < 0 ∨ (¬ x < 0 ∧ (m : Int) ≤ x) := by omega
          clear hx
          rcases hx' with hx | ⟨hx1, hx2⟩
          all_goals
            go_wp2
            go_ret
            exact ⟨by rw [HB2.out]; simp [errV], rfl⟩
      · have hlti : ¬ ((k : Int) < (lw : Int)) := by omega
        have HG2 := hide (HGOOD.out fun j hj => HD.out j (by omega))
        go_wp2
        go_ret
        exact ⟨by rw [HG2.out]; simp [errV], rfl⟩
set_option maxHeartbeats 4000000 in
set_option maxRecDepth 4000 in
theorem countCheck_any (b t : Int) (a1 : Option Addr) (n1 c1 : Nat) (a2 : Option Addr) (n2 c2 : Nat) (a3 : Option Addr) (n3 c3 : Nat) (F : List Int) (S : List (List (List Int))) (L : List Int) (w : World) (hF : Sl w a1 n1 F) (hS : Sl3 w a2 n2 S) (hL : Sl w a3 n3 L) :
    Calls Tryd.prog 43 #[.agg #[.int .i64 b, .int .i64 t, .slice a1 n1 c1, .slice a2 n2 c2, .slice a3 n3 c3]] w fun e w' => e = .returned (errV (repC b t F S L)) ∧ Below w.heap.size w w' := by
  have hBX : Below w.heap.size w (w.alloc (.cells #[.int .i64 b, .int .i64 t, .slice a1 n1 c1, .slice a2 n2 c2, .slice a3 n3 c3] 38)) := (Below.refl _ _).alloc (Nat.le_refl _) _
  have HBX := hide hBX
  have HAT := hide (fun w' => @box5R w w' (.int .i64 b) (.int .i64 t) (.slice a1 n1 c1) (.slice a2 n2 c2) (.slice a3 n3 c3) 38)
  have hFl := hF.1
  have hm1 := hF.2.1
  unfold maxLen at hm1
  have HMU := hide (fun W => many_u b t W)
  have HRC : Hid (repC b t F S L = if codeM b t = 0 then (if n1 = 0 then 4 else if 80 < n1 then 3 else if shapeB n1 (manyU b t).toNat S L = true then (if cntsB F S L = true then 0 else 1) else 2) else codeM b t) := by show _ = _; rw [← hFl]; rfl
  have hMM : codeM b t = 0 → ∃ m : Nat, manyU b t = m ∧ m ≤ 36 := fun hM => by
    have hlo := pw_pos (kindsI b) (kinds_bd2 b (codeM_zero hM).2.1).1 t.toNat
    have hhi := (codeM_zero hM).2.2.2.2.1
    have hmu := (codeM_zero hM).2.2.2.2.2
    rw [← hmu] at hlo hhi
    exact ⟨(manyU b t).toNat, by omega, by omega⟩
  have HF := hide hF
  have HS := hide hS
  have HL := hide hL
  have HSH := hide (fun m W (h1 : m ≤ 36) (h2 : n1 ≤ 80) (h : Below w.heap.size w W) => isShaped_any b t a1 n1 c1 a2 n2 c2 a3 n3 c3 S L m n1 W (sl3_below HS.out h) (sl_below HL.out h) h1 h2)
  have HHC := hide (fun W (h : Below w.heap.size w W) => hasCounts_any b t a1 n1 c1 a2 n2 c2 a3 n3 c3 F S L W (sl_below HF.out h) (sl3_below HS.out h) (sl_below HL.out h))
  unfold retQB at HSH HHC
  generalize repC b t F S L = C at HRC ⊢
  clear hF hS hL hFl
  by_cases hM : codeM b t = 0
  · obtain ⟨m, hm, h36⟩ := hMM hM
    rw [hm, hM, errV_zero] at HMU
    rw [hm, if_pos hM, Int.toNat_natCast] at HRC
    have HSH1 := hide (fun W h2 h => HSH.out m W h36 h2 h)
    generalize shapeB n1 m S L = q1 at HRC HSH1
    generalize cntsB F S L = q2 at HRC HHC
    clear hMM hM hm
    generalize hwb : w.alloc (.cells #[.int .i64 b, .int .i64 t, .slice a1 n1 c1, .slice a2 n2 c2, .slice a3 n3 c3] 38) = wb at hBX HBX HAT
    obtain ⟨p0, p1, p2, p3, p4⟩ := HAT.out wb (Below.refl _ _)
    by_cases h0 : n1 = 0
    · rw [if_pos h0] at HRC
      subst h0
      go_enter Tryd.func43, Tryd.ntmps43
      go_wp2_with (go_at_call 37; refine (HMU.out _).mono ?_; rintro e w' ⟨rfl, hw⟩; rw [hw]; clear hw w')
      go_ret
      exact ⟨by rw [HRC.out]; simp [errV], HBX.out⟩
    · rw [if_neg h0] at HRC
      have h0' : ((n1 : Int) == 0) = false := by simp; omega
      by_cases h80 : 80 < n1
      · rw [if_pos h80] at HRC
        have h80' : (80 : Int) < (n1 : Int) := by omega
        go_enter Tryd.func43, Tryd.ntmps43
        go_wp2_with (go_at_call 37; refine (HMU.out _).mono ?_; rintro e w' ⟨rfl, hw⟩; rw [hw]; clear hw w')
        go_ret
        exact ⟨by rw [HRC.out]; simp [errV], HBX.out⟩
      · rw [if_neg h80] at HRC
        have h80' : ¬ (80 : Int) < (n1 : Int) := by omega
        have HC1 := hide (HSH1.out wb (by omega) hBX)
        clear hBX
        cases q1 with
        | false =>
          rw [if_neg (by decide)] at HRC
          go_enter Tryd.func43, Tryd.ntmps43
          go_wp2_with (first
            | (go_at_call 37; refine (HMU.out _).mono ?_; rintro e w' ⟨rfl, hw⟩; rw [hw]; clear hw w')
            | (go_at_call 66; refine HC1.out.mono ?_; rintro e w1 ⟨rfl, hb1⟩; have HB1 := hide (below_step HBX.out hb1); clear hb1))
          go_ret
          exact ⟨by rw [HRC.out]; simp [errV], HB1.out⟩
        | true =>
          rw [if_pos rfl] at HRC
          cases q2 with
          | false =>
            rw [if_neg (by decide)] at HRC
            go_enter Tryd.func43, Tryd.ntmps43
            go_wp2_with (first
              | (go_at_call 37; refine (HMU.out _).mono ?_; rintro e w' ⟨rfl, hw⟩; rw [hw]; clear hw w')
              | (go_at_call 66; refine HC1.out.mono ?_; rintro e w1 ⟨rfl, hb1⟩; have HB1 := hide (below_step HBX.out hb1); have HC2 := hide (HHC.out w1 HB1.out); obtain ⟨q0, q1, q2, q3, q4⟩ := HAT.out w1 hb1; clear hb1)
              | (go_at_call 67; refine HC2.out.mono ?_; rintro e w2 ⟨rfl, hb2⟩; have HB2 := hide (below_step HB1.out hb2); clear hb2))
            go_ret
            exact ⟨by rw [HRC.out]; simp [errV], HB2.out⟩
          | true =>
            rw [if_pos rfl] at HRC
            go_enter Tryd.func43, Tryd.ntmps43
            go_wp2_with (first
              | (go_at_call 37; refine (HMU.out _).mono ?_; rintro e w' ⟨rfl, hw⟩; rw [hw]; clear hw w')
              | (go_at_call 66; refine HC1.out.mono ?_; rintro e w1 ⟨rfl, hb1⟩; have HB1 := hide (below_step HBX.out hb1); have HC2 := hide (HHC.out w1 HB1.out); obtain ⟨q0, q1, q2, q3, q4⟩ := HAT.out w1 hb1; clear hb1)
              | (go_at_call 67; refine HC2.out.mono ?_; rintro e w2 ⟨rfl, hb2⟩; have HB2 := hide (below_step HB1.out hb2); clear hb2))
            go_ret
            exact ⟨by rw [HRC.out]; simp [errV], HB2.out⟩
  · rw [if_neg hM] at HRC
    rw [errV_no hM] at HMU
    have HM := hide hM
    generalize codeM b t = cm at HMU HRC HM
    clear hMM hM
    go_enter Tryd.func43, Tryd.ntmps43
    go_wp2_with (go_at_call 37; refine (HMU.out _).mono ?_; rintro e w' ⟨rfl, hw⟩; rw [hw]; clear hw w')
    go_ret
    exact ⟨by rw [HRC.out, errV_no HM.out]; rfl, HBX.out⟩
end Go.Proofs.YtlgjadnkokmjoaaDoor
