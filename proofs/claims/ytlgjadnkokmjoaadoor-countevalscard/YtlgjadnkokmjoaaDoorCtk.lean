/- The reference's RepFault: contract. -/
import Derived.Test.YtlgjadnkokmjoaaDoorCtj
namespace Go.Proofs.YtlgjadnkokmjoaaDoor
open Go.RowKit

theorem upto_step {P : Nat → Prop} {k : Nat} (h : ∀ i, i < k → P i) (hk : P k) : ∀ i, i < k + 1 → P i := fun i hi => by
  by_cases e : i = k
  · subst e; exact hk
  · exact h i (by omega)
set_option maxHeartbeats 8000000 in
set_option maxRecDepth 8000 in
theorem repFault_ok (b t : Int) (a1 : Option Addr) (n c1 : Nat) (a2 : Option Addr) (m c2 : Nat) (a3 : Option Addr) (n3 c3 : Nat) (n2 : Nat) (F : List Int) (S : List (List (List Int))) (L : List Int) (w : World) (hF : Sl w a1 n F) (hS : Sl3 w a2 n2 S) (hL : Sl w a3 n3 L) (hM : codeM b t = 0) (hm : manyU b t = (m : Int)) (h36 : m ≤ 36) (h0 : 0 < n) (h80 : n ≤ 80) (C : Int)
    (H2 : shapeB n m S L = false → C = 2) (H1 : shapeB n m S L = true → cntsB F S L = false → C = 1) (H0 : shapeB n m S L = true → cntsB F S L = true → C = 0) :
    Calls Tryd.prog 40 #[.agg #[.int .i64 b, .int .i64 t, .slice a1 n c1, .slice a2 n2 c2, .slice a3 n3 c3]] w fun e w' => e = .returned (.int .i64 C) ∧ Below w.heap.size w w' := by
  have hBX : Below w.heap.size w (w.alloc (.cells #[.int .i64 b, .int .i64 t, .slice a1 n c1, .slice a2 n2 c2, .slice a3 n3 c3] 38)) := (Below.refl _ _).alloc (Nat.le_refl _) _
  have HBX := hide hBX
  obtain ⟨p0, p1, p2, p3, p4⟩ := @box5R w _ (.int .i64 b) (.int .i64 t) (.slice a1 n c1) (.slice a2 n2 c2) (.slice a3 n3 c3) 38 (Below.refl _ _)
  have HF := hide (sl_below hF hBX)
  have HS := hide (sl3_below hS hBX)
  have HL := hide (sl_below hL hBX)
  have hFl := hF.1
  have hSl := hS.1
  have hLl := hL.1
  have hm2 := hS.2.1
  have hm3 := hL.2.1
  unfold maxLen at hm2 hm3
  have HMU := hide (fun W => letters_u b t W)
  rw [hM, hm] at HMU
  have hSB : shapeB n m S L = ((decide (n3 = n) && decide (n2 = m)) && S.all (shpB n)) := by unfold shapeB; rw [hSl, hLl]
  rw [hSB] at H2 H1 H0
  have HY := hide (@allD_yes _ S (shpB n) [])
  have HN := hide (@allD_no _ S (shpB n) [])
  rw [hSl] at HY HN
  have HH2 := hide H2
  have HH1 := hide H1
  have HH0 := hide H0
  have h0' : ((n : Int) == 0) = false := by simp; omega
  have h80' : ¬ (80 : Int) < (n : Int) := by omega
  generalize hwb : w.alloc (.cells #[.int .i64 b, .int .i64 t, .slice a1 n c1, .slice a2 n2 c2, .slice a3 n3 c3] 38) = wb at HBX p0 p1 p2 p3 p4 HS HF HL
  clear hF hS hL hBX hSB H2 H1 H0 hM hm
  have hcase : n3 ≠ n ∨ (n3 = n ∧ n2 ≠ m) ∨ (n3 = n ∧ n2 = m) := by omega
  rcases hcase with h3 | ⟨h3, h2⟩ | ⟨h3, h2⟩
  · have hne : ((n3 : Int) != (n : Int)) = true := by simp; omega
    have HQ := hide (HH2.out (by rw [decide_eq_false h3]; rfl))
    go_enter Tryd.func40, Tryd.ntmps40
    go_wp2_with (go_at_call 19; refine (HMU.out _).mono ?_; rintro e w' ⟨rfl, hw⟩; rw [hw]; clear hw w')
    go_ret
    exact ⟨by rw [HQ.out]; rfl, HBX.out⟩
  · subst h3
    have hne : ((n3 : Int) != (n3 : Int)) = false := by simp
    have hne2 : ((n2 : Int) != (m : Int)) = true := by simp; omega
    have HQ := hide (HH2.out (by rw [decide_eq_false h2, Bool.and_false]; rfl))
    go_enter Tryd.func40, Tryd.ntmps40
    go_wp2_with (go_at_call 19; refine (HMU.out _).mono ?_; rintro e w' ⟨rfl, hw⟩; rw [hw]; clear hw w')
    go_ret
    exact ⟨by rw [HQ.out]; rfl, HBX.out⟩
  · subst h3 h2
    have hne : ((n3 : Int) != (n3 : Int)) = false := by simp
    have hne2 : ((n2 : Int) != (n2 : Int)) = false := by simp
    have HQ2 : Hid (S.all (shpB n3) = false → C = 2) := fun h => HH2.out (by rw [h]; simp)
    have HQ1 : Hid (S.all (shpB n3) = true → cntsB F S L = false → C = 1) := fun h => HH1.out (by rw [h]; simp)
    have HQ0 : Hid (S.all (shpB n3) = true → cntsB F S L = true → C = 0) := fun h => HH0.out (by rw [h]; simp)
    clear HH2 HH1 HH0
    generalize S.all (shpB n3) = R at HQ2 HQ1 HQ0 HY HN
    go_enter Tryd.func40, Tryd.ntmps40
    go_wp2_with (go_at_call 19; refine (HMU.out _).mono ?_; rintro e w' ⟨rfl, hw⟩; rw [hw]; clear hw w')
    clear hwb
    go_loop [6] (fun u => ∃ k : Nat, k ≤ n2 ∧ u = .int .i64 k ∧ ∀ i, i < k → shpB n3 (S.getD i []) = true) (fun u => n2 - (intOf u).toNat)
    case atStart => exact ⟨0, by omega, rfl, fun i hi => by omega⟩
    case round =>
      obtain ⟨k, hk, rfl, hd⟩ := hrel
      have HD := hide hd
      clear hd
      by_cases hlt : k < n2
      · have hlti : (k : Int) < (n2 : Int) := by omega
        obtain ⟨b1, o1, a4, c4, rfl, hc, hs4⟩ := sl3_cell HS.out k hlt
        have HB := hide (HN.out k hlt)
        have HD2 := hide (fun h => upto_step HD.out h)
        generalize S.getD k [] = s at hc hs4 HB HD2
        have hsl : s.length ≤ maxLen := hs4.2.1
        unfold maxLen at hsl
        have HS4 := hide hs4
        have HSP : Hid (shpB n3 s = (decide (s.length = n3) && s.all (fun r => decide (r.length = n3)))) := rfl
        have HY2 := hide (@allD_yes _ s (fun r => decide (r.length = n3)) [])
        have HN2 := hide (@allD_no _ s (fun r => decide (r.length = n3)) [])
        generalize s.all (fun r => decide (r.length = n3)) = R2 at HSP HY2 HN2
        generalize hsn : s.length = ns at hc HS4 hsl HSP HY2 HN2
        clear hs4 hsn
        by_cases hns : ns = n3
        · have hne3 : ((ns : Int) != (n3 : Int)) = false := by rw [hns]; simp
          have hlti2 : ∀ j : Nat, j < n3 → (j : Int) < (ns : Int) := fun j hj => by omega
          have HNS := hide hns
          have HLT2 := hide hlti2
          clear hns hlti2
          go_wp2
          go_loop [7] (fun u => ∃ j : Nat, j ≤ n3 ∧ u = .int .i64 j ∧ ∀ i, i < j → (s.getD i []).length = n3) (fun u => n3 - (intOf u).toNat)
          case atStart => exact ⟨0, by omega, rfl, fun i hi => by omega⟩
          case round =>
            obtain ⟨j, hj, rfl, hd⟩ := hrel
            have HDJ := hide hd
            clear hd
            by_cases hltj : j < n3
            · have hltji : (j : Int) < (n3 : Int) := by omega
              have hltj2 := HLT2.out j hltj
              obtain ⟨b5, o5, a5, c5, rfl, hc5, -⟩ := sl2_cell HS4.out j (by have := HNS.out; omega)
              have HBJ := hide (HN2.out j (by have := HNS.out; omega))
              have HDJ2 := hide (fun h => upto_step (P := fun i => (s.getD i []).length = n3) HDJ.out h)
              generalize (s.getD j []).length = nr at hc5 HBJ HDJ2
              by_cases hnr : nr = n3
              · have hne4 : ((nr : Int) != (n3 : Int)) = false := by rw [hnr]; simp
                have HDJ3 := hide (HDJ2.out hnr)
                clear hnr
                go_wp2
                go_round
                case rel => exact ⟨j + 1, by omega, by go_num, HDJ3.out⟩
                case measure => simp [intOf]; omega
              · have hne4 : ((nr : Int) != (n3 : Int)) = true := by simp; omega
                have HF : Hid (C = 2) := HQ2.out (HB.out (by rw [HSP.out, HBJ.out (decide_eq_false hnr), Bool.and_false]))
                go_wp2
                go_ret
                exact ⟨by rw [HF.out]; rfl, HBX.out⟩
            · have hltji : ¬ (j : Int) < (n3 : Int) := by omega
              have HD3 := hide (HD2.out (by rw [HSP.out, HY2.out (fun i hi => decide_eq_true (HDJ.out i (by have := HNS.out; omega)))]; simp [HNS.out]))
              go_wp2
              go_round
              case rel => exact ⟨k + 1, by omega, by go_num, HD3.out⟩
              case measure => simp [intOf]; omega
        · have hne3 : ((ns : Int) != (n3 : Int)) = true := by simp; omega
          have HF : Hid (C = 2) := HQ2.out (HB.out (by rw [HSP.out, decide_eq_false hns]; rfl))
          go_wp2
          go_ret
          exact ⟨by rw [HF.out]; rfl, HBX.out⟩
      · have hlti : ¬ (k : Int) < (n2 : Int) := by omega
        obtain rfl : k = n2 := by omega
        have HR := hide (HY.out HD.out)
        have HC1 := hide (HQ1.out HR.out)
        have HC0 := hide (HQ0.out HR.out)
        have HSHP : Hid (∀ x, x < k → (S.getD x []).length = n3 ∧ ∀ s, s < n3 → ((S.getD x []).getD s []).length = n3) := fun x hx => by
          have hs := HD.out x hx
          simp only [shpB, Bool.and_eq_true, decide_eq_true_eq] at hs
          exact ⟨hs.1, fun s hs' => of_decide_eq_true (allD_at (d := []) hs.2 (i := s) (by omega))⟩
        have HNF : Hid (∀ i, i < n3 → amtB (F.getD i 0) = false → C = 1) := fun i hi h => HC1.out (by unfold cntsB; rw [allD_no i (by omega) h]; rfl)
        have HNL : Hid (∀ i, i < n3 → amtB (L.getD i 0) = false → C = 1) := fun i hi h => HC1.out (by unfold cntsB; rw [allD_no i (by omega) h]; simp)
        have HNS : Hid (∀ l s t, l < k → s < n3 → t < n3 → amtB (((S.getD l []).getD s []).getD t 0) = false → C = 1) := fun l s t hl hs ht h => HC1.out (by
          have e := HSHP.out l hl
          unfold cntsB
          rw [allD_no (d := []) l (by omega) (allD_no (d := []) s (by omega) (allD_no (d := 0) t (by rw [e.2 s hs]; exact ht) h))]
          simp)
        have HYES : Hid ((∀ i, i < n3 → (amtB (F.getD i 0) = true ∧ amtB (L.getD i 0) = true) ∧ ∀ l, l < k → ∀ t, t < n3 → amtB (((S.getD l []).getD i []).getD t 0) = true) → C = 0) := fun h => HC0.out (by
          unfold cntsB
          rw [allD_yes (d := 0) (fun i hi => (h i (by omega)).1.1), allD_yes (d := 0) (fun i hi => (h i (by omega)).1.2), allD_yes (d := []) (fun l hl => allD_yes (d := []) (fun s hs => allD_yes (d := 0) (fun t ht => by
            have e := HSHP.out l (by omega)
            have hs' : s < n3 := by rw [← e.1]; exact hs
            exact (h s hs').2 l (by omega) t (by rw [← e.2 s hs']; exact ht))))]
          rfl)
        clear HR HC1 HC0 HQ2 HQ1 HQ0 HY HN HD
        go_wp2
        go_loop [8] (fun u => ∃ s : Nat, s ≤ n3 ∧ u = .int .i64 s ∧ ∀ i, i < s → (amtB (F.getD i 0) = true ∧ amtB (L.getD i 0) = true) ∧ ∀ l, l < k → ∀ t, t < n3 → amtB (((S.getD l []).getD i []).getD t 0) = true) (fun u => n3 - (intOf u).toNat)
        case atStart => exact ⟨0, by omega, rfl, fun i hi => by omega⟩
        case round =>
          obtain ⟨s, hsn, rfl, hd⟩ := hrel
          have HD := hide hd
          clear hd
          by_cases hls : s < n3
          · have hlsi : (s : Int) < (n3 : Int) := by omega
            obtain ⟨b6, o6, rfl, hc6⟩ := sl_cell HF.out s hls
            obtain ⟨b7, o7, rfl, hc7⟩ := sl_cell HL.out s hls
            have HBF := hide (HNF.out s hls)
            have HBL := hide (HNL.out s hls)
            have HD2 := hide (fun h => upto_step (P := fun i => (amtB (F.getD i 0) = true ∧ amtB (L.getD i 0) = true) ∧ ∀ l, l < k → ∀ t, t < n3 → amtB (((S.getD l []).getD i []).getD t 0) = true) HD.out h)
            have HA1 := hide (amount_any (F.getD s 0) wb)
            have HA2 := hide (amount_any (L.getD s 0) wb)
            unfold retQ at HA1 HA2
            generalize amtB (F.getD s 0) = qa at HBF HD2 HA1
            generalize amtB (L.getD s 0) = qb at HBL HD2 HA2
            generalize F.getD s 0 = x1 at hc6 HA1
            generalize L.getD s 0 = x2 at hc7 HA2
            cases qa with
            | false =>
              have HFN := hide (HBF.out rfl)
              go_wp2_with fail
              refine HA1.out.mono ?_
              rintro e w' ⟨rfl, hw⟩
              rw [hw]
              clear hw w'
              go_wp2_with fail
              refine HA2.out.mono ?_
              rintro e w' ⟨rfl, hw⟩
              rw [hw]
              clear hw w'
              go_wp2
              go_ret
              exact ⟨by rw [HFN.out]; rfl, HBX.out⟩
            | true =>
              cases qb with
              | false =>
                have HFN := hide (HBL.out rfl)
                go_wp2_with fail
                refine HA1.out.mono ?_
                rintro e w' ⟨rfl, hw⟩
                rw [hw]
                clear hw w'
                go_wp2_with fail
                refine HA2.out.mono ?_
                rintro e w' ⟨rfl, hw⟩
                rw [hw]
                clear hw w'
                go_wp2
                go_ret
                exact ⟨by rw [HFN.out]; rfl, HBX.out⟩
              | true =>
                have HD3 := hide (fun h => HD2.out ⟨⟨rfl, rfl⟩, h⟩)
                go_wp2_with fail
                refine HA1.out.mono ?_
                rintro e w' ⟨rfl, hw⟩
                rw [hw]
                clear hw w'
                go_wp2_with fail
                refine HA2.out.mono ?_
                rintro e w' ⟨rfl, hw⟩
                rw [hw]
                clear hw w'
                clear hc6 hc7 HA1 HA2 HBF HBL HD2
                go_wp2
                go_loop [11] (fun u => ∃ l : Nat, l ≤ k ∧ u = .int .i64 l ∧ ∀ i, i < l → ∀ t, t < n3 → amtB (((S.getD i []).getD s []).getD t 0) = true) (fun u => k - (intOf u).toNat)
                case atStart => exact ⟨0, by omega, rfl, fun i hi => by omega⟩
                case round =>
                  obtain ⟨l, hl, rfl, hd⟩ := hrel
                  have HDL := hide hd
                  clear hd
                  by_cases hll : l < k
                  · have hlli : (l : Int) < (k : Int) := by omega
                    obtain ⟨b1, o1, a4, c4, rfl, hc, hs4⟩ := sl3_cell HS.out l hll
                    obtain ⟨e1, e2⟩ := HSHP.out l hll
                    rw [e1] at hc hs4
                    obtain ⟨b5, o5, a5, c5, rfl, hc5, hs5⟩ := sl2_cell hs4 s hls
                    rw [e2 s hls] at hc5 hs5
                    have HS5 := hide hs5
                    have HBN := hide (fun t => HNS.out l s t hll hls)
                    have HDL2 := hide (fun h => upto_step (P := fun i => ∀ t, t < n3 → amtB (((S.getD i []).getD s []).getD t 0) = true) HDL.out h)
                    generalize (S.getD l []).getD s [] = row at HS5 HBN HDL2
                    clear hs4 hs5 e1 e2
                    go_wp2
                    go_loop [12] (fun u => ∃ t : Nat, t ≤ n3 ∧ u = .int .i64 t ∧ ∀ i, i < t → amtB (row.getD i 0) = true) (fun u => n3 - (intOf u).toNat)
                    case atStart => exact ⟨0, by omega, rfl, fun i hi => by omega⟩
                    case round =>
                      obtain ⟨t, ht, rfl, hd⟩ := hrel
                      have HDT := hide hd
                      clear hd
                      by_cases hlt : t < n3
                      · have hlti : (t : Int) < (n3 : Int) := by omega
                        obtain ⟨b8, o8, rfl, hc8⟩ := sl_cell HS5.out t hlt
                        have HBT := hide (HBN.out t hlt)
                        have HDT2 := hide (fun h => upto_step (P := fun i => amtB (row.getD i 0) = true) HDT.out h)
                        have HA := hide (amount_any (row.getD t 0) wb)
                        unfold retQ at HA
                        generalize amtB (row.getD t 0) = q at HBT HDT2 HA
                        generalize row.getD t 0 = x at hc8 HA
                        cases q with
                        | true =>
                          have HDT3 := hide (HDT2.out rfl)
                          go_wp2_with fail
                          refine HA.out.mono ?_
                          rintro e w' ⟨rfl, hw⟩
                          rw [hw]
                          clear hw w'
                          go_wp2
                          go_round
                          case rel => exact ⟨t + 1, by omega, by go_num, HDT3.out⟩
                          case measure => simp [intOf]; omega
                        | false =>
                          have HFN := hide (HBT.out rfl)
                          go_wp2_with fail
                          refine HA.out.mono ?_
                          rintro e w' ⟨rfl, hw⟩
                          rw [hw]
                          clear hw w'
                          go_wp2
                          go_ret
                          exact ⟨by rw [HFN.out]; rfl, HBX.out⟩
                      · have hlti : ¬ (t : Int) < (n3 : Int) := by omega
                        obtain rfl : t = n3 := by omega
                        have HDL3 := hide (HDL2.out HDT.out)
                        go_wp2
                        go_round
                        case rel => exact ⟨l + 1, by omega, by go_num, HDL3.out⟩
                        case measure => simp [intOf]; omega
                  · have hlli : ¬ (l : Int) < (k : Int) := by omega
                    obtain rfl : l = k := by omega
                    have HD4 := hide (HD3.out HDL.out)
                    go_wp2
                    go_round
                    case rel => exact ⟨s + 1, by omega, by go_num, HD4.out⟩
                    case measure => simp [intOf]; omega
          · have hlsi : ¬ (s : Int) < (n3 : Int) := by omega
            obtain rfl : s = n3 := by omega
            have HR := hide (HYES.out HD.out)
            go_wp2
            go_ret
            exact ⟨by rw [HR.out]; rfl, HBX.out⟩
set_option maxHeartbeats 4000000 in
set_option maxRecDepth 4000 in
theorem repFault_any (b t : Int) (a1 : Option Addr) (n1 c1 : Nat) (a2 : Option Addr) (n2 c2 : Nat) (a3 : Option Addr) (n3 c3 : Nat) (F : List Int) (S : List (List (List Int))) (L : List Int) (w : World) (hF : Sl w a1 n1 F) (hS : Sl3 w a2 n2 S) (hL : Sl w a3 n3 L) :
    Calls Tryd.prog 40 #[.agg #[.int .i64 b, .int .i64 t, .slice a1 n1 c1, .slice a2 n2 c2, .slice a3 n3 c3]] w fun e w' => e = .returned (.int .i64 (repC b t F S L)) ∧ Below w.heap.size w w' := by
  have hm1 := hF.2.1
  unfold maxLen at hm1
  have hR : repC b t F S L = if codeM b t = 0 then (if n1 = 0 then 4 else if 80 < n1 then 3 else if shapeB n1 (manyU b t).toNat S L = true then (if cntsB F S L = true then 0 else 1) else 2) else codeM b t := by rw [← hF.1]; rfl
  have HMU := hide (fun W => letters_u b t W)
  have HBX : Hid (Below w.heap.size w (w.alloc (.cells #[.int .i64 b, .int .i64 t, .slice a1 n1 c1, .slice a2 n2 c2, .slice a3 n3 c3] 38))) := (Below.refl _ _).alloc (Nat.le_refl _) _
  obtain ⟨p0, p1, p2, p3, p4⟩ := @box5R w _ (.int .i64 b) (.int .i64 t) (.slice a1 n1 c1) (.slice a2 n2 c2) (.slice a3 n3 c3) 38 (Below.refl _ _)
  by_cases hM : codeM b t = 0
  · rw [if_pos hM] at hR
    by_cases h0 : n1 = 0
    · rw [if_pos h0] at hR
      rw [hR]
      rw [hM] at HMU
      subst h0
      clear hF hS hL hR hM
      go_enter Tryd.func40, Tryd.ntmps40
      go_wp2_with (go_at_call 19; refine (HMU.out _).mono ?_; rintro e w' ⟨rfl, hw⟩; rw [hw]; clear hw w')
      go_ret
      exact ⟨rfl, HBX.out⟩
    · rw [if_neg h0] at hR
      by_cases h80 : 80 < n1
      · rw [if_pos h80] at hR
        rw [hR]
        rw [hM] at HMU
        have h0' : ((n1 : Int) == 0) = false := by simp; omega
        have h80' : (80 : Int) < (n1 : Int) := by omega
        clear hF hS hL hR hM
        go_enter Tryd.func40, Tryd.ntmps40
        go_wp2_with (go_at_call 19; refine (HMU.out _).mono ?_; rintro e w' ⟨rfl, hw⟩; rw [hw]; clear hw w')
        go_ret
        exact ⟨rfl, HBX.out⟩
      · rw [if_neg h80] at hR
        have hlo := pw_pos (kindsI b) (kinds_bd2 b (codeM_zero hM).2.1).1 t.toNat
        have hhi := (codeM_zero hM).2.2.2.2.1
        have hmu := (codeM_zero hM).2.2.2.2.2
        rw [← hmu] at hlo hhi
        clear p0 p1 p2 p3 p4 HMU HBX
        refine repFault_ok b t a1 n1 c1 a2 (manyU b t).toNat c2 a3 n3 c3 n2 F S L w hF hS hL hM (by omega) (by omega) (by omega) (by omega) _ (fun h => ?_) (fun h h' => ?_) (fun h h' => ?_)
        · rw [hR, h]; rfl
        · rw [hR, h, h']; rfl
        · rw [hR, h, h']; rfl
  · rw [if_neg hM] at hR
    rw [hR]
    have HM : Hid (codeM b t ≠ 0) := hM
    have hM' : (codeM b t == 0) = false := by simp; exact hM
    clear hF hS hL hR
    generalize codeM b t = cm at HMU hM hM' HM ⊢
    go_enter Tryd.func40, Tryd.ntmps40
    go_wp2_with (go_at_call 19; refine (HMU.out _).mono ?_; rintro e w' ⟨rfl, hw⟩; rw [hw]; clear hw w')
    go_ret
    exact ⟨rfl, HBX.out⟩
end Go.Proofs.YtlgjadnkokmjoaaDoor
