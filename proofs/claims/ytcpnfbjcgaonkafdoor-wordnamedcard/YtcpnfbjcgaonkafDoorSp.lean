/- word.checkRules: contract. -/
import Derived.Test.YtcpnfbjcgaonkafDoorSg
import Derived.Test.YtcpnfbjcgaonkafDoorVf
namespace Go.Proofs.YtcpnfbjcgaonkafDoor
open Go.RowKit

/-- What is wrong with rules. -/
def rulC (R : List (List Int)) : Int :=
  if R.length = 0 then 4 else if 2 ≤ morK R ∧ morK R ≤ 6 then (if 20 < R.length then 3 else if mlenB R (morK R) = true then (if mrngB R R.length = true then (if (R.getD 0 []).getD 0 0 = 0 then 0 else 2) else 1) else 2) else 1
theorem morC_rul (R : List (List Int)) (K : List Int) : morC R K = if rulC R = 0 then (if K.length = R.length then (if mcdB K = true then 0 else 1) else 2) else rulC R := by
  unfold morC rulC
  by_cases h0 : R.length = 0
  · rw [if_pos h0, if_pos h0, if_neg (by decide)]
  · rw [if_neg h0, if_neg h0]
    by_cases h1 : 2 ≤ morK R ∧ morK R ≤ 6
    · rw [if_pos h1, if_pos h1]
      by_cases h2 : 20 < R.length
      · rw [if_pos h2, if_pos h2, if_neg (by decide)]
      · rw [if_neg h2, if_neg h2]
        by_cases h3 : mlenB R (morK R) = true
        · rw [if_pos h3, if_pos h3]
          by_cases h4 : mrngB R R.length = true
          · rw [if_pos h4, if_pos h4]
            by_cases h5 : (R.getD 0 []).getD 0 0 = 0
            · rw [if_pos h5, if_pos rfl]
              by_cases h6 : K.length = R.length
              · rw [if_pos ⟨h5, h6⟩, if_pos h6]
              · rw [if_neg (fun h => h6 h.2), if_neg h6]
            · rw [if_neg (fun h => h5 h.1), if_neg h5, if_neg (by decide)]
          · rw [if_neg h4, if_neg h4, if_neg (by decide)]
        · rw [if_neg h3, if_neg h3, if_neg (by decide)]
    · rw [if_neg h1, if_neg h1, if_neg (by decide)]
theorem row_upB (n : Nat) (r : List Int) : (r.all fun x => decide (0 ≤ x ∧ x < (n : Int))) = upB ((n : Int) - 1) r := by
  unfold upB
  congr 1
  funext x
  exact decide_eq_decide.2 ⟨fun h => by omega, fun h => by omega⟩
theorem mcd_upB (K : List Int) : mcdB K = upB 9 K := rfl
set_option maxHeartbeats 8000000 in
set_option maxRecDepth 4000 in
theorem checkRules_any (a : Option Addr) (n cap : Nat) (R : List (List Int)) (w : World) (hs : Sl2 w a n R) :
    Calls Tryd.prog 41 #[.slice a n cap] w fun e w' => e = .returned (errV (rulC R)) ∧ w' = w := by
  have hL := hs.1
  have hmx := hs.2.1
  unfold maxLen at hmx
  have HC : Hid (rulC R = if n = 0 then 4 else if 2 ≤ morK R ∧ morK R ≤ 6 then (if 20 < n then 3 else if mlenB R (morK R) = true then (if mrngB R n = true then (if (R.getD 0 []).getD 0 0 = 0 then 0 else 2) else 1) else 2) else 1) := by show _ = _; unfold rulC; rw [hL]
  have HS := hide hs
  by_cases h0 : n = 0
  · subst h0
    have hcc := HC.out
    rw [if_pos rfl] at hcc
    rw [hcc]
    clear hcc hs
    go_enter Tryd.func41, Tryd.ntmps41
    go_wp2
    go_ret
    exact ⟨by first | (simp [errV]; done) | (rw [hcc]; simp [errV]; done), rfl⟩
  · have hcc := HC.out
    rw [if_neg h0] at hcc
    have h0i : ((n : Int) == 0) = false := by simp; omega
    obtain ⟨bb, o, a0, cc0, hab, hck, hsl0⟩ := sl2_cell hs 0 (by omega)
    have hk : (R.getD 0 []).length = morK R := rfl
    have HSL0 := hide hsl0
    have hm0 := hsl0.2.1
    unfold maxLen at hm0
    rw [hk] at hck hm0
    rw [Nat.add_zero] at hck
    have hn0 : (0 : Int) < (n : Int) := by omega
    have HLEN : Hid (∀ j, j < n → (R.getD j []).length ≠ morK R → mlenB R (morK R) = false) := fun j hj h => by
      unfold mlenB
      rw [List.all_eq_false]
      exact ⟨R.getD j [], by simp [List.getD, hL, hj], by simpa using h⟩
    have HLEA : Hid ((∀ j, j < n → (R.getD j []).length = morK R) → mlenB R (morK R) = true) := fun h => by
      unfold mlenB
      rw [List.all_eq_true]
      intro r hr
      obtain ⟨j, hj, rfl⟩ := List.getElem_of_mem hr
      have h2 := h j (by omega)
      rw [show R.getD j [] = R[j] by simp [List.getD, hj]] at h2
      simpa using h2
    have HRNG : Hid (∀ j, j < n → upB ((n : Int) - 1) (R.getD j []) = false → mrngB R n = false) := fun j hj h => by
      unfold mrngB
      rw [List.all_eq_false]
      exact ⟨R.getD j [], by simp [List.getD, hL, hj], by rw [row_upB, h]; decide⟩
    have HRNA : Hid ((∀ j, j < n → upB ((n : Int) - 1) (R.getD j []) = true) → mrngB R n = true) := fun h => by
      unfold mrngB
      rw [List.all_eq_true]
      intro r hr
      obtain ⟨j, hj, rfl⟩ := List.getElem_of_mem hr
      have h2 := h j (by omega)
      rw [show R.getD j [] = R[j] by simp [List.getD, hj]] at h2
      rw [row_upB]; exact h2
    generalize hkk : morK R = k at *
    generalize hml : mlenB R k = ML at *
    generalize hmr : mrngB R n = MR at *
    generalize hrc : rulC R = c at *
    clear hkk hml hmr hrc hs
    by_cases h1 : 2 ≤ k ∧ k ≤ 6
    · rw [if_pos h1] at hcc
      have h2i : ¬ ((k : Int) < 2) := by omega
      have h6i : ¬ ((k : Int) > 6) := by omega
      by_cases h20 : 20 < n
      · rw [if_pos h20] at hcc
        have h20i : (n : Int) > 20 := by omega
        subst hab
        go_enter Tryd.func41, Tryd.ntmps41
        go_wp2
        go_ret
        exact ⟨by first | (simp [errV]; done) | (rw [hcc]; simp [errV]; done), rfl⟩
      · rw [if_neg h20] at hcc
        have h20i : ¬ (n : Int) > 20 := by omega
        obtain ⟨b0, o0, ha0, hx0⟩ := sl_cell HSL0.out 0 (by rw [hk]; omega)
        rw [Nat.add_zero] at hx0
        generalize hz : (R.getD 0 []).getD 0 0 = z at hcc hx0
        subst hab
        subst ha0
        have HCC := hide hcc
        clear hcc hk HSL0
        go_enter Tryd.func41, Tryd.ntmps41
        go_wp2
        go_loop [29] (fun u => ∃ j : Nat, u = .int .i64 j ∧ j ≤ n ∧ ∀ i, i < j → (R.getD i []).length = k) (fun u => n - (intOf u).toNat)
        case atStart => exact ⟨0, rfl, by omega, fun i hi => by omega⟩
        case round =>
          obtain ⟨j, rfl, hj, hall⟩ := hrel
          have HALL := hide hall
          clear hall
          by_cases hlt : j < n
          · have hlti : (j : Int) < (n : Int) := by omega
            obtain ⟨bj, oj, aj, cj, haj, hcj, hslj⟩ := sl2_cell HS.out j hlt
            cases haj
            have hmj := hslj.2.1
            unfold maxLen at hmj
            have HLj := hide (HLEN.out j hlt)
            have HST : Hid ((R.getD j []).length = k → ∀ i, i < j + 1 → (R.getD i []).length = k) := fun h i hi => by
              by_cases e : i = j
              · subst e; exact h
              · exact HALL.out i (by omega)
            clear hslj
            generalize (R.getD j []).length = lj at hcj hmj HLj HST
            by_cases he : lj = k
            · have he' : ((lj : Int) == (k : Int)) = true := by simp; omega
              have HS2 := hide (HST.out he)
              clear he
              go_wp2
              go_round
              case rel => exact ⟨j + 1, by go_num, by omega, HS2.out⟩
              case measure => simp [intOf]; omega
            · have he' : ((lj : Int) == (k : Int)) = false := by simp; omega
              have hM := HLj.out he
              have hcc := HCC.out
              rw [if_neg (by rw [hM]; decide)] at hcc
              clear he hM
              go_wp2
              go_ret
              exact ⟨by first | (simp [errV]; done) | (rw [hcc]; simp [errV]; done), rfl⟩
          · have hlti : ¬ (j : Int) < (n : Int) := by omega
            obtain rfl : j = n := by omega
            have hcc := HCC.out
            rw [if_pos (HLEA.out HALL.out)] at hcc
            have HC2 := hide hcc
            clear hcc HCC HLEA HLEN HALL
            go_wp2
            go_loop [41] (fun u => ∃ i : Nat, u = .int .i64 i ∧ i ≤ j ∧ ∀ q, q < i → upB ((j : Int) - 1) (R.getD q []) = true) (fun u => j - (intOf u).toNat)
            case atStart => exact ⟨0, rfl, by omega, fun i hi => by omega⟩
            case round =>
              obtain ⟨i, rfl, hi, hall⟩ := hrel
              have HALL := hide hall
              clear hall
              by_cases hlt : i < j
              · have hlti2 : (i : Int) < (j : Int) := by omega
                obtain ⟨bj, oj, aj, cj, haj, hcj, hslj⟩ := sl2_cell HS.out i hlt
                cases haj
                have HUP := hide (allUpTo_any ((j : Int) - 1) aj (R.getD i []).length cj (R.getD i []) w hslj)
                have HRi := hide (HRNG.out i hlt)
                have HST : Hid (upB ((j : Int) - 1) (R.getD i []) = true → ∀ q, q < i + 1 → upB ((j : Int) - 1) (R.getD q []) = true) := fun h q hq => by
                  by_cases e : q = i
                  · subst e; exact h
                  · exact HALL.out q (by omega)
                clear hslj
                generalize (R.getD i []).length = lj at hcj HUP
                by_cases he : upB ((j : Int) - 1) (R.getD i []) = true
                · rw [he] at HUP
                  have HS2 := hide (HST.out he)
                  clear he HST HRi
                  go_wp2_with (go_at_call 28; refine HUP.out.mono ?_; rintro e w' ⟨rfl, hw'⟩; rw [hw']; clear hw' w')
                  go_round
                  case rel => exact ⟨i + 1, by go_num, by omega, HS2.out⟩
                  case measure => simp [intOf]; omega
                · have he' : upB ((j : Int) - 1) (R.getD i []) = false := by simpa using he
                  rw [he'] at HUP
                  have hM := HRi.out he'
                  have hcc := HC2.out
                  rw [if_neg (by rw [hM]; decide)] at hcc
                  clear he he' hM HST HRi
                  go_wp2_with (go_at_call 28; refine HUP.out.mono ?_; rintro e w' ⟨rfl, hw'⟩; rw [hw']; clear hw' w')
                  go_ret
                  exact ⟨by first | (simp [errV]; done) | (rw [hcc]; simp [errV]; done), rfl⟩
              · have hlti2 : ¬ (i : Int) < (j : Int) := by omega
                obtain rfl : i = j := by omega
                have hcc := HC2.out
                rw [if_pos (HRNA.out HALL.out)] at hcc
                have hk0 : (0 : Int) < (k : Int) := by omega
                clear HC2 HRNA HRNG HALL
                by_cases hz0 : z = 0
                · rw [if_pos hz0] at hcc
                  have hz' : (z == 0) = true := by simp [hz0]
                  clear hz0
                  go_wp2
                  go_ret
                  exact ⟨by first | (simp [errV]; done) | (rw [hcc]; simp [errV]; done), rfl⟩
                · rw [if_neg hz0] at hcc
                  have hz' : (z == 0) = false := by simp [hz0]
                  clear hz0
                  go_wp2
                  go_ret
                  exact ⟨by first | (simp [errV]; done) | (rw [hcc]; simp [errV]; done), rfl⟩
    · rw [if_neg h1] at hcc
      have h1' : (k : Int) < 2 ∨ (decide ((k : Int) < 2) = false ∧ (k : Int) > 6) := by
        by_cases e : (k : Int) < 2
        · exact .inl e
        · exact .inr ⟨decide_eq_false e, by omega⟩
      subst hab
      clear h1
      rcases h1' with g1 | ⟨g1, g2⟩
      all_goals
        go_enter Tryd.func41, Tryd.ntmps41
        go_wp2
        go_ret
        exact ⟨by first | (simp [errV]; done) | (rw [hcc]; simp [errV]; done), rfl⟩
end Go.Proofs.YtcpnfbjcgaonkafDoor
