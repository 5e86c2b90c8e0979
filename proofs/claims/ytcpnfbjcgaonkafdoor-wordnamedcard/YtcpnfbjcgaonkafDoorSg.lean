/- word.Check, At, Head: contracts. -/
import Derived.Test.YtcpnfbjcgaonkafDoorSe
import Derived.Test.YtcpnfbjcgaonkafDoorVi
namespace Go.Proofs.YtcpnfbjcgaonkafDoor
open Go.RowKit

theorem rowC_upB {k n : Nat} {r : List Int} (h : r.length = k) : rowC k n r = if upB ((n : Int) - 1) r = true then 0 else 1 := by
  have e : (r.all fun x => decide (0 ≤ x ∧ x < (n : Int))) = upB ((n : Int) - 1) r := by
    unfold upB
    congr 1
    funext x
    exact decide_eq_decide.2 ⟨fun h => by omega, fun h => by omega⟩
  unfold rowC
  rw [if_pos h, e]
set_option maxHeartbeats 8000000 in
set_option maxRecDepth 4000 in
theorem word_check_any : CheckSays := by
  intro b a n cap ao no co N O w hs ho
  have hL := hs.1
  have hLo := ho.1
  have hmx := hs.2.1
  have hmo := ho.2.1
  unfold maxLen at hmx hmo
  have HBX := hide (outBox w b a n cap ao no co 25 hs ho)
  have HC : Hid (outC b N O = if 1 ≤ b ∧ b ≤ 6 then (if n = 0 then 4 else if 20 < n then 3 else if no = n then firstC (outRs (kindsI b).toNat N O) else 2) else 1) := by show _ = _; unfold outC; rw [hL, hLo]
  have HAT : Hid (∀ s, s < n → (∀ j, j < s → outR (kindsI b).toNat n (N.getD j []) (O.getD j 0) = 0) → outR (kindsI b).toNat n (N.getD s []) (O.getD s 0) ≠ 0 → firstC (outRs (kindsI b).toNat N O) = outR (kindsI b).toNat n (N.getD s []) (O.getD s 0)) := fun s hs2 hj hc => by
    have h := firstC_pre (outRs (kindsI b).toNat N O) s (fun j hjs => by rw [outRs_get (by omega), hL]; exact hj j hjs) (by rw [outRs_len, hL]; exact hs2) (by rw [outRs_get (by omega), hL]; exact hc)
    rw [outRs_get (by omega), hL] at h
    exact h
  have HALL : Hid ((∀ j, j < n → outR (kindsI b).toNat n (N.getD j []) (O.getD j 0) = 0) → firstC (outRs (kindsI b).toNat N O) = 0) := fun h => firstC_all _ fun j hj => by
    rw [outRs_len] at hj
    rw [outRs_get hj, hL]
    exact h j (by omega)
  clear hs ho hL hLo
  generalize firstC (outRs (kindsI b).toNat N O) = F at HC HAT HALL
  generalize outC b N O = c at HC ⊢
  unfold outV
  obtain ⟨⟨c0, c1, c2⟩, hs2, ho2, hbw⟩ := HBX.out _ (Below.refl _ _)
  have HS := hide hs2
  have HO := hide ho2
  have HB1 := hide hbw
  clear hs2 ho2 hbw HBX
  by_cases hb : 1 ≤ b ∧ b ≤ 6
  · have HRX := hide (fun W => isBase_yes b W hb.1 hb.2)
    have HKX := hide (fun W => kinds_any b W hb.1 hb.2)
    have hcc := HC.out
    rw [if_pos hb] at hcc
    have hk := kinds_nat hb.1 hb.2
    rw [← hk.2.2] at HKX
    generalize (kindsI b).toNat = k at HKX HAT HALL hk
    by_cases h0 : n = 0
    · subst h0
      rw [if_pos rfl] at hcc
      subst hcc
      go_enter Tryd.func9, Tryd.ntmps9
      go_wp2_with (go_at_call 26; refine (HRX.out _).mono ?_; rintro e w' ⟨rfl, hw'⟩; rw [hw']; clear hw' w')
      go_ret
      exact ⟨by simp [errV], HB1.out⟩
    · rw [if_neg h0] at hcc
      have h0i : ((n : Int) == 0) = false := by simp; omega
      by_cases h20 : 20 < n
      · rw [if_pos h20] at hcc
        subst hcc
        have h20i : (n : Int) > 20 := by omega
        go_enter Tryd.func9, Tryd.ntmps9
        go_wp2_with (go_at_call 26; refine (HRX.out _).mono ?_; rintro e w' ⟨rfl, hw'⟩; rw [hw']; clear hw' w')
        go_ret
        exact ⟨by simp [errV], HB1.out⟩
      · rw [if_neg h20] at hcc
        have h20i : ¬ (n : Int) > 20 := by omega
        by_cases hno : no = n
        · subst hno
          rw [if_pos rfl] at hcc
          subst hcc
          have hnn : ((no : Int) == (no : Int)) = true := by simp
          go_enter Tryd.func9, Tryd.ntmps9
          go_wp2_with (go_at_call 26; refine (HRX.out _).mono ?_; rintro e w' ⟨rfl, hw'⟩; rw [hw']; clear hw' w')
          generalize w.alloc (.cells #[.int .i64 b, .slice a no cap, .slice ao no co] 25) = wb at HS HO HB1 c0 c1 c2 ⊢
          go_loop [31] (fun iv => ∃ s : Nat, s ≤ no ∧ iv = .int .i64 s ∧ (∀ j, j < s → outR k no (N.getD j []) (O.getD j 0) = 0)) (fun iv => no - (intOf iv).toNat)
          case atStart => exact ⟨0, by omega, rfl, fun j hj => by omega⟩
          case round =>
            obtain ⟨s, hsn, rfl, hall⟩ := hrel
            have HALLS := hide hall
            clear hall
            by_cases hlt : s < no
            · have hlti : (s : Int) < (no : Int) := by omega
              obtain ⟨bb, o, a1, cc1, rfl, hck, hsl⟩ := sl2_cell HS.out s hlt
              obtain ⟨bo, oo, rfl, hco⟩ := sl_cell HO.out s hlt
              have HATs := hide (HAT.out s hlt HALLS.out)
              have HNX : Hid (outR k no (N.getD s []) (O.getD s 0) = 0 → ∀ j, j < s + 1 → outR k no (N.getD j []) (O.getD j 0) = 0) := fun h j hj => by
                by_cases e : j = s
                · subst e; exact h
                · exact HALLS.out j (by omega)
              have HUP := hide (fun cp => allUpTo_any ((no : Int) - 1) a1 (N.getD s []).length cp (N.getD s []) wb hsl)
              have HIO := hide (fun W => isOutput_any (O.getD s 0) W)
              have hrm := hsl.2.1
              unfold maxLen at hrm
              clear hsl
              generalize hrl : N.getD s [] = r at hck HATs HNX HUP hrm
              generalize hov : O.getD s 0 = ov at hco HATs HNX HIO
              clear hrl hov
              by_cases hlen : r.length = k
              · have hlen' : ((r.length : Int) == (k : Int)) = true := by simp; omega
                have hrow := rowC_upB (n := no) hlen
                by_cases hu : upB ((no : Int) - 1) r = true
                · rw [hu] at HUP
                  rw [if_pos hu] at hrow
                  by_cases h9 : 0 ≤ ov ∧ ov ≤ 9
                  · rw [decide_eq_true h9] at HIO
                    have HZ := hide (HNX.out (by unfold outR; rw [if_pos hrow, if_pos h9]))
                    clear hrow hu h9 hlen
                    go_wp2_with (first
                      | (go_at_call 27; refine (HKX.out _).mono ?_; rintro e w' ⟨rfl, hw'⟩; rw [hw']; clear hw' w')
                      | (go_at_call 28; refine (HUP.out _).mono ?_; rintro e w' ⟨rfl, hw'⟩; rw [hw']; clear hw' w')
                      | (go_at_call 29; refine (HIO.out _).mono ?_; rintro e w' ⟨rfl, hw'⟩; rw [hw']; clear hw' w'))
                    go_round
                    case rel => exact ⟨s + 1, by omega, by go_num, HZ.out⟩
                    case measure => simp [intOf]; omega
                  · rw [decide_eq_false h9] at HIO
                    have e1 : outR k no r ov = 1 := by unfold outR; rw [if_pos hrow, if_neg h9]
                    have hF := HATs.out (by rw [e1]; decide)
                    rw [e1] at hF
                    clear hrow hu h9 hlen e1
                    subst hF
                    go_wp2_with (first
                      | (go_at_call 27; refine (HKX.out _).mono ?_; rintro e w' ⟨rfl, hw'⟩; rw [hw']; clear hw' w')
                      | (go_at_call 28; refine (HUP.out _).mono ?_; rintro e w' ⟨rfl, hw'⟩; rw [hw']; clear hw' w')
                      | (go_at_call 29; refine (HIO.out _).mono ?_; rintro e w' ⟨rfl, hw'⟩; rw [hw']; clear hw' w'))
                    go_ret
                    exact ⟨by simp [errV], HB1.out⟩
                · have hu' : upB ((no : Int) - 1) r = false := by simpa using hu
                  rw [hu'] at HUP
                  rw [if_neg hu] at hrow
                  have e1 : outR k no r ov = 1 := by unfold outR; rw [if_neg (by rw [hrow]; decide), hrow]
                  have hF := HATs.out (by rw [e1]; decide)
                  rw [e1] at hF
                  clear hrow hu hu' hlen e1
                  subst hF
                  go_wp2_with (first
                    | (go_at_call 27; refine (HKX.out _).mono ?_; rintro e w' ⟨rfl, hw'⟩; rw [hw']; clear hw' w')
                    | (go_at_call 28; refine (HUP.out _).mono ?_; rintro e w' ⟨rfl, hw'⟩; rw [hw']; clear hw' w'))
                  go_ret
                  exact ⟨by simp [errV], HB1.out⟩
              · have hlen' : ((r.length : Int) == (k : Int)) = false := by simp; omega
                have e1 : outR k no r ov = 2 := by unfold outR; rw [if_neg (by rw [rowC_long hlen]; decide), rowC_long hlen]
                have hF := HATs.out (by rw [e1]; decide)
                rw [e1] at hF
                clear hlen e1
                subst hF
                go_wp2_with (go_at_call 27; refine (HKX.out _).mono ?_; rintro e w' ⟨rfl, hw'⟩; rw [hw']; clear hw' w')
                go_ret
                exact ⟨by simp [errV], HB1.out⟩
            · have hlti : ¬ (s : Int) < (no : Int) := by omega
              obtain rfl : s = no := by omega
              have hF := HALL.out HALLS.out
              subst hF
              go_wp2
              go_ret
              exact ⟨by simp [errV], HB1.out⟩
        · rw [if_neg hno] at hcc
          subst hcc
          have hnn : ((no : Int) == (n : Int)) = false := by simp; omega
          go_enter Tryd.func9, Tryd.ntmps9
          go_wp2_with (go_at_call 26; refine (HRX.out _).mono ?_; rintro e w' ⟨rfl, hw'⟩; rw [hw']; clear hw' w')
          go_ret
          exact ⟨by simp [errV], HB1.out⟩
  · have HRX := hide (fun W => isBase_no b W (by omega))
    have hcc := HC.out
    rw [if_neg hb] at hcc
    subst hcc
    go_enter Tryd.func9, Tryd.ntmps9
    go_wp2_with (go_at_call 26; refine (HRX.out _).mono ?_; rintro e w' ⟨rfl, hw'⟩; rw [hw']; clear hw' w')
    go_ret
    exact ⟨by simp [errV], HB1.out⟩
end Go.Proofs.YtcpnfbjcgaonkafDoor
