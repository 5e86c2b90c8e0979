/- 3 texts in one. -/
import Derived.ArgAppend
import Derived.Deep.AppendLies
import Derived.Deep.MidRow
import Derived.Deep.RegionHeldLaw
import Derived.Deep.RegionWith
import Derived.DeepKeys4
import Derived.Laws.BytesArg
import Derived.Lib.SlicesCompact
import Derived.LoopIn
import Derived.LoopNIn
import Derived.Maps.OwnSet
import Derived.OwnWalkIn
import Derived.RangeFuncBound
import Derived.RangeFuncCalls
import Derived.RangeFuncLeaves
import Derived.RangeFuncNested
import Derived.Shelf.Abstract
import Derived.Shelf.RegionOpen
import Derived.Sort.LoopGhostIn
import Derived.StringKeys
import Derived.TacticsInMore
import Derived.WalkKit
import Derived.Test.YtgbmemkoggogdaaDoorMa
import Derived.Test.YtgbmemkoggogdaaDoorZNx
import Derived.Test.YtgbmemkoggogdaaDoorZG
import Derived.Test.YtgbmemkoggogdaaDoorZEg
import Derived.Test.YtgbmemkoggogdaaDoorZCf
import Derived.Test.YtgbmemkoggogdaaDoorJb
import Derived.Test.YtgbmemkoggogdaaDoorLq
/- word.isOutput, allUpTo, begun, step and the closure of ofAllWords: contracts. -/
namespace Go.Proofs.YtgbmemkoggogdaaDoor
open Go.RowKit

set_option maxHeartbeats 1000000 in
set_option maxRecDepth 4000 in
theorem isOutput_any (v : Int) (w : World) : Calls Tryd.prog 59 #[.int .i64 v] w fun e w' => e = .returned (.bool (decide (0 ≤ v ∧ v ≤ 9))) ∧ w' = w := by
  by_cases h1 : 0 ≤ v
  · by_cases h2 : v ≤ 9
    · have e : decide (0 ≤ v ∧ v ≤ 9) = true := decide_eq_true ⟨h1, h2⟩
      rw [e]
      go_enter Tryd.func59, Tryd.ntmps59
      go_wp2
      go_ret
      exact ⟨by simp, rfl⟩
    · have e : decide (0 ≤ v ∧ v ≤ 9) = false := decide_eq_false fun h => h2 h.2
      rw [e]
      go_enter Tryd.func59, Tryd.ntmps59
      go_wp2
      go_ret
      exact ⟨by simp, rfl⟩
  · have e : decide (0 ≤ v ∧ v ≤ 9) = false := decide_eq_false fun h => h1 h.1
    rw [e]
    go_enter Tryd.func59, Tryd.ntmps59
    go_wp2
    go_ret
    exact ⟨by simp, rfl⟩
def upB (m : Int) (l : List Int) : Bool := l.all fun x => decide (0 ≤ x ∧ x ≤ m)
theorem upB_no {m : Int} {l : List Int} {j : Nat} (hj : j < l.length) (h : ¬ (0 ≤ l.getD j 0 ∧ l.getD j 0 ≤ m)) : upB m l = false := by
  unfold upB
  rw [List.all_eq_false]
  exact ⟨l.getD j 0, by rw [getD_at _ j hj]; exact List.getElem_mem hj, by simpa using h⟩
theorem upB_yes {m : Int} {l : List Int} (h : ∀ j, j < l.length → 0 ≤ l.getD j 0 ∧ l.getD j 0 ≤ m) : upB m l = true := by
  unfold upB
  rw [List.all_eq_true]
  intro x hx
  obtain ⟨j, hj, rfl⟩ := List.getElem_of_mem hx
  have := h j hj
  rw [getD_at _ j hj] at this
  simpa using this
set_option maxHeartbeats 1000000 in
set_option maxRecDepth 4000 in
theorem allUpTo_any (m : Int) (a : Option Addr) (len cap : Nat) (l : List Int) (w : World) (hs : Sl w a len l) : Calls Tryd.prog 58 #[.int .i64 m, .slice a len cap] w fun e w' => e = .returned (.bool (upB m l)) ∧ w' = w := by
  have hL := hs.1
  have hmx := hs.2.1
  unfold maxLen at hmx
  have HNO : Hid (∀ j, j < len → ¬ (0 ≤ l.getD j 0 ∧ l.getD j 0 ≤ m) → upB m l = false) := fun j hj h => upB_no (by omega) h
  have HYES : Hid ((∀ j, j < len → 0 ≤ l.getD j 0 ∧ l.getD j 0 ≤ m) → upB m l = true) := fun h => upB_yes (fun j hj => h j (by omega))
  have HS := hide hs
  generalize upB m l = V at HNO HYES ⊢
  clear hs hL
  go_enter Tryd.func58, Tryd.ntmps58
  go_wp2
  go_loop [9] (fun u => ∃ j : Nat, u = .int .i64 j ∧ j ≤ len ∧ ∀ i, i < j → 0 ≤ l.getD i 0 ∧ l.getD i 0 ≤ m) (fun u => len - (intOf u).toNat)
  case atStart => exact ⟨0, rfl, by omega, fun i hi => by omega⟩
  case round =>
    obtain ⟨j, rfl, hj, hall⟩ := hrel
    have HALL := hide hall
    clear hall
    by_cases hlt : j < len
    · have hlti : (j : Int) < (len : Int) := by omega
      obtain ⟨bb, o, rfl, hc⟩ := sl_cell HS.out j hlt
      have HNj := hide (HNO.out j hlt)
      have HST : Hid (0 ≤ l.getD j 0 ∧ l.getD j 0 ≤ m → ∀ i, i < j + 1 → 0 ≤ l.getD i 0 ∧ l.getD i 0 ≤ m) := fun h i hi => by
        by_cases e : i = j
        · subst e; exact h
        · exact HALL.out i (by omega)
      obtain ⟨x, hx⟩ : ∃ x, x = l.getD j 0 := ⟨_, rfl⟩
      rw [← hx] at hc HNj HST
      clear hx
      by_cases h1 : 0 ≤ x
      · by_cases h2 : x ≤ m
        · go_wp2
          go_round
          case rel => exact ⟨j + 1, by go_num, by omega, HST.out ⟨h1, h2⟩⟩
          case measure => simp [intOf]; omega
        · have hV := HNj.out fun h => h2 h.2
          have h2' : m < x := by omega
          go_wp2
          go_ret
          exact ⟨by simp, rfl⟩
      · have hV := HNj.out fun h => h1 h.1
        have h1' : x < 0 := by omega
        go_wp2
        go_ret
        exact ⟨by simp, rfl⟩
    · have hlti : ¬ (j : Int) < (len : Int) := by omega
      obtain rfl : j = len := by omega
      have hV := HYES.out HALL.out
      go_wp2
      go_ret
      exact ⟨by simp, rfl⟩
end Go.Proofs.YtgbmemkoggogdaaDoor

/- word.Check, At, Head: contracts. -/
namespace Go.Proofs.YtgbmemkoggogdaaDoor
open Go.RowKit

theorem rowC_upB {k n : Nat} {r : List Int} (h : r.length = k) : rowC k n r = if upB ((n : Int) - 1) r = true then 0 else 1 := by
  have e : (r.all fun x => decide (0 ≤ x ∧ x < (n : Int))) = upB ((n : Int) - 1) r := by
    unfold upB
    congr 1
    funext x
    exact decide_eq_decide.2 ⟨fun h => by omega, fun h => by omega⟩
  unfold rowC
  rw [if_pos h, e]
set_option maxHeartbeats 8000000 in
set_option maxRecDepth 4000 in
theorem word_check_any : CheckSays := by
  intro b a n cap ao no co N O w hs ho
  have hL := hs.1
  have hLo := ho.1
  have hmx := hs.2.1
  have hmo := ho.2.1
  unfold maxLen at hmx hmo
  have HBX := hide (outBox w b a n cap ao no co 25 hs ho)
  have HC : Hid (outC b N O = if 1 ≤ b ∧ b ≤ 6 then (if n = 0 then 4 else if 20 < n then 3 else if no = n then firstC (outRs (kindsI b).toNat N O) else 2) else 1) := by show _ = _; unfold outC; rw [hL, hLo]
  have HAT : Hid (∀ s, s < n → (∀ j, j < s → outR (kindsI b).toNat n (N.getD j []) (O.getD j 0) = 0) → outR (kindsI b).toNat n (N.getD s []) (O.getD s 0) ≠ 0 → firstC (outRs (kindsI b).toNat N O) = outR (kindsI b).toNat n (N.getD s []) (O.getD s 0)) := fun s hs2 hj hc => by
    have h := firstC_pre (outRs (kindsI b).toNat N O) s (fun j hjs => by rw [outRs_get (by omega), hL]; exact hj j hjs) (by rw [outRs_len, hL]; exact hs2) (by rw [outRs_get (by omega), hL]; exact hc)
    rw [outRs_get (by omega), hL] at h
    exact h
  have HALL : Hid ((∀ j, j < n → outR (kindsI b).toNat n (N.getD j []) (O.getD j 0) = 0) → firstC (outRs (kindsI b).toNat N O) = 0) := fun h => firstC_all _ fun j hj => by
    rw [outRs_len] at hj
    rw [outRs_get hj, hL]
    exact h j (by omega)
  clear hs ho hL hLo
  generalize firstC (outRs (kindsI b).toNat N O) = F at HC HAT HALL
  generalize outC b N O = c at HC ⊢
  unfold outV
  obtain ⟨⟨c0, c1, c2⟩, hs2, ho2, hbw⟩ := HBX.out _ (Below.refl _ _)
  have HS := hide hs2
  have HO := hide ho2
  have HB1 := hide hbw
  clear hs2 ho2 hbw HBX
  by_cases hb : 1 ≤ b ∧ b ≤ 6
  · have HRX := hide (fun W => isBase_yes b W hb.1 hb.2)
    have HKX := hide (fun W => kinds_any b W hb.1 hb.2)
    have hcc := HC.out
    rw [if_pos hb] at hcc
    have hk := kinds_nat hb.1 hb.2
    rw [← hk.2.2] at HKX
    generalize (kindsI b).toNat = k at HKX HAT HALL hk
    by_cases h0 : n = 0
    · subst h0
      rw [if_pos rfl] at hcc
      subst hcc
      go_enter Tryd.func34, Tryd.ntmps34
      go_wp2_with (go_at_call 57; refine (HRX.out _).mono ?_; rintro e w' ⟨rfl, hw'⟩; rw [hw']; clear hw' w')
      go_ret
      exact ⟨by simp [errV], HB1.out⟩
    · rw [if_neg h0] at hcc
      have h0i : ((n : Int) == 0) = false := by simp; omega
      by_cases h20 : 20 < n
      · rw [if_pos h20] at hcc
        subst hcc
        have h20i : (n : Int) > 20 := by omega
        go_enter Tryd.func34, Tryd.ntmps34
        go_wp2_with (go_at_call 57; refine (HRX.out _).mono ?_; rintro e w' ⟨rfl, hw'⟩; rw [hw']; clear hw' w')
        go_ret
        exact ⟨by simp [errV], HB1.out⟩
      · rw [if_neg h20] at hcc
        have h20i : ¬ (n : Int) > 20 := by omega
        by_cases hno : no = n
        · subst hno
          rw [if_pos rfl] at hcc
          subst hcc
          have hnn : ((no : Int) == (no : Int)) = true := by simp
          go_enter Tryd.func34, Tryd.ntmps34
          go_wp2_with (go_at_call 57; refine (HRX.out _).mono ?_; rintro e w' ⟨rfl, hw'⟩; rw [hw']; clear hw' w')
          generalize w.alloc (.cells #[.int .i64 b, .slice a no cap, .slice ao no co] 25) = wb at HS HO HB1 c0 c1 c2 ⊢
          go_loop [31] (fun iv => ∃ s : Nat, s ≤ no ∧ iv = .int .i64 s ∧ (∀ j, j < s → outR k no (N.getD j []) (O.getD j 0) = 0)) (fun iv => no - (intOf iv).toNat)
          case atStart => exact ⟨0, by omega, rfl, fun j hj => by omega⟩
          case round =>
            obtain ⟨s, hsn, rfl, hall⟩ := hrel
            have HALLS := hide hall
            clear hall
            by_cases hlt : s < no
            · have hlti : (s : Int) < (no : Int) := by omega
              obtain ⟨bb, o, a1, cc1, rfl, hck, hsl⟩ := sl2_cell HS.out s hlt
              obtain ⟨bo, oo, rfl, hco⟩ := sl_cell HO.out s hlt
              have HATs := hide (HAT.out s hlt HALLS.out)
              have HNX : Hid (outR k no (N.getD s []) (O.getD s 0) = 0 → ∀ j, j < s + 1 → outR k no (N.getD j []) (O.getD j 0) = 0) := fun h j hj => by
                by_cases e : j = s
                · subst e; exact h
                · exact HALLS.out j (by omega)
              have HUP := hide (fun cp => allUpTo_any ((no : Int) - 1) a1 (N.getD s []).length cp (N.getD s []) wb hsl)
              have HIO := hide (fun W => isOutput_any (O.getD s 0) W)
              have hrm := hsl.2.1
              unfold maxLen at hrm
              clear hsl
              generalize hrl : N.getD s [] = r at hck HATs HNX HUP hrm
              generalize hov : O.getD s 0 = ov at hco HATs HNX HIO
              clear hrl hov
              by_cases hlen : r.length = k
              · have hlen' : ((r.length : Int) == (k : Int)) = true := by simp; omega
                have hrow := rowC_upB (n := no) hlen
                by_cases hu : upB ((no : Int) - 1) r = true
                · rw [hu] at HUP
                  rw [if_pos hu] at hrow
                  by_cases h9 : 0 ≤ ov ∧ ov ≤ 9
                  · rw [decide_eq_true h9] at HIO
                    have HZ := hide (HNX.out (by unfold outR; rw [if_pos hrow, if_pos h9]))
                    clear hrow hu h9 hlen
                    go_wp2_with (first
                      | (go_at_call 16; refine (HKX.out _).mono ?_; rintro e w' ⟨rfl, hw'⟩; rw [hw']; clear hw' w')
                      | (go_at_call 58; refine (HUP.out _).mono ?_; rintro e w' ⟨rfl, hw'⟩; rw [hw']; clear hw' w')
                      | (go_at_call 59; refine (HIO.out _).mono ?_; rintro e w' ⟨rfl, hw'⟩; rw [hw']; clear hw' w'))
                    go_round
                    case rel => exact ⟨s + 1, by omega, by go_num, HZ.out⟩
                    case measure => simp [intOf]; omega
                  · rw [decide_eq_false h9] at HIO
                    have e1 : outR k no r ov = 1 := by unfold outR; rw [if_pos hrow, if_neg h9]
                    have hF := HATs.out (by rw [e1]; decide)
                    rw [e1] at hF
                    clear hrow hu h9 hlen e1
                    subst hF
                    go_wp2_with (first
                      | (go_at_call 16; refine (HKX.out _).mono ?_; rintro e w' ⟨rfl, hw'⟩; rw [hw']; clear hw' w')
                      | (go_at_call 58; refine (HUP.out _).mono ?_; rintro e w' ⟨rfl, hw'⟩; rw [hw']; clear hw' w')
                      | (go_at_call 59; refine (HIO.out _).mono ?_; rintro e w' ⟨rfl, hw'⟩; rw [hw']; clear hw' w'))
                    go_ret
                    exact ⟨by simp [errV], HB1.out⟩
                · have hu' : upB ((no : Int) - 1) r = false := by simpa using hu
                  rw [hu'] at HUP
                  rw [if_neg hu] at hrow
                  have e1 : outR k no r ov = 1 := by unfold outR; rw [if_neg (by rw [hrow]; decide), hrow]
                  have hF := HATs.out (by rw [e1]; decide)
                  rw [e1] at hF
                  clear hrow hu hu' hlen e1
                  subst hF
                  go_wp2_with (first
                    | (go_at_call 16; refine (HKX.out _).mono ?_; rintro e w' ⟨rfl, hw'⟩; rw [hw']; clear hw' w')
                    | (go_at_call 58; refine (HUP.out _).mono ?_; rintro e w' ⟨rfl, hw'⟩; rw [hw']; clear hw' w'))
                  go_ret
                  exact ⟨by simp [errV], HB1.out⟩
              · have hlen' : ((r.length : Int) == (k : Int)) = false := by simp; omega
                have e1 : outR k no r ov = 2 := by unfold outR; rw [if_neg (by rw [rowC_long hlen]; decide), rowC_long hlen]
                have hF := HATs.out (by rw [e1]; decide)
                rw [e1] at hF
                clear hlen e1
                subst hF
                go_wp2_with (go_at_call 16; refine (HKX.out _).mono ?_; rintro e w' ⟨rfl, hw'⟩; rw [hw']; clear hw' w')
                go_ret
                exact ⟨by simp [errV], HB1.out⟩
            · have hlti : ¬ (s : Int) < (no : Int) := by omega
              obtain rfl : s = no := by omega
              have hF := HALL.out HALLS.out
              subst hF
              go_wp2
              go_ret
              exact ⟨by simp [errV], HB1.out⟩
        · rw [if_neg hno] at hcc
          subst hcc
          have hnn : ((no : Int) == (n : Int)) = false := by simp; omega
          go_enter Tryd.func34, Tryd.ntmps34
          go_wp2_with (go_at_call 57; refine (HRX.out _).mono ?_; rintro e w' ⟨rfl, hw'⟩; rw [hw']; clear hw' w')
          go_ret
          exact ⟨by simp [errV], HB1.out⟩
  · have HRX := hide (fun W => isBase_no b W (by omega))
    have hcc := HC.out
    rw [if_neg hb] at hcc
    subst hcc
    go_enter Tryd.func34, Tryd.ntmps34
    go_wp2_with (go_at_call 57; refine (HRX.out _).mono ?_; rintro e w' ⟨rfl, hw'⟩; rw [hw']; clear hw' w')
    go_ret
    exact ⟨by simp [errV], HB1.out⟩
end Go.Proofs.YtgbmemkoggogdaaDoor

/- word.At, Head: contracts. -/
namespace Go.Proofs.YtgbmemkoggogdaaDoor
open Go.RowKit

theorem atF_bad {b : Int} {N : List (List Int)} {O : List Int} (x hi : Int) (h : outC b N O ≠ 0) : atF b N O x hi = outC b N O := by unfold atF; rw [if_neg h]
theorem atF_far {b : Int} {N : List (List Int)} {O : List Int} {x hi : Int} (h : outC b N O = 0) (hx : ¬ (0 ≤ x ∧ x ≤ hi)) : atF b N O x hi = 1 := by unfold atF; rw [if_pos h, if_neg hx]
theorem atF_ok {b : Int} {N : List (List Int)} {O : List Int} {x hi : Int} (h : outC b N O = 0) (hx : 0 ≤ x ∧ x ≤ hi) : atF b N O x hi = 0 := by unfold atF; rw [if_pos h, if_pos hx]
set_option maxHeartbeats 4000000 in
set_option maxRecDepth 4000 in
theorem word_at_any : AtSays := by
  intro b a n cap ao no co N O x w hs ho
  have HBX := hide (outBox w b a n cap ao no co 25 hs ho)
  have HCK := hide (fun W h1 h2 => word_check_any b a n cap ao no co N O W h1 h2)
  have hL := hs.1
  have hLo := ho.1
  unfold outV at HCK ⊢
  clear hs ho
  obtain ⟨⟨c0, c1, c2⟩, hs2, ho2, hbw⟩ := HBX.out _ (Below.refl _ _)
  have HC0 := hide (HCK.out _ hs2 ho2)
  clear HCK hs2 ho2 hbw
  by_cases hC : outC b N O = 0
  · obtain ⟨h1, h2, h20, hO, hG, hrange⟩ := outC_zero hC
    obtain ⟨k1, k2, k3⟩ := kinds_nat h1 h2
    rw [hC, errV_zero] at HC0
    have HDG := hide (fun W => of_u b x W)
    by_cases hx : 0 ≤ x ∧ x ≤ 1099511627776
    · have e1 : atF b N O x 1099511627776 = 0 := atF_ok hC hx
      have e2 : atV b N O x = sayN b N O x := by unfold atV; rw [if_pos e1]
      rw [e1, e2, errV_zero]
      clear e1 e2
      have hnl : numL b x = dgs b x := by unfold numL; rw [if_pos ⟨⟨h1, h2⟩, hx⟩]
      have hcn : codeN b x = 0 := by unfold codeN; rw [if_pos ⟨⟨h1, h2⟩, hx⟩]
      rw [hnl, hcn, errV_zero] at HDG
      unfold OfU at HDG
      have hdig := dgs_digB b x h1 h2 hx.1 hx.2
      have h60 := dgs_length b x
      have HDD : Hid (∀ j, j < (dgs b x).length → 0 ≤ (dgs b x).getD j 0 ∧ (dgs b x).getD j 0 < (((kindsI b).toNat : Nat) : Int)) := fun j hj => by
        unfold digB at hdig
        rw [List.all_eq_true] at hdig
        have := hdig ((dgs b x).getD j 0) (by rw [getD_at _ j hj]; exact List.getElem_mem hj)
        rw [k3]
        simpa using this
      have HRUN : Hid (∀ j, j ≤ (dgs b x).length → runL N ((dgs b x).take j) < n) := fun j hj => by
        have := runL_lt hG (dgs b x) j hj (fun i hi => HDD.out i (by omega))
        rw [hL] at this
        exact this
      have HSUC : Hid (∀ j, j < (dgs b x).length → ((runL N ((dgs b x).take (j + 1)) : Nat) : Int) = (N.getD (runL N ((dgs b x).take j)) []).getD ((dgs b x).getD j 0).toNat 0) := fun j hj => by
        rw [runL_take_succ N _ j hj]
        exact (goodN_step hG _ (by rw [hL]; exact HRUN.out j (by omega)) _ (HDD.out j hj)).2
      have HROW : Hid (∀ s, s < n → (N.getD s []).length = (kindsI b).toNat) := fun s hsn => (hG.2.2.2.2.2 s (by omega)).1
      have HSAY : Hid (sayN b N O x = O.getD (runL N ((dgs b x).take (dgs b x).length)) 0) := by show _ = _; rw [List.take_length]; rfl
      have HNO : Hid (no = n) := by show _ = _; omega
      have hn20 : n ≤ 20 := by omega
      clear hC hnl hcn hdig hG hrange hO hL hLo h20
      generalize dgs b x = D at HDG h60 HDD HRUN HSUC HSAY
      generalize sayN b N O x = SV at HSAY ⊢
      generalize (kindsI b).toNat = k at HDD HROW k1 k2 k3
      go_enter Tryd.func52, Tryd.ntmps52
      go_wp2_with fail
      generalize w.alloc (.cells #[.int .i64 b, .slice a n cap, .slice ao no co] 25) = wb at HBX HC0 c0 c1 c2 ⊢
      clear c0 c1 c2
      refine HC0.out.mono ?_
      rintro e wc ⟨rfl, hbc⟩
      have HBC := hide hbc
      obtain ⟨⟨c0, c1, c2⟩, -⟩ := HBX.out wc hbc
      clear hbc
      go_wp2_with fail
      clear c0 c1 c2
      refine (HDG.out wc).mono ?_
      rintro e w1 ⟨ad, cd, rfl, hsd, hb1⟩
      have HSD := hide hsd.1
      have HB1 := hide (below_step HBC.out hb1)
      clear hsd hb1 HDG HBC
      go_wp2_with fail
      go_loopw [9, 29] (fun sv iv wx => ∃ j : Nat, j ≤ D.length ∧ iv = .int .i64 j ∧ sv = .int .i64 ((runL N (D.take j) : Nat) : Int) ∧ Below w1.heap.size w1 wx) (fun _ iv _ => D.length - (intOf iv).toNat)
      case atStart => exact ⟨0, by omega, rfl, rfl, Below.refl _ _⟩
      case round =>
        obtain ⟨j, hj, rfl, rfl, hbr⟩ := hrel
        have HBR := hide hbr
        obtain ⟨⟨c0, c1, c2⟩, hs2, ho2, hbw⟩ := HBX.out wr (below_step HB1.out hbr)
        have HBW := hide hbw
        have hrun := HRUN.out j hj
        have hruni : ((runL N (D.take j) : Nat) : Int) < (n : Int) := by omega
        by_cases hlt : j < D.length
        · have hlti : (j : Int) < (D.length : Int) := by omega
          obtain ⟨bb, o, a1, cc1, rfl, hck, hsl⟩ := sl2_cell hs2 (runL N (D.take j)) hrun
          obtain ⟨bd, od, rfl, hcd⟩ := sl_cell (sl_below HSD.out hbr) j hlt
          have hd := HDD.out j hlt
          have HSU := hide (HSUC.out j hlt)
          have hrl := HROW.out _ hrun
          obtain ⟨dn, hdn⟩ : ∃ dn : Nat, D.getD j 0 = (dn : Int) := ⟨(D.getD j 0).toNat, by omega⟩
          rw [hdn] at hcd hd HSU
          rw [Int.toNat_natCast] at HSU
          rw [hrl] at hck hsl
          have hdk : dn < k := by omega
          have hdki : (dn : Int) < (k : Int) := by omega
          obtain ⟨b1, o1, rfl, hcx⟩ := sl_cell hsl dn hdk
          rw [← HSU.out] at hcx
          clear hs2 ho2 hbw hbr hsl hrl hdn hd
          generalize hR : runL N (D.take j) = R at hck hrun hruni
          clear hR
          go_wp2
          go_roundw
          case rel => exact ⟨j + 1, by omega, by go_num, rfl, HBR.out⟩
          case measure => simp [intOf]; omega
        · have hlti : ¬ (j : Int) < (D.length : Int) := by omega
          have hjd : D.length = j := by omega
          rw [hjd] at HSAY
          obtain ⟨bo, oo, rfl, hco⟩ := sl_cell ho2 (runL N (D.take j)) (by rw [HNO.out]; exact hrun)
          rw [← HSAY.out] at hco
          have hruno : ((runL N (D.take j) : Nat) : Int) < (no : Int) := by rw [HNO.out]; exact hruni
          clear hs2 ho2 hbw hbr HSAY
          generalize hR : runL N (D.take j) = R at hco hrun hruni hruno
          clear hR
          go_wp2
          go_ret2
          exact ⟨by simp, HBW.out⟩
    · have e1 : atF b N O x 1099511627776 = 1 := atF_far hC hx
      have e2 : atV b N O x = 0 := by unfold atV; rw [if_neg (by rw [e1]; decide)]
      rw [e1, e2]
      have hnl : numL b x = [] := by unfold numL; rw [if_neg (fun h => hx h.2)]
      have hcn : codeN b x = 1 := by unfold codeN; rw [if_neg (fun h => hx h.2)]
      rw [hnl, hcn, errV_ne (by decide)] at HDG
      rw [errV_ne (by decide)]
      unfold OfU at HDG
      clear e1 e2 hC hnl hcn hG hrange hO hL hLo h20 hx
      go_enter Tryd.func52, Tryd.ntmps52
      go_wp2_with fail
      generalize w.alloc (.cells #[.int .i64 b, .slice a n cap, .slice ao no co] 25) = wb at HBX HC0 c0 c1 c2 ⊢
      clear c0 c1 c2
      refine HC0.out.mono ?_
      rintro e wc ⟨rfl, hbc⟩
      have HBC := hide hbc
      obtain ⟨⟨c0, c1, c2⟩, -⟩ := HBX.out wc hbc
      clear hbc
      go_wp2_with fail
      clear c0 c1 c2
      refine (HDG.out wc).mono ?_
      rintro e w1 ⟨ad, cd, rfl, -, hb1⟩
      obtain ⟨-, -, -, hbw⟩ := HBX.out w1 (below_step HBC.out hb1)
      have HBW := hide hbw
      clear hb1 HDG HBC hbw
      go_wp2
      go_ret2
      exact ⟨by simp, HBW.out⟩
  · have e1 := atF_bad x 1099511627776 hC
    have e2 : atV b N O x = 0 := by unfold atV; rw [if_neg (by rw [e1]; exact hC)]
    rw [e1, e2]
    rw [errV_ne hC] at HC0 ⊢
    generalize outC b N O = c at HC0 ⊢
    clear e1 e2 hC hL hLo
    go_enter Tryd.func52, Tryd.ntmps52
    go_wp2_with fail
    generalize w.alloc (.cells #[.int .i64 b, .slice a n cap, .slice ao no co] 25) = wb at HBX HC0 c0 c1 c2 ⊢
    clear c0 c1 c2
    refine HC0.out.mono ?_
    rintro e wc ⟨rfl, hbc⟩
    obtain ⟨-, -, -, hbw⟩ := HBX.out wc hbc
    have HBW := hide hbw
    clear hbc hbw
    go_wp2
    go_ret2
    exact ⟨by simp, HBW.out⟩
end Go.Proofs.YtgbmemkoggogdaaDoor
