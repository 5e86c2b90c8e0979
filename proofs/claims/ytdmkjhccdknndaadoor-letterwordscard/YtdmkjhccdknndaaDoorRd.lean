/- The contract of the document's ValueOf. -/
import Derived.Test.YtdmkjhccdknndaaDoorRc
namespace Go.Proofs.YtdmkjhccdknndaaDoor
open Go.RowKit

theorem valueOf_range (b : Int) (a : Option Addr) (len cap : Nat) (w : World) (h : b < 1 ∨ 6 < b) :
    Calls Tryd.prog 13 #[.int .i64 b, .slice a len cap] w fun e w' => e = .returned (.tuple #[.int .i64 0, .int .i64 1]) ∧ w' = w := by
  go_enter Tryd.func13, Tryd.ntmps13
  go_wp2_with (go_at_call 10; refine (fault_range _ _ _ _ _ h).mono ?_; rintro e w' ⟨rfl, rfl⟩)
  go_ret2
  exact ⟨by simp, rfl⟩

theorem valueOf_full (b : Int) (a : Option Addr) (len cap : Nat) (w : World) (h1 : 1 ≤ b) (h2 : b ≤ 6) (h : 60 < len) (hm : len ≤ maxLen) :
    Calls Tryd.prog 13 #[.int .i64 b, .slice a len cap] w fun e w' => e = .returned (.tuple #[.int .i64 0, .int .i64 3]) ∧ w' = w := by
  go_enter Tryd.func13, Tryd.ntmps13
  go_wp2_with (go_at_call 10; refine (fault_full _ _ _ _ _ h1 h2 h hm).mono ?_; rintro e w' ⟨rfl, rfl⟩)
  go_ret2
  exact ⟨by simp, rfl⟩

theorem valueOf_bad (b : Int) (a : Option Addr) (len cap : Nat) (l : List Int) (w : World) (h1 : 1 ≤ b) (h2 : b ≤ 6) (h : len ≤ 60) (hs : Sl w a len l) (hd : digB b l = false) :
    Calls Tryd.prog 13 #[.int .i64 b, .slice a len cap] w fun e w' => e = .returned (.tuple #[.int .i64 0, .int .i64 1]) ∧ w' = w := by
  have hv : fltI b l = 1 := by simp [fltI, hd]
  have hc := hide (fault_ok b a len cap l w h1 h2 h hs)
  rw [hv] at hc
  clear hv hs hd
  go_enter Tryd.func13, Tryd.ntmps13
  go_wp2_with (go_at_call 10; refine hc.out.mono ?_; rintro e w' ⟨rfl, rfl⟩)
  go_ret2
  exact ⟨by simp, rfl⟩

def valR (b : Int) (l : List Int) : Value := if val b l ≤ 1099511627776 then .tuple #[.int .i64 (val b l), .int .i64 0] else .tuple #[.int .i64 0, .int .i64 3]

set_option maxHeartbeats 1000000 in
set_option maxRecDepth 4000 in
theorem valueOf_ok (b : Int) (a : Option Addr) (len cap : Nat) (l : List Int) (w : World) (h1 : 1 ≤ b) (h2 : b ≤ 6) (h : len ≤ 60) (hs : Sl w a len l) (hd : digB b l = true) :
    Calls Tryd.prog 13 #[.int .i64 b, .slice a len cap] w fun e w' => e = .returned (valR b l) ∧ Below w.heap.size w w' := by
  have hv : fltI b l = 0 := by simp [fltI, hd]
  have hc := hide (fault_ok b a len cap l w h1 h2 h hs)
  rw [hv] at hc
  clear hv
  have hh : len ≤ 60 := h
  have HL : Hid (l.length = len) := hs.1
  have HS : Hid (Sl w a len l) := hs
  have HD : Hid (digB b l = true) := hd
  clear hs hd h
  go_enter Tryd.func13, Tryd.ntmps13
  go_wp2_with (go_at_call 10; refine hc.out.mono ?_; rintro e w' ⟨rfl, hw⟩; rw [hw]; clear hw w')
  clear hc
  refine (weights_any b w h1 h2).mono ?_
  rintro e w1 ⟨m, hwts, a1, cap1, rfl, hs1, hb1⟩
  rw [wtL_length] at hs1 ⊢
  have HW := hide hwts
  have HS1 := hide hs1.1
  have HB1 := hide hb1
  have hm60 : m ≤ 60 := hwts.2.1
  clear hwts hs1 hb1
  go_wp2
  go_loop [8, 9] (fun s i => ∃ k : Nat, k ≤ len ∧ i = .int .i64 k ∧ s = .int .i64 (val b (l.drop (len - k))) ∧ val b (l.drop (len - k)) ≤ 1099511627776) (fun _ i => len - (intOf i).toNat)
  case atStart =>
    refine ⟨0, Nat.zero_le _, rfl, ?_, ?_⟩
    · rw [Nat.sub_zero, List.drop_of_length_le (by rw [HL.out]; omega)]; rfl
    · rw [Nat.sub_zero, List.drop_of_length_le (by rw [HL.out]; omega)]; simp [val]
  case round =>
    obtain ⟨k, hk, rfl, rfl, hvb⟩ := hrel
    have hv0 := val_nonneg b h1 h2 _ (digB_drop HD.out (len - k))
    by_cases hlt : k < len
    · have hlti : (k : Int) < (len : Int) := by omega
      have hix0 : (0 : Int) ≤ (len : Int) - 1 - (k : Int) := by omega
      have hix1 : (len : Int) - 1 - (k : Int) < (len : Int) := by omega
      obtain ⟨bb, oo, rfl, hck⟩ := sl_cell (sl_below HS.out HB1.out) (len - 1 - k) (by omega)
      have HV := hide (val_drop_succ b l k (by rw [HL.out]; exact hlt))
      obtain ⟨hx1, hx2⟩ := digB_get h2 HD.out (len - 1 - k) (by rw [HL.out]; omega)
      have HM := hide (val_drop_le b h1 h2 l HD.out (len - (k + 1)))
      have hcb := (cnt_bd b h1 h2 k).1
      rw [HL.out] at HV
      generalize l.getD (len - 1 - k) 0 = x at hck HV hx1 hx2
      generalize hvv : val b (l.drop (len - k)) = v at HV hvb hv0 ⊢
      clear hvv
      by_cases hx : x = 0
      · have hx' : (x == 0) = true := by simp [hx]
        have HN : Hid (val b (l.drop (len - (k + 1))) = v) := by
          show _ = _
          rw [HV.out, hx]; omega
        clear hx HV HM
        go_wp2
        go_round
        case rel => exact ⟨k + 1, by omega, by go_num, by rw [HN.out], by rw [HN.out]; exact hvb⟩
        case measure => simp [intOf]; omega
      · have hx' : (x == 0) = false := by simp [hx]
        have hxp : 1 ≤ x := by omega
        clear hx
        by_cases hkm : k < m
        · have hkmi : ¬ ((m : Int) ≤ (k : Int)) := by omega
          obtain ⟨gb, go, rfl, hcw⟩ := sl_cell HS1.out k hkm
          rw [wtL_get _ _ _ hkm] at hcw
          have hwp := (wt_pos b h1 k).1
          have hwu : wt b k ≤ 1099511627776 * 6 := by
            by_cases e : k = 0
            · subst e; rw [wt_zero]; omega
            · obtain ⟨i, rfl⟩ : ∃ i, k = i + 1 := ⟨k - 1, by omega⟩
              have hi := HW.out.2.2.1 i (by omega)
              have hpi := wt_pos b h1 i
              have hai : wta b i ≤ 1099511627776 := by
                cases i with
                | zero => rw [wta_zero]; omega
                | succ i => rw [wta_succ]; exact HW.out.2.2.1 i (by omega)
              rw [wt_succ]
              split
              · omega
              · have := Int.mul_le_mul hi h2 (by omega) (by omega)
                omega
          have hp0 : 0 ≤ x * wt b k := Int.mul_nonneg (by omega) (by omega)
          have hp1 : x * wt b k ≤ 5 * (1099511627776 * 6) := Int.mul_le_mul hx2 hwu (by omega) (by omega)
          have hp2 : wt b k ≤ x * wt b k := by have := Int.mul_le_mul_of_nonneg_right hxp (show 0 ≤ wt b k by omega); omega
          have hp3 : cnt b k ≤ x * cnt b k := by have := Int.mul_le_mul_of_nonneg_right hxp (show 0 ≤ cnt b k by omega); omega
          by_cases hf : x * wt b k ≤ 1099511627776 - v
          · have hkk : k + 1 < m := by
              by_cases e : k + 1 < m
              · exact e
              · have e' : k = m - 1 := by omega
                have := HW.out.2.2.2
                rw [← e'] at this
                omega
            have HN : Hid (val b (l.drop (len - (k + 1))) = v + x * wt b k) := by
              show _ = _
              rw [HV.out, cnt_eq_wt HW.out k hkk]; omega
            clear HV HM hp3
            generalize wt b k = y at hcw hwp hwu hp0 hp1 hp2 hf HN
            go_wp2
            go_round
            case rel => exact ⟨k + 1, by omega, by go_num, by rw [HN.out], by rw [HN.out]; omega⟩
            case measure => simp [intOf]; omega
          · have HF : Hid (valR b l = .tuple #[.int .i64 0, .int .i64 3]) := by
              show _ = _
              unfold valR
              rw [if_neg]
              have h3 := HV.out
              have h4 := HM.out
              by_cases e : k + 1 < m
              · rw [cnt_eq_wt HW.out k e] at h3; omega
              · rw [cnt_top h1 h2 HW.out k (by omega)] at h3 hp3; omega
            have hf' : 1099511627776 - v < x * wt b k := by omega
            clear HV HM hp3 hf
            generalize wt b k = y at hcw hwp hwu hp0 hp1 hp2 hf'
            go_wp2
            go_ret2
            exact ⟨by rw [HF.out]; simp, HB1.out⟩
        · have hkmi : ((m : Int) ≤ (k : Int)) := by omega
          have HF : Hid (valR b l = .tuple #[.int .i64 0, .int .i64 3]) := by
            show _ = _
            unfold valR
            rw [if_neg]
            have h3 := HV.out
            have h4 := HM.out
            rw [cnt_top h1 h2 HW.out k (by omega)] at h3
            have : 1099511627777 ≤ x * 1099511627777 := by omega
            omega
          clear HV HM
          go_wp2
          go_ret2
          exact ⟨by rw [HF.out]; simp, HB1.out⟩
    · have hlti : ¬ ((k : Int) < (len : Int)) := by omega
      obtain rfl : len = k := by omega
      have HF : Hid (valR b l = .tuple #[.int .i64 (val b (l.drop (len - len))), .int .i64 0]) := by
        show _ = _
        rw [Nat.sub_self, List.drop_zero] at hvb ⊢
        unfold valR
        rw [if_pos hvb]
      generalize val b (l.drop (len - len)) = v at HF hvb hv0 ⊢
      go_wp2
      go_ret2
      exact ⟨by rw [HF.out]; simp, HB1.out⟩
end Go.Proofs.YtdmkjhccdknndaaDoor
