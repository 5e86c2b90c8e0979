/- The walk of the law LetterWords. -/
import Derived.Test.YtdmkjhccdknndaaDoorLr
namespace Go.Proofs.YtdmkjhccdknndaaDoor
open Go.RowKit

/-- What e is behind k tracks. -/
def NwE (b : Int) (n : Nat) (l : List Int) (k : Nat) (c : Int) : Prop := (c = 0 → ∀ j, j < k → codeV b (trackL b n l j) = 0) ∧ (c ≠ 0 → c = firstC (numC b n l))
theorem nwE_step {b : Int} {n : Nat} {l : List Int} {k : Nat} (h : NwE b n l k 0) (hk : k < n) : NwE b n l (k + 1) (codeV b (trackL b n l k)) := by
  refine ⟨fun hc j hj => ?_, fun hc => ?_⟩
  · by_cases e : j = k
    · subst e; exact hc
    · exact h.1 rfl j (by omega)
  · rw [firstC_pre (numC b n l) k (fun j hj => by rw [numC_get _ _ _ _ (by omega)]; exact h.1 rfl j hj) (by rw [numC_length]; exact hk) (by rw [numC_get _ _ _ _ hk]; exact hc), numC_get _ _ _ _ hk]
theorem nwE_end {b : Int} {n : Nat} {l : List Int} {c : Int} (h : NwE b n l n c) : c = firstC (numC b n l) := by
  by_cases hc : c = 0
  · rw [hc]
    exact (firstC_all _ fun j hj => by rw [numC_length] at hj; rw [numC_get _ _ _ _ hj]; exact h.1 hc j hj).symm
  · exact h.2 hc
theorem numsL_take_succ (b : Int) (n : Nat) (l : List Int) (k : Nat) (hk : k < n) : (numsL b n l).take (k + 1) = (numsL b n l).take k ++ [valU b (trackL b n l k)] := by
  rw [List.take_succ_eq_append_getElem (by rw [numsL_length]; exact hk)]
  congr 2
  simp [numsL]
theorem numsL_wf (b : Int) (n : Nat) (l : List Int) : ∀ x ∈ numsL b n l, (Lit.int .i64 x).wf = true := by
  intro x hx
  simp only [numsL, List.mem_map, List.mem_range] at hx
  obtain ⟨i, _, rfl⟩ := hx
  have := valU_bd b (trackL b n l i)
  exact Go.WalkArith.wf_i64 (by omega)

set_option maxHeartbeats 4000000 in
set_option maxRecDepth 4000 in
theorem words_any (b : Int) (a : Option Addr) (len cap : Nat) (nums : List Int) (t : Int) (a' : Option Addr) (len' cap' : Nat) (l : List Int) (w : World) (hs : Sl w a len nums) (hs' : Sl w a' len' l) (hg : Handle w) :
    Calls Tryd.prog 5 #[.int .i64 b, .slice a len cap, .int .i64 t, .slice a' len' cap'] w fun e w' => e = .returned (.bool true) ∧ Below w.heap.size w w' := by
  obtain ⟨i0, hi0, hz0, hz1, hz2⟩ := info_parts info3
  have HS := hide hs
  have HS' := hide hs'
  have HG := hide hg
  have HES := hide (fun c W (h : Handle W) => error_same c W h)
  have HWU := hide (fun W h => word_u b a len cap nums W h)
  have HWR := hide (fun W h => wordOf_u b a len cap nums W h)
  unfold WordU at HWU
  unfold WdR at HWR
  have HFU := hide (fun W h => wfault_u b t a' len' cap' l W h)
  have HRU := hide (fun W h => wright_u b t a' len' cap' l W h)
  have HNU := hide (fun W h => nums_u b t a' len' cap' l W h)
  unfold NumsU at HNU
  clear hs hs' hg
  generalize codeWd b nums = cW at HWU HWR
  generalize (if cW = 0 then wordL b nums else []) = WD at HWU HWR
  go_enter Tryd.func5, Tryd.ntmps5
  go_wp2_with fail
  refine (HWU.out w HS.out).mono ?_
  rintro e w1 ⟨a1, cap1, rfl, ⟨hs1, -⟩, hb1⟩
  have HB1 := hide hb1
  have HS1 := hide hs1
  clear hs1 hb1
  go_wp2_with fail
  refine (HWR.out w1 (sl_below HS.out HB1.out)).mono ?_
  rintro e w2 ⟨a2, cap2, rfl, ⟨hs2, -⟩, hb2⟩
  have HB2 := hide (below_step HB1.out hb2)
  have HS2 := hide hs2
  have HS12 := hide (sl_below HS1.out hb2)
  clear hs2 hb2 HS1 HB1
  go_wp2_with fail
  refine (HES.out cW w2 (HG.out.below HB2.out)).mono ?_
  rintro e w3 ⟨rfl, hb3⟩
  have HB3 := hide (below_step HB2.out hb3)
  have HS13 := hide (sl_below HS12.out hb3)
  have HS23 := hide (sl_below HS2.out hb3)
  clear hb3 HB2 HS12 HS2
  go_wp2_with fail
  refine (ints_eq _ _ _ _ _ _ _ HS13.out HS23.out).mono ?_
  rintro e w4 ⟨rfl, hb4⟩
  have HB4 := hide (below_step HB3.out hb4)
  clear hb4 HB3 HS13 HS23 HWU HWR
  generalize WD.length = nW
  go_wp2_with fail
  refine (HFU.out w4 (sl_below HS'.out HB4.out)).mono ?_
  rintro e w' ⟨rfl, hw⟩
  rw [hw]
  clear hw w' HFU
  by_cases hc : codeW b t l = 0
  · obtain ⟨h1, h2, h3, h4, _, _⟩ := codeM_zero (codeW_zero hc).1
    obtain ⟨n, rfl⟩ : ∃ n : Nat, t = n := ⟨t.toNat, by omega⟩
    have hn : n ≤ 5 := by omega
    have HRWD := hide (fun W h => rightWord_any b n a' len' cap' l W hc h)
    have HTO := hide (fun i W hi h => trackOf_any b n a' len' cap' l i W hc hi h)
    have HST := hide (fun k => @nwE_step b n l k)
    have HEN := hide (fun c => @nwE_end b n l c)
    have HTS := hide (numsL_take_succ b n l)
    have HWF := hide (numsL_wf b n l)
    have HNLL := hide (numsL_length b n l)
    have HNMC : Hid (codeNm b n l = firstC (numC b n l)) := by show _ = _; unfold codeNm; rw [if_pos hc, Int.toNat_natCast]
    rw [HNMC.out, Int.toNat_natCast] at HNU
    have HNW : Hid (∀ k c, NwE b n l k c → c ≠ 0 → c = firstC (numC b n l)) := fun k c h => h.2
    rw [hc] at HRU ⊢
    simp only [decide_true, Bool.true_and] at HRU
    have HVO := hide (fun i W a1 len1 cap1 h => valueOf_u b a1 len1 cap1 (trackL b n l i) W h)
    clear hc HNMC
    generalize rightW b n l = RR at HRU HRWD
    generalize firstC (numC b n l) = cN at HNU HEN HNW
    have HNL0 : Hid (cN = 0 → (if cN = 0 then numsL b n l else []) = numsL b n l) := fun h => if_pos h
    have HNL1 : Hid (cN ≠ 0 → (if cN = 0 then numsL b n l else []) = []) := fun h => if_neg h
    generalize (if cN = 0 then numsL b n l else []) = OUT at HNU HNL0 HNL1
    go_wp2_with fail
    refine (HRU.out w4 (sl_below HS'.out HB4.out)).mono ?_
    rintro e w5 ⟨rfl, hb5⟩
    have HB5 := hide (below_step HB4.out hb5)
    clear hb5 HB4 HRU
    go_wp2_with fail
    refine (HES.out 0 w5 (HG.out.below HB5.out)).mono ?_
    rintro e w6 ⟨rfl, hb6⟩
    have HB6 := hide (below_step HB5.out hb6)
    clear hb6 HB5
    go_wp2_with fail
    refine (HRWD.out w6 (sl_below HS'.out HB6.out)).mono ?_
    rintro e w7 ⟨rfl, hb7⟩
    have HB7 := hide (below_step HB6.out hb7)
    clear hb7 HB6 HRWD
    have hRR : (RR != RR) = false := by simp
    go_wp2
    go_loopw [12, 16, 17] (fun s v i wx => ∃ (k : Nat) (c : Int), k ≤ n ∧ i = .int .i64 k ∧ s = .int .i64 c ∧ NwE b n l k c ∧ Grow w7 ((numsL b n l).take k) v wx) (fun _ _ i _ => n - (intOf i).toNat)
    case atStart => exact ⟨0, 0, by omega, rfl, rfl, ⟨fun _ j hj => by omega, fun h => absurd rfl h⟩, grow_nil w7⟩
    case round =>
      obtain ⟨k, c, hk, rfl, rfl, hne, hgr⟩ := hrel
      have HNE := hide hne
      have HGR := hide hgr
      have HBW := hide (below_step HB7.out hgr.2)
      clear hne hgr
      by_cases hgo : k < n ∧ c = 0
      · obtain ⟨hlt, rfl⟩ := hgo
        have hlti : (k : Int) < (n : Int) := by omega
        have HTK := hide (HTO.out k wr hlt (sl_below HS'.out HBW.out))
        have HNS := hide (HST.out k HNE.out hlt)
        have HTS' := hide (HTS.out k hlt)
        have HVK := hide (HVO.out k)
        have HXL : Hid (((numsL b n l).take k).length = k) := by show _ = _; rw [List.length_take, HNLL.out]; omega
        generalize codeV b (trackL b n l k) = cv at HNS HVK
        generalize valU b (trackL b n l k) = v at HTS' HVK
        generalize trackL b n l k = T at HTK HVK
        generalize (numsL b n l).take k = xs at HGR HTS' HXL
        go_wp2_with fail
        refine HTK.out.mono ?_
        rintro e w8 ⟨a8, cap8, rfl, ⟨hs8, -⟩, hb8⟩
        have HG8 := hide (grow_below HGR.out hb8)
        have HVK' := hide (HVK.out w8 a8 _ cap8 hs8)
        clear hs8 hb8 HTK HVK
        generalize T.length = m at HVK' ⊢
        go_wp2_with fail
        refine HVK'.out.mono ?_
        rintro e w9 ⟨rfl, hb9⟩
        have HG9 := hide (grow_below HG8.out hb9)
        have HOWN := hide HG9.out.1
        rw [HXL.out] at HOWN
        have HSZ := hide (grow_size HG9.out)
        clear hb9 HVK' HG8
        go_wp2_with (at_builtin; refine wpList_append_own _ rfl _ _ 22 rfl w7.heap.size 3 i0 (.int .i64 0) 1 8 Tryd.underlying22 hi0 hz0 hz1 hz2 rfl (by decide) _ k (xs.map (Value.int .i64)) rfl (HOWN.out.alloc _) ⟨w9.heap.size, 0, none⟩ 1 1 [.int .i64 v] rfl rfl (one_new _ _ _) (fun u hu => by simp at hu; subst hu; rfl) (by unfold maxLen; omega) (by omega) (by have := HSZ.out; simp; omega) ?_; intro v' w10 hown hgrow hnil)
        go_roundw
        case rel =>
          rw [← HXL.out] at hown
          exact ⟨k + 1, cv, by omega, by go_num, rfl, HNS.out, by rw [HTS'.out]; exact grow_push HG9.out hown hgrow⟩
        case measure => simp [intOf]; omega
      · have HCE : Hid (c = cN ∧ (c = 0 → k = n)) := by
          by_cases hc0 : c = 0
          · obtain rfl : k = n := by omega
            exact ⟨HEN.out c HNE.out, fun _ => rfl⟩
          · exact ⟨HNW.out k c HNE.out hc0, fun h => absurd h hc0⟩
        have hstop : ¬ ((k : Int) < (n : Int)) ∨ ((k : Int) < (n : Int) ∧ (c == 0) = false) := by
          by_cases e : k < n
          · exact Or.inr ⟨by omega, by simpa using fun h => hgo ⟨e, h⟩⟩
          · exact Or.inl (by omega)
        obtain ⟨hce, hkn⟩ := HCE.out
        subst hce
        clear hgo HCE HNE HST HEN HTS HNW HTO HVO
        by_cases hc : c = 0
        · obtain rfl := hkn hc
          have HO := hide (HNL0.out hc)
          subst hc
          have HALL : Hid ((numsL b k l).take k = numsL b k l) := List.take_of_length_le (by rw [HNLL.out]; omega)
          rw [HALL.out, ← HO.out] at HGR
          rw [← HO.out] at HWF HNLL
          clear HO HALL HNL0 HNL1
          obtain ⟨a16, cap16, hu16, hs16⟩ := sl_of_owns rfl (by rw [HNLL.out]; unfold maxLen; omega) HWF.out HGR.out.1
          subst hu16
          have HS16 := hide hs16.1
          clear hs16
          rcases hstop with hst | ⟨_, hst⟩
          · go_wp2_with fail
            refine (HNU.out wr (sl_below HS'.out HBW.out)).mono ?_
            rintro e w8 ⟨a8, cap8, rfl, ⟨hs8, -⟩, hb8⟩
            have HB8 := hide (below_step HBW.out hb8)
            have HS8 := hide hs8
            have HS168 := hide (sl_below HS16.out hb8)
            clear hs8 hb8 HNU HS16
            rw [errV_zero]
            have HE0 := hide (fun W h => HES.out 0 W h)
            rw [errV_zero] at HE0
            go_wp2_with fail
            refine (HE0.out w8 (HG.out.below HB8.out)).mono ?_
            rintro e w9 ⟨rfl, hb9⟩
            have HB9 := hide (below_step HB8.out hb9)
            have HS89 := hide (sl_below HS8.out hb9)
            have HS169 := hide (sl_below HS168.out hb9)
            clear hb9 HB8 HS8 HS168
            go_wp2_with fail
            refine (ints_eq _ _ _ _ _ _ _ HS89.out HS169.out).mono ?_
            rintro e w10 ⟨rfl, hb10⟩
            have HB10 := hide (below_step HB9.out hb10)
            clear hb10 HB9 HS89 HS169
            go_wp2
            go_ret
            exact ⟨by simp, HB10.out⟩
          · simp at hst
        · have HO := hide (HNL1.out hc)
          rw [HO.out] at HNU
          have hc' : (c != 0) = true := by simpa using hc
          have hc2 : (c == 0) = false := by simpa using hc
          have HE0 := hide (fun W h => HES.out c W h)
          clear HO HNL0 HNL1 hkn hc
          rcases hstop with hst | ⟨hst1, hst⟩
          all_goals
            go_wp2_with fail
            refine (HNU.out wr (sl_below HS'.out HBW.out)).mono ?_
            rintro e w8 ⟨a8, cap8, rfl, ⟨hs8, -⟩, hb8⟩
            have HB8 := hide (below_step HBW.out hb8)
            have HS8 := hide hs8
            clear hs8 hb8 HNU
            go_wp2_with fail
            refine (HE0.out w8 (HG.out.below HB8.out)).mono ?_
            rintro e w9 ⟨rfl, hb9⟩
            have HB9 := hide (below_step HB8.out hb9)
            have HS89 := hide (sl_below HS8.out hb9)
            clear hb9 HB8 HS8
            go_wp2_with fail
            refine (ints_eq _ _ _ _ _ _ _ HS89.out (sl_nil w9)).mono ?_
            rintro e w10 ⟨rfl, hb10⟩
            have HB10 := hide (below_step HB9.out hb10)
            clear hb10 HB9 HS89
            go_wp2
            go_ret
            exact ⟨by simp, HB10.out⟩
  · have HNMC : Hid (codeNm b t l = codeW b t l) := by show _ = _; unfold codeNm; rw [if_neg hc]
    rw [HNMC.out, if_neg hc] at HNU
    have HE0 := hide (fun W h => HES.out (codeW b t l) W h)
    rw [decide_eq_false hc] at HRU
    simp only [Bool.false_and] at HRU
    have hc' : (codeW b t l != 0) = true := by simpa using hc
    have hc2 : (codeW b t l == 0) = false := by simpa using hc
    clear HNMC hc
    generalize codeW b t l = c at HRU HNU HE0 hc' hc2 ⊢
    go_wp2_with fail
    refine (HRU.out w4 (sl_below HS'.out HB4.out)).mono ?_
    rintro e w5 ⟨rfl, hb5⟩
    have HB5 := hide (below_step HB4.out hb5)
    clear hb5 HB4 HRU
    go_wp2_with fail
    refine (HE0.out w5 (HG.out.below HB5.out)).mono ?_
    rintro e w6 ⟨rfl, hb6⟩
    have HB6 := hide (below_step HB5.out hb6)
    clear hb6 HB5
    go_wp2
    go_loop [12, 16, 17] (fun s v i => s = .int .i64 c ∧ v = .slice none 0 0 ∧ i = .int .i64 0) (fun _ _ _ => 0)
    case atStart => exact ⟨rfl, rfl, rfl⟩
    case round =>
      obtain ⟨rfl, rfl, rfl⟩ := hrel
      have htt : ¬ ((0 : Int) < t) ∨ (0 : Int) < t := by omega
      rcases htt with ht | ht
      all_goals
        go_wp2_with fail
        refine (HNU.out w6 (sl_below HS'.out HB6.out)).mono ?_
        rintro e w8 ⟨a8, cap8, rfl, ⟨hs8, -⟩, hb8⟩
        have HB8 := hide (below_step HB6.out hb8)
        have HS8 := hide hs8
        clear hs8 hb8 HNU
        go_wp2_with fail
        refine (HE0.out w8 (HG.out.below HB8.out)).mono ?_
        rintro e w9 ⟨rfl, hb9⟩
        have HB9 := hide (below_step HB8.out hb9)
        have HS89 := hide (sl_below HS8.out hb9)
        clear hb9 HB8 HS8
        go_wp2_with fail
        refine (ints_eq _ _ _ _ _ _ _ HS89.out (sl_nil w9)).mono ?_
        rintro e w10 ⟨rfl, hb10⟩
        have HB10 := hide (below_step HB9.out hb10)
        clear hb10 HB9 HS89
        go_wp2
        go_ret
        exact ⟨by simp, HB10.out⟩
end Go.Proofs.YtdmkjhccdknndaaDoor
