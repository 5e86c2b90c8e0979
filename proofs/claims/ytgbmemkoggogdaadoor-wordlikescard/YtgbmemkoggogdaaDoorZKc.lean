/- 2 texts in one. -/
import Derived.Deep.RegionHeldLaw
import Derived.Deep.RegionLaw
import Derived.Deep.RegionWith
import Derived.Laws.AppendOwnNone
import Derived.Maps.AppendAt
import Derived.Test.YtgbmemkoggogdaaDoorZNx
import Derived.Test.YtgbmemkoggogdaaDoorZAt
import Derived.Test.YtgbmemkoggogdaaDoorBp
import Derived.Test.YtgbmemkoggogdaaDoorBt
import Derived.Test.YtgbmemkoggogdaaDoorZCf
import Derived.Test.YtgbmemkoggogdaaDoorCi
import Derived.Test.YtgbmemkoggogdaaDoorZDb
import Derived.Test.YtgbmemkoggogdaaDoorZE
import Derived.Test.YtgbmemkoggogdaaDoorEa
import Derived.Test.YtgbmemkoggogdaaDoorG
import Derived.Test.YtgbmemkoggogdaaDoorZMp
import Derived.Test.YtgbmemkoggogdaaDoorZGc
import Derived.Test.YtgbmemkoggogdaaDoorZKa
import Derived.Test.YtgbmemkoggogdaaDoorZLp
import Derived.Test.YtgbmemkoggogdaaDoorDd
/- The reference's AllOf: contract. -/
namespace Go.Proofs.YtgbmemkoggogdaaDoor
open Go.RowKit

def hitK (b : Int) (tr : Nat) (x y : Int) (k : Nat) : Bool := (List.range k).any fun k => decide (b = 1) && decide (dOf b tr x k = 1) && decide (dOf b tr y k = 1)
theorem hitK_zero (b : Int) (tr : Nat) (x y : Int) : hitK b tr x y 0 = false := rfl
theorem hitK_next (b : Int) (tr : Nat) (x y : Int) (k : Nat) : hitK b tr x y (k + 1) = (hitK b tr x y k || (decide (b = 1) && decide (dOf b tr x k = 1) && decide (dOf b tr y k = 1))) := by
  unfold hitK
  rw [List.range_succ, List.any_append]
  simp
/-- Where letter l leads from state s, as far as k tracks tell. -/
def arK (b : Int) (tr m s l k : Nat) : Nat := if 0 < s ∧ s ≤ m ∧ hitK b tr ((s : Int) - 1) (l : Int) k = true then m + 1 else l + 1
theorem arK_zero (b : Int) (tr m s l : Nat) : arK b tr m s l 0 = l + 1 := by unfold arK; rw [if_neg (by simp [hitK_zero])]
theorem arK_end {b : Int} {tr m s l : Nat} (hs : s < m + 2) : (if s = m + 1 then m + 1 else arK b tr m s l tr) = arT b tr m s l := by
  unfold arK arT
  by_cases h : s = m + 1
  · rw [if_pos h, if_pos h]
  · rw [if_neg h, if_neg h]
    have e : hitK b tr ((s : Int) - 1) (l : Int) tr = hitB b tr ((s : Int) - 1) (l : Int) := rfl
    rw [e]
    by_cases h2 : 0 < s ∧ hitB b tr ((s : Int) - 1) (l : Int) = true
    · rw [if_pos h2, if_pos ⟨h2.1, by omega, h2.2⟩]
    · rw [if_neg h2, if_neg (fun h3 => h2 ⟨h3.1, h3.2.2⟩)]
theorem arK_same {b : Int} {tr m s l k : Nat} (h : ¬ (b = 1 ∧ 0 < s ∧ s ≤ m ∧ dOf b tr ((s : Int) - 1) k = 1 ∧ dOf b tr (l : Int) k = 1)) : arK b tr m s l (k + 1) = arK b tr m s l k := by
  unfold arK
  rw [hitK_next]
  by_cases h0 : 0 < s ∧ s ≤ m
  · have hf : (decide (b = 1) && decide (dOf b tr ((s : Int) - 1) k = 1) && decide (dOf b tr (l : Int) k = 1)) = false := by
      rw [Bool.eq_false_iff]
      intro h1
      simp only [Bool.and_eq_true, decide_eq_true_eq] at h1
      exact h ⟨h1.1.1, h0.1, h0.2, h1.1.2, h1.2⟩
    rw [hf, Bool.or_false]
  · rw [if_neg (fun h1 => h0 ⟨h1.1, h1.2.1⟩), if_neg (fun h1 => h0 ⟨h1.1, h1.2.1⟩)]
theorem arK_hit {b : Int} {tr m s l k : Nat} (h : b = 1 ∧ 0 < s ∧ s ≤ m ∧ dOf b tr ((s : Int) - 1) k = 1 ∧ dOf b tr (l : Int) k = 1) : arK b tr m s l (k + 1) = m + 1 := by
  unfold arK
  rw [hitK_next, if_pos ⟨h.2.1, h.2.2.1, by rw [Bool.or_eq_true, Bool.and_eq_true, Bool.and_eq_true, decide_eq_true_iff, decide_eq_true_iff, decide_eq_true_iff]; exact .inr ⟨⟨h.1, h.2.2.2.1⟩, h.2.2.2.2⟩⟩]

set_option maxHeartbeats 16000000 in
set_option maxRecDepth 8000 in
theorem allOf_any (b : Int) (tr : Nat) (w : World) (hM : codeM b (tr : Int) = 0) : Calls Tryd.prog 32 #[.int .i64 b, .int .i64 (tr : Int)] w (GivesAuto w b (tr : Int) (alN b (tr : Int)) (alE b (tr : Int))) := by
  obtain ⟨m1, m36⟩ := manyU_bd hM
  obtain ⟨h1, h2, h3, h4, h5, h6⟩ := codeM_zero hM
  have htr5 : tr ≤ 5 := by omega
  have hG := ar_good b tr m1 m36
  have hK := leastK_80 hG (arE (manyU b (tr : Int)).toNat) (by omega)
  have eN : alN b (tr : Int) = leastN (arN b tr (manyU b (tr : Int)).toNat) (arE (manyU b (tr : Int)).toNat) (manyU b (tr : Int)).toNat := by unfold alN; rw [if_pos hM, Int.toNat_natCast]
  have eE : alE b (tr : Int) = leastE (arN b tr (manyU b (tr : Int)).toNat) (arE (manyU b (tr : Int)).toNat) (manyU b (tr : Int)).toNat := by unfold alE; rw [if_pos hM, Int.toNat_natCast]
  have HLT := hide (fun W => letters_u b (tr : Int) W)
  obtain ⟨m, hm⟩ : ∃ m : Nat, m = (manyU b (tr : Int)).toNat := ⟨_, rfl⟩
  have hmI : manyU b (tr : Int) = (m : Int) := by omega
  rw [← hm] at m1 m36 hG hK eN eE
  rw [hmI, hM] at HLT
  have HSHR := hide (fun an cn an' cn' W k1 k3 => shrunk_u b (tr : Int) an (m + 2) cn m (arN b tr m) an' cn' (arE m) W k1 hG k3)
  unfold ShrR ShrU at HSHR
  rw [← eN, ← eE] at HSHR
  have HKK := hide hK
  have HDO := hide (fun l i W h7 h8 h9 => digitOf_any b tr l i W h1 h2 htr5 h7 h8 h9)
  have HCELL : Hid (∀ s l, s < m + 2 → l < m → ((arN b tr m).getD s []).getD l 0 = ((if s = m + 1 then m + 1 else arK b tr m s l tr : Nat) : Int)) := fun s l hs hl => by rw [arN_cell hs hl, arK_end hs]
  have HROWL : Hid (∀ s, s < m + 2 → ((arN b tr m).getD s []).length = m) := fun s hs => (hG.2.2.2.2.2 s hs).1
  have HROWV : Hid (∀ s, s < m + 2 → ∀ j, j < m → 0 ≤ ((arN b tr m).getD s []).getD j 0 ∧ ((arN b tr m).getD s []).getD j 0 < ((m + 2 : Nat) : Int)) := fun s hs => (hG.2.2.2.2.2 s hs).2
  have HEC : Hid (∀ s, s < m + 2 → (arE m).getD s false = decide (s ≤ m)) := fun s hs => arE_get hs
  have HLN := hide (arN_len b tr m)
  have HLE := hide (arE_len m)
  have HKS := hide (fun s l k h => @arK_same b tr m s l k h)
  have HKH := hide (fun s l k h => @arK_hit b tr m s l k h)
  have HKZ := hide (fun s l => arK_zero b tr m s l)
  unfold GivesAuto
  generalize alN b (tr : Int) = ZN at HSHR ⊢
  generalize alE b (tr : Int) = ZE at HSHR ⊢
  generalize arN b tr m = PN at HSHR HCELL HROWL HROWV HLN HKK
  generalize arE m = PE at HSHR HEC HLE HKK
  clear hG hK eN eE hmI hm hM h5 h6
  have HB1 := hide ((Below.refl w.heap.size w).alloc (Nat.le_refl _) (.cells #[.int .i64 0, .int .i64 0, .slice none 0 0, .slice none 0 0] 30))
  have HX1 := hide (heap_alloc_last w (.cells #[.int .i64 0, .int .i64 0, .slice none 0 0, .slice none 0 0] 30))
  generalize hW1 : w.alloc (.cells #[.int .i64 0, .int .i64 0, .slice none 0 0, .slice none 0 0] 30) = w1 at HB1 HX1
  obtain ⟨i0, hi0, hz0, hz1, hz2⟩ := info_parts info3
  obtain ⟨j0, hj0, hy0, hy1, hy2⟩ := info_parts infoS2
  obtain ⟨l0, hl0, hv0, hv1, hv2⟩ := info_parts infoBo
  have HP0 := hide (prAt_start w1 (fun s => PN.getD s []) (fun s => PE.getD s false))
  go_enter Tryd.func32, Tryd.ntmps32
  go_wp2_with (go_at_call 13; refine (HLT.out _).mono ?_; rintro e w' ⟨rfl, hw'⟩; obtain rfl := hw'.symm)
  clear hW1
  go_loopw [7, 8, 9] (fun vN vE sv wx => ∃ s : Nat, s ≤ m + 2 ∧ sv = .int .i64 s ∧ PrAt w1 (fun s => PN.getD s []) (fun s => PE.getD s false) s s vN vE wx) (fun _ _ sv _ => m + 2 - (intOf sv).toNat)
  case atStart => exact ⟨0, by omega, rfl, HP0.out⟩
  case round =>
    obtain ⟨s, hs, rfl, hpr⟩ := hrel
    have HPR := hide hpr
    have HBW : Hid (Below w1.heap.size w1 wr) := by obtain ⟨_, _, _, _, h⟩ := hpr; exact h
    clear hpr HP0
    by_cases hlt : s < m + 2
    · have hlti : (s : Int) < (m : Int) + 2 := by omega
      obtain ⟨row, hrow⟩ : ∃ row, row = PN.getD s [] := ⟨_, rfl⟩
      have HRL := hide (HROWL.out s hlt)
      have HRV := hide (HROWV.out s hlt)
      have HCV := hide (fun l h => HCELL.out s l hlt h)
      rw [← hrow] at HRL HRV HCV
      have HROW := hide hrow
      have HG0 : Hid (GrowR wr (row.take 0) (.slice none 0 0) wr) := ⟨World.ownsRow_nil _ _ _ _, Below.refl _ _⟩
      clear hrow
      go_wp2
      obtain ⟨wq, hwq⟩ : ∃ wq : World, wq = wr := ⟨_, rfl⟩
      rw [← hwq] at HPR HBW HG0 ⊢
      clear hwq wr
      go_loopw [10, 11] (fun v lv wx => ∃ l : Nat, l ≤ m ∧ lv = .int .i64 l ∧ GrowR wq (row.take l) v wx) (fun _ lv _ => m - (intOf lv).toNat)
      case atStart => exact ⟨0, by omega, rfl, HG0.out⟩
      case round =>
        obtain ⟨l, hl, rfl, hgr⟩ := hrel
        have HGR := hide hgr
        clear hgr
        by_cases hlm : l < m
        · have hlmi : (l : Int) < (m : Int) := by omega
          have HV := hide (HCV.out l hlm)
          have HTS : Hid (row.take (l + 1) = row.take l ++ [row.getD l 0]) := by show _ = _; rw [List.take_succ_eq_append_getElem (by have := HRL.out; omega), getD_at _ l (by have := HRL.out; omega)]
          have HTL : Hid ((row.take l).length = l) := by show _ = _; rw [List.length_take]; have := HRL.out; omega
          have HOWN := hide HGR.out.1
          rw [HTL.out] at HOWN
          have HSZ := hide HGR.out.2.size
          have HKSl := hide (fun k h => HKS.out s l k h)
          have HKHl := hide (fun k h => HKH.out s l k h)
          have HKZl := hide (HKZ.out s l)
          obtain ⟨tt, htt⟩ : ∃ tt : Nat → Nat, tt = arK b tr m s l := ⟨_, rfl⟩
          rw [← htt] at HV HKSl HKHl HKZl
          clear htt
          go_wp2
          obtain ⟨wl, hwl⟩ : ∃ wl : World, wl = wr := ⟨_, rfl⟩
          rw [← hwl] at HGR HOWN HSZ ⊢
          clear hwl wr
          go_loopw [12, 13] (fun tv kv wx => ∃ k : Nat, k ≤ tr ∧ kv = .int .i64 k ∧ tv = .int .i64 (tt k : Int) ∧ wx = wl) (fun _ kv _ => tr - (intOf kv).toNat)
          case atStart => exact ⟨0, by omega, rfl, by rw [HKZl.out]; simp, rfl⟩
          case round =>
            obtain ⟨k, hk, rfl, rfl, hwx⟩ := hrel
            subst hwx
            by_cases hkt : k < tr
            · have hkti : (k : Int) < (tr : Int) := by omega
              have HSk := hide (HKSl.out k)
              have HHk := hide (HKHl.out k)
              by_cases hall : b = 1 ∧ 0 < s ∧ s ≤ m
              · obtain ⟨hb1, hs0, hsm⟩ := hall
                have hbi : (b == 1) = true := by simp [hb1]
                have hs0i : (s : Int) > 0 := by omega
                have hsmi : (s : Int) ≤ (m : Int) := by omega
                have HD1 := hide (HDO.out ((s : Int) - 1) k wr hkt (by omega) (by omega))
                have HD2 := hide (HDO.out (l : Int) k wr hkt (by omega) (by omega))
                by_cases hd1 : dOf b tr ((s : Int) - 1) k = 1
                · by_cases hd2 : dOf b tr (l : Int) k = 1
                  · have HT := hide (HHk.out ⟨hb1, hs0, hsm, hd1, hd2⟩)
                    rw [hd1] at HD1
                    rw [hd2] at HD2
                    clear hd1 hd2 hb1 HSk HHk
                    go_wp2_with fail
                    refine HD1.out.mono ?_
                    rintro e w' ⟨rfl, hw'⟩
                    rw [hw']
                    clear hw' w'
                    go_wp2_with fail
                    refine HD2.out.mono ?_
                    rintro e w' ⟨rfl, hw'⟩
                    rw [hw']
                    clear hw' w'
                    go_wp2
                    go_roundw
                    case rel => exact ⟨k + 1, by omega, by go_num, by rw [HT.out]; simp, by first | rfl | trivial⟩
                    case measure => simp [intOf]; omega
                  · have HT := hide (HSk.out (fun h => hd2 h.2.2.2.2))
                    have hd2i : (dOf b tr (l : Int) k == 1) = false := by simpa using hd2
                    rw [hd1] at HD1
                    generalize dOf b tr (l : Int) k = d2 at HD2 hd2i
                    clear hd1 hd2 hb1 HSk HHk
                    go_wp2_with fail
                    refine HD1.out.mono ?_
                    rintro e w' ⟨rfl, hw'⟩
                    rw [hw']
                    clear hw' w'
                    go_wp2_with fail
                    refine HD2.out.mono ?_
                    rintro e w' ⟨rfl, hw'⟩
                    rw [hw']
                    clear hw' w'
                    go_wp2
                    go_roundw
                    case rel => exact ⟨k + 1, by omega, by go_num, by rw [HT.out], by first | rfl | trivial⟩
                    case measure => simp [intOf]; omega
                · have HT := hide (HSk.out (fun h => hd1 h.2.2.2.1))
                  have hd1i : (dOf b tr ((s : Int) - 1) k == 1) = false := by simpa using hd1
                  generalize dOf b tr ((s : Int) - 1) k = d1 at HD1 hd1i
                  clear hd1 hb1 HSk HHk HD2
                  go_wp2_with fail
                  refine HD1.out.mono ?_
                  rintro e w' ⟨rfl, hw'⟩
                  rw [hw']
                  clear hw' w'
                  go_wp2
                  go_roundw
                  case rel => exact ⟨k + 1, by omega, by go_num, by rw [HT.out], by first | rfl | trivial⟩
                  case measure => simp [intOf]; omega
              · have HT := hide (HSk.out (fun h => hall ⟨h.1, h.2.1, h.2.2.1⟩))
                have hway : (b == 1) = false ∨ ((b == 1) = true ∧ ¬ (s : Int) > 0) ∨ ((b == 1) = true ∧ (s : Int) > 0 ∧ ¬ (s : Int) ≤ (m : Int)) := by
                  by_cases hb1 : b = 1
                  · by_cases hs0 : 0 < s
                    · exact .inr (.inr ⟨by simp [hb1], by omega, fun h => hall ⟨hb1, hs0, by omega⟩⟩)
                    · exact .inr (.inl ⟨by simp [hb1], by omega⟩)
                  · exact .inl (by simpa using hb1)
                clear hall HSk HHk
                rcases hway with hw1 | ⟨hw1, hw2⟩ | ⟨hw1, hw2, hw3⟩
                all_goals
                  go_wp2
                  go_roundw
                  case rel => exact ⟨k + 1, by omega, by go_num, by rw [HT.out], by first | rfl | trivial⟩
                  case measure => simp [intOf]; omega
            · have hkti : ¬ (k : Int) < (tr : Int) := by omega
              obtain rfl : k = tr := by omega
              have HTN : Hid ((tt k : Nat) = tt k) := rfl
              by_cases hsm : s = m + 1
              · have hsi : ((s : Int) == (m : Int) + 1) = true := by simp; omega
                rw [if_pos hsm] at HV
                have HV2 : Hid (row.getD l 0 = (m : Int) + 1) := by show _ = _; rw [HV.out]; simp
                clear HKSl HKHl HKZl hsm
                go_wp2_with (at_builtin; refine wpList_append_own _ rfl _ _ 23 rfl wq.heap.size 3 i0 (.int .i64 0) 1 8 Tryd.underlying23 hi0 hz0 hz1 hz2 rfl (by decide) _ l ((row.take l).map (Value.int .i64)) rfl (HOWN.out.alloc _) ⟨wr.heap.size, 0, none⟩ 1 1 [.int .i64 ((m : Int) + 1)] rfl rfl (one_new _ _ _) (fun u hu => by simp at hu; subst hu; rfl) (by unfold maxLen; omega) (by omega) (by have := HSZ.out; simp; omega) ?_; intro v6 w6' hown6 hgrow6 _)
                go_roundw
                case rel => exact ⟨l + 1, by omega, by go_num, by rw [HTS.out, HV2.out]; exact growR_push HGR.out (by rw [HTL.out]; exact hown6) hgrow6⟩
                case measure => simp [intOf]; omega
              · have hsi : ((s : Int) == (m : Int) + 1) = false := by simp; omega
                rw [if_neg hsm] at HV
                obtain ⟨x, hx⟩ : ∃ x, x = tt k := ⟨_, rfl⟩
                rw [← hx] at HV ⊢
                clear HKSl HKHl HKZl hsm hx HTN
                go_wp2_with (at_builtin; refine wpList_append_own _ rfl _ _ 23 rfl wq.heap.size 3 i0 (.int .i64 0) 1 8 Tryd.underlying23 hi0 hz0 hz1 hz2 rfl (by decide) _ l ((row.take l).map (Value.int .i64)) rfl (HOWN.out.alloc _) ⟨wr.heap.size, 0, none⟩ 1 1 [.int .i64 (x : Int)] rfl rfl (one_new _ _ _) (fun u hu => by simp at hu; subst hu; rfl) (by unfold maxLen; omega) (by omega) (by have := HSZ.out; simp; omega) ?_; intro v6 w6' hown6 hgrow6 _)
                go_roundw
                case rel => exact ⟨l + 1, by omega, by go_num, by rw [HTS.out, HV.out]; exact growR_push HGR.out (by rw [HTL.out]; exact hown6) hgrow6⟩
                case measure => simp [intOf]; omega
        · have hlmi : ¬ (l : Int) < (m : Int) := by omega
          obtain rfl : m = l := by omega
          have HFULL : Hid (row.take m = row) := List.take_of_length_le (by have := HRL.out; omega)
          rw [HFULL.out] at HGR
          have hwf : ∀ z ∈ row, (Lit.int .i64 z).wf = true := fun z hz => by
            obtain ⟨i, hi, rfl⟩ := List.getElem_of_mem hz
            have h1 := HRV.out i (by have := HRL.out; omega)
            rw [getD_at _ i hi] at h1
            exact WalkArith.wf_i64 (by omega)
          obtain ⟨ar, cr, rfl, hsr⟩ := sl_of_owns rfl (by unfold maxLen; have := HRL.out; omega) hwf HGR.out.1
          have HON := hide (@prAt_N w1 (fun s => PN.getD s []) (fun s => PE.getD s false) s s u7 u8 wq wr ar cr HPR.out HGR.out.2 (by simp only [← HROW.out]; exact hsr))
          simp only [← HROW.out] at HON
          rw [HRL.out] at HON
          obtain ⟨vals, hoN, hszN, hnx⟩ := HON.out
          have HNX := hide hnx
          have HOWN := hide hoN
          have HSZ := hide hszN
          have HPX := hide (fun (w3' : World) v3 (h : PrAt w1 (fun s => PN.getD s []) (fun s => PE.getD s false) (s + 1) s v3 u8 w3') => prAt_E h)
          have HES := hide (HEC.out s hlt)
          rw [HRL.out]
          clear hnx hoN hszN HON hsr hwf
          have hev : ∃ ev : Bool, decide (s ≤ m) = ev ∧ PE.getD s false = ev := ⟨_, rfl, HES.out⟩
          obtain ⟨ev, hev1, hev2⟩ := hev
          have HEV := hide hev2
          clear hev2 HES
          go_wp2_with (first
            | (at_builtin; refine wpList_append_lies _ rfl _ _ 22 rfl w1.heap.size 23 j0 (.slice none 0 0) 1 24 Tryd.underlying22 hj0 hy0 hy1 hy2 rfl (by decide) u7 s vals rfl (HOWN.out.alloc _) ⟨wr.heap.size, 0, none⟩ 1 1 [.slice ar m cr] rfl rfl (one_new _ _ _) (fun u hu => by simp at hu; subst hu; rfl) (by omega) (by unfold maxLen; omega) (by omega) (by have := HSZ.out; simp; omega) (wr.heap.size + 1) (by simp) ?_; intro g' cg w8 hown3 hgrow3 hat3 hlt3; have HN3 := hide (HNX.out w8 _ g' cg hown3 hgrow3 hat3); obtain ⟨hoE, hszE, hnxE⟩ := HPX.out w8 _ HN3.out; have HOE := hide hoE; have HSE := hide hszE; have HNXE := hide hnxE; rw [HEV.out] at HNXE; clear hown3 hgrow3 hat3 hlt3 hoE hszE hnxE)
            | (at_builtin; refine wpList_append_lies _ rfl _ _ 28 rfl w1.heap.size 4 l0 (.bool false) 1 1 Tryd.underlying28 hl0 hv0 hv1 hv2 rfl (by decide) u8 s _ rfl (HOE.out.alloc _) ⟨w8.heap.size, 0, none⟩ 1 1 [.bool ev] rfl rfl (one_new _ _ _) (fun u hu => by simp at hu; subst hu; rfl) (by omega) (by unfold maxLen; omega) (by omega) (by have := HSE.out; simp; omega) (w8.heap.size + 1) (by simp) ?_; intro g9 cg9 w9 hown9 hgrow9 hat9 hlt9; have HPM := hide (HNXE.out w9 _ g9 cg9 hown9 hgrow9 hat9); clear hown9 hgrow9 hat9 hlt9))
          go_roundw
          case rel => exact ⟨s + 1, by omega, by go_num, HPM.out⟩
          case measure => simp [intOf]; omega
    · have hlti : ¬ (s : Int) < (m : Int) + 2 := by omega
      obtain ⟨L, hL⟩ : ∃ L, L = m + 2 := ⟨_, rfl⟩
      have hsL : s = L := by omega
      subst hsL
      rw [← hL] at HLN HLE HSHR
      clear hL
      obtain ⟨ax, cx, ax', cx', rfl, rfl, hf1, hf2, hf3⟩ := prAt_end HPR.out (by unfold maxLen; omega) PN HLN.out (fun _ _ => rfl) PE HLE.out (fun _ _ => rfl)
      have HC := hide (HSHR.out ax cx ax' cx' wr hf1 hf2)
      have HR := hide ((HBW.out.block _ (Array.getElem?_eq_some_iff.1 HX1.out).1).trans HX1.out)
      clear hf1 hf2 hf3 HSHR HCELL HROWL HROWV HEC HPR
      go_wp2_with fail
      refine HC.out.mono ?_
      rintro e w2 (⟨-, ay, cy, ay', cy', rfl, hnew, hb2⟩ | ⟨hbig, -⟩)
      rotate_left
      · exact absurd HKK.out (by omega)
      have hbz := (Below.refl w2.heap.size w2).alloc (Nat.le_refl _) (.cells #[.int .i64 b, .int .i64 (tr : Int), .slice ay ZN.length cy, .slice ay' ZN.length cy'] 30)
      have hbw := below_step hb2 hbz
      have hold := (hbw.block _ (Array.getElem?_eq_some_iff.1 HR.out).1).trans HR.out
      have hmx := heap_alloc_last w2 (.cells #[.int .i64 b, .int .i64 (tr : Int), .slice ay ZN.length cy, .slice ay' ZN.length cy'] 30)
      have HHOLD := hide hold
      have HNEW := hide (hnew.below hbz)
      have HBF := hide (below_step HB1.out (below_step HBW.out hbw))
      have HSW : Hid (w.heap.size + 1 ≤ wr.heap.size) := (Array.getElem?_eq_some_iff.1 HR.out).1
      obtain ⟨⟨o0, o1, o2, o3⟩, of⟩ := box_cells hold
      obtain ⟨⟨r0, r1, r2, r3⟩, -⟩ := box_cells hmx
      clear hnew hb2 hbz hbw hold hmx HC
      go_wp2
      generalize w2.alloc (.cells #[.int .i64 b, .int .i64 (tr : Int), .slice ay ZN.length cy, .slice ay' ZN.length cy'] 30) = w9 at HHOLD HNEW HBF o0 o1 o2 o3 of r0 r1 r2 r3 ⊢
      obtain ⟨⟨hset, hsz, hoth⟩, hbel⟩ := box_set (v0 := .int .i64 b) (v1 := .int .i64 (tr : Int)) (v2 := .slice ay ZN.length cy) (v3 := .slice ay' ZN.length cy') HHOLD.out rfl
      have hb := hbel w w.heap.size HBF.out (Nat.le_refl _)
      have hfin : AutoNew w ay ZN.length ZN ay' ZE ((((w9.setCell ⟨w.heap.size, 0, none⟩ (.int .i64 b)).setCell ⟨w.heap.size, 1, none⟩ (.int .i64 (tr : Int))).setCell ⟨w.heap.size, 2, none⟩ (.slice ay ZN.length cy)).setCell ⟨w.heap.size, 3, none⟩ (.slice ay' ZN.length cy')) := fun W' hW' => HNEW.out W' (fun x hx hxl => by
        have h1 := HSW.out
        rw [hW' x (by omega) (by rw [hsz]; exact hxl), hoth x (by omega)])
      obtain ⟨⟨z0, z1, z2, z3⟩, -⟩ := box_cells hset
      exact bodyPost_ret (v := .agg #[.int .i64 b, .int .i64 (tr : Int), .slice ay ZN.length cy, .slice ay' ZN.length cy']) (by simp [results, Tryd.results32, go_sem, z0, z1, z2, z3]) rfl ⟨ay, cy, ay', cy', rfl, hfin, hb⟩
end Go.Proofs.YtgbmemkoggogdaaDoor

/- The walk of the law RightIs, from what package right answers. -/
namespace Go.Proofs.YtgbmemkoggogdaaDoor
open Go.RowKit

theorem autoNew_set {W0 W1 W2 : World} {a : Option Addr} {n : Nat} {N : List (List Int)} {a' : Option Addr} {E : List Bool} (h : AutoNew W0 a n N a' E W1) {B : Nat} (hB : B < W0.heap.size) (hsz : W2.heap.size = W1.heap.size) (hk : ∀ x, x ≠ B → W2.heap[x]? = W1.heap[x]?) : AutoNew W0 a n N a' E W2 := fun W' hW' => h W' (fun x h1 h2 => by rw [hW' x h1 (by omega), hk x (by omega)])
/-- What the box of an automaton holds. -/
def BxAt (W : World) (B : Nat) (b t : Int) (a : Option Addr) (n c : Nat) (a' : Option Addr) (c' : Nat) : Prop := W.heap[B]? = some (.cells #[.int .i64 b, .int .i64 t, .slice a n c, .slice a' n c'] 30 (0, 0))
end Go.Proofs.YtgbmemkoggogdaaDoor
