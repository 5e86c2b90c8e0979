/- 3 texts in one. -/
import Derived.Deep.RegionHeldLaw
import Derived.Deep.RegionLaw
import Derived.Deep.RegionWith
import Derived.Laws.AppendOwnNone
import Derived.Maps.AppendAt
import Derived.Test.YtklejobfnofbaaeDoorMa
import Derived.Test.YtklejobfnofbaaeDoorZNx
import Derived.Test.YtklejobfnofbaaeDoorZLp
import Derived.Test.YtklejobfnofbaaeDoorB
import Derived.Test.YtklejobfnofbaaeDoorBp
import Derived.Test.YtklejobfnofbaaeDoorBt
import Derived.Test.YtklejobfnofbaaeDoorZCd
import Derived.Test.YtklejobfnofbaaeDoorCf
import Derived.Test.YtklejobfnofbaaeDoorCi
import Derived.Test.YtklejobfnofbaaeDoorDb
import Derived.Test.YtklejobfnofbaaeDoorZMp
import Derived.Test.YtklejobfnofbaaeDoorZG
import Derived.Test.YtklejobfnofbaaeDoorZDj
import Derived.Test.YtklejobfnofbaaeDoorDd
/- The reference's AllOf: contract. -/
namespace Go.Proofs.YtklejobfnofbaaeDoor
open Go.RowKit

def hitK (b : Int) (tr : Nat) (x y : Int) (k : Nat) : Bool := (List.range k).any fun k => decide (b = 1) && decide (dOf b tr x k = 1) && decide (dOf b tr y k = 1)
theorem hitK_zero (b : Int) (tr : Nat) (x y : Int) : hitK b tr x y 0 = false := rfl
theorem hitK_next (b : Int) (tr : Nat) (x y : Int) (k : Nat) : hitK b tr x y (k + 1) = (hitK b tr x y k || (decide (b = 1) && decide (dOf b tr x k = 1) && decide (dOf b tr y k = 1))) := by
  unfold hitK
  rw [List.range_succ, List.any_append]
  simp
/-- Where letter l leads from state s, as far as k tracks tell. -/
def arK (b : Int) (tr m s l k : Nat) : Nat := if 0 < s ∧ s ≤ m ∧ hitK b tr ((s : Int) - 1) (l : Int) k = true then m + 1 else l + 1
theorem arK_zero (b : Int) (tr m s l : Nat) : arK b tr m s l 0 = l + 1 := by unfold arK; rw [if_neg (by simp [hitK_zero])]
theorem arK_end {b : Int} {tr m s l : Nat} (hs : s < m + 2) : (if s = m + 1 then m + 1 else arK b tr m s l tr) = arT b tr m s l := by
  unfold arK arT
  by_cases h : s = m + 1
  · rw [if_pos h, if_pos h]
  · rw [if_neg h, if_neg h]
    have e : hitK b tr ((s : Int) - 1) (l : Int) tr = hitB b tr ((s : Int) - 1) (l : Int) := rfl
    rw [e]
    by_cases h2 : 0 < s ∧ hitB b tr ((s : Int) - 1) (l : Int) = true
    · rw [if_pos h2, if_pos ⟨h2.1, by omega, h2.2⟩]
    · rw [if_neg h2, if_neg (fun h3 => h2 ⟨h3.1, h3.2.2⟩)]
theorem arK_same {b : Int} {tr m s l k : Nat} (h : ¬ (b = 1 ∧ 0 < s ∧ s ≤ m ∧ dOf b tr ((s : Int) - 1) k = 1 ∧ dOf b tr (l : Int) k = 1)) : arK b tr m s l (k + 1) = arK b tr m s l k := by
  unfold arK
  rw [hitK_next]
  by_cases h0 : 0 < s ∧ s ≤ m
  · have hf : (decide (b = 1) && decide (dOf b tr ((s : Int) - 1) k = 1) && decide (dOf b tr (l : Int) k = 1)) = false := by
      rw [Bool.eq_false_iff]
      intro h1
      simp only [Bool.and_eq_true, decide_eq_true_eq] at h1
      exact h ⟨h1.1.1, h0.1, h0.2, h1.1.2, h1.2⟩
    rw [hf, Bool.or_false]
  · rw [if_neg (fun h1 => h0 ⟨h1.1, h1.2.1⟩), if_neg (fun h1 => h0 ⟨h1.1, h1.2.1⟩)]
theorem arK_hit {b : Int} {tr m s l k : Nat} (h : b = 1 ∧ 0 < s ∧ s ≤ m ∧ dOf b tr ((s : Int) - 1) k = 1 ∧ dOf b tr (l : Int) k = 1) : arK b tr m s l (k + 1) = m + 1 := by
  unfold arK
  rw [hitK_next, if_pos ⟨h.2.1, h.2.2.1, by rw [Bool.or_eq_true, Bool.and_eq_true, Bool.and_eq_true, decide_eq_true_iff, decide_eq_true_iff, decide_eq_true_iff]; exact .inr ⟨⟨h.1, h.2.2.2.1⟩, h.2.2.2.2⟩⟩]

set_option maxHeartbeats 16000000 in
set_option maxRecDepth 8000 in
theorem allOf_any (b : Int) (tr : Nat) (w : World) (hM : codeM b (tr : Int) = 0) : Calls Tryd.prog 5 #[.int .i64 b, .int .i64 (tr : Int)] w (GivesAuto w b (tr : Int) (alN b (tr : Int)) (alE b (tr : Int))) := by
  obtain ⟨m1, m36⟩ := manyU_bd hM
  obtain ⟨h1, h2, h3, h4, h5, h6⟩ := codeM_zero hM
  have htr5 : tr ≤ 5 := by omega
  have hG := ar_good b tr m1 m36
  have hK := leastK_80 hG (arE (manyU b (tr : Int)).toNat) (by omega)
  have eN : alN b (tr : Int) = leastN (arN b tr (manyU b (tr : Int)).toNat) (arE (manyU b (tr : Int)).toNat) (manyU b (tr : Int)).toNat := by unfold alN; rw [if_pos hM, Int.toNat_natCast]
  have eE : alE b (tr : Int) = leastE (arN b tr (manyU b (tr : Int)).toNat) (arE (manyU b (tr : Int)).toNat) (manyU b (tr : Int)).toNat := by unfold alE; rw [if_pos hM, Int.toNat_natCast]
  have HLT := hide (fun W => letters_u b (tr : Int) W)
  obtain ⟨m, hm⟩ : ∃ m : Nat, m = (manyU b (tr : Int)).toNat := ⟨_, rfl⟩
  have hmI : manyU b (tr : Int) = (m : Int) := by omega
  rw [← hm] at m1 m36 hG hK eN eE
  rw [hmI, hM] at HLT
  have HSHR := hide (fun an cn an' cn' W k1 k3 => shrunk_u b (tr : Int) an (m + 2) cn m (arN b tr m) an' cn' (arE m) W k1 hG k3)
  unfold ShrR ShrU at HSHR
  rw [← eN, ← eE] at HSHR
  have HKK := hide hK
  have HDO := hide (fun l i W h7 h8 h9 => digitOf_any b tr l i W h1 h2 htr5 h7 h8 h9)
  have HCELL : Hid (∀ s l, s < m + 2 → l < m → ((arN b tr m).getD s []).getD l 0 = ((if s = m + 1 then m + 1 else arK b tr m s l tr : Nat) : Int)) := fun s l hs hl => by rw [arN_cell hs hl, arK_end hs]
  have HROWL : Hid (∀ s, s < m + 2 → ((arN b tr m).getD s []).length = m) := fun s hs => (hG.2.2.2.2.2 s hs).1
  have HROWV : Hid (∀ s, s < m + 2 → ∀ j, j < m → 0 ≤ ((arN b tr m).getD s []).getD j 0 ∧ ((arN b tr m).getD s []).getD j 0 < ((m + 2 : Nat) : Int)) := fun s hs => (hG.2.2.2.2.2 s hs).2
  have HEC : Hid (∀ s, s < m + 2 → (arE m).getD s false = decide (s ≤ m)) := fun s hs => arE_get hs
  have HLN := hide (arN_len b tr m)
  have HLE := hide (arE_len m)
  have HKS := hide (fun s l k h => @arK_same b tr m s l k h)
  have HKH := hide (fun s l k h => @arK_hit b tr m s l k h)
  have HKZ := hide (fun s l => arK_zero b tr m s l)
  unfold GivesAuto
  generalize alN b (tr : Int) = ZN at HSHR ⊢
  generalize alE b (tr : Int) = ZE at HSHR ⊢
  generalize arN b tr m = PN at HSHR HCELL HROWL HROWV HLN HKK
  generalize arE m = PE at HSHR HEC HLE HKK
  clear hG hK eN eE hmI hm hM h5 h6
  have HB1 := hide ((Below.refl w.heap.size w).alloc (Nat.le_refl _) (.cells #[.int .i64 0, .int .i64 0, .slice none 0 0, .slice none 0 0] 25))
  have HX1 := hide (heap_alloc_last w (.cells #[.int .i64 0, .int .i64 0, .slice none 0 0, .slice none 0 0] 25))
  generalize hW1 : w.alloc (.cells #[.int .i64 0, .int .i64 0, .slice none 0 0, .slice none 0 0] 25) = w1 at HB1 HX1
  obtain ⟨i0, hi0, hz0, hz1, hz2⟩ := info_parts info3
  obtain ⟨j0, hj0, hy0, hy1, hy2⟩ := info_parts infoS2
  obtain ⟨l0, hl0, hv0, hv1, hv2⟩ := info_parts infoBo
  have HP0 := hide (prAt_start w1 (fun s => PN.getD s []) (fun s => PE.getD s false))
  go_enter Tryd.func5, Tryd.ntmps5
  go_wp2_with (go_at_call 4; refine (HLT.out _).mono ?_; rintro e w' ⟨rfl, hw'⟩; obtain rfl := hw'.symm)
  clear hW1
  go_loopw [7, 8, 9] (fun vN vE sv wx => ∃ s : Nat, s ≤ m + 2 ∧ sv = .int .i64 s ∧ PrAt w1 (fun s => PN.getD s []) (fun s => PE.getD s false) s s vN vE wx) (fun _ _ sv _ => m + 2 - (intOf sv).toNat)
  case atStart => exact ⟨0, by omega, rfl, HP0.out⟩
  case round =>
    obtain ⟨s, hs, rfl, hpr⟩ := hrel
    have HPR := hide hpr
    have HBW : Hid (Below w1.heap.size w1 wr) := by obtain ⟨_, _, _, _, h⟩ := hpr; exact h
    clear hpr HP0
    by_cases hlt : s < m + 2
    · have hlti : (s : Int) < (m : Int) + 2 := by omega
      obtain ⟨row, hrow⟩ : ∃ row, row = PN.getD s [] := ⟨_, rfl⟩
      have HRL := hide (HROWL.out s hlt)
      have HRV := hide (HROWV.out s hlt)
      have HCV := hide (fun l h => HCELL.out s l hlt h)
      rw [← hrow] at HRL HRV HCV
      have HROW := hide hrow
      have HG0 : Hid (GrowR wr (row.take 0) (.slice none 0 0) wr) := ⟨World.ownsRow_nil _ _ _ _, Below.refl _ _⟩
      clear hrow
      go_wp2
      obtain ⟨wq, hwq⟩ : ∃ wq : World, wq = wr := ⟨_, rfl⟩
      rw [← hwq] at HPR HBW HG0 ⊢
      clear hwq wr
      go_loopw [10, 11] (fun v lv wx => ∃ l : Nat, l ≤ m ∧ lv = .int .i64 l ∧ GrowR wq (row.take l) v wx) (fun _ lv _ => m - (intOf lv).toNat)
      case atStart => exact ⟨0, by omega, rfl, HG0.out⟩
      case round =>
        obtain ⟨l, hl, rfl, hgr⟩ := hrel
        have HGR := hide hgr
        clear hgr
        by_cases hlm : l < m
        · have hlmi : (l : Int) < (m : Int) := by omega
          have HV := hide (HCV.out l hlm)
          have HTS : Hid (row.take (l + 1) = row.take l ++ [row.getD l 0]) := by show _ = _; rw [List.take_succ_eq_append_getElem (by have := HRL.out; omega), getD_at _ l (by have := HRL.out; omega)]
          have HTL : Hid ((row.take l).length = l) := by show _ = _; rw [List.length_take]; have := HRL.out; omega
          have HOWN := hide HGR.out.1
          rw [HTL.out] at HOWN
          have HSZ := hide HGR.out.2.size
          have HKSl := hide (fun k h => HKS.out s l k h)
          have HKHl := hide (fun k h => HKH.out s l k h)
          have HKZl := hide (HKZ.out s l)
          obtain ⟨tt, htt⟩ : ∃ tt : Nat → Nat, tt = arK b tr m s l := ⟨_, rfl⟩
          rw [← htt] at HV HKSl HKHl HKZl
          clear htt
          go_wp2
          obtain ⟨wl, hwl⟩ : ∃ wl : World, wl = wr := ⟨_, rfl⟩
          rw [← hwl] at HGR HOWN HSZ ⊢
          clear hwl wr
          go_loopw [12, 13] (fun tv kv wx => ∃ k : Nat, k ≤ tr ∧ kv = .int .i64 k ∧ tv = .int .i64 (tt k : Int) ∧ wx = wl) (fun _ kv _ => tr - (intOf kv).toNat)
          case atStart => exact ⟨0, by omega, rfl, by rw [HKZl.out]; simp, rfl⟩
          case round =>
            obtain ⟨k, hk, rfl, rfl, hwx⟩ := hrel
            subst hwx
            by_cases hkt : k < tr
            · have hkti : (k : Int) < (tr : Int) := by omega
              have HSk := hide (HKSl.out k)
              have HHk := hide (HKHl.out k)
              by_cases hall : b = 1 ∧ 0 < s ∧ s ≤ m
              · obtain ⟨hb1, hs0, hsm⟩ := hall
                have hbi : (b == 1) = true := by simp [hb1]
                have hs0i : (s : Int) > 0 := by omega
                have hsmi : (s : Int) ≤ (m : Int) := by omega
                have HD1 := hide (HDO.out ((s : Int) - 1) k wr hkt (by omega) (by omega))
                have HD2 := hide (HDO.out (l : Int) k wr hkt (by omega) (by omega))
                by_cases hd1 : dOf b tr ((s : Int) - 1) k = 1
                · by_cases hd2 : dOf b tr (l : Int) k = 1
                  · have HT := hide (HHk.out ⟨hb1, hs0, hsm, hd1, hd2⟩)
                    rw [hd1] at HD1
                    rw [hd2] at HD2
                    clear hd1 hd2 hb1 HSk HHk
                    go_wp2_with fail
                    refine HD1.out.mono ?_
                    rintro e w' ⟨rfl, hw'⟩
                    rw [hw']
                    clear hw' w'
                    go_wp2_with fail
                    refine HD2.out.mono ?_
                    rintro e w' ⟨rfl, hw'⟩
                    rw [hw']
                    clear hw' w'
                    go_wp2
                    go_roundw
                    case rel => exact ⟨k + 1, by omega, by go_num, by rw [HT.out]; simp, by first | rfl | trivial⟩
                    case measure => simp [intOf]; omega
                  · have HT := hide (HSk.out (fun h => hd2 h.2.2.2.2))
                    have hd2i : (dOf b tr (l : Int) k == 1) = false := by simpa using hd2
                    rw [hd1] at HD1
                    generalize dOf b tr (l : Int) k = d2 at HD2 hd2i
                    clear hd1 hd2 hb1 HSk HHk
                    go_wp2_with fail
                    refine HD1.out.mono ?_
                    rintro e w' ⟨rfl, hw'⟩
                    rw [hw']
                    clear hw' w'
                    go_wp2_with fail
                    refine HD2.out.mono ?_
                    rintro e w' ⟨rfl, hw'⟩
                    rw [hw']
                    clear hw' w'
                    go_wp2
                    go_roundw
                    case rel => exact ⟨k + 1, by omega, by go_num, by rw [HT.out], by first | rfl | trivial⟩
                    case measure => simp [intOf]; omega
                · have HT := hide (HSk.out (fun h => hd1 h.2.2.2.1))
                  have hd1i : (dOf b tr ((s : Int) - 1) k == 1) = false := by simpa using hd1
                  generalize dOf b tr ((s : Int) - 1) k = d1 at HD1 hd1i
                  clear hd1 hb1 HSk HHk HD2
                  go_wp2_with fail
                  refine HD1.out.mono ?_
                  rintro e w' ⟨rfl, hw'⟩
                  rw [hw']
                  clear hw' w'
                  go_wp2
                  go_roundw
                  case rel => exact ⟨k + 1, by omega, by go_num, by rw [HT.out], by first | rfl | trivial⟩
                  case measure => simp [intOf]; omega
              · have HT := hide (HSk.out (fun h => hall ⟨h.1, h.2.1, h.2.2.1⟩))
                have hway : (b == 1) = false ∨ ((b == 1) = true ∧ ¬ (s : Int) > 0) ∨ ((b == 1) = true ∧ (s : Int) > 0 ∧ ¬ (s : Int) ≤ (m : Int)) := by
                  by_cases hb1 : b = 1
                  · by_cases hs0 : 0 < s
                    · exact .inr (.inr ⟨by simp [hb1], by omega, fun h => hall ⟨hb1, hs0, by omega⟩⟩)
                    · exact .inr (.inl ⟨by simp [hb1], by omega⟩)
                  · exact .inl (by simpa using hb1)
                clear hall HSk HHk
                rcases hway with hw1 | ⟨hw1, hw2⟩ | ⟨hw1, hw2, hw3⟩
                all_goals
                  go_wp2
                  go_roundw
                  case rel => exact ⟨k + 1, by omega, by go_num, by rw [HT.out], by first | rfl | trivial⟩
                  case measure => simp [intOf]; omega
            · have hkti : ¬ (k : Int) < (tr : Int) := by omega
              obtain rfl : k = tr := by omega
              have HTN : Hid ((tt k : Nat) = tt k) := rfl
              by_cases hsm : s = m + 1
              · have hsi : ((s : Int) == (m : Int) + 1) = true := by simp; omega
                rw [if_pos hsm] at HV
                have HV2 : Hid (row.getD l 0 = (m : Int) + 1) := by show _ = _; rw [HV.out]; simp
                clear HKSl HKHl HKZl hsm
                go_wp2_with (at_builtin; refine wpList_append_own _ rfl _ _ 41 rfl wq.heap.size 3 i0 (.int .i64 0) 1 8 Tryd.underlying41 hi0 hz0 hz1 hz2 rfl (by decide) _ l ((row.take l).map (Value.int .i64)) rfl (HOWN.out.alloc _) ⟨wr.heap.size, 0, none⟩ 1 1 [.int .i64 ((m : Int) + 1)] rfl rfl (one_new _ _ _) (fun u hu => by simp at hu; subst hu; rfl) (by unfold maxLen; omega) (by omega) (by have := HSZ.out; simp; omega) ?_; intro v6 w6' hown6 hgrow6 _)
                go_roundw
                case rel => exact ⟨l + 1, by omega, by go_num, by rw [HTS.out, HV2.out]; exact growR_push HGR.out (by rw [HTL.out]; exact hown6) hgrow6⟩
                case measure => simp [intOf]; omega
              · have hsi : ((s : Int) == (m : Int) + 1) = false := by simp; omega
                rw [if_neg hsm] at HV
                obtain ⟨x, hx⟩ : ∃ x, x = tt k := ⟨_, rfl⟩
                rw [← hx] at HV ⊢
                clear HKSl HKHl HKZl hsm hx HTN
                go_wp2_with (at_builtin; refine wpList_append_own _ rfl _ _ 41 rfl wq.heap.size 3 i0 (.int .i64 0) 1 8 Tryd.underlying41 hi0 hz0 hz1 hz2 rfl (by decide) _ l ((row.take l).map (Value.int .i64)) rfl (HOWN.out.alloc _) ⟨wr.heap.size, 0, none⟩ 1 1 [.int .i64 (x : Int)] rfl rfl (one_new _ _ _) (fun u hu => by simp at hu; subst hu; rfl) (by unfold maxLen; omega) (by omega) (by have := HSZ.out; simp; omega) ?_; intro v6 w6' hown6 hgrow6 _)
                go_roundw
                case rel => exact ⟨l + 1, by omega, by go_num, by rw [HTS.out, HV.out]; exact growR_push HGR.out (by rw [HTL.out]; exact hown6) hgrow6⟩
                case measure => simp [intOf]; omega
        · have hlmi : ¬ (l : Int) < (m : Int) := by omega
          obtain rfl : m = l := by omega
          have HFULL : Hid (row.take m = row) := List.take_of_length_le (by have := HRL.out; omega)
          rw [HFULL.out] at HGR
          have hwf : ∀ z ∈ row, (Lit.int .i64 z).wf = true := fun z hz => by
            obtain ⟨i, hi, rfl⟩ := List.getElem_of_mem hz
            have h1 := HRV.out i (by have := HRL.out; omega)
            rw [getD_at _ i hi] at h1
            exact WalkArith.wf_i64 (by omega)
          obtain ⟨ar, cr, rfl, hsr⟩ := sl_of_owns rfl (by unfold maxLen; have := HRL.out; omega) hwf HGR.out.1
          have HON := hide (@prAt_N w1 (fun s => PN.getD s []) (fun s => PE.getD s false) s s u7 u8 wq wr ar cr HPR.out HGR.out.2 (by simp only [← HROW.out]; exact hsr))
          simp only [← HROW.out] at HON
          rw [HRL.out] at HON
          obtain ⟨vals, hoN, hszN, hnx⟩ := HON.out
          have HNX := hide hnx
          have HOWN := hide hoN
          have HSZ := hide hszN
          have HPX := hide (fun (w3' : World) v3 (h : PrAt w1 (fun s => PN.getD s []) (fun s => PE.getD s false) (s + 1) s v3 u8 w3') => prAt_E h)
          have HES := hide (HEC.out s hlt)
          rw [HRL.out]
          clear hnx hoN hszN HON hsr hwf
          have hev : ∃ ev : Bool, decide (s ≤ m) = ev ∧ PE.getD s false = ev := ⟨_, rfl, HES.out⟩
          obtain ⟨ev, hev1, hev2⟩ := hev
          have HEV := hide hev2
          clear hev2 HES
          go_wp2_with (first
            | (at_builtin; refine wpList_append_lies _ rfl _ _ 22 rfl w1.heap.size 41 j0 (.slice none 0 0) 1 24 Tryd.underlying22 hj0 hy0 hy1 hy2 rfl (by decide) u7 s vals rfl (HOWN.out.alloc _) ⟨wr.heap.size, 0, none⟩ 1 1 [.slice ar m cr] rfl rfl (one_new _ _ _) (fun u hu => by simp at hu; subst hu; rfl) (by omega) (by unfold maxLen; omega) (by omega) (by have := HSZ.out; simp; omega) (wr.heap.size + 1) (by simp) ?_; intro g' cg w8 hown3 hgrow3 hat3 hlt3; have HN3 := hide (HNX.out w8 _ g' cg hown3 hgrow3 hat3); obtain ⟨hoE, hszE, hnxE⟩ := HPX.out w8 _ HN3.out; have HOE := hide hoE; have HSE := hide hszE; have HNXE := hide hnxE; rw [HEV.out] at HNXE; clear hown3 hgrow3 hat3 hlt3 hoE hszE hnxE)
            | (at_builtin; refine wpList_append_lies _ rfl _ _ 23 rfl w1.heap.size 4 l0 (.bool false) 1 1 Tryd.underlying23 hl0 hv0 hv1 hv2 rfl (by decide) u8 s _ rfl (HOE.out.alloc _) ⟨w8.heap.size, 0, none⟩ 1 1 [.bool ev] rfl rfl (one_new _ _ _) (fun u hu => by simp at hu; subst hu; rfl) (by omega) (by unfold maxLen; omega) (by omega) (by have := HSE.out; simp; omega) (w8.heap.size + 1) (by simp) ?_; intro g9 cg9 w9 hown9 hgrow9 hat9 hlt9; have HPM := hide (HNXE.out w9 _ g9 cg9 hown9 hgrow9 hat9); clear hown9 hgrow9 hat9 hlt9))
          go_roundw
          case rel => exact ⟨s + 1, by omega, by go_num, HPM.out⟩
          case measure => simp [intOf]; omega
    · have hlti : ¬ (s : Int) < (m : Int) + 2 := by omega
      obtain ⟨L, hL⟩ : ∃ L, L = m + 2 := ⟨_, rfl⟩
      have hsL : s = L := by omega
      subst hsL
      rw [← hL] at HLN HLE HSHR
      clear hL
      obtain ⟨ax, cx, ax', cx', rfl, rfl, hf1, hf2, hf3⟩ := prAt_end HPR.out (by unfold maxLen; omega) PN HLN.out (fun _ _ => rfl) PE HLE.out (fun _ _ => rfl)
      have HC := hide (HSHR.out ax cx ax' cx' wr hf1 hf2)
      have HR := hide ((HBW.out.block _ (Array.getElem?_eq_some_iff.1 HX1.out).1).trans HX1.out)
      clear hf1 hf2 hf3 HSHR HCELL HROWL HROWV HEC HPR
      go_wp2_with fail
      refine HC.out.mono ?_
      rintro e w2 (⟨-, ay, cy, ay', cy', rfl, hnew, hb2⟩ | ⟨hbig, -⟩)
      rotate_left
      · exact absurd HKK.out (by omega)
      have hbz := (Below.refl w2.heap.size w2).alloc (Nat.le_refl _) (.cells #[.int .i64 b, .int .i64 (tr : Int), .slice ay ZN.length cy, .slice ay' ZN.length cy'] 25)
      have hbw := below_step hb2 hbz
      have hold := (hbw.block _ (Array.getElem?_eq_some_iff.1 HR.out).1).trans HR.out
      have hmx := heap_alloc_last w2 (.cells #[.int .i64 b, .int .i64 (tr : Int), .slice ay ZN.length cy, .slice ay' ZN.length cy'] 25)
      have HHOLD := hide hold
      have HNEW := hide (hnew.below hbz)
      have HBF := hide (below_step HB1.out (below_step HBW.out hbw))
      have HSW : Hid (w.heap.size + 1 ≤ wr.heap.size) := (Array.getElem?_eq_some_iff.1 HR.out).1
      obtain ⟨⟨o0, o1, o2, o3⟩, of⟩ := box_cells hold
      obtain ⟨⟨r0, r1, r2, r3⟩, -⟩ := box_cells hmx
      clear hnew hb2 hbz hbw hold hmx HC
      go_wp2
      generalize w2.alloc (.cells #[.int .i64 b, .int .i64 (tr : Int), .slice ay ZN.length cy, .slice ay' ZN.length cy'] 25) = w9 at HHOLD HNEW HBF o0 o1 o2 o3 of r0 r1 r2 r3 ⊢
      obtain ⟨⟨hset, hsz, hoth⟩, hbel⟩ := box_set (v0 := .int .i64 b) (v1 := .int .i64 (tr : Int)) (v2 := .slice ay ZN.length cy) (v3 := .slice ay' ZN.length cy') HHOLD.out rfl
      have hb := hbel w w.heap.size HBF.out (Nat.le_refl _)
      have hfin : AutoNew w ay ZN.length ZN ay' ZE ((((w9.setCell ⟨w.heap.size, 0, none⟩ (.int .i64 b)).setCell ⟨w.heap.size, 1, none⟩ (.int .i64 (tr : Int))).setCell ⟨w.heap.size, 2, none⟩ (.slice ay ZN.length cy)).setCell ⟨w.heap.size, 3, none⟩ (.slice ay' ZN.length cy')) := fun W' hW' => HNEW.out W' (fun x hx hxl => by
        have h1 := HSW.out
        rw [hW' x (by omega) (by rw [hsz]; exact hxl), hoth x (by omega)])
      obtain ⟨⟨z0, z1, z2, z3⟩, -⟩ := box_cells hset
      exact bodyPost_ret (v := .agg #[.int .i64 b, .int .i64 (tr : Int), .slice ay ZN.length cy, .slice ay' ZN.length cy']) (by simp [results, Tryd.results5, go_sem, z0, z1, z2, z3]) rfl ⟨ay, cy, ay', cy', rfl, hfin, hb⟩
end Go.Proofs.YtklejobfnofbaaeDoor

/- The reference's WithRight: contract. -/
namespace Go.Proofs.YtklejobfnofbaaeDoor
open Go.RowKit

def howR (flip : Bool) : Int := if flip = true then 4 else 8
theorem onC_no {how b t : Int} {N : List (List Int)} {E : List Bool} {k : Nat} (h : autoC b t N k ≠ 0) : onC how b t N E k = autoC b t N k ∧ onN how b t N E k = [] ∧ onE how b t N E k = [] := by
  unfold onC onN onE
  rw [if_neg h, if_neg h, if_neg h]
  exact ⟨rfl, rfl, rfl⟩
theorem onC_yes {how b t : Int} {N : List (List Int)} {E : List Bool} {k : Nat} (h : autoC b t N k = 0) : onC how b t N E k = bothC how b t N E k b t (alN b t) (alE b t) (alN b t).length ∧ onN how b t N E k = bothN how b t N E k b t (alN b t) (alE b t) (alN b t).length ∧ onE how b t N E k = bothE how b t N E k b t (alN b t) (alE b t) (alN b t).length := by
  unfold onC onN onE
  rw [if_pos h, if_pos h, if_pos h]
  exact ⟨rfl, rfl, rfl⟩

set_option maxHeartbeats 8000000 in
set_option maxRecDepth 8000 in
theorem withRight_u (b t : Int) (a : Option Addr) (n cap : Nat) (a' : Option Addr) (k cap' : Nat) (N : List (List Int)) (E : List Bool) (flip : Bool) (w : World) (hs : Sl2 w a n N) (he : SlB w a' k E) :
    Calls Tryd.prog 9 #[.agg #[.int .i64 b, .int .i64 t, .slice a n cap, .slice a' k cap'], .bool flip] w (BothR w (okI (onC (howR flip) b t N E k) b) (okI (onC (howR flip) b t N E k) t) (onN (howR flip) b t N E k) (onE (howR flip) b t N E k) (onC (howR flip) b t N E k)) := by
  have hB0 := below_two w (.cells #[.int .i64 b, .int .i64 t, .slice a n cap, .slice a' k cap'] 25) (.cells #[.int .i64 0, .int .i64 0, .slice none 0 0, .slice none 0 0] 25)
  have HB0 := hide hB0
  have HF := hide (afault_u b t a a' n cap k cap' N _ (sl2_below hs hB0) he.2.1)
  have HS := hide (sl2_below hs hB0)
  have HE := hide (slB_below he hB0)
  have HBX := hide (fun W (h : Below _ _ W) => (@two_boxes w W (.int .i64 b) (.int .i64 t) (.slice a n cap) (.slice a' k cap') (.int .i64 0) (.int .i64 0) (.slice none 0 0) (.slice none 0 0) 25 h).1)
  have HRX := hide (heap_alloc2_snd w (.cells #[.int .i64 b, .int .i64 t, .slice a n cap, .slice a' k cap'] 25) (.cells #[.int .i64 0, .int .i64 0, .slice none 0 0, .slice none 0 0] 25))
  generalize hW0 : (w.alloc (.cells #[.int .i64 b, .int .i64 t, .slice a n cap, .slice a' k cap'] 25)).alloc (.cells #[.int .i64 0, .int .i64 0, .slice none 0 0, .slice none 0 0] 25) = wb at HB0 HF HS HE HBX HRX
  have HSZ0 : Hid (wb.heap.size = w.heap.size + 2) := by show _ = _; rw [← hW0]; simp
  clear hs he hB0
  obtain ⟨p0, p1, p2, p3⟩ := HBX.out wb (Below.refl _ _)
  by_cases hA : autoC b t N k = 0
  · obtain ⟨hM, -, -, -⟩ := autoC_zero hA
    obtain ⟨c1, c2, c3⟩ := @onC_yes (howR flip) b t N E k hA
    rw [c1, c2, c3]
    obtain ⟨-, -, ht0, -⟩ := codeM_zero hM
    obtain ⟨tr, rfl⟩ : ∃ tr : Nat, t = (tr : Int) := ⟨t.toNat, by omega⟩
    have HAL := hide (fun W => allOf_any b tr W hM)
    unfold GivesAuto at HAL
    have HBO := hide (fun a2 c2 a2' c2' W h1 h2 h3 h4 => bothOf_u b (tr : Int) a n cap a' k cap' N E b (tr : Int) a2 (alN b (tr : Int)).length c2 a2' (alN b (tr : Int)).length c2' (alN b (tr : Int)) (alE b (tr : Int)) (howR flip) W h1 h2 h3 h4)
    unfold BothR at HBO ⊢
    rw [hA] at HF
    clear c1 c2 c3 hA hM ht0
    generalize bothC (howR flip) b (tr : Int) N E k b (tr : Int) (alN b (tr : Int)) (alE b (tr : Int)) (alN b (tr : Int)).length = C at HBO ⊢
    generalize bothN (howR flip) b (tr : Int) N E k b (tr : Int) (alN b (tr : Int)) (alE b (tr : Int)) (alN b (tr : Int)).length = ZN at HBO ⊢
    generalize bothE (howR flip) b (tr : Int) N E k b (tr : Int) (alN b (tr : Int)) (alE b (tr : Int)) (alN b (tr : Int)).length = ZE at HBO ⊢
    generalize alN b (tr : Int) = AN at HAL HBO
    generalize alE b (tr : Int) = AE at HAL HBO
    generalize okI C b = OB at HBO ⊢
    generalize okI C (tr : Int) = OT at HBO ⊢
    go_enter Tryd.func9, Tryd.ntmps9
    go_wp2_with fail
    clear hW0 p0 p1 p2 p3
    refine HF.out.mono ?_
    rintro e w1 ⟨rfl, hb1⟩
    have HB1 := hide hb1
    obtain ⟨p0, p1, p2, p3⟩ := HBX.out w1 hb1
    have HKP : Hid (∀ W, Below w1.heap.size w1 W → W.cell? ⟨w.heap.size, 0, none⟩ = some (.int .i64 b) ∧ W.cell? ⟨w.heap.size, 1, none⟩ = some (.int .i64 (tr : Int)) ∧ W.cell? ⟨w.heap.size, 2, none⟩ = some (.slice a n cap) ∧ W.cell? ⟨w.heap.size, 3, none⟩ = some (.slice a' k cap')) := fun W hW => HBX.out W (below_step HB1.out hW)
    clear hb1 HF
    cases flip
    all_goals
      rw [show howR _ = _ from rfl] at HBO
      go_wp2
      go_region_held_law (fun W => W.cell? ⟨w.heap.size, 0, none⟩ = some (.int .i64 b) ∧ W.cell? ⟨w.heap.size, 1, none⟩ = some (.int .i64 (tr : Int)) ∧ W.cell? ⟨w.heap.size, 2, none⟩ = some (.slice a n cap) ∧ W.cell? ⟨w.heap.size, 3, none⟩ = some (.slice a' k cap')) (first | exact HKP.out _ HB3.out | exact HKP.out _ HB2.out | go_keep)
        (first
          | (go_at_call 5; refine (HAL.out _).mono ?_; rintro e w2 ⟨a2, c2, a2', c2', rfl, hnew, hb2⟩; have HB2 := hide (below_step (Below.refl w1.heap.size w1).drew hb2); have HN2 := hide hnew.here; clear hnew hb2)
          | (go_at_call 22; refine (HBO.out a2 c2 a2' c2' w2 (sl2_below HS.out (below_step HB1.out HB2.out)) (slB_below HE.out (below_step HB1.out HB2.out)) HN2.out.1 HN2.out.2).mono ?_; rintro e w3 ⟨ay, cy, ay', cy', rfl, hnew, hb3⟩; have HB3 := hide (below_step HB2.out hb3); have HNEW := hide hnew; have hr3 := ((below_step HB1.out HB3.out).block _ (Array.getElem?_eq_some_iff.1 HRX.out).1).trans HRX.out; obtain ⟨⟨o0, o1, o2, o3⟩, of⟩ := box_cells hr3; have HR3 := hide hr3; clear hnew hb3 hr3))
      all_goals
        go_wp2
        obtain ⟨⟨hset, hsz, hoth⟩, hbel⟩ := box_set (v0 := .int .i64 OB) (v1 := .int .i64 OT) (v2 := .slice ay ZN.length cy) (v3 := .slice ay' ZN.length cy') HR3.out rfl
        have hb := hbel w w.heap.size (below_step HB0.out (below_step HB1.out HB3.out)) (by omega)
        have hfin : AutoNew w ay ZN.length ZN ay' ZE ((((w3.setCell ⟨w.heap.size + 1, 0, none⟩ (.int .i64 OB)).setCell ⟨w.heap.size + 1, 1, none⟩ (.int .i64 OT)).setCell ⟨w.heap.size + 1, 2, none⟩ (.slice ay ZN.length cy)).setCell ⟨w.heap.size + 1, 3, none⟩ (.slice ay' ZN.length cy')) := fun W' hW' => HNEW.out W' (fun x hx hxl => by
          have h1 := HSZ0.out
          have h2 := HB1.out.size
          have h3 := HB2.out.size
          rw [hW' x (by omega) (by rw [hsz]; exact hxl), hoth x (by omega)])
        obtain ⟨⟨z0, z1, z2, z3⟩, -⟩ := box_cells hset
        exact bodyPost_ret (v := .tuple #[.agg #[.int .i64 OB, .int .i64 OT, .slice ay ZN.length cy, .slice ay' ZN.length cy'], .int .i64 C]) (by simp [results, Tryd.results9, go_sem, z0, z1, z2, z3]) rfl ⟨ay, cy, ay', cy', rfl, hfin, hb⟩
  · obtain ⟨c1, c2, c3⟩ := @onC_no (howR flip) b t N E k hA
    rw [c1, c2, c3]
    unfold okI
    rw [if_neg hA, if_neg hA]
    clear c1 c2 c3
    unfold BothR
    generalize autoC b t N k = c at hA HF ⊢
    have hxi : (c != 0) = true := by simpa using hA
    have hxe : (c == 0) = false := by simpa using hA
    go_enter Tryd.func9, Tryd.ntmps9
    go_wp2_with fail
    clear hW0 p0 p1 p2 p3
    refine HF.out.mono ?_
    rintro e w1 ⟨rfl, hb1⟩
    have HB1 := hide hb1
    have HR1 := hide ((hb1.block _ (Array.getElem?_eq_some_iff.1 HRX.out).1).trans HRX.out)
    obtain ⟨⟨r0, r1, r2, r3⟩, rf⟩ := box_cells HR1.out
    clear hb1 HF hA
    go_wp2
    obtain ⟨⟨hset, -, -⟩, hbel⟩ := box_set (v0 := .int .i64 0) (v1 := .int .i64 0) (v2 := .slice none 0 0) (v3 := .slice none 0 0) HR1.out rfl
    obtain ⟨⟨z0, z1, z2, z3⟩, -⟩ := box_cells hset
    exact bodyPost_ret (v := .tuple #[.agg #[.int .i64 0, .int .i64 0, .slice none 0 0, .slice none 0 0], .int .i64 c]) (by simp [results, Tryd.results9, go_sem, z0, z1, z2, z3]) rfl ⟨none, 0, none, 0, rfl, autoNew_nil _ _, hbel _ _ (below_step HB0.out HB1.out) (by omega)⟩
end Go.Proofs.YtklejobfnofbaaeDoor

/- The walk of the law RightIs, from what package right answers. -/
namespace Go.Proofs.YtklejobfnofbaaeDoor
open Go.RowKit

theorem autoNew_set {W0 W1 W2 : World} {a : Option Addr} {n : Nat} {N : List (List Int)} {a' : Option Addr} {E : List Bool} (h : AutoNew W0 a n N a' E W1) {B : Nat} (hB : B < W0.heap.size) (hsz : W2.heap.size = W1.heap.size) (hk : ∀ x, x ≠ B → W2.heap[x]? = W1.heap[x]?) : AutoNew W0 a n N a' E W2 := fun W' hW' => h W' (fun x h1 h2 => by rw [hW' x h1 (by omega), hk x (by omega)])
/-- What the box of an automaton holds. -/
def BxAt (W : World) (B : Nat) (b t : Int) (a : Option Addr) (n c : Nat) (a' : Option Addr) (c' : Nat) : Prop := W.heap[B]? = some (.cells #[.int .i64 b, .int .i64 t, .slice a n c, .slice a' n c'] 25 (0, 0))
set_option maxHeartbeats 32000000 in
set_option maxRecDepth 8000 in
theorem rightis_of (base tracks : Int) (b t : Int) (a : Option Addr) (n cap : Nat) (a' : Option Addr) (k cap' : Nat) (N : List (List Int)) (E : List Bool) (w : World) (hs : Sl2 w a n N) (he : SlB w a' k E) (hg : Handle w) (hAL : AllSays) (hON : OnlySays) (hFL : FlipSays) :
    Calls Tryd.prog 3 #[.int .i64 base, .int .i64 tracks, .agg #[.int .i64 b, .int .i64 t, .slice a n cap, .slice a' k cap']] w fun e w' => e = .returned (.bool true) ∧ Below w.heap.size w w' := by
  have hB0 : Below w.heap.size w (w.alloc (.cells #[.int .i64 b, .int .i64 t, .slice a n cap, .slice a' k cap'] 25)) := (Below.refl _ _).alloc (Nat.le_refl _) _
  have HB0 := hide hB0
  have HAB : Hid (∀ W, Below (w.alloc (.cells #[.int .i64 b, .int .i64 t, .slice a n cap, .slice a' k cap'] 25)).heap.size (w.alloc (.cells #[.int .i64 b, .int .i64 t, .slice a n cap, .slice a' k cap'] 25)) W → AutoAt W w.heap.size b t a n cap a' k cap' N E ∧ Handle W) := fun W h => ⟨autoAt_below (autoAt_new (cap := cap) (cap' := cap') (T := 25) hs he) h, (hg.below hB0).below h⟩
  have HLT := hide (fun W => letters_u base tracks W)
  have HAO : Hid (codeM base tracks = 0 → ∀ W, Calls Tryd.prog 5 #[.int .i64 base, .int .i64 tracks] W (GivesAuto W base tracks (alN base tracks) (alE base tracks))) := fun h W => by
    obtain ⟨-, -, h0, -⟩ := codeM_zero h
    obtain ⟨tr, rfl⟩ : ∃ tr : Nat, tracks = (tr : Int) := ⟨tracks.toNat, by omega⟩
    exact allOf_any base tr W h
  unfold GivesAuto at HAO
  have HAL := hide (fun W => hAL base tracks W)
  have HW8 := hide (fun W h1 h2 => withRight_u b t a n cap a' k cap' N E false W h1 h2)
  have HW4 := hide (fun W h1 h2 => withRight_u b t a n cap a' k cap' N E true W h1 h2)
  have HO8 := hide (fun W h1 h2 => hON b t a n cap a' k cap' N E W h1 h2)
  have HO4 := hide (fun W h1 h2 => hFL b t a n cap a' k cap' N E W h1 h2)
  rw [show howR false = 8 from rfl] at HW8
  rw [show howR true = 4 from rfl] at HW4
  unfold BothR at HW8 HW4
  unfold PairR at HAL HO8 HO4
  have HNO : Hid (codeM base tracks ≠ 0 → alN base tracks = [] ∧ alE base tracks = []) := fun h => by unfold alN alE; rw [if_neg h, if_neg h]; exact ⟨rfl, rfl⟩
  have HES := hide (fun c W (h : Handle W) => error_same c W h)
  clear hs he hg hAL hON hFL hB0
  generalize codeM base tracks = cM at *
  generalize alN base tracks = AN at *
  generalize alE base tracks = AE at *
  generalize onC 8 b t N E k = c8 at *
  generalize onN 8 b t N E k = N8 at *
  generalize onE 8 b t N E k = E8 at *
  generalize onC 4 b t N E k = c4 at *
  generalize onN 4 b t N E k = N4 at *
  generalize onE 4 b t N E k = E4 at *
  generalize okI c8 b = b8 at *
  generalize okI c8 t = t8 at *
  generalize okI c4 b = b4 at *
  generalize okI c4 t = t4 at *
  generalize manyU base tracks = mM at *
  generalize hW0 : w.alloc (.cells #[.int .i64 b, .int .i64 t, .slice a n cap, .slice a' k cap'] 25) = w0 at HB0 HAB
  have HX1 := hide (heap_alloc_last w0 (.cells #[.int .i64 0, .int .i64 0, .slice none 0 0, .slice none 0 0] 25))
  have HB1 := hide ((Below.refl w0.heap.size w0).alloc (Nat.le_refl _) (.cells #[.int .i64 0, .int .i64 0, .slice none 0 0, .slice none 0 0] 25))
  generalize hW1 : w0.alloc (.cells #[.int .i64 0, .int .i64 0, .slice none 0 0, .slice none 0 0] 25) = w1 at HX1 HB1
  have HXL : Hid (w0.heap.size < w1.heap.size) := (Array.getElem?_eq_some_iff.1 HX1.out).1
  by_cases hc : cM = 0
  case' pos =>
    have HA1 := hide (HAO.out hc w1)
    have HO1 : Hid (okI cM base = base ∧ okI cM tracks = tracks) := by unfold okI; rw [if_pos hc, if_pos hc]; exact ⟨rfl, rfl⟩
    have hci : (cM == 0) = true := by simp [hc]
    clear HAO HNO hc
    go_enter Tryd.func3, Tryd.ntmps3
    go_wp2_with (go_at_call 4; refine (HLT.out _).mono ?_; rintro e w' ⟨rfl, hw'⟩; obtain rfl := hw'.symm)
    clear hW0 hW1
    refine HA1.out.mono ?_
    rintro e w2 ⟨ax, cx, ax', cx', rfl, hnew, hb2⟩
    have hx2 := (hb2.block _ HXL.out).trans HX1.out
    obtain ⟨⟨r0, r1, r2, r3⟩, rf⟩ := box_cells hx2
    obtain ⟨W, hW⟩ : ∃ W, (((w2.setCell ⟨w0.heap.size, 0, none⟩ (.int .i64 base)).setCell ⟨w0.heap.size, 1, none⟩ (.int .i64 tracks)).setCell ⟨w0.heap.size, 2, none⟩ (.slice ax AN.length cx)).setCell ⟨w0.heap.size, 3, none⟩ (.slice ax' AN.length cx') = W := ⟨_, rfl⟩
    obtain ⟨⟨hbx, hsz, hkp⟩, hbl⟩ := box_set hx2 hW.symm
    have HBX : Hid (BxAt W w0.heap.size (okI cM base) (okI cM tracks) ax AN.length cx ax' cx') := by
      show BxAt _ _ _ _ _ _ _ _ _
      unfold BxAt
      rw [HO1.out.1, HO1.out.2]; exact hbx
    have HN := hide (autoNew_set hnew HXL.out hsz hkp).here
    have HBL := hide (hbl w0 w0.heap.size (below_step HB1.out hb2) (Nat.le_refl _))
    have HXW : Hid (w0.heap.size < W.heap.size) := (Array.getElem?_eq_some_iff.1 hbx).1
    clear hbx hsz hkp hbl hnew hb2 hx2 HO1 HA1
    have HQ : Hid (∃ qx dx qx' dx', BxAt W w0.heap.size (okI cM base) (okI cM tracks) qx AN.length dx qx' dx' ∧ Sl2 W qx AN.length AN ∧ SlB W qx' AN.length AE) := ⟨_, _, _, _, HBX.out, HN.out.1, HN.out.2⟩
    go_wp2_with fail
    clear hW r0 r1 r2 r3 rf hci HX1 HB1 HXL HBX HN
  case' neg =>
    obtain ⟨hz1, hz2⟩ := HNO.out hc
    have HO1 : Hid (okI cM base = 0 ∧ okI cM tracks = 0) := by unfold okI; rw [if_neg hc, if_neg hc]; exact ⟨rfl, rfl⟩
    have hci : (cM == 0) = false := by simpa using hc
    have HBX : Hid (BxAt w1 w0.heap.size (okI cM base) (okI cM tracks) none AN.length 0 none 0) := by
      show BxAt _ _ _ _ _ _ _ _ _
      unfold BxAt
      rw [HO1.out.1, HO1.out.2, hz1]; exact HX1.out
    have HN : Hid (Sl2 w1 none AN.length AN ∧ SlB w1 none AN.length AE) := by rw [hz1, hz2]; exact (autoNew_nil w1 w1).here
    have HBL := hide HB1.out
    have HXW := hide HXL.out
    clear HAO HNO hc hz1 hz2 HO1
    go_enter Tryd.func3, Tryd.ntmps3
    go_wp2_with (go_at_call 4; refine (HLT.out _).mono ?_; rintro e w' ⟨rfl, hw'⟩; obtain rfl := hw'.symm)
    clear hW0 hW1 hci HX1 HB1 HXL
    have HQ : Hid (∃ qx dx qx' dx', BxAt w1 w0.heap.size (okI cM base) (okI cM tracks) qx AN.length dx qx' dx' ∧ Sl2 w1 qx AN.length AN ∧ SlB w1 qx' AN.length AE) := ⟨_, _, _, _, HBX.out, HN.out.1, HN.out.2⟩
    clear HBX HN
    obtain ⟨W, hWW⟩ : ∃ W : World, W = w1 := ⟨_, rfl⟩
    rw [← hWW] at HQ HBL HXW ⊢
    clear hWW w1
  all_goals
    obtain ⟨qx, dx, qx', dx', hq1, hq2, hq3⟩ := HQ.out
    have HQ1 : Hid (W.heap[w0.heap.size]? = _) := hq1
    have HQ2 := hide (And.intro hq2 hq3)
    clear hq1 hq2 hq3 HQ
    refine (HAL.out W).mono ?_
    rintro e w3 ⟨ay, cy, ay', cy', rfl, hnew, hb3⟩
    have hbz := (Below.refl w3.heap.size w3).alloc (Nat.le_refl _) (.cells #[.int .i64 (okI cM base), .int .i64 (okI cM tracks), .slice ay AN.length cy, .slice ay' AN.length cy'] 25)
    have hb34 := below_step hb3 hbz
    have HB4 := hide (below_step HBL.out hb34)
    have HX4 := hide ((hb34.block _ HXW.out).trans HQ1.out)
    have HY4 := hide (heap_alloc_last w3 (.cells #[.int .i64 (okI cM base), .int .i64 (okI cM tracks), .slice ay AN.length cy, .slice ay' AN.length cy'] 25))
    have HN4 := hide (hnew.below hbz).here
    have HQ4 := hide (And.intro (sl2_below HQ2.out.1 hb34) (slB_below HQ2.out.2 hb34))
    have HYX : Hid (w0.heap.size < w3.heap.size) := Nat.lt_of_lt_of_le HXW.out hb3.size
    clear hnew hb3 hbz hb34 HQ1 HQ2 HBL HXW HAL
    go_wp2_with fail
    generalize w3.alloc (.cells #[.int .i64 (okI cM base), .int .i64 (okI cM tracks), .slice ay AN.length cy, .slice ay' AN.length cy'] 25) = w4 at HB4 HX4 HY4 HN4 HQ4 ⊢
    obtain ⟨Y, hY⟩ : ∃ Y, Y = w3.heap.size := ⟨_, rfl⟩
    rw [← hY] at HY4 HYX ⊢
    clear hY
    refine (HES.out cM w4 (HAB.out w4 HB4.out).2).mono ?_
    rintro e w5 ⟨rfl, hb5⟩
    have HB5 := hide (below_step HB4.out hb5)
    have HX5 := hide ((hb5.block _ (Array.getElem?_eq_some_iff.1 HX4.out).1).trans HX4.out)
    have HY5 := hide ((hb5.block _ (Array.getElem?_eq_some_iff.1 HY4.out).1).trans HY4.out)
    have HN5 := hide (And.intro (sl2_below HN4.out.1 hb5) (slB_below HN4.out.2 hb5))
    have HQ5 := hide (And.intro (sl2_below HQ4.out.1 hb5) (slB_below HQ4.out.2 hb5))
    obtain ⟨⟨q0, q1, q2, q3⟩, -⟩ := box_cells HX5.out
    obtain ⟨⟨r0, r1, r2, r3⟩, -⟩ := box_cells HY5.out
    clear hb5 HB4 HX4 HY4 HN4 HQ4
    go_wp2_with fail
    clear q0 q1 q2 q3 r0 r1 r2 r3
    refine (autos_eq (okI cM base) (okI cM tracks) ay AN.length cy ay' AN.length cy' qx dx qx' dx' AN AE w5 HN5.out.1 HN5.out.2 HQ5.out.1 HQ5.out.2).mono ?_
    rintro e w6 ⟨rfl, hb6⟩
    have Hw6b := hide (below_step HB5.out hb6)
    have Hw6x := hide ((hb6.block _ (Array.getElem?_eq_some_iff.1 HX5.out).1).trans HX5.out)
    have Hw6y := hide ((hb6.block _ (Array.getElem?_eq_some_iff.1 HY5.out).1).trans HY5.out)
    have Hw6r : Hid (w0.heap.size < w6.heap.size ∧ Y < w6.heap.size) := ⟨(Array.getElem?_eq_some_iff.1 Hw6x.out).1, (Array.getElem?_eq_some_iff.1 Hw6y.out).1⟩
    clear hb6 HB5 HX5 HY5 HN5 HQ5
    have HB8a := hide Hw6b.out
    obtain ⟨⟨p0, p1, p2, p3⟩, hNs, hEs⟩ := (HAB.out w6 Hw6b.out).1
    go_wp2_with fail
    clear p0 p1 p2 p3
    refine (HW8.out w6 hNs hEs).mono ?_
    rintro e wa8 ⟨az, cz, az', cz', rfl, hnewX, hba⟩
    have hxa := (hba.block _ Hw6r.out.1).trans Hw6x.out
    have hya := (hba.block _ Hw6r.out.2).trans Hw6y.out
    obtain ⟨wb8, hwb⟩ : ∃ wb, (((wa8.setCell ⟨w0.heap.size, 0, none⟩ (.int .i64 b8)).setCell ⟨w0.heap.size, 1, none⟩ (.int .i64 t8)).setCell ⟨w0.heap.size, 2, none⟩ (.slice az N8.length cz)).setCell ⟨w0.heap.size, 3, none⟩ (.slice az' N8.length cz') = wb := ⟨_, rfl⟩
    obtain ⟨⟨hbx, hsz, hkp⟩, hbl⟩ := box_set hxa hwb.symm
    have HXb := hide hbx
    have HYb := hide ((hkp _ (by have := HYX.out; omega)).trans hya)
    have HNX := hide (autoNew_set hnewX Hw6r.out.1 hsz hkp)
    have HBb := hide (hbl w0 w0.heap.size (below_step Hw6b.out hba) (Nat.le_refl _))
    have HRb : Hid (w0.heap.size < wb8.heap.size ∧ Y < wb8.heap.size ∧ w6.heap.size ≤ wb8.heap.size) := ⟨(Array.getElem?_eq_some_iff.1 hbx).1, (Array.getElem?_eq_some_iff.1 HYb.out).1, by rw [hsz]; exact hba.size⟩
    obtain ⟨⟨r0, r1, r2, r3⟩, rf⟩ := box_cells hxa
    obtain ⟨⟨p0, p1, p2, p3⟩, hNs2, hEs2⟩ := (HAB.out wb8 HBb.out).1
    clear hbx hsz hkp hbl hnewX hba hxa hya hNs hEs
    go_wp2_with fail
    clear p0 p1 p2 p3 r0 r1 r2 r3 rf hwb
    refine (HO8.out wb8 hNs2 hEs2).mono ?_
    rintro e wc8 ⟨av, cv, av', cv', rfl, hnewY, hbc⟩
    have hxc := (hbc.block _ HRb.out.1).trans HXb.out
    have hyc := (hbc.block _ HRb.out.2.1).trans HYb.out
    obtain ⟨wd8, hwd⟩ : ∃ wd, (((wc8.setCell ⟨Y, 0, none⟩ (.int .i64 b8)).setCell ⟨Y, 1, none⟩ (.int .i64 t8)).setCell ⟨Y, 2, none⟩ (.slice av N8.length cv)).setCell ⟨Y, 3, none⟩ (.slice av' N8.length cv') = wd := ⟨_, rfl⟩
    obtain ⟨⟨hbx, hsz, hkp⟩, hbl⟩ := box_set hyc hwd.symm
    have HYd := hide hbx
    have HXd := hide ((hkp _ (by have := HYX.out; omega)).trans hxc)
    have HNY := hide (autoNew_set hnewY HRb.out.2.1 hsz hkp).here
    have HNX2 := hide (autoNew_set (HNX.out.below hbc) Hw6r.out.2 hsz hkp).here
    have HBd := hide (hbl w0 w0.heap.size (below_step HBb.out hbc) (by have := HYX.out; omega))
    obtain ⟨⟨r0, r1, r2, r3⟩, rf⟩ := box_cells hyc
    clear hbx hsz hkp hbl hnewY hbc hxc hyc hNs2 hEs2 HNX
    go_wp2_with fail
    clear r0 r1 r2 r3 rf hwd
    refine (HES.out c8 wd8 (HAB.out wd8 HBd.out).2).mono ?_
    rintro e we8 ⟨rfl, hbe⟩
    have HBe := hide (below_step HBd.out hbe)
    have HXe := hide ((hbe.block _ (Array.getElem?_eq_some_iff.1 HXd.out).1).trans HXd.out)
    have HYe := hide ((hbe.block _ (Array.getElem?_eq_some_iff.1 HYd.out).1).trans HYd.out)
    have HNYe := hide (And.intro (sl2_below HNY.out.1 hbe) (slB_below HNY.out.2 hbe))
    have HNXe := hide (And.intro (sl2_below HNX2.out.1 hbe) (slB_below HNX2.out.2 hbe))
    obtain ⟨⟨q0, q1, q2, q3⟩, -⟩ := box_cells HXe.out
    obtain ⟨⟨r0, r1, r2, r3⟩, -⟩ := box_cells HYe.out
    clear hbe HNY HNX2 HBd HXd HYd
    go_wp2_with fail
    clear q0 q1 q2 q3 r0 r1 r2 r3
    refine (autos_eq b8 t8 av N8.length cv av' N8.length cv' az cz az' cz' N8 E8 we8 HNYe.out.1 HNYe.out.2 HNXe.out.1 HNXe.out.2).mono ?_
    rintro e wf8 ⟨rfl, hbf⟩
    have Hwf8b := hide (below_step HBe.out hbf)
    have Hwf8x := hide ((hbf.block _ (Array.getElem?_eq_some_iff.1 HXe.out).1).trans HXe.out)
    have Hwf8y := hide ((hbf.block _ (Array.getElem?_eq_some_iff.1 HYe.out).1).trans HYe.out)
    have Hwf8r : Hid (w0.heap.size < wf8.heap.size ∧ Y < wf8.heap.size) := ⟨(Array.getElem?_eq_some_iff.1 Hwf8x.out).1, (Array.getElem?_eq_some_iff.1 Hwf8y.out).1⟩
    clear hbf HBe HXe HYe HNYe HNXe HXb HYb HBb HRb Hw6b Hw6x Hw6y Hw6r HB8a
    have HB4a := hide Hwf8b.out
    obtain ⟨⟨p0, p1, p2, p3⟩, hNs, hEs⟩ := (HAB.out wf8 Hwf8b.out).1
    go_wp2_with fail
    clear p0 p1 p2 p3
    refine (HW4.out wf8 hNs hEs).mono ?_
    rintro e wa4 ⟨az, cz, az', cz', rfl, hnewX, hba⟩
    have hxa := (hba.block _ Hwf8r.out.1).trans Hwf8x.out
    have hya := (hba.block _ Hwf8r.out.2).trans Hwf8y.out
    obtain ⟨wb4, hwb⟩ : ∃ wb, (((wa4.setCell ⟨w0.heap.size, 0, none⟩ (.int .i64 b4)).setCell ⟨w0.heap.size, 1, none⟩ (.int .i64 t4)).setCell ⟨w0.heap.size, 2, none⟩ (.slice az N4.length cz)).setCell ⟨w0.heap.size, 3, none⟩ (.slice az' N4.length cz') = wb := ⟨_, rfl⟩
    obtain ⟨⟨hbx, hsz, hkp⟩, hbl⟩ := box_set hxa hwb.symm
    have HXb := hide hbx
    have HYb := hide ((hkp _ (by have := HYX.out; omega)).trans hya)
    have HNX := hide (autoNew_set hnewX Hwf8r.out.1 hsz hkp)
    have HBb := hide (hbl w0 w0.heap.size (below_step Hwf8b.out hba) (Nat.le_refl _))
    have HRb : Hid (w0.heap.size < wb4.heap.size ∧ Y < wb4.heap.size ∧ wf8.heap.size ≤ wb4.heap.size) := ⟨(Array.getElem?_eq_some_iff.1 hbx).1, (Array.getElem?_eq_some_iff.1 HYb.out).1, by rw [hsz]; exact hba.size⟩
    obtain ⟨⟨r0, r1, r2, r3⟩, rf⟩ := box_cells hxa
    obtain ⟨⟨p0, p1, p2, p3⟩, hNs2, hEs2⟩ := (HAB.out wb4 HBb.out).1
    clear hbx hsz hkp hbl hnewX hba hxa hya hNs hEs
    go_wp2_with fail
    clear p0 p1 p2 p3 r0 r1 r2 r3 rf hwb
    refine (HO4.out wb4 hNs2 hEs2).mono ?_
    rintro e wc4 ⟨av, cv, av', cv', rfl, hnewY, hbc⟩
    have hxc := (hbc.block _ HRb.out.1).trans HXb.out
    have hyc := (hbc.block _ HRb.out.2.1).trans HYb.out
    obtain ⟨wd4, hwd⟩ : ∃ wd, (((wc4.setCell ⟨Y, 0, none⟩ (.int .i64 b4)).setCell ⟨Y, 1, none⟩ (.int .i64 t4)).setCell ⟨Y, 2, none⟩ (.slice av N4.length cv)).setCell ⟨Y, 3, none⟩ (.slice av' N4.length cv') = wd := ⟨_, rfl⟩
    obtain ⟨⟨hbx, hsz, hkp⟩, hbl⟩ := box_set hyc hwd.symm
    have HYd := hide hbx
    have HXd := hide ((hkp _ (by have := HYX.out; omega)).trans hxc)
    have HNY := hide (autoNew_set hnewY HRb.out.2.1 hsz hkp).here
    have HNX2 := hide (autoNew_set (HNX.out.below hbc) Hwf8r.out.2 hsz hkp).here
    have HBd := hide (hbl w0 w0.heap.size (below_step HBb.out hbc) (by have := HYX.out; omega))
    obtain ⟨⟨r0, r1, r2, r3⟩, rf⟩ := box_cells hyc
    clear hbx hsz hkp hbl hnewY hbc hxc hyc hNs2 hEs2 HNX
    go_wp2_with fail
    clear r0 r1 r2 r3 rf hwd
    refine (HES.out c4 wd4 (HAB.out wd4 HBd.out).2).mono ?_
    rintro e we4 ⟨rfl, hbe⟩
    have HBe := hide (below_step HBd.out hbe)
    have HXe := hide ((hbe.block _ (Array.getElem?_eq_some_iff.1 HXd.out).1).trans HXd.out)
    have HYe := hide ((hbe.block _ (Array.getElem?_eq_some_iff.1 HYd.out).1).trans HYd.out)
    have HNYe := hide (And.intro (sl2_below HNY.out.1 hbe) (slB_below HNY.out.2 hbe))
    have HNXe := hide (And.intro (sl2_below HNX2.out.1 hbe) (slB_below HNX2.out.2 hbe))
    obtain ⟨⟨q0, q1, q2, q3⟩, -⟩ := box_cells HXe.out
    obtain ⟨⟨r0, r1, r2, r3⟩, -⟩ := box_cells HYe.out
    clear hbe HNY HNX2 HBd HXd HYd
    go_wp2_with fail
    clear q0 q1 q2 q3 r0 r1 r2 r3
    refine (autos_eq b4 t4 av N4.length cv av' N4.length cv' az cz az' cz' N4 E4 we4 HNYe.out.1 HNYe.out.2 HNXe.out.1 HNXe.out.2).mono ?_
    rintro e wf4 ⟨rfl, hbf⟩
    have Hwf4b := hide (below_step HBe.out hbf)
    have Hwf4x := hide ((hbf.block _ (Array.getElem?_eq_some_iff.1 HXe.out).1).trans HXe.out)
    have Hwf4y := hide ((hbf.block _ (Array.getElem?_eq_some_iff.1 HYe.out).1).trans HYe.out)
    have Hwf4r : Hid (w0.heap.size < wf4.heap.size ∧ Y < wf4.heap.size) := ⟨(Array.getElem?_eq_some_iff.1 Hwf4x.out).1, (Array.getElem?_eq_some_iff.1 Hwf4y.out).1⟩
    clear hbf HBe HXe HYe HNYe HNXe HXb HYb HBb HRb Hwf8b Hwf8x Hwf8y Hwf8r HB4a
    have HBF := hide (below_step HB0.out Hwf4b.out)
    go_wp2
    go_ret
    exact ⟨rfl, HBF.out⟩
end Go.Proofs.YtklejobfnofbaaeDoor
