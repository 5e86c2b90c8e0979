/- word.At, Head: contracts. -/
import Derived.Test.YtcpnfbjcgaonkafDoorSg
namespace Go.Proofs.YtcpnfbjcgaonkafDoor
open Go.RowKit

theorem atF_bad {b : Int} {N : List (List Int)} {O : List Int} (x hi : Int) (h : outC b N O ≠ 0) : atF b N O x hi = outC b N O := by unfold atF; rw [if_neg h]
theorem atF_far {b : Int} {N : List (List Int)} {O : List Int} {x hi : Int} (h : outC b N O = 0) (hx : ¬ (0 ≤ x ∧ x ≤ hi)) : atF b N O x hi = 1 := by unfold atF; rw [if_pos h, if_neg hx]
theorem atF_ok {b : Int} {N : List (List Int)} {O : List Int} {x hi : Int} (h : outC b N O = 0) (hx : 0 ≤ x ∧ x ≤ hi) : atF b N O x hi = 0 := by unfold atF; rw [if_pos h, if_pos hx]
set_option maxHeartbeats 4000000 in
set_option maxRecDepth 4000 in
theorem word_at_any : AtSays := by
  intro b a n cap ao no co N O x w hs ho
  have HBX := hide (outBox w b a n cap ao no co 25 hs ho)
  have HCK := hide (fun W h1 h2 => word_check_any b a n cap ao no co N O W h1 h2)
  have hL := hs.1
  have hLo := ho.1
  unfold outV at HCK ⊢
  clear hs ho
  obtain ⟨⟨c0, c1, c2⟩, hs2, ho2, hbw⟩ := HBX.out _ (Below.refl _ _)
  have HC0 := hide (HCK.out _ hs2 ho2)
  clear HCK hs2 ho2 hbw
  by_cases hC : outC b N O = 0
  · obtain ⟨h1, h2, h20, hO, hG, hrange⟩ := outC_zero hC
    obtain ⟨k1, k2, k3⟩ := kinds_nat h1 h2
    rw [hC, errV_zero] at HC0
    have HDG := hide (fun W => of_u b x W)
    by_cases hx : 0 ≤ x ∧ x ≤ 1099511627776
    · have e1 : atF b N O x 1099511627776 = 0 := atF_ok hC hx
      have e2 : atV b N O x = sayN b N O x := by unfold atV; rw [if_pos e1]
      rw [e1, e2, errV_zero]
      clear e1 e2
      have hnl : numL b x = dgs b x := by unfold numL; rw [if_pos ⟨⟨h1, h2⟩, hx⟩]
      have hcn : codeN b x = 0 := by unfold codeN; rw [if_pos ⟨⟨h1, h2⟩, hx⟩]
      rw [hnl, hcn, errV_zero] at HDG
      unfold OfU at HDG
      have hdig := dgs_digB b x h1 h2 hx.1 hx.2
      have h60 := dgs_length b x
      have HDD : Hid (∀ j, j < (dgs b x).length → 0 ≤ (dgs b x).getD j 0 ∧ (dgs b x).getD j 0 < (((kindsI b).toNat : Nat) : Int)) := fun j hj => by
        unfold digB at hdig
        rw [List.all_eq_true] at hdig
        have := hdig ((dgs b x).getD j 0) (by rw [getD_at _ j hj]; exact List.getElem_mem hj)
        rw [k3]
        simpa using this
      have HRUN : Hid (∀ j, j ≤ (dgs b x).length → runL N ((dgs b x).take j) < n) := fun j hj => by
        have := runL_lt hG (dgs b x) j hj (fun i hi => HDD.out i (by omega))
        rw [hL] at this
        exact this
      have HSUC : Hid (∀ j, j < (dgs b x).length → ((runL N ((dgs b x).take (j + 1)) : Nat) : Int) = (N.getD (runL N ((dgs b x).take j)) []).getD ((dgs b x).getD j 0).toNat 0) := fun j hj => by
        rw [runL_take_succ N _ j hj]
        exact (goodN_step hG _ (by rw [hL]; exact HRUN.out j (by omega)) _ (HDD.out j hj)).2
      have HROW : Hid (∀ s, s < n → (N.getD s []).length = (kindsI b).toNat) := fun s hsn => (hG.2.2.2.2.2 s (by omega)).1
      have HSAY : Hid (sayN b N O x = O.getD (runL N ((dgs b x).take (dgs b x).length)) 0) := by show _ = _; rw [List.take_length]; rfl
      have HNO : Hid (no = n) := by show _ = _; omega
      have hn20 : n ≤ 20 := by omega
      clear hC hnl hcn hdig hG hrange hO hL hLo h20
      generalize dgs b x = D at HDG h60 HDD HRUN HSUC HSAY
      generalize sayN b N O x = SV at HSAY ⊢
      generalize (kindsI b).toNat = k at HDD HROW k1 k2 k3
      go_enter Tryd.func11, Tryd.ntmps11
      go_wp2_with fail
      generalize w.alloc (.cells #[.int .i64 b, .slice a n cap, .slice ao no co] 25) = wb at HBX HC0 c0 c1 c2 ⊢
      clear c0 c1 c2
      refine HC0.out.mono ?_
      rintro e wc ⟨rfl, hbc⟩
      have HBC := hide hbc
      obtain ⟨⟨c0, c1, c2⟩, -⟩ := HBX.out wc hbc
      clear hbc
      go_wp2_with fail
      clear c0 c1 c2
      refine (HDG.out wc).mono ?_
      rintro e w1 ⟨ad, cd, rfl, hsd, hb1⟩
      have HSD := hide hsd.1
      have HB1 := hide (below_step HBC.out hb1)
      clear hsd hb1 HDG HBC
      go_wp2_with fail
      go_loopw [9, 29] (fun sv iv wx => ∃ j : Nat, j ≤ D.length ∧ iv = .int .i64 j ∧ sv = .int .i64 ((runL N (D.take j) : Nat) : Int) ∧ Below w1.heap.size w1 wx) (fun _ iv _ => D.length - (intOf iv).toNat)
      case atStart => exact ⟨0, by omega, rfl, rfl, Below.refl _ _⟩
      case round =>
        obtain ⟨j, hj, rfl, rfl, hbr⟩ := hrel
        have HBR := hide hbr
        obtain ⟨⟨c0, c1, c2⟩, hs2, ho2, hbw⟩ := HBX.out wr (below_step HB1.out hbr)
        have HBW := hide hbw
        have hrun := HRUN.out j hj
        have hruni : ((runL N (D.take j) : Nat) : Int) < (n : Int) := by omega
        by_cases hlt : j < D.length
        · have hlti : (j : Int) < (D.length : Int) := by omega
          obtain ⟨bb, o, a1, cc1, rfl, hck, hsl⟩ := sl2_cell hs2 (runL N (D.take j)) hrun
          obtain ⟨bd, od, rfl, hcd⟩ := sl_cell (sl_below HSD.out hbr) j hlt
          have hd := HDD.out j hlt
          have HSU := hide (HSUC.out j hlt)
          have hrl := HROW.out _ hrun
          obtain ⟨dn, hdn⟩ : ∃ dn : Nat, D.getD j 0 = (dn : Int) := ⟨(D.getD j 0).toNat, by omega⟩
          rw [hdn] at hcd hd HSU
          rw [Int.toNat_natCast] at HSU
          rw [hrl] at hck hsl
          have hdk : dn < k := by omega
          have hdki : (dn : Int) < (k : Int) := by omega
          obtain ⟨b1, o1, rfl, hcx⟩ := sl_cell hsl dn hdk
          rw [← HSU.out] at hcx
          clear hs2 ho2 hbw hbr hsl hrl hdn hd
          generalize hR : runL N (D.take j) = R at hck hrun hruni
          clear hR
          go_wp2
          go_roundw
          case rel => exact ⟨j + 1, by omega, by go_num, rfl, HBR.out⟩
          case measure => simp [intOf]; omega
        · have hlti : ¬ (j : Int) < (D.length : Int) := by omega
          have hjd : D.length = j := by omega
          rw [hjd] at HSAY
          obtain ⟨bo, oo, rfl, hco⟩ := sl_cell ho2 (runL N (D.take j)) (by rw [HNO.out]; exact hrun)
          rw [← HSAY.out] at hco
          have hruno : ((runL N (D.take j) : Nat) : Int) < (no : Int) := by rw [HNO.out]; exact hruni
          clear hs2 ho2 hbw hbr HSAY
          generalize hR : runL N (D.take j) = R at hco hrun hruni hruno
          clear hR
          go_wp2
          go_ret2
          exact ⟨by simp, HBW.out⟩
    · have e1 : atF b N O x 1099511627776 = 1 := atF_far hC hx
      have e2 : atV b N O x = 0 := by unfold atV; rw [if_neg (by rw [e1]; decide)]
      rw [e1, e2]
      have hnl : numL b x = [] := by unfold numL; rw [if_neg (fun h => hx h.2)]
      have hcn : codeN b x = 1 := by unfold codeN; rw [if_neg (fun h => hx h.2)]
      rw [hnl, hcn, errV_ne (by decide)] at HDG
      rw [errV_ne (by decide)]
      unfold OfU at HDG
      clear e1 e2 hC hnl hcn hG hrange hO hL hLo h20 hx
      go_enter Tryd.func11, Tryd.ntmps11
      go_wp2_with fail
      generalize w.alloc (.cells #[.int .i64 b, .slice a n cap, .slice ao no co] 25) = wb at HBX HC0 c0 c1 c2 ⊢
      clear c0 c1 c2
      refine HC0.out.mono ?_
      rintro e wc ⟨rfl, hbc⟩
      have HBC := hide hbc
      obtain ⟨⟨c0, c1, c2⟩, -⟩ := HBX.out wc hbc
      clear hbc
      go_wp2_with fail
      clear c0 c1 c2
      refine (HDG.out wc).mono ?_
      rintro e w1 ⟨ad, cd, rfl, -, hb1⟩
      obtain ⟨-, -, -, hbw⟩ := HBX.out w1 (below_step HBC.out hb1)
      have HBW := hide hbw
      clear hb1 HDG HBC hbw
      go_wp2
      go_ret2
      exact ⟨by simp, HBW.out⟩
  · have e1 := atF_bad x 1099511627776 hC
    have e2 : atV b N O x = 0 := by unfold atV; rw [if_neg (by rw [e1]; exact hC)]
    rw [e1, e2]
    rw [errV_ne hC] at HC0 ⊢
    generalize outC b N O = c at HC0 ⊢
    clear e1 e2 hC hL hLo
    go_enter Tryd.func11, Tryd.ntmps11
    go_wp2_with fail
    generalize w.alloc (.cells #[.int .i64 b, .slice a n cap, .slice ao no co] 25) = wb at HBX HC0 c0 c1 c2 ⊢
    clear c0 c1 c2
    refine HC0.out.mono ?_
    rintro e wc ⟨rfl, hbc⟩
    obtain ⟨-, -, -, hbw⟩ := HBX.out wc hbc
    have HBW := hide hbw
    clear hbc hbw
    go_wp2
    go_ret2
    exact ⟨by simp, HBW.out⟩
end Go.Proofs.YtcpnfbjcgaonkafDoor
