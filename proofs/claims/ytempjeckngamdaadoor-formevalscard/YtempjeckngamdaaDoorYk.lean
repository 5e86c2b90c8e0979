/- Package formula: checkWords: contract. -/
import Derived.Test.YtempjeckngamdaaDoorZSe
import Derived.Test.YtempjeckngamdaaDoorZFd
import Derived.Test.YtempjeckngamdaaDoorZYa
namespace Go.Proofs.YtempjeckngamdaaDoor
open Go.RowKit

set_option maxHeartbeats 8000000 in
set_option maxRecDepth 4000 in
theorem checkWords_any (a : Option Addr) (n cap : Nat) (ns : List Nd) (a2 : Option Addr) (m cap2 : Nat) (os : List Om) (w : World) (hs : SlF w a n ns) (ho : SlO w a2 m os) (hall : ∀ x ∈ ns, ndF x = 0) : Calls Tryd.prog 33 #[.slice a n cap, .slice a2 m cap2] w fun e w' => e = .returned (errV (wdF ns os 0)) ∧ Below w.heap.size w w' := by
  have hL := hs.1
  have hLo := ho.1
  have hmx := ho.2.1
  unfold maxLen at hmx
  have hnx := hs.2.1
  unfold maxLen at hnx
  by_cases h3 : (m : Int) > 3
  · have e : wdF ns os 0 = 3 := by unfold wdF; rw [if_pos (by omega)]
    rw [e]
    clear hs ho e hL hLo hall
    go_enter Tryd.func33, Tryd.ntmps33
    go_wp2
    go_ret
    exact ⟨rfl, Below.refl _ _⟩
  have HS := hide hs
  have HO := hide ho
  have HPR := hide (fun k (hk : k < m) => @wdF_pre ns os 0 (by omega) k (by omega))
  have HRE := hide (@wdF_rest ns os 0 (by omega))
  have HLO := hide hLo
  have HLN := hide hL
  have HAL := hide hall
  clear hs ho hL hLo hall
  generalize wdF ns os 0 = R at HPR HRE ⊢
  go_enter Tryd.func33, Tryd.ntmps33
  go_wp2
  go_loopw [16] (fun kv wx => ∃ k : Nat, k ≤ m ∧ kv = .int .i64 k ∧ (∀ j, j < k → omF 0 (os.getD j zOm) = 0) ∧ Below w.heap.size w wx) (fun kv _ => m - (intOf kv).toNat)
  case atStart => exact ⟨0, by omega, rfl, fun j hj => by omega, Below.refl _ _⟩
  case round =>
    obtain ⟨k, hk, rfl, hz, hb⟩ := hrel
    have HZ := hide hz
    have HB := hide hb
    clear hz hb
    by_cases hlt : k < m
    · have hlti : (k : Int) < (m : Int) := by omega
      obtain ⟨bb, oo, a1, c1, a3, c3, rfl, x0, x1, x2, y1, y2⟩ := slO_cell (slO_below HO.out HB.out) k hlt
      have HP := hide (HPR.out k hlt HZ.out)
      have HNX : Hid (omF 0 (os.getD k zOm) = 0 → ∀ j, j < k + 1 → omF 0 (os.getD j zOm) = 0) := fun h j hj => by
        by_cases e : j = k
        · subst e; exact h
        · exact HZ.out j (by omega)
      generalize os.getD k zOm = om at x0 x1 x2 y1 y2 HP HNX
      have hBa := (Below.refl wr.heap.size wr).alloc (Nat.le_refl _) (.cells #[.int .i64 om.b, .slice a1 om.N.length c1, .slice a3 om.O.length c3] 86)
      have HOF := hide (word_check_any om.b a1 om.N.length c1 a3 om.O.length c3 om.N om.O (wr.alloc (.cells #[.int .i64 om.b, .slice a1 om.N.length c1, .slice a3 om.O.length c3] 86)) (sl2_below y1 hBa) (sl_below y2 hBa))
      unfold outV at HOF
      have HBA := hide (below_step HB.out hBa)
      have HFM : Hid (omF 0 om = outC om.b om.N om.O) := by
        show _ = _
        unfold omF
        rw [if_neg (show ¬ (0 < (0 : Int) ∧ om.b ≠ 0) by omega)]
        split <;> simp_all
      clear y1 y2 HZ hBa
      rw [HFM.out] at HP HNX
      clear HFM
      generalize outC om.b om.N om.O = cO at HOF HP HNX
      go_wp2_with fail
      clear x0 x1 x2
      refine HOF.out.mono ?_
      rintro e w1 ⟨rfl, hb1⟩
      have HB1 := hide (below_step HBA.out hb1)
      clear hb1
      by_cases hc : cO = 0
      · have HNZ := hide (HNX.out hc)
        rw [hc, show errV 0 = .nilIface from rfl]
        clear hc HP HNX
        go_wp2
        go_roundw
        case rel => exact ⟨k + 1, by omega, by go_num, HNZ.out, HB1.out⟩
        case measure => simp [intOf]; omega
      · have hze : errV cO = .iface 24 (.int .i64 cO) := by unfold errV; rw [if_neg hc]
        rw [hze]
        have HZE := hide hze
        have HRZ := hide (HP.out hc)
        clear hc hze HP HNX
        go_wp2
        go_ret
        exact ⟨by rw [HRZ.out, HZE.out]; rfl, HB1.out⟩
    · have hlti : ¬ (k : Int) < (m : Int) := by omega
      obtain rfl : k = m := by omega
      have hre := HRE.out (fun j hj => HZ.out j (by rw [HLO.out] at hj; exact hj))
      rw [HLO.out] at hre
      have HR2 := hide hre
      clear hre HZ HPR HRE
      obtain ⟨wo, hwo⟩ : ∃ wo : World, wo = wr := ⟨_, rfl⟩
      rw [← hwo] at HB ⊢
      clear hwo wr
      have HT := hide (fun j (hj : j < n) => wd_take ns k (k := j) (by rw [HLN.out]; exact hj))
      have HNO := hide (fun j (hj : j < n) => wd_no (ns := ns) (m := k) (k := j) (by rw [HLN.out]; exact hj))
      have HE : Hid (ns.take n = ns) := by show _ = _; rw [← HLN.out]; exact List.take_length
      go_wp2
      go_loopw [28] (fun jv wx => ∃ j : Nat, j ≤ n ∧ jv = .int .i64 j ∧ ((ns.take j).all fun x => decide (¬ wdB k x)) = true ∧ Below w.heap.size w wx) (fun jv _ => n - (intOf jv).toNat)
      case atStart => exact ⟨0, by omega, rfl, rfl, HB.out⟩
      case round =>
        obtain ⟨j, hj, rfl, hz, hb⟩ := hrel
        have HZ := hide hz
        have HBr := hide hb
        clear hz hb
        by_cases hlt2 : j < n
        · have hlti2 : (j : Int) < (n : Int) := by omega
          obtain ⟨bb, oo, a', c', rfl, x0, x1, x2, x3, x4, x5, x6, -⟩ := slF_cell (slF_below HS.out HBr.out) j hlt2
          have HTj := hide (HT.out j hlt2)
          have HNj := hide (HNO.out j hlt2)
          have hmem : ndF (ns.getD j zNd) = 0 := HAL.out _ (by have := HLN.out; simp [List.getD, show j < ns.length by omega])
          have HW2 : Hid ((ns.getD j zNd).op ≠ 4 → (ns.getD j zNd).wd2 = 0) := fun h => ((ndF_zero hmem).2.2.1 h).2
          have HW3 : Hid ((ns.getD j zNd).op = 3 → 0 ≤ (ns.getD j zNd).wd) := fun h => ((ndF_zero hmem).1.2.2.2.1 (.inl h)).1
          clear hmem
          generalize ns.getD j zNd = nd at x0 x1 x2 x3 x4 x5 x6 HTj HNj HW2 HW3
          have HW : Hid (wdB k nd ↔ ((nd.op = 3 ∨ nd.op = 4) ∧ nd.wd ≥ (k : Int)) ∨ (nd.op = 4 ∧ nd.wd2 ≥ (k : Int))) := Iff.rfl
          have HB1 := hide (HBr.out.alloc HBr.out.size (ndO nd a' c'))
          have HX := hide (heap_alloc_last wr (ndO nd a' c'))
          generalize hW1 : wr.alloc (ndO nd a' c') = W1 at HB1 HX
          obtain ⟨⟨z0, z1, z2, z3, z4, z5, z6⟩, -⟩ := box7_cells HX.out
          have HY : Hid (wdB k nd → R = 4) := fun h => by rw [HR2.out, HNj.out h]; rfl
          have HN : Hid (¬ wdB k nd → ((ns.take (j + 1)).all fun x => decide (¬ wdB k x)) = true) := fun h => by rw [HTj.out, HZ.out, decide_eq_true h]; rfl
          by_cases h34 : nd.op = 3 ∨ nd.op = 4
          · have e34 : (nd.op == 3) = true ∨ ((nd.op == 3) = false ∧ (nd.op == 4) = true) := by
              rcases h34 with h | h
              · exact .inl (by simp [h])
              · exact .inr ⟨by simp [h], by simp [h]⟩
            by_cases hw : max nd.wd nd.wd2 ≥ (k : Int)
            · have HRZ := hide (HY.out (HW.out.2 (by have := HW2.out; have := HW3.out; omega)))
              clear h34 HY HN HW
              rcases e34 with e3 | ⟨e3, e4⟩
              all_goals
                go_wp2
                all_goals
                  go_ret
                  exact ⟨by rw [HRZ.out]; rfl, HB1.out⟩
            · have HNZ := hide (HN.out (fun h => by have := HW.out.1 h; omega))
              clear h34 HY HN HW
              rcases e34 with e3 | ⟨e3, e4⟩
              all_goals
                go_wp2
                all_goals
                  go_roundw
                  case rel => exact ⟨j + 1, by omega, by go_num, HNZ.out, HB1.out⟩
                  case measure => simp [intOf]; omega
          · have e3 : (nd.op == 3) = false := by simp; omega
            have e4 : (nd.op == 4) = false := by simp; omega
            have HNZ := hide (HN.out (fun h => by have := HW.out.1 h; omega))
            clear h34 HY HN HW
            go_wp2
            go_roundw
            case rel => exact ⟨j + 1, by omega, by go_num, HNZ.out, HB1.out⟩
            case measure => simp [intOf]; omega
        · have hlti2 : ¬ (j : Int) < (n : Int) := by omega
          obtain rfl : j = n := by omega
          have hz := HZ.out
          rw [HE.out] at hz
          have HRZ : Hid (R = 0) := by show _ = _; rw [HR2.out, hz]; rfl
          clear hz
          go_wp2
          go_ret
          exact ⟨by rw [HRZ.out]; rfl, HBr.out⟩
end Go.Proofs.YtempjeckngamdaaDoor
