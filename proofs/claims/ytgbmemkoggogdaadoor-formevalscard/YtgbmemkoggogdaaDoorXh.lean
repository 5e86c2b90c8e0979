/- The reference's WordsFault: contract. -/
import Derived.Test.YtgbmemkoggogdaaDoorZFd
import Derived.Test.YtgbmemkoggogdaaDoorZEg
import Derived.Test.YtgbmemkoggogdaaDoorZXd
namespace Go.Proofs.YtgbmemkoggogdaaDoor
open Go.RowKit

set_option maxHeartbeats 8000000 in
set_option maxRecDepth 4000 in
theorem wordsFault_any (a : Option Addr) (n cap : Nat) (ns : List Nd) (a2 : Option Addr) (m cap2 : Nat) (os : List Om) (base : Int) (w : World) (hs : SlF w a n ns) (ho : SlO w a2 m os) (hn : n ≤ 40) : Calls Tryd.prog 23 #[.slice a n cap, .slice a2 m cap2, .int .i64 base] w fun e w' => e = .returned (.int .i64 (wdF ns os base)) ∧ Below w.heap.size w w' := by
  have hL := hs.1
  have hLo := ho.1
  have hmx := ho.2.1
  unfold maxLen at hmx
  by_cases h3 : (m : Int) > 3
  · have e : wdF ns os base = 3 := by unfold wdF; rw [if_pos (by omega)]
    rw [e]
    clear hs ho e hL hLo
    go_enter Tryd.func23, Tryd.ntmps23
    go_wp2
    go_ret
    exact ⟨rfl, Below.refl _ _⟩
  have HS := hide hs
  have HO := hide ho
  have HPR := hide (fun k (hk : k < m) => @wdF_pre ns os base (by omega) k (by omega))
  have HRE := hide (@wdF_rest ns os base (by omega))
  have HLO := hide hLo
  have HLN := hide hL
  clear hs ho hL hLo
  generalize wdF ns os base = R at HPR HRE ⊢
  go_enter Tryd.func23, Tryd.ntmps23
  go_wp2
  go_loopw [7] (fun kv wx => ∃ k : Nat, k ≤ m ∧ kv = .int .i64 k ∧ (∀ j, j < k → omF base (os.getD j zOm) = 0) ∧ Below w.heap.size w wx) (fun kv _ => m - (intOf kv).toNat)
  case atStart => exact ⟨0, by omega, rfl, fun j hj => by omega, Below.refl _ _⟩
  case round =>
    obtain ⟨k, hk, rfl, hz, hb⟩ := hrel
    have HZ := hide hz
    have HB := hide hb
    clear hz hb
    by_cases hlt : k < m
    · have hlti : (k : Int) < (m : Int) := by omega
      obtain ⟨bb, oo, a1, c1, a3, c3, rfl, x0, x1, x2, y1, y2⟩ := slO_cell (slO_below HO.out HB.out) k hlt
      have HP := hide (HPR.out k hlt HZ.out)
      have HNX : Hid (omF base (os.getD k zOm) = 0 → ∀ j, j < k + 1 → omF base (os.getD j zOm) = 0) := fun h j hj => by
        by_cases e : j = k
        · subst e; exact h
        · exact HZ.out j (by omega)
      generalize os.getD k zOm = om at x0 x1 x2 y1 y2 HP HNX
      have HOF := hide (outFault_any om.b a1 om.N.length c1 a3 om.O.length c3 om.N om.O wr y1 y2)
      unfold outV at HOF
      have HFM : Hid (omF base om = if outC om.b om.N om.O = 0 then (if 0 < base ∧ om.b ≠ base then 2 else 0) else outC om.b om.N om.O) := rfl
      have HX0 : Hid (∀ W, Below wr.heap.size wr W → W.cell? ⟨bb, oo + k * 3, none⟩ = some (.int .i64 om.b) ∧ True) := fun W h => ⟨(h.cell (p := ⟨bb, oo + k * 3, none⟩) (World.block_lt_of_cell? wr _ x0)).trans x0, trivial⟩
      clear y1 y2 HZ
      generalize omF base om = F at HP HNX HFM
      generalize outC om.b om.N om.O = cO at HOF HFM
      go_wp2_with fail
      clear x0 x1 x2
      refine HOF.out.mono ?_
      rintro e w1 ⟨rfl, hb1⟩
      have HB1 := hide (below_step HB.out hb1)
      obtain ⟨x0, -⟩ := HX0.out w1 hb1
      clear hb1
      by_cases hc : cO = 0
      · have hf := HFM.out
        rw [if_pos hc] at hf
        rw [hc]
        by_cases hbs : base > 0
        · by_cases hbb : om.b = base
          · have e1 : (om.b == base) = true := by simp [hbb]
            have e2 : (om.b != base) = false := by simp [hbb]
            rw [if_neg (by omega)] at hf
            have HNZ := hide (HNX.out hf)
            clear hf hbb hc HFM
            go_wp2
            go_roundw
            case rel => exact ⟨k + 1, by omega, by go_num, HNZ.out, HB1.out⟩
            case measure => simp [intOf]; omega
          · have e1 : (om.b == base) = false := by simp [hbb]
            have e2 : (om.b != base) = true := by simp [hbb]
            rw [if_pos (by omega)] at hf
            have HRZ := hide (HP.out (by omega))
            rw [hf] at HRZ
            clear hf hbb hc HFM
            go_wp2
            go_ret
            exact ⟨by rw [HRZ.out]; rfl, HB1.out⟩
        · rw [if_neg (by omega)] at hf
          have HNZ := hide (HNX.out hf)
          clear hf hc HFM
          go_wp2
          go_roundw
          case rel => exact ⟨k + 1, by omega, by go_num, HNZ.out, HB1.out⟩
          case measure => simp [intOf]; omega
      · have hf := HFM.out
        rw [if_neg hc] at hf
        have hcb : (cO == 0) = false := by simpa using hc
        have HRZ := hide (HP.out (by omega))
        rw [hf] at HRZ
        clear hf hc HFM
        go_wp2
        go_ret
        exact ⟨by rw [HRZ.out]; rfl, HB1.out⟩
    · have hlti : ¬ (k : Int) < (m : Int) := by omega
      obtain rfl : k = m := by omega
      have hre := HRE.out (fun j hj => HZ.out j (by rw [HLO.out] at hj; exact hj))
      rw [HLO.out] at hre
      have HR2 := hide hre
      clear hre HZ HPR HRE
      obtain ⟨wo, hwo⟩ : ∃ wo : World, wo = wr := ⟨_, rfl⟩
      rw [← hwo] at HB ⊢
      clear hwo wr
      have HT := hide (fun j (hj : j < n) => wd_take ns k (k := j) (by rw [HLN.out]; exact hj))
      have HNO := hide (fun j (hj : j < n) => wd_no (ns := ns) (m := k) (k := j) (by rw [HLN.out]; exact hj))
      have HE : Hid (ns.take n = ns) := by show _ = _; rw [← HLN.out]; exact List.take_length
      go_wp2
      go_loopw [9] (fun jv wx => ∃ j : Nat, j ≤ n ∧ jv = .int .i64 j ∧ ((ns.take j).all fun x => decide (¬ wdB k x)) = true ∧ Below w.heap.size w wx) (fun jv _ => n - (intOf jv).toNat)
      case atStart => exact ⟨0, by omega, rfl, rfl, HB.out⟩
      case round =>
        obtain ⟨j, hj, rfl, hz, hb⟩ := hrel
        have HZ := hide hz
        have HBr := hide hb
        clear hz hb
        by_cases hlt2 : j < n
        · have hlti2 : (j : Int) < (n : Int) := by omega
          obtain ⟨bb, oo, a', c', rfl, x0, x1, x2, x3, x4, x5, x6, -⟩ := slF_cell (slF_below HS.out HBr.out) j hlt2
          have HTj := hide (HT.out j hlt2)
          have HNj := hide (HNO.out j hlt2)
          generalize ns.getD j zNd = nd at x0 x1 x2 x3 x4 x5 x6 HTj HNj
          have HW : Hid (wdB k nd ↔ ((nd.op = 3 ∨ nd.op = 4) ∧ nd.wd ≥ (k : Int)) ∨ (nd.op = 4 ∧ nd.wd2 ≥ (k : Int))) := Iff.rfl
          have HB1 := hide (HBr.out.alloc HBr.out.size (ndO nd a' c'))
          have HX := hide (heap_alloc_last wr (ndO nd a' c'))
          generalize hW1 : wr.alloc (ndO nd a' c') = W1 at HB1 HX
          obtain ⟨⟨z0, z1, z2, z3, z4, z5, z6⟩, -⟩ := box7_cells HX.out
          have HY : Hid (wdB k nd → R = 4) := fun h => by rw [HR2.out, HNj.out h]; rfl
          have HN : Hid (¬ wdB k nd → ((ns.take (j + 1)).all fun x => decide (¬ wdB k x)) = true) := fun h => by rw [HTj.out, HZ.out, decide_eq_true h]; rfl
          by_cases h3 : nd.op = 3
          · have e3 : (nd.op == 3) = true := by simp [h3]
            have e4 : (nd.op == 4) = false := by simp [h3]
            by_cases hw : nd.wd ≥ (k : Int)
            · have HRZ := hide (HY.out (HW.out.2 (by omega)))
              clear h3 HY HN HW
              go_wp2
              go_ret
              exact ⟨by rw [HRZ.out]; rfl, HB1.out⟩
            · have HNZ := hide (HN.out (fun h => by have := HW.out.1 h; omega))
              clear h3 HY HN HW
              go_wp2
              go_roundw
              case rel => exact ⟨j + 1, by omega, by go_num, HNZ.out, HB1.out⟩
              case measure => simp [intOf]; omega
          · have e3 : (nd.op == 3) = false := by simp [h3]
            by_cases h4 : nd.op = 4
            · have e4 : (nd.op == 4) = true := by simp [h4]
              by_cases hw : nd.wd ≥ (k : Int)
              · have HRZ := hide (HY.out (HW.out.2 (by omega)))
                clear h3 h4 HY HN HW
                go_wp2
                go_ret
                exact ⟨by rw [HRZ.out]; rfl, HB1.out⟩
              · by_cases hw2 : nd.wd2 ≥ (k : Int)
                · have HRZ := hide (HY.out (HW.out.2 (by omega)))
                  clear h3 h4 HY HN HW
                  go_wp2
                  go_ret
                  exact ⟨by rw [HRZ.out]; rfl, HB1.out⟩
                · have HNZ := hide (HN.out (fun h => by have := HW.out.1 h; omega))
                  clear h3 h4 HY HN HW
                  go_wp2
                  go_roundw
                  case rel => exact ⟨j + 1, by omega, by go_num, HNZ.out, HB1.out⟩
                  case measure => simp [intOf]; omega
            · have e4 : (nd.op == 4) = false := by simp [h4]
              have HNZ := hide (HN.out (fun h => by have := HW.out.1 h; omega))
              clear h3 h4 HY HN HW
              go_wp2
              go_roundw
              case rel => exact ⟨j + 1, by omega, by go_num, HNZ.out, HB1.out⟩
              case measure => simp [intOf]; omega
        · have hlti2 : ¬ (j : Int) < (n : Int) := by omega
          obtain rfl : j = n := by omega
          have hz := HZ.out
          rw [HE.out] at hz
          have HRZ : Hid (R = 0) := by show _ = _; rw [HR2.out, hz]; rfl
          clear hz
          go_wp2
          go_ret
          exact ⟨by rw [HRZ.out]; rfl, HBr.out⟩
end Go.Proofs.YtgbmemkoggogdaaDoor
