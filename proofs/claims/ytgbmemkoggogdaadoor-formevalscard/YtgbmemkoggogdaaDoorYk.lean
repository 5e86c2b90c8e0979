/- Package formula: checkWords: contract. -/
import Derived.Test.YtgbmemkoggogdaaDoorZPva
import Derived.Test.YtgbmemkoggogdaaDoorZSe
import Derived.Test.YtgbmemkoggogdaaDoorZFd
import Derived.Test.YtgbmemkoggogdaaDoorZYa
namespace Go.Proofs.YtgbmemkoggogdaaDoor
open Go.RowKit

set_option maxHeartbeats 8000000 in
set_option maxRecDepth 4000 in
theorem checkWords_any (a : Option Addr) (n cap : Nat) (ns : List Nd) (a2 : Option Addr) (m cap2 : Nat) (os : List Om) (w : World) (hs : SlF w a n ns) (ho : SlO w a2 m os) (hall : ∀ x ∈ ns, ndF x = 0) : Calls Tryd.prog 28 #[.slice a n cap, .slice a2 m cap2] w fun e w' => e = .returned (errV (wdF ns os 0)) ∧ Below w.heap.size w w' := by
  have hL := hs.1
  have hLo := ho.1
  have hmx := ho.2.1
  unfold maxLen at hmx
  have hnx := hs.2.1
  unfold maxLen at hnx
  by_cases h3 : (m : Int) > 3
  · have e : wdF ns os 0 = 3 := by unfold wdF; rw [if_pos (by omega)]
    rw [e]
    clear hs ho e hL hLo hall
    go_enter Tryd.func28, Tryd.ntmps28
    go_wp2
    go_ret
    exact ⟨rfl, Below.refl _ _⟩
  have HS := hide hs
  have HO := hide ho
  have HPR := hide (fun k (hk : k < m) => @wdF_pre ns os 0 (by omega) k (by omega))
  have HRE := hide (@wdF_rest ns os 0 (by omega))
  have HLO := hide hLo
  have HLN := hide hL
  have HAL := hide hall
  clear hs ho hL hLo hall
  generalize wdF ns os 0 = R at HPR HRE ⊢
  go_enter Tryd.func28, Tryd.ntmps28
  go_wp2
  go_loopw [14] (fun kv wx => ∃ k : Nat, k ≤ m ∧ kv = .int .i64 k ∧ (∀ j, j < k → omF 0 (os.getD j zOm) = 0) ∧ Below w.heap.size w wx) (fun kv _ => m - (intOf kv).toNat)
  case atStart => exact ⟨0, by omega, rfl, fun j hj => by omega, Below.refl _ _⟩
  case round =>
    obtain ⟨k, hk, rfl, hz, hb⟩ := hrel
    have HZ := hide hz
    have HB := hide hb
    clear hz hb
    by_cases hlt : k < m
    · have hlti : (k : Int) < (m : Int) := by omega
      obtain ⟨bb, oo, a1, c1, a3, c3, rfl, x0, x1, x2, y1, y2⟩ := slO_cell (slO_below HO.out HB.out) k hlt
      have HP := hide (HPR.out k hlt HZ.out)
      have HNX : Hid (omF 0 (os.getD k zOm) = 0 → ∀ j, j < k + 1 → omF 0 (os.getD j zOm) = 0) := fun h j hj => by
        by_cases e : j = k
        · subst e; exact h
        · exact HZ.out j (by omega)
      generalize os.getD k zOm = om at x0 x1 x2 y1 y2 HP HNX
      have hBa := (Below.refl wr.heap.size wr).alloc (Nat.le_refl _) (.cells #[.int .i64 om.b, .slice a1 om.N.length c1, .slice a3 om.O.length c3] 25)
      have HOF := hide (word_check_any om.b a1 om.N.length c1 a3 om.O.length c3 om.N om.O (wr.alloc (.cells #[.int .i64 om.b, .slice a1 om.N.length c1, .slice a3 om.O.length c3] 25)) (sl2_below y1 hBa) (sl_below y2 hBa))
      unfold outV at HOF
      have HBA := hide (below_step HB.out hBa)
      have HFM : Hid (omF 0 om = outC om.b om.N om.O) := by
        show _ = _
        unfold omF
        rw [if_neg (show ¬ (0 < (0 : Int) ∧ om.b ≠ 0) by omega)]
        split <;> simp_all
      clear y1 y2 HZ hBa
      rw [HFM.out] at HP HNX
      clear HFM
      generalize outC om.b om.N om.O = cO at HOF HP HNX
      go_wp2_with fail
      clear x0 x1 x2
      refine HOF.out.mono ?_
      rintro e w1 ⟨rfl, hb1⟩
      have HB1 := hide (below_step HBA.out hb1)
      clear hb1
      by_cases hc : cO = 0
      · have HNZ := hide (HNX.out hc)
        rw [hc, show errV 0 = .nilIface from rfl]
        clear hc HP HNX
        go_wp2
        go_roundw
        case rel => exact ⟨k + 1, by omega, by go_num, HNZ.out, HB1.out⟩
        case measure => simp [intOf]; omega
      · have hze : errV cO = .iface 26 (.int .i64 cO) := by unfold errV; rw [if_neg hc]
        rw [hze]
        have HZE := hide hze
        have HRZ := hide (HP.out hc)
        clear hc hze HP HNX
        go_wp2
        go_ret
        exact ⟨by rw [HRZ.out, HZE.out]; rfl, HB1.out⟩
    · have hlti : ¬ (k : Int) < (m : Int) := by omega
      obtain rfl : k = m := by omega
      have hre := HRE.out (fun j hj => HZ.out j (by rw [HLO.out] at hj; exact hj))
      rw [HLO.out] at hre
      have HR2 := hide hre
      clear hre HZ HPR HRE
      obtain ⟨wo, hwo⟩ : ∃ wo : World, wo = wr := ⟨_, rfl⟩
      rw [← hwo] at HB ⊢
      clear hwo wr
      have hna := need_all HAL.out k
      have HNE := hide (needs_any a n cap ns wo (slF_below HS.out HB.out) HAL.out)
      generalize needL ns = q at hna HNE
      by_cases hq : q > (k : Int)
      · have hf : ¬ (ns.all fun n => decide (¬ wdB k n)) = true := fun h => by have := hna.2 h; omega
        rw [if_neg hf] at HR2
        clear hna hf
        go_wp2_with (go_at_call 49; refine HNE.out.mono ?_; rintro e w5 ⟨rfl, hb5⟩; have HB5 := hide (below_step HB.out hb5); clear hb5)
        go_ret
        exact ⟨by rw [HR2.out]; rfl, HB5.out⟩
      · have hf : (ns.all fun n => decide (¬ wdB k n)) = true := hna.1 (by omega)
        rw [if_pos hf] at HR2
        clear hna hf
        go_wp2_with (go_at_call 49; refine HNE.out.mono ?_; rintro e w5 ⟨rfl, hb5⟩; have HB5 := hide (below_step HB.out hb5); clear hb5)
        go_ret
        exact ⟨by rw [HR2.out]; rfl, HB5.out⟩
end Go.Proofs.YtgbmemkoggogdaaDoor
