/- The reference's Fault, LongFault and Behind: contracts. -/
import Derived.Test.YtihhlddbppljpacDoorAd
import Derived.Test.YtihhlddbppljpacDoorLp
namespace Go.Proofs.YtihhlddbppljpacDoor
open Go.RowKit

set_option maxHeartbeats 4000000 in
set_option maxRecDepth 4000 in
theorem afault_u (b t : Int) (a a' : Option Addr) (len cap len' cap' : Nat) (N : List (List Int)) (w : World) (hs : Sl2 w a len N) (hm' : len' ≤ maxLen) :
    Calls Tryd.prog 8 #[.agg #[.int .i64 b, .int .i64 t, .slice a len cap, .slice a' len' cap']] w fun e w' => e = .returned (.int .i64 (autoC b t N len')) ∧ Below w.heap.size w w' := by
  have hL := hs.1
  have hm := hs.2.1
  unfold maxLen at hm hm'
  have HMU := hide (fun W => letters_u b t W)
  by_cases hM : codeM b t = 0
  · have hlo := pw_pos (kindsI b) (kinds_bd2 b (codeM_zero hM).2.1).1 t.toNat
    have hhi := (codeM_zero hM).2.2.2.2.1
    have hmu := (codeM_zero hM).2.2.2.2.2
    rw [← hmu] at hlo hhi
    obtain ⟨m, hmm⟩ : ∃ m : Nat, manyU b t = m := ⟨(manyU b t).toNat, by omega⟩
    have HA : Hid (autoC b t N len' = if len = 0 then 4 else if 80 < len then 3 else if len' = len then rowsC m len N else 2) := by
      show _ = _
      unfold autoC
      rw [if_pos hM, hL, hmm, Int.toNat_natCast]
    have hm36 : m ≤ 36 := by omega
    rw [hmm, hM] at HMU
    clear hM hlo hhi hmu hmm
    generalize autoC b t N len' = R at HA ⊢
    by_cases h0 : len = 0
    · rw [if_pos h0] at HA
      subst h0
      go_enter Tryd.func8, Tryd.ntmps8
      go_wp2_with (go_at_call 19; refine (HMU.out _).mono ?_; rintro e w' ⟨rfl, rfl⟩)
      go_ret
      exact ⟨by rw [HA.out]; simp, (Below.refl _ _).alloc (Nat.le_refl _) _⟩
    · rw [if_neg h0] at HA
      have h0' : ((len : Int) == 0) = false := by simp; omega
      by_cases h80 : 80 < len
      · rw [if_pos h80] at HA
        have h80' : (80 : Int) < (len : Int) := by omega
        go_enter Tryd.func8, Tryd.ntmps8
        go_wp2_with (go_at_call 19; refine (HMU.out _).mono ?_; rintro e w' ⟨rfl, rfl⟩)
        go_ret
        exact ⟨by rw [HA.out]; simp, (Below.refl _ _).alloc (Nat.le_refl _) _⟩
      · rw [if_neg h80] at HA
        have h80' : ¬ (80 : Int) < (len : Int) := by omega
        by_cases hE : len' = len
        · rw [if_pos hE] at HA
          subst hE
          have hee : ((len' : Int) != (len' : Int)) = false := by simp
          have HB : Hid (Below w.heap.size w (w.alloc (.cells #[.int .i64 b, .int .i64 t, .slice a len' cap, .slice a' len' cap'] 25))) := (Below.refl _ _).alloc (Nat.le_refl _) _
          have HS := hide (sl2_below hs HB.out)
          have HBX := hide (box4 (Below.refl (w.alloc (.cells #[.int .i64 b, .int .i64 t, .slice a len' cap, .slice a' len' cap'] 25)).heap.size (w.alloc (.cells #[.int .i64 b, .int .i64 t, .slice a len' cap, .slice a' len' cap'] 25)))).2.2.1
          have HAT := hide (fun k => @rowsC_at m len' N k)
          have HALL := hide (@rowsC_all m len' N)
          rw [hL] at HALL
          have HCL := hide (fun k => @rowC_long m len' (N.getD k []))
          have HCB := hide (fun k h => @rowC_bad m len' (N.getD k []) h)
          have HCG := hide (fun k => @rowC_good m len' (N.getD k []))
          have hN : N.length = len' := hL
          clear hs hL
          go_enter Tryd.func8, Tryd.ntmps8
          go_wp2_with (go_at_call 19; refine (HMU.out _).mono ?_; rintro e w' ⟨rfl, rfl⟩)
          generalize w.alloc (.cells #[.int .i64 b, .int .i64 t, .slice a len' cap, .slice a' len' cap'] 25) = W at HS HB HBX ⊢
          go_loopw [5] (fun i wx => ∃ k n : Nat, k ≤ len' ∧ i = .int .i64 k ∧ wx = W.drewN n ∧ ∀ j, j < k → rowC m len' (N.getD j []) = 0) (fun i _ => len' - (intOf i).toNat)
          case atStart => exact ⟨0, 0, by omega, rfl, rfl, by omega⟩
          case round =>
            obtain ⟨k, n, hk, rfl, hwx, hd⟩ := hrel
            have HD := hide hd
            have HWX := hide hwx
            have hbx : wr.cell? ⟨w.heap.size, 2, none⟩ = some (.slice a len' cap) := by rw [hwx]; exact HBX.out
            clear hd hwx
            by_cases hlt : k < len'
            · have hlti : (k : Int) < (len' : Int) := by omega
              obtain ⟨bb, o, a1, c1, rfl, hck0, hsl⟩ := sl2_cell HS.out k hlt
              have HSL := hide hsl
              have hck : wr.cell? ⟨bb, o + k, none⟩ = some (.slice a1 (N.getD k []).length c1) := by rw [HWX.out]; exact hck0
              have HAT' := hide (HAT.out k (by omega) HD.out)
              have HCL' := hide (HCL.out k)
              have HCB' := hide (HCB.out k)
              have HCG' := hide (HCG.out k)
              have HD' : Hid (rowC m len' (N.getD k []) = 0 → ∀ j, j < k + 1 → rowC m len' (N.getD j []) = 0) := by
                intro h j hj
                by_cases e : j = k
                · subst e; exact h
                · exact HD.out j (by omega)
              have hrm := hsl.2.1
              unfold maxLen at hrm
              clear hck0 hsl
              generalize rowC m len' (N.getD k []) = C at HAT' HCL' HCB' HCG' HD'
              generalize hrl : N.getD k [] = r at hck HCL' HCB' HCG' HSL hrm
              clear hrl
              by_cases hlen : r.length = m
              · have HCB2 := hide (HCB'.out hlen)
                have HCG2 := hide (HCG'.out hlen)
                rw [hlen] at hck HSL hrm
                clear HCL' HCB' HCG' hlen
                have hmm : ((m : Int) != (m : Int)) = false := by simp
                go_wp2
                obtain ⟨wo, hwo⟩ : ∃ wo : World, wo = wr := ⟨_, rfl⟩
                rw [← hwo] at HWX hbx hck ⊢
                clear hwo wr
                have HCK := hide hck
                have HBX2 := hide hbx
                clear hck hbx
                go_loopw [6] (fun i wx => ∃ q n' : Nat, q ≤ m ∧ i = .int .i64 q ∧ wx = wo.drewN n' ∧ ∀ j, j < q → 0 ≤ r.getD j 0 ∧ r.getD j 0 < (len' : Int)) (fun i _ => m - (intOf i).toNat)
                case atStart => exact ⟨0, 0, by omega, rfl, rfl, by omega⟩
                case round =>
                  obtain ⟨q, n', hq, rfl, hwx, hd⟩ := hrel
                  have HWX2 := hide hwx
                  have HDQ := hide hd
                  have hbx : wr.cell? ⟨w.heap.size, 2, none⟩ = some (.slice (some ⟨bb, o, none⟩) len' cap) := by rw [hwx]; exact HBX2.out
                  have hck : wr.cell? ⟨bb, o + k, none⟩ = some (.slice a1 m c1) := by rw [hwx]; exact HCK.out
                  clear hwx hd
                  by_cases hqt : q < m
                  · have hqti : (q : Int) < (m : Int) := by omega
                    obtain ⟨b1, o1, rfl, hx0⟩ := sl_cell HSL.out q hqt
                    have hxc : wr.cell? ⟨b1, o1 + q, none⟩ = some (.int .i64 (r.getD q 0)) := by rw [HWX2.out, HWX.out]; exact hx0
                    clear hx0
                    have HBQ := hide (HCB2.out q hqt)
                    have HDQ' : Hid (0 ≤ r.getD q 0 ∧ r.getD q 0 < (len' : Int) → ∀ j, j < q + 1 → 0 ≤ r.getD j 0 ∧ r.getD j 0 < (len' : Int)) := by
                      intro h j hj
                      by_cases e : j = q
                      · subst e; exact h
                      · exact HDQ.out j (by omega)
                    generalize r.getD q 0 = x at hxc HBQ HDQ'
                    by_cases hx : 0 ≤ x ∧ x < (len' : Int)
                    · have HDQ2 := hide (HDQ'.out hx)
                      obtain ⟨hx1, hx2⟩ := hx
                      have hxd : decide (x < 0) = false := by simp; omega
                      go_wp2
                      go_quiet (fail)
                      go_wp2
                      go_roundw
                      case rel => exact ⟨q + 1, n' + nq, by omega, by go_num, by rw [HWX2.out, World.drewN_drewN], HDQ2.out⟩
                      case measure => simp [intOf]; omega
                    · have HC1 := hide (HBQ.out hx)
                      have HR := hide (HAT'.out (by rw [HC1.out]; decide))
                      rw [HR.out, HC1.out] at HA
                      have HBW : Hid (Below w.heap.size w wr) := by rw [HWX2.out, HWX.out]; exact below_drewN (below_drewN HB.out n) n'
                      have hx' : x < 0 ∨ (decide (x < 0) = false ∧ (len' : Int) ≤ x) := by
                        by_cases e : x < 0
                        · exact Or.inl e
                        · exact Or.inr ⟨by simp; omega, by omega⟩
                      clear hx HR HC1
                      rcases hx' with hx | ⟨hx1, hx2⟩
                      all_goals
                        go_wp2
                        go_quiet (fail)
                        go_wp2
                        go_ret
                        exact ⟨by rw [HA.out]; simp, below_drewN HBW.out nq⟩
                  · have hqti : ¬ ((q : Int) < (m : Int)) := by omega
                    have HD2 := hide (HD'.out (HCG2.out fun j hj => HDQ.out j (by omega)))
                    go_wp2
                    go_roundw
                    case rel => exact ⟨k + 1, n + n', by omega, by go_num, by rw [HWX2.out, HWX.out, World.drewN_drewN], HD2.out⟩
                    case measure => simp [intOf]; omega
              · have HC2 := hide (HCL'.out hlen)
                have HR := hide (HAT'.out (by rw [HC2.out]; decide))
                rw [HR.out, HC2.out] at HA
                have hne : ((r.length : Int) != (m : Int)) = true := by simp; omega
                have HBW : Hid (Below w.heap.size w wr) := by rw [HWX.out]; exact below_drewN HB.out n
                clear HR HC2 HSL
                go_wp2
                go_ret
                exact ⟨by rw [HA.out]; simp, HBW.out⟩
            · have hlti : ¬ ((k : Int) < (len' : Int)) := by omega
              have HR := hide (HALL.out fun j hj => HD.out j (by omega))
              rw [HR.out] at HA
              have HBW : Hid (Below w.heap.size w wr) := by rw [HWX.out]; exact below_drewN HB.out n
              go_wp2
              go_ret
              exact ⟨by rw [HA.out]; simp, HBW.out⟩
        · rw [if_neg hE] at HA
          have hee : ((len' : Int) != (len : Int)) = true := by simp; omega
          go_enter Tryd.func8, Tryd.ntmps8
          go_wp2_with (go_at_call 19; refine (HMU.out _).mono ?_; rintro e w' ⟨rfl, rfl⟩)
          go_ret
          exact ⟨by rw [HA.out]; simp, (Below.refl _ _).alloc (Nat.le_refl _) _⟩
  · have HA : Hid (autoC b t N len' = codeM b t) := by show _ = _; unfold autoC; rw [if_neg hM]
    rw [HA.out]
    generalize codeM b t = c at HMU hM ⊢
    have hM' : (c != 0) = true := by simpa using hM
    go_enter Tryd.func8, Tryd.ntmps8
    go_wp2_with (go_at_call 19; refine (HMU.out _).mono ?_; rintro e w' ⟨rfl, rfl⟩)
    go_ret
    exact ⟨by simp, (Below.refl _ _).alloc (Nat.le_refl _) _⟩

end Go.Proofs.YtihhlddbppljpacDoor
