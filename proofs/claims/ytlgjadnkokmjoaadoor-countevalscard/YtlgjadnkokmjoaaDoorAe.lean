/- The reference's Fault, LongFault and Behind: contracts. -/
import Derived.Test.YtlgjadnkokmjoaaDoorAc
import Derived.Test.YtlgjadnkokmjoaaDoorLp
namespace Go.Proofs.YtlgjadnkokmjoaaDoor
open Go.RowKit

set_option maxHeartbeats 1000000 in
set_option maxRecDepth 4000 in
theorem longFault_u (m : Nat) (aw : Option Addr) (lw cw : Nat) (l : List Int) (w : World) (hs : Sl w aw lw l) :
    Calls Tryd.prog 41 #[.int .i64 m, .slice aw lw cw] w fun e w' => e = .returned (.int .i64 (wordC m l)) ∧ w' = w := by
  have hL := hs.1
  have hm := hs.2.1
  unfold maxLen at hm
  have HS := hide hs
  clear hs
  by_cases hlong : 400 < lw
  · rw [@wordC_long m l (by omega)]
    have hlong' : (400 : Int) < (lw : Int) := by omega
    go_enter Tryd.func41, Tryd.ntmps41
    go_wp2
    go_ret
    exact ⟨by simp, rfl⟩
  · have hlong' : ¬ (400 : Int) < (lw : Int) := by omega
    have HBAD := hide (fun k => @wordC_bad m l (by omega) k)
    have HGOOD := hide (@wordC_good m l (by omega))
    rw [hL] at HBAD HGOOD
    generalize wordC m l = c at HBAD HGOOD ⊢
    go_enter Tryd.func41, Tryd.ntmps41
    go_wp2
    go_loop [5] (fun i => ∃ k : Nat, k ≤ lw ∧ i = .int .i64 k ∧ ∀ j, j < k → 0 ≤ l.getD j 0 ∧ l.getD j 0 < (m : Int)) (fun i => lw - (intOf i).toNat)
    case atStart => exact ⟨0, by omega, rfl, by omega⟩
    case round =>
      obtain ⟨k, hk, rfl, hd⟩ := hrel
      have HD := hide hd
      clear hd
      by_cases hlt : k < lw
      · have hlti : (k : Int) < (lw : Int) := by omega
        obtain ⟨bb, o, rfl, hck⟩ := sl_cell HS.out k hlt
        have HB' := hide (HBAD.out k hlt)
        have HD' : Hid (0 ≤ l.getD k 0 ∧ l.getD k 0 < (m : Int) → ∀ j, j < k + 1 → 0 ≤ l.getD j 0 ∧ l.getD j 0 < (m : Int)) := by
          intro h j hj
          by_cases e : j = k
          · subst e; exact h
          · exact HD.out j (by omega)
        generalize l.getD k 0 = x at hck HB' HD'
        by_cases hx : 0 ≤ x ∧ x < (m : Int)
        · have HD2 := hide (HD'.out hx)
          obtain ⟨hx1, hx2⟩ := hx
          go_wp2
          go_round
          case rel => exact ⟨k + 1, by omega, by go_num, HD2.out⟩
          case measure => simp [intOf]; omega
        · have HB2 := hide (HB'.out hx)
          have hx' : x < 0 ∨ (¬ x < 0 ∧ (m : Int) ≤ x) := by omega
          clear hx
          rcases hx' with hx | ⟨hx1, hx2⟩
          all_goals
            go_wp2
            go_ret
            exact ⟨by rw [HB2.out]; simp, rfl⟩
      · have hlti : ¬ ((k : Int) < (lw : Int)) := by omega
        have HG2 := hide (HGOOD.out fun j hj => HD.out j (by omega))
        go_wp2
        go_ret
        exact ⟨by rw [HG2.out]; simp, rfl⟩

end Go.Proofs.YtlgjadnkokmjoaaDoor
