/- The contract of the document's Weights. -/
import Derived.Test.YtcpnfbjcgaonkafDoorRa
import Derived.Test.YtcpnfbjcgaonkafDoorU
import Derived.Test.YtcpnfbjcgaonkafDoorWm
import Derived.OwnWalk
namespace Go.Proofs.YtcpnfbjcgaonkafDoor
open Go.RowKit

/-- The row of k + 1 places in the loop of Weights. -/
def WtAt (b : Int) (w : World) (k : Nat) (v : Value) (wr : World) : Prop :=
  (∀ i, i + 1 < k + 1 → wt b i ≤ 1099511627776) ∧ wr.ownsRow w.heap.size 3 1 v (k + 1) ((wtL b (k + 1)).map (Value.int .i64)) ∧ Below w.heap.size w wr

def WGives (b : Int) (w : World) (e : Ending) (w' : World) : Prop := ∃ n, Wts b n ∧ GivesRow w (wtL b n) e w'

theorem wtAt_step {b : Int} {w wr w3 : World} {k g cap : Nat} {v' : Value} {o : Obj} (hat : WtAt b w k (.slice (some ⟨g, 0, none⟩) (k + 1) cap) wr) (hle : wt b k ≤ 1099511627776) (hg : w.heap.size ≤ g) (hb : Below w.heap.size w wr)
    (hown : w3.ownsRow w.heap.size 3 1 v' (k + 1 + 1) ((wtL b (k + 1)).map (Value.int .i64) ++ [.int .i64 (wt b (k + 1))])) (hgrow : (wr.alloc o).grownBy w3 (some g)) : WtAt b w (k + 1) v' w3 := by
  refine ⟨fun i hi => ?_, by rw [wtL_succ, List.map_append]; exact hown, ?_⟩
  · by_cases e : i = k
    · subst e; exact hle
    · exact hat.1 i (by omega)
  · exact Below.grown (hb.alloc hb.size o) hgrow (by have := hb.size; simp; omega) (fun j h => by cases h; exact hg)

theorem wtAt_end {b : Int} {w wr : World} {k : Nat} {v : Value} (h1 : 1 ≤ b) (h2 : b ≤ 6) (hk : k ≤ 59) (hat : WtAt b w k v wr) (hgt : 1099511627776 < wt b k) : WGives b w (.returned v) wr := by
  refine ⟨k + 1, ⟨by omega, by omega, hat.1, hgt⟩, ?_⟩
  have hwf : ∀ x ∈ wtL b (k + 1), (Lit.int .i64 x).wf = true := fun x hx => by
    simp only [wtL, List.mem_map, List.mem_range] at hx
    obtain ⟨j, hj, rfl⟩ := hx
    have hp := wt_pos b h1 j
    have hu : wt b j ≤ 1099511627776 * 6 := by
      by_cases e : j = 0
      · subst e; rw [wt_zero]; omega
      · obtain ⟨i, rfl⟩ : ∃ i, j = i + 1 := ⟨j - 1, by omega⟩
        have hi := hat.1 i (by omega)
        have hpi := wt_pos b h1 i
        have hai : wta b i ≤ 1099511627776 := by
          cases i with
          | zero => rw [wta_zero]; omega
          | succ i => rw [wta_succ]; exact hat.1 i (by omega)
        rw [wt_succ]
        split
        · omega
        · have := Int.mul_le_mul hi h2 (by omega) (by omega)
          omega
    exact Go.WalkArith.wf_i64 (by omega)
  obtain ⟨a, cap, rfl, hs⟩ := sl_of_owns (wtL_length b (k + 1)) (by unfold maxLen; omega) hwf hat.2.1
  exact ⟨a, cap, by rw [wtL_length], by rw [wtL_length]; exact hs, hat.2.2⟩

set_option maxHeartbeats 1000000 in
set_option maxRecDepth 4000 in
theorem weights_any (b : Int) (w : World) (h1 : 1 ≤ b) (h2 : b ≤ 6) :
    Calls Tryd.prog 43 #[.int .i64 b] w (WGives b w) := by
  obtain ⟨i0, hi, hz0, hz1, hz2⟩ := info_parts info3
  have H59 := hide (wt_59 b h1 h2 (by omega))
  go_enter Tryd.func43, Tryd.ntmps43
  go_wp2
  go_loopg [3] 59 (fun g v wr => ∃ k : Nat, k + g = 59 ∧ WtAt b w k v wr)
  case atStart =>
    refine ⟨0, by omega, by omega, ⟨rfl, Or.inr ⟨w.heap.size, 1, #[.int .i64 1], rfl, Nat.le_refl _, heap_alloc_last w _, by omega, by decide, rfl, rfl⟩⟩, (Below.refl _ _).alloc (Nat.le_refl _) _⟩
  case round =>
    obtain ⟨k, hkg, hat⟩ := hrel
    obtain ⟨g, cap, rfl, hgw, hcs⟩ := owns_at (wtL_length b (k + 1)) hat.2.1
    have hck := hcs k (by omega)
    rw [wtL_get _ _ _ (by omega)] at hck
    have HA := hide hat
    clear hat
    by_cases hle : wt b k ≤ 1099511627776
    · have hp := wt_pos b h1 k
      obtain ⟨hp1, hp2⟩ := hp
      have HK : Hid (k ≠ 59) := fun e => by subst e; have := H59.out; omega
      have HS := hide (fun v' w3 o wr' => @wtAt_step b w wr' w3 k g cap v' o)
      cases gk with
      | zero => exact absurd (show k = 59 by omega) HK.out
      | succ gg =>
        have hk59 : k < 59 := by omega
        by_cases hb : b = 1
        · have hb' : (b == 1) = true := by simp [hb]
          have HL := hide hle
          cases k with
          | zero =>
            have HW : Hid (wt b (0 + 1) = 2) := by show _ = _; rw [wt_succ, if_pos hb, wt_zero, wta_zero]; rfl
            clear hb hcs
            rw [wt_zero] at hck hp1 hle
            go_wp2_with (at_builtin; refine wpList_append_own _ rfl _ _ 23 rfl w.heap.size 3 i0 (.int .i64 0) 1 8 Tryd.underlying23 hi hz0 hz1 hz2 rfl (by decide) _ _ _ rfl (HA.out.2.1.alloc _) ⟨wr.heap.size, 0, none⟩ 1 1 [.int .i64 2] rfl rfl (one_new _ _ _) (fun u hu => by simp at hu; subst hu; rfl) (by unfold maxLen; omega) (by omega) (by have := HA.out.2.2.size; simp; omega) ?_; intro v' w3 hown hgrow hnil)
            go_roundg gg
            case measure => omega
            case rel =>
              rw [← HW.out] at hown
              exact ⟨0 + 1, by omega, wtAt_step HA.out HL.out hgw HA.out.2.2 hown hgrow⟩
          | succ j =>
            have HW : Hid (wt b (j + 1 + 1) = wt b (j + 1) + wt b j) := by show _ = _; rw [wt_succ b (j + 1), if_pos hb, wta_succ]
            have hcj := hcs j (by omega)
            rw [wtL_get _ _ _ (by omega)] at hcj
            have hj1 := (wt_pos b h1 j).1
            have hj2 := HA.out.1 j (by omega)
            have hjb : (1 : Int) < (j : Int) + 1 + 1 := by omega
            clear hb hcs
            generalize hx : wt b (j + 1) = x at hck hp1 hle HW HL
            have HX := hide hx
            clear hx
            generalize wt b j = y at hcj hj1 hj2 HW
            have hjj : (j : Int) + 1 + 1 - 2 = (j : Int) := by omega
            go_wp2
            go_quiet (fail)
            go_wp2_with (at_builtin; refine wpList_append_own _ rfl _ _ 23 rfl w.heap.size 3 i0 (.int .i64 0) 1 8 Tryd.underlying23 hi hz0 hz1 hz2 rfl (by decide) _ _ _ rfl (World.ownsRow.alloc (w := wr.drewN nq) HA.out.2.1 _) ⟨wr.heap.size, 0, none⟩ 1 1 [.int .i64 (x + y)] rfl rfl (one_new _ _ _) (fun u hu => by simp at hu; subst hu; rfl) (by unfold maxLen; omega) (by omega) (by have := HA.out.2.2.size; simp; omega) ?_; intro v' w3 hown hgrow hnil)
            go_roundg gg
            case measure => omega
            case rel =>
              rw [← HW.out] at hown
              exact ⟨j + 1 + 1, by omega, wtAt_step (wr := wr.drewN nq) ⟨HA.out.1, HA.out.2.1, below_drewN HA.out.2.2 nq⟩ (by rw [HX.out]; exact HL.out) hgw (below_drewN HA.out.2.2 nq) hown hgrow⟩
        · have hb' : (b == 1) = false := by simp [hb]
          have HW : Hid (wt b (k + 1) = wt b k * b) := by show _ = _; rw [wt_succ, if_neg hb]
          have hm1 : 1 ≤ wt b k * b := by have := Int.mul_le_mul hp1 h1 (by omega) (by omega); omega
          have hm2 : wt b k * b ≤ 1099511627776 * 6 := Int.mul_le_mul hle h2 (by omega) (by omega)
          have HL := hide hle
          clear hb hcs
          generalize hx : wt b k = x at hck hp1 hle hm1 hm2 HW
          have HX := hide hx
          clear hx
          go_wp2_with (at_builtin; refine wpList_append_own _ rfl _ _ 23 rfl w.heap.size 3 i0 (.int .i64 0) 1 8 Tryd.underlying23 hi hz0 hz1 hz2 rfl (by decide) _ _ _ rfl (HA.out.2.1.alloc _) ⟨wr.heap.size, 0, none⟩ 1 1 [.int .i64 (x * b)] rfl rfl (one_new _ _ _) (fun u hu => by simp at hu; subst hu; rfl) (by unfold maxLen; omega) (by omega) (by have := HA.out.2.2.size; simp; omega) ?_; intro v' w3 hown hgrow hnil)
          go_roundg gg
          case measure => omega
          case rel =>
            rw [← HW.out] at hown
            exact ⟨k + 1, by omega, wtAt_step HA.out HL.out hgw HA.out.2.2 hown hgrow⟩
    · have hgt : 1099511627776 < wt b k := by omega
      have HE := hide (wtAt_end h1 h2 (by omega) HA.out hgt)
      clear hle hcs
      generalize wt b k = x at hck hgt
      go_wp2
      go_ret
      exact HE.out
end Go.Proofs.YtcpnfbjcgaonkafDoor
