/- line.check, want.met, want.ends, want.settle, fall: contracts. -/
import Derived.ArgAppend
import Derived.BigQuiet
import Derived.BigRegion
import Derived.Deep.AppendLies
import Derived.Deep.LoopGhost
import Derived.Deep.MidRow
import Derived.Deep.RegionHeldLaw
import Derived.Deep.RegionLaw
import Derived.Deep.RegionWith
import Derived.DeepKeys4
import Derived.Laws.AppendOwnNone
import Derived.Laws.BitsLemmas
import Derived.LoopIn
import Derived.LoopNIn
import Derived.Maps.OwnSet
import Derived.OwnWalkIn
import Derived.RangeFuncBound
import Derived.RangeFuncCalls
import Derived.RangeFuncLeaves
import Derived.RangeFuncNested
import Derived.Shelf.Abstract
import Derived.Shelf.RegionOpen
import Derived.Sort.LoopGhostIn
import Derived.TacticsInMore
import Derived.WalkKit
import Derived.Test.YtgbmemkoggogdaaDoorMa
import Derived.Test.YtgbmemkoggogdaaDoorZNx
import Derived.Test.YtgbmemkoggogdaaDoorZG
import Derived.Test.YtgbmemkoggogdaaDoorZCf
import Derived.Test.YtgbmemkoggogdaaDoorCi
import Derived.Test.YtgbmemkoggogdaaDoorZEg
import Derived.Test.YtgbmemkoggogdaaDoorRe
namespace Go.Proofs.YtgbmemkoggogdaaDoor
open Go.RowKit

/-- What is wrong with coefficients and what is added. -/
def ckC (C : List Int) (c : Int) : Int := if absT C C.length ≤ 12 ∧ -60 ≤ c ∧ c ≤ 60 then 0 else 1
theorem ckC_sum {C : List Int} (c : Int) (h : 12 < absT C C.length) : ckC C c = 1 := by unfold ckC; rw [if_neg (by omega)]
set_option maxHeartbeats 4000000 in
set_option maxRecDepth 4000 in
theorem lnCheck_any (a : Option Addr) (n cap : Nat) (C : List Int) (c : Int) (w : World) (hs : Sl w a n C) (hn5 : n ≤ 5) :
    Calls Tryd.prog 77 #[.slice a n cap, .int .i64 c] w fun e w' => e = .returned (errV (ckC C c)) ∧ w' = w := by
  have hL := hs.1
  have HS := hide hs
  have HMO : Hid (∀ k, k ≤ n → 12 < absT C k → ckC C c = 1) := fun k hk h => ckC_sum c (by rw [hL]; have := absT_mono C hk; omega)
  have HSUC : Hid (∀ k, absT C (k + 1) = absT C k + absI (C.getD k 0)) := fun k => rfl
  have HNN := hide (fun k => absT_nn C k)
  have HEND : Hid (ckC C c = if absT C n ≤ 12 ∧ -60 ≤ c ∧ c ≤ 60 then 0 else 1) := by show _ = _; unfold ckC; rw [hL]
  have HZ : Hid (absT C 0 = 0) := rfl
  clear hs hL
  generalize hA : absT C = A at HMO HSUC HNN HEND HZ
  clear hA
  generalize ckC C c = sz at HMO HEND ⊢
  go_enter Tryd.func77, Tryd.ntmps77
  go_wp2
  go_loop [5, 10] (fun sv iv => ∃ k : Nat, k ≤ n ∧ iv = .int .i64 k ∧ sv = .int .i64 (A k) ∧ A k ≤ 12 * (k : Int)) (fun _ iv => n - (intOf iv).toNat)
  case atStart => exact ⟨0, by omega, rfl, by rw [HZ.out], by rw [HZ.out]; decide⟩
  case round =>
    obtain ⟨k, hk, rfl, rfl, h12⟩ := hrel
    have hnn := HNN.out k
    by_cases hlt : k < n
    · have hlti : (k : Int) < (n : Int) := by omega
      obtain ⟨b1, o1, rfl, hc⟩ := sl_cell HS.out k hlt
      have hsuc := HSUC.out k
      have HM := hide (HMO.out (k + 1) hlt)
      have hnn2 := HNN.out (k + 1)
      generalize C.getD k 0 = x at hc hsuc
      generalize A k = z at hsuc h12 hnn
      unfold absI at hsuc
      by_cases h1 : x < -12
      · obtain rfl : sz = 1 := HM.out (by rw [if_pos (by omega)] at hsuc; omega)
        clear hsuc hnn hnn2
        go_wp2
        go_ret
        exact ⟨by simp [errV], rfl⟩
      · have h1' : decide (x < -12) = false := by simp; omega
        by_cases h2 : x > 12
        · obtain rfl : sz = 1 := HM.out (by rw [if_neg (by omega)] at hsuc; omega)
          clear hsuc hnn hnn2
          go_wp2
          go_ret
          exact ⟨by simp [errV], rfl⟩
        · have h2' : decide (x > 12) = false := by simp; omega
          by_cases h3 : x < 0
          · rw [if_pos h3] at hsuc
            have h4 : -x > x := by omega
            have HY := hide hsuc
            clear hsuc hnn2
            go_wp2
            go_round
            case rel => exact ⟨k + 1, by omega, by go_num, by rw [HY.out], by rw [HY.out]; omega⟩
            case measure => simp [intOf]; omega
          · rw [if_neg h3] at hsuc
            have h4 : ¬ -x > x := by omega
            have HY := hide hsuc
            clear hsuc hnn2
            go_wp2
            go_round
            case rel => exact ⟨k + 1, by omega, by go_num, by rw [HY.out], by rw [HY.out]; omega⟩
            case measure => simp [intOf]; omega
    · have hlti : ¬ (k : Int) < (n : Int) := by omega
      obtain rfl : k = n := by omega
      have HE := HEND.out
      clear HMO HSUC HNN HZ HEND
      generalize A k = z at h12 hnn HE ⊢
      by_cases h1 : z > 12
      · obtain rfl : sz = 1 := by rw [HE, if_neg (by omega)]
        clear HE
        go_wp2
        go_ret
        exact ⟨by simp [errV], rfl⟩
      · have h1' : decide (z > 12) = false := by simp; omega
        by_cases h2 : c < -60
        · obtain rfl : sz = 1 := by rw [HE, if_neg (by omega)]
          clear HE
          go_wp2
          go_ret
          exact ⟨by simp [errV], rfl⟩
        · have h2' : decide (c < -60) = false := by simp; omega
          by_cases h3 : c > 60
          · obtain rfl : sz = 1 := by rw [HE, if_neg (by omega)]
            clear HE
            go_wp2
            go_ret
            exact ⟨by simp [errV], rfl⟩
          · have h3' : decide (c > 60) = false := by simp; omega
            obtain rfl : sz = 0 := by rw [HE, if_pos (by omega)]
            clear HE
            go_wp2
            go_ret
            exact ⟨by simp [errV], rfl⟩

set_option maxHeartbeats 4000000 in
set_option maxRecDepth 4000 in
theorem lnMet_any (c : Int) (less : Bool) (x : Int) (w : World) :
    Calls Tryd.prog 79 #[.agg #[.int .i64 (-c), .bool less], .int .i64 x] w fun e w' => e = .returned (.bool (lnEnd c less x)) ∧ Below w.heap.size w w' := by
  have HB := hide ((Below.refl w.heap.size w).alloc (Nat.le_refl _) (.cells #[.int .i64 (-c), .bool less] 135))
  have HE : Hid (lnEnd c less x = if less = true then decide (x < -c) else decide (x = -c)) := by
    show _ = _
    unfold lnEnd
    cases less
    · simp; omega
    · simp; omega
  generalize lnEnd c less x = r at HE ⊢
  generalize -c = g at HB HE ⊢
  by_cases h1 : x = g
  · subst h1
    have h2 : decide (x < x) = false := by simp
    cases less
    · go_enter Tryd.func79, Tryd.ntmps79
      go_wp2
      go_ret
      exact ⟨by rw [HE.out]; simp, HB.out⟩
    · go_enter Tryd.func79, Tryd.ntmps79
      go_wp2
      go_ret
      exact ⟨by rw [HE.out]; simp, HB.out⟩
  · have h1' : (x == g) = false := by simp [h1]
    by_cases h2 : x < g
    · cases less
      · go_enter Tryd.func79, Tryd.ntmps79
        go_wp2
        go_ret
        exact ⟨by rw [HE.out]; simp [h1], HB.out⟩
      · go_enter Tryd.func79, Tryd.ntmps79
        go_wp2
        go_ret
        exact ⟨by rw [HE.out]; simp [h2], HB.out⟩
    · have h2' : decide (x < g) = false := by simp; omega
      cases less
      · go_enter Tryd.func79, Tryd.ntmps79
        go_wp2
        go_ret
        exact ⟨by rw [HE.out]; simp [h1], HB.out⟩
      · go_enter Tryd.func79, Tryd.ntmps79
        go_wp2
        go_ret
        exact ⟨by rw [HE.out]; simp; omega, HB.out⟩

end Go.Proofs.YtgbmemkoggogdaaDoor
