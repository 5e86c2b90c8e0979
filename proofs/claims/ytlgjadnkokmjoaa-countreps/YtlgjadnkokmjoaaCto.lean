/- count.Long at whatever it is given; the reference's LongOf: contracts. -/
import Derived.BigQuiet
import Derived.Deep.DeepCutAuto
import Derived.Test.YtlgjadnkokmjoaaCtc
import Derived.Test.YtlgjadnkokmjoaaCtn
import Derived.Test.YtlgjadnkokmjoaaZNr
namespace Go.Proofs.Ytlgjadnkokmjoaa
open Go.RowKit

set_option maxHeartbeats 4000000 in
set_option maxRecDepth 4000 in
theorem long_any (b t : Int) (a : Option Addr) (n cap : Nat) (a' : Option Addr) (k' cap' : Nat) (N : List (List Int)) (E : List Bool) (x : Int) (w : World) (hs : Sl2 w a n N) (he : SlB w a' k' E) :
    Calls Try.prog 10 #[.agg #[.int .i64 b, .int .i64 t, .slice a n cap, .slice a' k' cap'], .int .i64 x] w (EvlR w (longV b t N E k' x) (longC b t N E k' x)) := by
  by_cases hA : autoC b t N k' = 0
  · by_cases hx : 0 ≤ x ∧ x ≤ 400
    · obtain ⟨k, rfl⟩ : ∃ k : Nat, x = k := ⟨x.toNat, by omega⟩
      have hkn : k' = n := by rw [(autoC_zero hA).2.1, hs.1]
      subst hkn
      have hc : longC b t N E k' (k : Int) = if lgV N E (manyU b t).toNat k ≤ 1152921504606846976 then 0 else 3 := by unfold longC; rw [if_pos hA, if_pos hx, Int.toNat_natCast]
      have hv : longV b t N E k' (k : Int) = if lgV N E (manyU b t).toNat k ≤ 1152921504606846976 then lgV N E (manyU b t).toNat k else 0 := by
        unfold longV
        rw [hc, Int.toNat_natCast]
        by_cases h : lgV N E (manyU b t).toNat k ≤ 1152921504606846976
        · rw [if_pos h, if_pos rfl, if_pos h]
        · rw [if_neg h, if_neg (by decide), if_neg h]
      rw [hc, hv]
      exact long_ok b t a k' cap a' cap' N E k w hs he hA (by omega)
    · have hc : longC b t N E k' x = 1 := by unfold longC; rw [if_pos hA, if_neg hx]
      have hv : longV b t N E k' x = 0 := by unfold longV; rw [hc, if_neg (by decide)]
      rw [hc, hv]
      unfold EvlR
      rw [errV_no (show (1 : Int) ≠ 0 by decide)]
      have hB0 : Below w.heap.size w (w.alloc (.cells #[.int .i64 b, .int .i64 t, .slice a n cap, .slice a' k' cap'] 25)) := (Below.refl _ _).alloc (Nat.le_refl _) _
      have HB0 := hide hB0
      have HCK := hide (check_u b t a a' n cap k' cap' N _ (sl2_below hs hB0) he.2.1)
      rw [hA, errV_zero] at HCK
      have hcase : x < 0 ∨ (¬ x < 0 ∧ 400 < x) := by omega
      clear hs he hA hx hc hv hB0
      rcases hcase with h | ⟨h, h'⟩
      all_goals
        go_enter Try.func10, Try.ntmps10
        go_wp2_with (go_at_call 11; refine HCK.out.mono ?_; rintro e w1 ⟨rfl, hb1⟩; have HB1 := hide (below_step HB0.out hb1); clear hb1)
        go_ret2
        exact ⟨rfl, HB1.out⟩
  · have hc : longC b t N E k' x = autoC b t N k' := by unfold longC; rw [if_neg hA]
    have hv : longV b t N E k' x = 0 := by unfold longV; rw [hc, if_neg hA]
    rw [hc, hv]
    unfold EvlR
    rw [errV_no hA]
    have hB0 : Below w.heap.size w (w.alloc (.cells #[.int .i64 b, .int .i64 t, .slice a n cap, .slice a' k' cap'] 25)) := (Below.refl _ _).alloc (Nat.le_refl _) _
    have HB0 := hide hB0
    have HCK := hide (check_u b t a a' n cap k' cap' N _ (sl2_below hs hB0) he.2.1)
    rw [errV_no hA] at HCK
    generalize autoC b t N k' = c at HCK ⊢
    clear hs he hA hc hv hB0
    go_enter Try.func10, Try.ntmps10
    go_wp2_with (go_at_call 11; refine HCK.out.mono ?_; rintro e w1 ⟨rfl, hb1⟩; have HB1 := hide (below_step HB0.out hb1); clear hb1)
    go_ret2
    exact ⟨rfl, HB1.out⟩
end Go.Proofs.Ytlgjadnkokmjoaa
