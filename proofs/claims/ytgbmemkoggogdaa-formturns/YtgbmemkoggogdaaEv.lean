/- The law TrackBack: what is spread and spread back, mathematics; filbertsame.Pick: contract. -/
import Derived.Deep.RegionWith
import Derived.DeepKeys4
import Derived.Maps.OwnSet
import Derived.OpenShut
import Derived.Test.YtgbmemkoggogdaaZNx
import Derived.Test.YtgbmemkoggogdaaZG
import Derived.Test.YtgbmemkoggogdaaZEg
namespace Go.Proofs.Ytgbmemkoggogdaa
open Go.RowKit

/-- The tracks in the law's order, and back. -/
def toL (k p : Nat) : List Int := (List.range k).map fun i : Nat => (((i + p) % k : Nat) : Int)
def backL (k p : Nat) : List Int := (List.range k).map fun i : Nat => (((i + k - p) % k : Nat) : Int)
theorem toL_len (k p : Nat) : (toL k p).length = k := by simp [toL]
theorem backL_len (k p : Nat) : (backL k p).length = k := by simp [backL]
theorem toL_get {k p i : Nat} (hi : i < k) : (toL k p).getD i 0 = (((i + p) % k : Nat) : Int) := by simp [toL, List.getD, hi]
theorem backL_get {k p i : Nat} (hi : i < k) : (backL k p).getD i 0 = (((i + k - p) % k : Nat) : Int) := by simp [backL, List.getD, hi]
theorem toL_take {k p i : Nat} (hi : i < k) : (toL k p).take (i + 1) = (toL k p).take i ++ [(((i + p) % k : Nat) : Int)] := by
  rw [List.take_succ_eq_append_getElem (by rw [toL_len]; exact hi), ← getD_at _ i (by rw [toL_len]; exact hi), toL_get hi]
theorem backL_take {k p i : Nat} (hi : i < k) : (backL k p).take (i + 1) = (backL k p).take i ++ [(((i + k - p) % k : Nat) : Int)] := by
  rw [List.take_succ_eq_append_getElem (by rw [backL_len]; exact hi), ← getD_at _ i (by rw [backL_len]; exact hi), backL_get hi]
theorem small_wf {k : Nat} {l : List Int} (hk : k ≤ 5) (hl : l.length = k) (h : ∀ i, i < k → 0 ≤ l.getD i 0 ∧ l.getD i 0 ≤ (k : Int)) : ∀ x ∈ l, (Lit.int .i64 x).wf = true := by
  intro x hx
  obtain ⟨i, hi, rfl⟩ := List.getElem_of_mem hx
  have := h i (by omega)
  rw [getD_at _ i hi] at this
  exact WalkArith.wf_i64 (by omega)
theorem toL_rng {k p i : Nat} (hi : i < k) : 0 ≤ (toL k p).getD i 0 ∧ (toL k p).getD i 0 < (k : Int) := by
  rw [toL_get hi]
  have := Nat.mod_lt (i + p) (show 0 < k by omega)
  omega
theorem backL_rng {k p i : Nat} (hi : i < k) : 0 ≤ (backL k p).getD i 0 ∧ (backL k p).getD i 0 < (k : Int) := by
  rw [backL_get hi]
  have := Nat.mod_lt (i + k - p) (show 0 < k by omega)
  omega
def pickN (c : Int) (n : Nat) : Nat := ((if c < 0 then -(c + 1) else c) % (n : Int)).toNat
theorem pickN_lt (c : Int) {n : Nat} (hn : 0 < n) : pickN c n < n := by
  unfold pickN
  have h := Int.emod_lt_of_pos (if c < 0 then -(c + 1) else c) (show (0 : Int) < (n : Int) by omega)
  omega
set_option maxHeartbeats 1000000 in
set_option maxRecDepth 4000 in
theorem pick_any (c : Int) (n : Nat) (w : World) (hn : 0 < n) (hn5 : n ≤ 100000) (hc : (Lit.int .i64 c).wf = true) :
    Calls Try.prog 12 #[.int .i64 c, .int .i64 (n : Int)] w fun e w' => e = .returned (.int .i64 (pickN c n : Int)) ∧ w' = w := by
  have hb := bounds_i64 hc
  have hn0 : ((n : Int) == 0) = false := by simp; omega
  by_cases h0 : c < 0
  · have he : (pickN c n : Int) = -(c + 1) % (n : Int) := by
      unfold pickN
      rw [if_pos h0]
      have := Int.emod_nonneg (-(c + 1)) (show (n : Int) ≠ 0 by omega)
      omega
    have hn1 : 0 ≤ -(c + 1) := by omega
    have hn2 : -(c + 1) ≤ 9223372036854775807 := by omega
    have hd : decide (c < 0) = true := by simpa using h0
    have ht : -((c + 1).tmod (n : Int)) = -(c + 1) % (n : Int) := by rw [← Int.neg_tmod, Int.tmod_eq_emod_of_nonneg hn1]
    have hw1 : IntKind.i64.wrap (c + 1) = c + 1 := by rw [IntKind.wrap_i64]; omega
    have hw2 : IntKind.i64.wrap (-(c + 1)) = -(c + 1) := by rw [IntKind.wrap_i64]; omega
    rw [he]
    go_enter Try.func12, Try.ntmps12
    go_wp2
    go_ret
    exact ⟨by simp, rfl⟩
  · have he : (pickN c n : Int) = c % (n : Int) := by
      unfold pickN
      rw [if_neg h0]
      have := Int.emod_nonneg c (show (n : Int) ≠ 0 by omega)
      omega
    have hn1 : 0 ≤ c := by omega
    have hd : decide (c < 0) = false := by simpa using h0
    rw [he]
    go_enter Try.func12, Try.ntmps12
    go_wp2
    go_ret
    exact ⟨by simp, rfl⟩
end Go.Proofs.Ytgbmemkoggogdaa
