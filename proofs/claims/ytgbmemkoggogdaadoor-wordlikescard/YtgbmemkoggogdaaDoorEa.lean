/- Letters read anew: an automaton over other letters; tracks moved, a digit held on a track: mathematics. -/
import Derived.Deep.RegionWith
import Derived.Test.YtgbmemkoggogdaaDoorZMp
import Derived.Test.YtgbmemkoggogdaaDoorZE
import Derived.Test.YtgbmemkoggogdaaDoorG
import Derived.Test.YtgbmemkoggogdaaDoorZNx
namespace Go.Proofs.YtgbmemkoggogdaaDoor
open Go.RowKit

/-- The automaton that reads letter j as the letter to[j]. -/
def relN (N : List (List Int)) (to : List Int) : List (List Int) := N.map fun r => to.map fun x => r.getD x.toNat 0
def okTo (m : Nat) (to : List Int) : Prop := ∀ x ∈ to, 0 ≤ x ∧ x < (m : Int)
def reW (to : List Int) (w : List Int) : List Int := w.map fun x => to.getD x.toNat 0
theorem relN_len (N : List (List Int)) (to : List Int) : (relN N to).length = N.length := by simp [relN]
theorem relN_get {N : List (List Int)} {s : Nat} (hs : s < N.length) (to : List Int) : (relN N to).getD s [] = to.map fun x => (N.getD s []).getD x.toNat 0 := by simp [relN, List.getD, hs]
theorem okTo_get {m : Nat} {to : List Int} (h : okTo m to) {j : Nat} (hj : j < to.length) : 0 ≤ to.getD j 0 ∧ to.getD j 0 < (m : Int) := h _ (by rw [getD_at _ j hj]; exact List.getElem_mem hj)
theorem rel_cell {m n : Nat} {N : List (List Int)} (hG : GoodN m n N) {to : List Int} {s j : Nat} (hs : s < n) (hj : j < to.length) : ((relN N to).getD s []).getD j 0 = (N.getD s []).getD (to.getD j 0).toNat 0 := by
  rw [relN_get (by rw [hG.1]; exact hs)]
  simp [List.getD, hj]
theorem rel_good {m n : Nat} {N : List (List Int)} (hG : GoodN m n N) {to : List Int} (ht : okTo m to) (h1 : 1 ≤ to.length) (h36 : to.length ≤ 36) : GoodN to.length n (relN N to) := by
  refine ⟨by rw [relN_len]; exact hG.1, hG.2.1, hG.2.2.1, h36, h1, fun s hs => ⟨?_, fun j hj => ?_⟩⟩
  · rw [relN_get (by rw [hG.1]; exact hs)]; simp
  · rw [rel_cell hG hs hj]
    have := okTo_get ht hj
    exact (hG.2.2.2.2.2 s hs).2 _ (by omega)
theorem reW_ok {m : Nat} {to w : List Int} (ht : okTo m to) (hw : okW to.length w) : okW m (reW to w) := by
  intro x hx
  obtain ⟨y, hy, rfl⟩ := List.mem_map.1 hx
  have := hw y hy
  exact okTo_get ht (by omega)
theorem rel_run {m n : Nat} {N : List (List Int)} (hG : GoodN m n N) {to : List Int} (ht : okTo m to) (h1 : 1 ≤ to.length) (h36 : to.length ≤ 36) (w : List Int) (hw : okW to.length w) : runL (relN N to) w = runL N (reW to w) := by
  induction w using list_snoc_ind with
  | h0 => rfl
  | h1 w x ih =>
    rw [okW_snoc] at hw
    have hr := run_lt (rel_good hG ht h1 h36) w hw.1
    have e : reW to (w ++ [x]) = reW to w ++ [to.getD x.toNat 0] := by simp [reW]
    rw [e, runL_snoc, runL_snoc, ← ih hw.1]
    unfold stepL
    rw [rel_cell hG hr (by omega)]
end Go.Proofs.YtgbmemkoggogdaaDoor
