/- Letters read anew: an automaton over other letters; tracks moved, a digit held on a track: mathematics. -/
import Derived.Test.YtlgjadnkokmjoaaDoorCa
import Derived.Test.YtlgjadnkokmjoaaDoorZLb
namespace Go.Proofs.YtlgjadnkokmjoaaDoor
open Go.RowKit

/-- A letter is what its digits make. -/
theorem split_snoc (b : Int) (h2 : b ≤ 6) (t : Nat) (l : Int) : splitL b (t + 1) l = splitL b t (l / kindsI b) ++ [l % kindsI b] := by
  have hk := kinds_bd2 b h2
  unfold splitL
  rw [List.range_succ, List.map_append]
  congr 1
  · apply List.map_congr_left
    intro i hi
    rw [List.mem_range] at hi
    unfold dOf
    have e : l / kindsI b / pw (kindsI b) (t - 1 - i) = l / pw (kindsI b) (t - 1 - i + 1) := by rw [pw_succ, Int.ediv_ediv, if_neg (by omega), Int.sub_zero, Int.mul_comm]
    rw [show t + 1 - 1 - i = t - 1 - i + 1 by omega, e]
  · simp [dOf, pw]
theorem pack_split (b : Int) (h2 : b ≤ 6) (t : Nat) (l : Int) (h0 : 0 ≤ l) (hl : l < pw (kindsI b) t) : packL b (splitL b t l) = l := by
  have hk := kinds_bd2 b h2
  induction t generalizing l with
  | zero =>
    simp [pw] at hl
    simp [splitL, packL]
    omega
  | succ t ih =>
    rw [split_snoc b h2, packL_snoc, ih (l / kindsI b) (Int.ediv_nonneg h0 (by omega)) (by rw [pw_succ] at hl; exact Int.ediv_lt_of_lt_mul (by omega) hl), Int.mul_comm]
    exact Int.mul_ediv_add_emod l (kindsI b)
theorem split_bd (b : Int) (h2 : b ≤ 6) (t : Nat) (l : Int) (j : Nat) (hj : j < (splitL b t l).length) : 0 ≤ (splitL b t l).getD j 0 ∧ (splitL b t l).getD j 0 < kindsI b := by
  rw [splitL_length] at hj
  rw [splitL_get b t l j hj]
  exact dOf_bd b h2 t l j
theorem split_pack (b : Int) (h2 : b ≤ 6) (ds : List Int) (hd : ∀ j, j < ds.length → 0 ≤ ds.getD j 0 ∧ ds.getD j 0 < kindsI b) : splitL b ds.length (packL b ds) = ds := by
  apply List.ext_getElem
  · rw [splitL_length]
  · intro i h1 h3
    rw [← getD_at _ i h1, ← getD_at _ i h3, splitL_get b _ _ i h3, dOf_pack b h2 ds hd i h3]
theorem pack_bd (b : Int) (h2 : b ≤ 6) (ds : List Int) (hd : ∀ j, j < ds.length → 0 ≤ ds.getD j 0 ∧ ds.getD j 0 < kindsI b) : 0 ≤ packL b ds ∧ packL b ds < pw (kindsI b) ds.length := by
  have := packL_bd b h2 ds ds.length (Nat.le_refl _) hd
  rwa [List.take_length] at this

/-- T2: letter l of the other tracks, with digit x put in at track t. -/
def putD (b : Int) (tr : Nat) (t : Nat) (x l : Int) : List Int := (splitL b tr l).take t ++ [x] ++ (splitL b tr l).drop t
theorem putD_len {b : Int} {tr t : Nat} (ht : t ≤ tr) (x l : Int) : (putD b tr t x l).length = tr + 1 := by
  unfold putD
  simp [splitL_length]
  omega
theorem putD_bd (b : Int) (h2 : b ≤ 6) {tr t : Nat} {x : Int} (hx : 0 ≤ x ∧ x < kindsI b) (l : Int) (j : Nat) (hj : j < (putD b tr t x l).length) : 0 ≤ (putD b tr t x l).getD j 0 ∧ (putD b tr t x l).getD j 0 < kindsI b := by
  have hm : (putD b tr t x l).getD j 0 ∈ putD b tr t x l := by rw [getD_at _ j hj]; exact List.getElem_mem hj
  have hall : ∀ y ∈ splitL b tr l, 0 ≤ y ∧ y < kindsI b := fun y hy => by
    obtain ⟨i, hi, rfl⟩ := List.getElem_of_mem hy
    have := split_bd b h2 tr l i hi
    rwa [getD_at _ i hi] at this
  unfold putD at hm
  rcases List.mem_append.1 hm with h | h
  · rcases List.mem_append.1 h with h | h
    · exact hall _ (List.mem_of_mem_take h)
    · rw [List.mem_singleton] at h
      unfold putD
      rw [h]; exact hx
  · exact hall _ (List.mem_of_mem_drop h)
end Go.Proofs.YtlgjadnkokmjoaaDoor
