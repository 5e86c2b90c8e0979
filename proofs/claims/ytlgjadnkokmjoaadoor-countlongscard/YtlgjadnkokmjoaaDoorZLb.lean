/- 2 texts in one. -/
import Derived.Deep.RegionWith
import Derived.RegionTactic
import Derived.Test.YtlgjadnkokmjoaaDoorZNx
import Derived.Test.YtlgjadnkokmjoaaDoorMa
import Derived.Test.YtlgjadnkokmjoaaDoorB
import Derived.Test.YtlgjadnkokmjoaaDoorZF
/- The contract of letter.sideBySide: a word of the digits of its tracks. -/
namespace Go.Proofs.YtlgjadnkokmjoaaDoor
open Go.RowKit

theorem wrap_i64_id {x : Int} (h : 0 ≤ x ∧ x ≤ 1000000000000000) : IntKind.i64.wrap x = x := by rw [IntKind.wrap_i64]; omega

end Go.Proofs.YtlgjadnkokmjoaaDoor

/- Side by side they are what they were: mathematics. -/
namespace Go.Proofs.YtlgjadnkokmjoaaDoor
open Go.RowKit

theorem pack_div (b : Int) (h2 : b ≤ 6) (ds : List Int) (hd : ∀ j, j < ds.length → 0 ≤ ds.getD j 0 ∧ ds.getD j 0 < kindsI b) (j : Nat) (hj : j ≤ ds.length) : packL b ds / pw (kindsI b) j = packL b (ds.take (ds.length - j)) := by
  have hk := kinds_bd2 b h2
  induction j with
  | zero => simp [pw]
  | succ j ih =>
    have ih := ih (by omega)
    rw [← div_pw _ hk.1, ih]
    obtain ⟨m, hm⟩ : ∃ m, ds.length - j = m + 1 := ⟨ds.length - j - 1, by omega⟩
    rw [hm, show ds.length - (j + 1) = m by omega, packL_take_succ b ds m (by omega)]
    have hx := hd m (by omega)
    rw [Int.add_comm, Int.add_mul_ediv_right _ _ (by omega), Int.ediv_eq_zero_of_lt hx.1 hx.2]
    omega

theorem dOf_pack (b : Int) (h2 : b ≤ 6) (ds : List Int) (hd : ∀ j, j < ds.length → 0 ≤ ds.getD j 0 ∧ ds.getD j 0 < kindsI b) (i : Nat) (hi : i < ds.length) : dOf b ds.length (packL b ds) i = ds.getD i 0 := by
  have hk := kinds_bd2 b h2
  unfold dOf
  rw [pack_div b h2 ds hd _ (by omega), show ds.length - (ds.length - 1 - i) = i + 1 by omega, packL_take_succ b ds i hi]
  have hx := hd i hi
  rw [Int.add_comm, Int.add_mul_emod_self_right, Int.emod_eq_of_lt hx.1 hx.2]

end Go.Proofs.YtlgjadnkokmjoaaDoor
