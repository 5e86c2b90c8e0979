/- The reference's contracts, whatever is handed in; the error told. -/
import Derived.OwnWalk
import Derived.RegionTactic
import Derived.Test.YtlgjadnkokmjoaaDoorMa
import Derived.Test.YtlgjadnkokmjoaaDoorB
import Derived.Test.YtlgjadnkokmjoaaDoorZF
import Derived.Test.YtlgjadnkokmjoaaDoorRa
import Derived.Test.YtlgjadnkokmjoaaDoorZRu
import Derived.Test.YtlgjadnkokmjoaaDoorZAs
namespace Go.Proofs.YtlgjadnkokmjoaaDoor
open Go.RowKit

theorem error_same (c : Int) (w : World) (hg : Handle w) : Calls Tryd.prog 9 #[errV c, .int .i64 c] w fun e w' => e = .returned (.bool true) ∧ Below w.heap.size w w' := by
  unfold errV
  by_cases h : c = 0
  · subst h
    rw [if_pos rfl]
    refine (error_nil 0 w).mono ?_
    rintro e w' ⟨rfl, rfl⟩
    exact ⟨by simp, Below.refl _ _⟩
  · rw [if_neg h]
    refine (error_err c c w hg).mono ?_
    rintro e w' ⟨rfl, hb⟩
    exact ⟨by simp, hb⟩

end Go.Proofs.YtlgjadnkokmjoaaDoor
