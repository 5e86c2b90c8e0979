/- The reference's contracts, whatever is handed in; the error told. -/
import Derived.Test.YtgbmemkoggogdaaDoorZG
import Derived.Test.YtgbmemkoggogdaaDoorZAs
namespace Go.Proofs.YtgbmemkoggogdaaDoor
open Go.RowKit

theorem error_same (c : Int) (w : World) (hg : Handle w) : Calls Tryd.prog 8 #[errV c, .int .i64 c] w fun e w' => e = .returned (.bool true) ∧ Below w.heap.size w w' := by
  unfold errV
  by_cases h : c = 0
  · subst h
    rw [if_pos rfl]
    refine (error_nil 0 w).mono ?_
    rintro e w' ⟨rfl, rfl⟩
    exact ⟨by simp, Below.refl _ _⟩
  · rw [if_neg h]
    refine (error_err c c w hg).mono ?_
    rintro e w' ⟨rfl, hb⟩
    exact ⟨by simp, hb⟩

theorem digitsOf_u (b n : Int) (w : World) : Calls Tryd.prog 71 #[.int .i64 b, .int .i64 n] w (OfU w (numL b n) (.int .i64 (codeN b n))) := by
  unfold numL codeN
  by_cases h : (1 ≤ b ∧ b ≤ 6) ∧ 0 ≤ n ∧ n ≤ 1099511627776
  · rw [if_pos h, if_pos h]
    exact digitsOf_ok b n w h.1.1 h.1.2 h.2.1 h.2.2
  · rw [if_neg h, if_neg h]
    have hc : Calls Tryd.prog 71 #[.int .i64 b, .int .i64 n] w fun e w' => e = .returned (.tuple #[.slice none 0 0, .int .i64 1]) ∧ w' = w := by
      by_cases hb : 1 ≤ b ∧ b ≤ 6
      · exact digitsOf_far b n w hb.1 hb.2 (by omega)
      · exact digitsOf_range b n w (by omega)
    refine hc.mono ?_
    rintro e w' ⟨rfl, rfl⟩
    exact ⟨none, 0, rfl, ⟨sl_nil _, fun _ h => by cases h⟩, Below.refl _ _⟩

end Go.Proofs.YtgbmemkoggogdaaDoor
