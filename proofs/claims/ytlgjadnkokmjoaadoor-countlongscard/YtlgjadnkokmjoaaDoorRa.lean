/- The contracts of the document's answers: Radix, DigitsFault, RightOf. -/
import Derived.Test.YtlgjadnkokmjoaaDoorMa
import Derived.Test.YtlgjadnkokmjoaaDoorB
namespace Go.Proofs.YtlgjadnkokmjoaaDoor
open Go.RowKit

theorem radix_yes (b : Int) (w : World) (h1 : 1 ≤ b) (h2 : b ≤ 6) :
    Calls Tryd.prog 47 #[.int .i64 b] w fun e w' => e = .returned (.int .i64 (kindsI b)) ∧ w' = w := by
  have hb : (b == 1) = true ∨ ((b == 1) = false ∧ 2 ≤ b) := by
    by_cases e : b = 1
    · exact Or.inl (by simp [e])
    · exact Or.inr ⟨by simp [e], by omega⟩
  have HK : Hid (((b == 1) = true → kindsI b = 2) ∧ (2 ≤ b → kindsI b = b)) := by
    refine ⟨fun e => ?_, fun e => ?_⟩
    · simp at e; subst e; rfl
    · unfold kindsI; split <;> omega
  rcases hb with hb | ⟨hb, hb2⟩
  · have HK' := hide (HK.out.1 hb)
    clear HK
    go_enter Tryd.func47, Tryd.ntmps47
    go_wp2
    go_ret
    exact ⟨by rw [HK'.out]; simp, rfl⟩
  · have HK' := hide (HK.out.2 hb2)
    clear HK
    go_enter Tryd.func47, Tryd.ntmps47
    go_wp2
    go_ret
    exact ⟨by rw [HK'.out]; simp, rfl⟩

theorem radix_no (b : Int) (w : World) (h : b < 1 ∨ 6 < b) :
    Calls Tryd.prog 47 #[.int .i64 b] w fun e w' => e = .returned (.int .i64 0) ∧ w' = w := by
  have hb : (b == 1) = false := by simp; omega
  rcases h with h | h
  · have h' : b < 2 := by omega
    go_enter Tryd.func47, Tryd.ntmps47
    go_wp2
    go_ret
    exact ⟨by simp, rfl⟩
  · have h' : 2 ≤ b := by omega
    go_enter Tryd.func47, Tryd.ntmps47
    go_wp2
    go_ret
    exact ⟨by simp, rfl⟩

end Go.Proofs.YtlgjadnkokmjoaaDoor
