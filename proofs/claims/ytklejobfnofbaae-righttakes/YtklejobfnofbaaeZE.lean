/- 2 texts in one. -/
import Derived.Test.YtklejobfnofbaaeMa
import Derived.Test.YtklejobfnofbaaeB
/- The contracts of digit.Right and digit.Less. -/
namespace Go.Proofs.Ytklejobfnofbaae
open Go.RowKit

def rightB (b : Int) (l : List Int) : Bool := b != 1 || !onesB l

end Go.Proofs.Ytklejobfnofbaae

/- The contracts of the document's answers: Radix, DigitsFault, RightOf. -/
namespace Go.Proofs.Ytklejobfnofbaae
open Go.RowKit

theorem radix_yes (b : Int) (w : World) (h1 : 1 ≤ b) (h2 : b ≤ 6) :
    Calls Try.prog 56 #[.int .i64 b] w fun e w' => e = .returned (.int .i64 (kindsI b)) ∧ w' = w := by
  have hb : (b == 1) = true ∨ ((b == 1) = false ∧ 2 ≤ b) := by
    by_cases e : b = 1
    · exact Or.inl (by simp [e])
    · exact Or.inr ⟨by simp [e], by omega⟩
  have HK : Hid (((b == 1) = true → kindsI b = 2) ∧ (2 ≤ b → kindsI b = b)) := by
    refine ⟨fun e => ?_, fun e => ?_⟩
    · simp at e; subst e; rfl
    · unfold kindsI; split <;> omega
  rcases hb with hb | ⟨hb, hb2⟩
  · have HK' := hide (HK.out.1 hb)
    clear HK
    go_enter Try.func56, Try.ntmps56
    go_wp2
    go_ret
    exact ⟨by rw [HK'.out]; simp, rfl⟩
  · have HK' := hide (HK.out.2 hb2)
    clear HK
    go_enter Try.func56, Try.ntmps56
    go_wp2
    go_ret
    exact ⟨by rw [HK'.out]; simp, rfl⟩

set_option maxHeartbeats 1000000 in
set_option maxRecDepth 4000 in
theorem rightOf_any (b : Int) (a : Option Addr) (len cap : Nat) (l : List Int) (w : World) (hs : Sl w a len l) :
    Calls Try.prog 28 #[.int .i64 b, .slice a len cap] w fun e w' => e = .returned (.bool (rightB b l)) ∧ w' = w := by
  have hm := hs.2.1
  unfold maxLen at hm
  have HL : Hid (l.length = len) := hs.1
  have HS : Hid (Sl w a len l) := hs
  clear hs
  go_enter Try.func28, Try.ntmps28
  go_wp2
  go_loop [5] (fun i => ∃ k : Nat, k + 1 ≤ max len 1 ∧ i = .int .i64 (k + 1) ∧ (b = 1 → ∀ j, j < k → ¬ (l.getD j 0 = 1 ∧ l.getD (j + 1) 0 = 1))) (fun i => len - (intOf i).toNat)
  case atStart => exact ⟨0, by omega, rfl, by omega⟩
  case round =>
    obtain ⟨k, hk, rfl, hd⟩ := hrel
    have HD := hide hd
    clear hd
    by_cases hlt : k + 1 < len
    · have hlti : (k : Int) + 1 < (len : Int) := by omega
      obtain ⟨bb, o, rfl, hck⟩ := sl_cell HS.out k (by omega)
      obtain ⟨bb', o', hab, hck'⟩ := sl_cell HS.out (k + 1) hlt
      obtain ⟨rfl, rfl⟩ : bb = bb' ∧ o = o' := by simpa using hab
      clear hab
      have HX : Hid (∀ x y, l.getD k 0 = x → l.getD (k + 1) 0 = y → ¬ (b = 1 ∧ x = 1 ∧ y = 1) → b = 1 → ∀ j, j < k + 1 → ¬ (l.getD j 0 = 1 ∧ l.getD (j + 1) 0 = 1)) := by
        intro x y h1 h2 h3 hb j hj
        by_cases e : j = k
        · subst e; rw [h1, h2]; exact fun h => h3 ⟨hb, h⟩
        · exact HD.out hb j (by omega)
      have HY : Hid (b = 1 → l.getD k 0 = 1 → l.getD (k + 1) 0 = 1 → rightB b l = false) := fun hb h1 h2 => by
        have : onesB l = true := (onesB_iff l).2 ⟨k, by rw [HL.out]; exact hlt, h1, h2⟩
        simp [rightB, hb, this]
      replace HX := hide (HX.out _ _ rfl rfl)
      clear HD
      generalize l.getD k 0 = x at hck HX HY
      generalize l.getD (k + 1) 0 = y at hck' HX HY
      by_cases hx : b = 1 ∧ x = 1 ∧ y = 1
      · obtain ⟨hb, rfl, rfl⟩ := hx
        have HY' := hide (HY.out hb rfl rfl)
        have hb' : (b == 1) = true := by simp [hb]
        clear HY HX hb
        go_wp2
        go_ret
        exact ⟨by rw [HY'.out]; simp, rfl⟩
      · have HX' := hide (HX.out hx)
        have hx' : (b == 1) = false ∨ ((b == 1) = true ∧ (y == 1) = false) ∨ ((b == 1) = true ∧ (y == 1) = true ∧ (x == 1) = false) := by
          by_cases e : b = 1
          · by_cases f : y = 1
            · exact Or.inr (Or.inr ⟨by simp [e], by simp [f], by simpa using fun h => hx ⟨e, h, f⟩⟩)
            · exact Or.inr (Or.inl ⟨by simp [e], by simp [f]⟩)
          · exact Or.inl (by simp [e])
        clear hx HX HY
        rcases hx' with hx | ⟨hx1, hx2⟩ | ⟨hx1, hx2, hx3⟩
        all_goals
          go_wp2
          go_round
          case rel => exact ⟨k + 1, by omega, by go_num, HX'.out⟩
          case measure => simp [intOf]; omega
    · have hlti : ¬ ((k : Int) + 1 < (len : Int)) := by omega
      have HF : Hid (rightB b l = true) := by
        show _ = _
        unfold rightB
        by_cases e : b = 1
        · cases h : onesB l with
          | false => simp
          | true =>
            obtain ⟨j, h1, h2, h3⟩ := (onesB_iff l).1 h
            rw [HL.out] at h1
            exact absurd ⟨h2, h3⟩ (HD.out e j (by omega))
        · simp [e]
      go_wp2
      go_ret
      exact ⟨by rw [HF.out]; simp, rfl⟩
end Go.Proofs.Ytklejobfnofbaae
