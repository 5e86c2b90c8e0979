/- The contracts of the document's answers: Radix, DigitsFault, RightOf. -/
import Derived.Test.YtdmkjhccdknndaaDoorE
namespace Go.Proofs.YtdmkjhccdknndaaDoor
open Go.RowKit

theorem radix_yes (b : Int) (w : World) (h1 : 1 ≤ b) (h2 : b ≤ 6) :
    Calls Tryd.prog 20 #[.int .i64 b] w fun e w' => e = .returned (.int .i64 (kindsI b)) ∧ w' = w := by
  have hb : (b == 1) = true ∨ ((b == 1) = false ∧ 2 ≤ b) := by
    by_cases e : b = 1
    · exact Or.inl (by simp [e])
    · exact Or.inr ⟨by simp [e], by omega⟩
  have HK : Hid (((b == 1) = true → kindsI b = 2) ∧ (2 ≤ b → kindsI b = b)) := by
    refine ⟨fun e => ?_, fun e => ?_⟩
    · simp at e; subst e; rfl
    · unfold kindsI; split <;> omega
  rcases hb with hb | ⟨hb, hb2⟩
  · have HK' := hide (HK.out.1 hb)
    clear HK
    go_enter Tryd.func20, Tryd.ntmps20
    go_wp2
    go_ret
    exact ⟨by rw [HK'.out]; simp, rfl⟩
  · have HK' := hide (HK.out.2 hb2)
    clear HK
    go_enter Tryd.func20, Tryd.ntmps20
    go_wp2
    go_ret
    exact ⟨by rw [HK'.out]; simp, rfl⟩

theorem radix_no (b : Int) (w : World) (h : b < 1 ∨ 6 < b) :
    Calls Tryd.prog 20 #[.int .i64 b] w fun e w' => e = .returned (.int .i64 0) ∧ w' = w := by
  have hb : (b == 1) = false := by simp; omega
  rcases h with h | h
  · have h' : b < 2 := by omega
    go_enter Tryd.func20, Tryd.ntmps20
    go_wp2
    go_ret
    exact ⟨by simp, rfl⟩
  · have h' : 2 ≤ b := by omega
    go_enter Tryd.func20, Tryd.ntmps20
    go_wp2
    go_ret
    exact ⟨by simp, rfl⟩

theorem fault_range (b : Int) (a : Option Addr) (len cap : Nat) (w : World) (h : b < 1 ∨ 6 < b) :
    Calls Tryd.prog 10 #[.int .i64 b, .slice a len cap] w fun e w' => e = .returned (.int .i64 1) ∧ w' = w := by
  go_enter Tryd.func10, Tryd.ntmps10
  go_wp2_with (go_at_call 20; refine (radix_no _ _ h).mono ?_; rintro e w' ⟨rfl, rfl⟩)
  go_ret
  exact ⟨by simp, rfl⟩

theorem kinds_bd (b : Int) (h2 : b ≤ 6) : 2 ≤ kindsI b ∧ kindsI b ≤ 6 := by unfold kindsI; split <;> omega

theorem fault_full (b : Int) (a : Option Addr) (len cap : Nat) (w : World) (h1 : 1 ≤ b) (h2 : b ≤ 6) (h : 60 < len) (hm : len ≤ maxLen) :
    Calls Tryd.prog 10 #[.int .i64 b, .slice a len cap] w fun e w' => e = .returned (.int .i64 3) ∧ w' = w := by
  unfold maxLen at hm
  have h' : (60 : Int) < (len : Int) := by omega
  have hk := kinds_bd b h2
  have hk0 : (kindsI b == 0) = false := by simp; omega
  go_enter Tryd.func10, Tryd.ntmps10
  go_wp2_with (go_at_call 20; refine (radix_yes _ _ h1 h2).mono ?_; rintro e w' ⟨rfl, rfl⟩)
  go_ret
  exact ⟨by simp, rfl⟩

def fltI (b : Int) (l : List Int) : Int := if digB b l = true then 0 else 1
theorem fltI_not (b : Int) (l : List Int) (k : Nat) (h : k < l.length) (hx : ¬ (0 ≤ l.getD k 0 ∧ l.getD k 0 < kindsI b)) : fltI b l = 1 := by
  have := digB_not b l k h hx
  unfold chkV at this
  unfold fltI
  split at this
  · cases this
  · rw [if_neg (by assumption)]

set_option maxHeartbeats 1000000 in
set_option maxRecDepth 4000 in
theorem fault_ok (b : Int) (a : Option Addr) (len cap : Nat) (l : List Int) (w : World) (h1 : 1 ≤ b) (h2 : b ≤ 6) (h : len ≤ 60) (hs : Sl w a len l) :
    Calls Tryd.prog 10 #[.int .i64 b, .slice a len cap] w fun e w' => e = .returned (.int .i64 (fltI b l)) ∧ w' = w := by
  have HL : Hid (l.length = len) := hs.1
  have HS : Hid (Sl w a len l) := hs
  clear hs
  have h' : ¬ (60 : Int) < (len : Int) := by omega
  have hkb := kinds_bd b h2
  obtain ⟨hkb1, hkb2⟩ := hkb
  have hk0 : (kindsI b == 0) = false := by simp; omega
  go_enter Tryd.func10, Tryd.ntmps10
  go_wp2_with (go_at_call 20; refine (radix_yes _ _ h1 h2).mono ?_; rintro e w' ⟨rfl, rfl⟩)
  go_loop [6] (fun i => ∃ k : Nat, k ≤ len ∧ i = .int .i64 k ∧ digB b (l.take k) = true) (fun i => len - (intOf i).toNat)
  case atStart => exact ⟨0, Nat.zero_le _, rfl, rfl⟩
  case round =>
    obtain ⟨k, hk, rfl, hd⟩ := hrel
    have HD : Hid (digB b (l.take k) = true) := hd
    clear hd
    by_cases hlt : k < len
    · have hlti : (k : Int) < (len : Int) := by omega
      obtain ⟨bb, o, rfl, hck⟩ := sl_cell HS.out k hlt
      have HT := hide (digB_take_succ b l k (by rw [HL.out]; exact hlt))
      have HN := hide (fltI_not b l k (by rw [HL.out]; exact hlt))
      generalize l.getD k 0 = x at hck HT HN
      by_cases hx : 0 ≤ x ∧ x < kindsI b
      · obtain ⟨hx1, hx2⟩ := hx
        go_wp2
        go_round
        case rel => exact ⟨k + 1, by omega, by go_num, by rw [HT.out, HD.out]; simp [hx1, hx2]⟩
        case measure => simp [intOf]; omega
      · have HN' := hide (HN.out hx)
        have hx' : x < 0 ∨ (0 ≤ x ∧ kindsI b ≤ x) := by omega
        clear hx
        rcases hx' with hx | ⟨hx1, hx2⟩
        all_goals
          go_wp2
          go_ret
          exact ⟨by rw [HN'.out]; simp, rfl⟩
    · have hlti : ¬ ((k : Int) < (len : Int)) := by omega
      go_wp2
      go_ret
      obtain rfl : k = len := by omega
      rw [List.take_of_length_le (by rw [HL.out]; omega)] at HD
      refine ⟨?_, rfl⟩
      unfold fltI
      rw [if_pos HD.out]
      rfl

set_option maxHeartbeats 1000000 in
set_option maxRecDepth 4000 in
theorem rightOf_any (b : Int) (a : Option Addr) (len cap : Nat) (l : List Int) (w : World) (hs : Sl w a len l) :
    Calls Tryd.prog 12 #[.int .i64 b, .slice a len cap] w fun e w' => e = .returned (.bool (rightB b l)) ∧ w' = w := by
  have hm := hs.2.1
  unfold maxLen at hm
  have HL : Hid (l.length = len) := hs.1
  have HS : Hid (Sl w a len l) := hs
  clear hs
  go_enter Tryd.func12, Tryd.ntmps12
  go_wp2
  go_loop [5] (fun i => ∃ k : Nat, k + 1 ≤ max len 1 ∧ i = .int .i64 (k + 1) ∧ (b = 1 → ∀ j, j < k → ¬ (l.getD j 0 = 1 ∧ l.getD (j + 1) 0 = 1))) (fun i => len - (intOf i).toNat)
  case atStart => exact ⟨0, by omega, rfl, by omega⟩
  case round =>
    obtain ⟨k, hk, rfl, hd⟩ := hrel
    have HD := hide hd
    clear hd
    by_cases hlt : k + 1 < len
    · have hlti : (k : Int) + 1 < (len : Int) := by omega
      obtain ⟨bb, o, rfl, hck⟩ := sl_cell HS.out k (by omega)
      obtain ⟨bb', o', hab, hck'⟩ := sl_cell HS.out (k + 1) hlt
      obtain ⟨rfl, rfl⟩ : bb = bb' ∧ o = o' := by simpa using hab
      clear hab
      have HX : Hid (∀ x y, l.getD k 0 = x → l.getD (k + 1) 0 = y → ¬ (b = 1 ∧ x = 1 ∧ y = 1) → b = 1 → ∀ j, j < k + 1 → ¬ (l.getD j 0 = 1 ∧ l.getD (j + 1) 0 = 1)) := by
        intro x y h1 h2 h3 hb j hj
        by_cases e : j = k
        · subst e; rw [h1, h2]; exact fun h => h3 ⟨hb, h⟩
        · exact HD.out hb j (by omega)
      have HY : Hid (b = 1 → l.getD k 0 = 1 → l.getD (k + 1) 0 = 1 → rightB b l = false) := fun hb h1 h2 => by
        have : onesB l = true := (onesB_iff l).2 ⟨k, by rw [HL.out]; exact hlt, h1, h2⟩
        simp [rightB, hb, this]
      replace HX := hide (HX.out _ _ rfl rfl)
      clear HD
      generalize l.getD k 0 = x at hck HX HY
      generalize l.getD (k + 1) 0 = y at hck' HX HY
      by_cases hx : b = 1 ∧ x = 1 ∧ y = 1
      · obtain ⟨hb, rfl, rfl⟩ := hx
        have HY' := hide (HY.out hb rfl rfl)
        have hb' : (b == 1) = true := by simp [hb]
        clear HY HX hb
        go_wp2
        go_ret
        exact ⟨by rw [HY'.out]; simp, rfl⟩
      · have HX' := hide (HX.out hx)
        have hx' : (b == 1) = false ∨ ((b == 1) = true ∧ (y == 1) = false) ∨ ((b == 1) = true ∧ (y == 1) = true ∧ (x == 1) = false) := by
          by_cases e : b = 1
          · by_cases f : y = 1
            · exact Or.inr (Or.inr ⟨by simp [e], by simp [f], by simpa using fun h => hx ⟨e, h, f⟩⟩)
            · exact Or.inr (Or.inl ⟨by simp [e], by simp [f]⟩)
          · exact Or.inl (by simp [e])
        clear hx HX HY
        rcases hx' with hx | ⟨hx1, hx2⟩ | ⟨hx1, hx2, hx3⟩
        all_goals
          go_wp2
          go_round
          case rel => exact ⟨k + 1, by omega, by go_num, HX'.out⟩
          case measure => simp [intOf]; omega
    · have hlti : ¬ ((k : Int) + 1 < (len : Int)) := by omega
      have HF : Hid (rightB b l = true) := by
        show _ = _
        unfold rightB
        by_cases e : b = 1
        · cases h : onesB l with
          | false => simp
          | true =>
            obtain ⟨j, h1, h2, h3⟩ := (onesB_iff l).1 h
            rw [HL.out] at h1
            exact absurd ⟨h2, h3⟩ (HD.out e j (by omega))
        · simp [e]
      go_wp2
      go_ret
      exact ⟨by rw [HF.out]; simp, rfl⟩
end Go.Proofs.YtdmkjhccdknndaaDoor
