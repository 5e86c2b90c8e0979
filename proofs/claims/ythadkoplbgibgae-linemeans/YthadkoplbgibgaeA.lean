/- Contracts of the small functions of package digit: isBase, kinds, check, hasOnesSideBySide; of filbertsame.Ints. -/
import Derived.Test.YthadkoplbgibgaeRows
import Derived.Below
import Derived.BigQuiet
import Derived.Deep.QuietTactic
import Derived.WalkKit
namespace Go.Proofs.Ythadkoplbgibgae
open Go.RowKit

/-- The slice value v reads, in w, as the numbers l. -/
def Sl (w : World) (a : Option Addr) (len : Nat) (l : List Int) : Prop :=
  l.length = len ∧ len ≤ maxLen ∧ (∀ n ∈ l, (Lit.int .i64 n).wf = true) ∧
  (len = 0 ∨ ∃ b o, a = some ⟨b, o, none⟩ ∧ ∀ i, i < len → w.cell? ⟨b, o + i, none⟩ = some (.int .i64 (l.getD i 0)))

theorem isBase_yes (b : Int) (w : World) (h1 : 1 ≤ b) (h2 : b ≤ 6) :
    Calls Try.prog 65 #[.int .i64 b] w fun e w' => e = .returned (.bool true) ∧ w' = w := by
  go_enter Try.func65, Try.ntmps65
  go_wp2
  go_ret
  exact ⟨by simp, rfl⟩

theorem hide {p : Prop} (h : p) : Hid p := h

theorem isBase_no (b : Int) (w : World) (h : b < 1 ∨ 6 < b) :
    Calls Try.prog 65 #[.int .i64 b] w fun e w' => e = .returned (.bool false) ∧ w' = w := by
  rcases h with h | h
  · go_enter Try.func65, Try.ntmps65
    go_wp2
    go_ret
    exact ⟨by simp, rfl⟩
  · have h1 : 1 ≤ b := by omega
    go_enter Try.func65, Try.ntmps65
    go_wp2
    go_ret
    exact ⟨by simp; omega, rfl⟩

def kindsI (b : Int) : Int := if b ≤ 2 then 2 else b

theorem kinds_any (b : Int) (w : World) (h1 : 1 ≤ b) (h2 : b ≤ 6) :
    Calls Try.prog 66 #[.int .i64 b] w fun e w' => e = .returned (.int .i64 (kindsI b)) ∧ w' = w := by
  go_enter Try.func66, Try.ntmps66
  go_wp2
  all_goals
    go_ret
    refine ⟨?_, rfl⟩
    simp [kindsI]
    omega

/-- Is each of l a digit of base b? -/
def digB (b : Int) (l : List Int) : Bool := l.all fun x => decide (0 ≤ x ∧ x < kindsI b)

theorem check_range (b : Int) (a : Option Addr) (len cap : Nat) (w : World) (h : b < 1 ∨ 6 < b) :
    Calls Try.prog 80 #[.int .i64 b, .slice a len cap] w fun e w' => e = .returned (.iface 61 (.int .i64 1)) ∧ w' = w := by
  go_enter Try.func80, Try.ntmps80
  go_wp2_with (go_at_call 65; refine (isBase_no _ _ h).mono ?_; rintro e w' ⟨rfl, rfl⟩)
  go_ret
  exact ⟨by simp, rfl⟩

theorem check_full (b : Int) (a : Option Addr) (len cap : Nat) (w : World) (h1 : 1 ≤ b) (h2 : b ≤ 6) (h : 60 < len) (hm : len ≤ maxLen) :
    Calls Try.prog 80 #[.int .i64 b, .slice a len cap] w fun e w' => e = .returned (.iface 61 (.int .i64 3)) ∧ w' = w := by
  unfold maxLen at hm
  have h' : (60 : Int) < (len : Int) := by omega
  go_enter Try.func80, Try.ntmps80
  go_wp2_with (go_at_call 65; refine (isBase_yes _ _ h1 h2).mono ?_; rintro e w' ⟨rfl, rfl⟩)
  go_ret
  exact ⟨by simp, rfl⟩

theorem digB_take_succ (b : Int) (l : List Int) (k : Nat) (h : k < l.length) : digB b (l.take (k + 1)) = (digB b (l.take k) && decide (0 ≤ l.getD k 0 ∧ l.getD k 0 < kindsI b)) := by
  unfold digB
  rw [List.take_succ_eq_append_getElem h, List.all_append]
  simp [List.getD, h]


def chkV (b : Int) (l : List Int) : Value := if digB b l = true then .nilIface else .iface 61 (.int .i64 1)

theorem digB_not (b : Int) (l : List Int) (k : Nat) (h : k < l.length) (hx : ¬ (0 ≤ l.getD k 0 ∧ l.getD k 0 < kindsI b)) : chkV b l = .iface 61 (.int .i64 1) := by
  unfold chkV
  rw [if_neg]
  intro hd
  unfold digB at hd
  rw [List.all_eq_true] at hd
  have := hd (l.getD k 0) (by simp [List.getD, h])
  exact hx (by simpa using this)

theorem sl_cell {w : World} {a : Option Addr} {len : Nat} {l : List Int} (hs : Sl w a len l) (k : Nat) (hk : k < len) :
    ∃ b o, a = some ⟨b, o, none⟩ ∧ w.cell? ⟨b, o + k, none⟩ = some (.int .i64 (l.getD k 0)) := by
  rcases hs.2.2.2 with h | ⟨b, o, h, hc⟩
  · omega
  · exact ⟨b, o, h, hc k hk⟩

set_option maxHeartbeats 1000000 in
set_option maxRecDepth 4000 in
theorem check_ok (b : Int) (a : Option Addr) (len cap : Nat) (l : List Int) (w : World) (h1 : 1 ≤ b) (h2 : b ≤ 6) (h : len ≤ 60) (hs : Sl w a len l) :
    Calls Try.prog 80 #[.int .i64 b, .slice a len cap] w fun e w' => e = .returned (chkV b l) ∧ w' = w := by
  have hm := hs.2.1
  unfold maxLen at hm
  have HL : Hid (l.length = len) := hs.1
  have HS : Hid (Sl w a len l) := hs
  clear hs
  have h' : ¬ (60 : Int) < (len : Int) := by omega
  go_enter Try.func80, Try.ntmps80
  go_wp2_with (go_at_call 65; refine (isBase_yes _ _ h1 h2).mono ?_; rintro e w' ⟨rfl, rfl⟩)
  go_loop [17] (fun i => ∃ k : Nat, k ≤ len ∧ i = .int .i64 k ∧ digB b (l.take k) = true) (fun i => len - (intOf i).toNat)
  case atStart => exact ⟨0, Nat.zero_le _, rfl, rfl⟩
  case round =>
    obtain ⟨k, hk, rfl, hd⟩ := hrel
    have HD : Hid (digB b (l.take k) = true) := hd
    clear hd
    by_cases hlt : k < len
    · obtain ⟨bb, o, rfl, hck⟩ := sl_cell HS.out k hlt
      have HT := hide (digB_take_succ b l k (by rw [HL.out]; exact hlt))
      have HN := hide (digB_not b l k (by rw [HL.out]; exact hlt))
      generalize l.getD k 0 = x at hck HT HN
      have hkb : 2 ≤ kindsI b ∧ kindsI b ≤ 6 := by unfold kindsI; split <;> omega
      obtain ⟨hkb1, hkb2⟩ := hkb
      by_cases hx : 0 ≤ x ∧ x < kindsI b
      · obtain ⟨hx1, hx2⟩ := hx
        go_wp2_with (go_at_call 66; refine (kinds_any _ _ h1 h2).mono ?_; rintro e w' ⟨rfl, rfl⟩)
        go_round
        case rel => exact ⟨k + 1, by omega, by go_num, by rw [HT.out, HD.out]; simp [hx1, hx2]⟩
        case measure => simp [intOf]; omega
      · have HN' := hide (HN.out hx)
        have hx' : x < 0 ∨ (0 ≤ x ∧ kindsI b ≤ x) := by omega
        clear hx
        rcases hx' with hx | ⟨hx1, hx2⟩
        all_goals
          go_wp2_with (go_at_call 66; refine (kinds_any _ _ h1 h2).mono ?_; rintro e w' ⟨rfl, rfl⟩)
          go_ret
          exact ⟨by rw [HN'.out]; simp, rfl⟩
    · go_wp2
      go_ret
      obtain rfl : k = len := by omega
      rw [List.take_of_length_le (by rw [HL.out]; omega)] at HD
      refine ⟨?_, rfl⟩
      unfold chkV
      rw [if_pos HD.out]
      rfl

/-- Do two 1s stand side by side? -/
def onesB : List Int → Bool
  | x :: y :: r => (x == 1 && y == 1) || onesB (y :: r)
  | _ => false

theorem onesB_iff (l : List Int) : onesB l = true ↔ ∃ k, k + 1 < l.length ∧ l.getD k 0 = 1 ∧ l.getD (k + 1) 0 = 1 := by
  induction l with
  | nil => simp [onesB]
  | cons x r ih =>
    cases r with
    | nil => simp [onesB]
    | cons y r =>
      simp only [onesB, Bool.or_eq_true, Bool.and_eq_true, beq_iff_eq, ih]
      constructor
      · rintro (⟨h1, h2⟩ | ⟨k, h1, h2, h3⟩)
        · exact ⟨0, by simp, by simpa using h1, by simpa using h2⟩
        · exact ⟨k + 1, by simpa using h1, by simpa using h2, by simpa using h3⟩
      · rintro ⟨k, h1, h2, h3⟩
        cases k with
        | zero => exact Or.inl ⟨by simpa using h2, by simpa using h3⟩
        | succ k => exact Or.inr ⟨k, by simpa using h1, by simpa using h2, by simpa using h3⟩

set_option maxHeartbeats 1000000 in
set_option maxRecDepth 4000 in
theorem ones_any (a : Option Addr) (len cap : Nat) (l : List Int) (w : World) (hs : Sl w a len l) :
    Calls Try.prog 81 #[.slice a len cap] w fun e w' => e = .returned (.bool (onesB l)) ∧ w' = w := by
  have hm := hs.2.1
  unfold maxLen at hm
  have HL : Hid (l.length = len) := hs.1
  have HS : Hid (Sl w a len l) := hs
  clear hs
  go_enter Try.func81, Try.ntmps81
  go_wp2
  go_loop [3] (fun i => ∃ k : Nat, k + 1 ≤ max len 1 ∧ i = .int .i64 (k + 1) ∧ ∀ j, j < k → ¬ (l.getD j 0 = 1 ∧ l.getD (j + 1) 0 = 1)) (fun i => len - (intOf i).toNat)
  case atStart => exact ⟨0, by omega, rfl, by omega⟩
  case round =>
    obtain ⟨k, hk, rfl, hd⟩ := hrel
    have HD := hide hd
    clear hd
    by_cases hlt : k + 1 < len
    · have hlti : (k : Int) + 1 < (len : Int) := by omega
      obtain ⟨bb, o, rfl, hck⟩ := sl_cell HS.out k (by omega)
      obtain ⟨bb', o', hab, hck'⟩ := sl_cell HS.out (k + 1) hlt
      obtain ⟨rfl, rfl⟩ : bb = bb' ∧ o = o' := by simpa using hab
      clear hab
      have HN := hide ((onesB_iff l).2)
      have HX : Hid (∀ x y, l.getD k 0 = x → l.getD (k + 1) 0 = y → ¬ (x = 1 ∧ y = 1) → ∀ j, j < k + 1 → ¬ (l.getD j 0 = 1 ∧ l.getD (j + 1) 0 = 1)) := by
        intro x y h1 h2 h3 j hj
        by_cases e : j = k
        · subst e; rw [h1, h2]; exact h3
        · exact HD.out j (by omega)
      have HY : Hid (l.getD k 0 = 1 → l.getD (k + 1) 0 = 1 → onesB l = true) := fun h1 h2 => HN.out ⟨k, by rw [HL.out]; exact hlt, h1, h2⟩
      replace HX := hide (HX.out _ _ rfl rfl)
      clear HN HD
      generalize l.getD k 0 = x at hck HX HY
      generalize l.getD (k + 1) 0 = y at hck' HX HY
      by_cases hx : x = 1 ∧ y = 1
      · obtain ⟨rfl, rfl⟩ := hx
        have HY' := hide (HY.out rfl rfl)
        clear HY HX
        go_wp2
        go_ret
        exact ⟨by rw [HY'.out]; simp, rfl⟩
      · have HX' := hide (HX.out hx)
        have hx' : (x == 1) = false ∨ ((x == 1) = true ∧ (y == 1) = false) := by
          by_cases e : x = 1
          · exact Or.inr ⟨by simp [e], by simpa using fun h => hx ⟨e, h⟩⟩
          · exact Or.inl (by simp [e])
        clear hx HX HY
        rcases hx' with hx | ⟨hx1, hx2⟩
        all_goals
          go_wp2
          go_round
          case rel => exact ⟨k + 1, by omega, by go_num, HX'.out⟩
          case measure => simp [intOf]; omega
    · have hlti : ¬ ((k : Int) + 1 < (len : Int)) := by omega
      have HF : Hid (onesB l = false) := by
        cases h : onesB l with
        | false => exact rfl
        | true =>
          obtain ⟨j, h1, h2, h3⟩ := (onesB_iff l).1 h
          rw [HL.out] at h1
          exact absurd ⟨h2, h3⟩ (HD.out j (by omega))
      go_wp2
      go_ret
      exact ⟨by rw [HF.out]; simp, rfl⟩
end Go.Proofs.Ythadkoplbgibgae
