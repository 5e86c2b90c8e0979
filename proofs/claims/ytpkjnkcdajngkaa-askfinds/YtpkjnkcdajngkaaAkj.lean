/- The law's ahead: contract. -/
import Derived.Test.YtpkjnkcdajngkaaAki
import Derived.Test.YtpkjnkcdajngkaaU
import Derived.BigQuiet
namespace Go.Proofs.Ytpkjnkcdajngkaa
open Go.RowKit

theorem lexB_at : ∀ (v u : List Int) (i : Nat), i < v.length → i < u.length → (∀ j, j < i → v.getD j 0 = u.getD j 0) → v.getD i 0 ≠ u.getD i 0 → lexB v u = decide (v.getD i 0 < u.getD i 0) := by
  intro v
  induction v with
  | nil => intro u i h; simp at h
  | cons x v ih =>
    intro u i hv hu hj hi
    cases u with
    | nil => simp at hu
    | cons y u =>
      cases i with
      | zero =>
        have hxy : x ≠ y := hi
        unfold lexB
        simp [hxy]
      | succ i =>
        have h0 : x = y := hj 0 (by omega)
        subst h0
        unfold lexB
        simp only [Int.lt_irrefl, decide_false, decide_true, Bool.false_or, Bool.true_and]
        exact ih u i (by simpa using hv) (by simpa using hu) (fun j h => hj (j + 1) (by omega)) hi
theorem lexB_same : ∀ (v u : List Int), v.length = u.length → (∀ j, j < v.length → v.getD j 0 = u.getD j 0) → lexB v u = false := by
  intro v
  induction v with
  | nil => intro u h _; cases u with
    | nil => rfl
    | cons y u => simp at h
  | cons x v ih =>
    intro u h hj
    cases u with
    | nil => rfl
    | cons y u =>
      have h0 : x = y := hj 0 (by simp)
      subst h0
      unfold lexB
      simp only [Int.lt_irrefl, decide_false, decide_true, Bool.false_or, Bool.true_and]
      exact ih u (by simpa using h) (fun j h => hj (j + 1) (by simpa using h))
set_option maxHeartbeats 4000000 in
set_option maxRecDepth 4000 in
theorem lahead_any (a a' : Option Addr) (n c n' c' : Nat) (v u : List Int) (w : World) (hs : Sl w a n v) (hs' : Sl w a' n' u) :
    Calls Try.prog 8 #[.slice a n c, .slice a' n' c'] w (fun e w' => e = .returned (.bool (aheadB v u)) ∧ ∃ q, w' = w.drewN q) := by
  have hL := hs.1
  have hL' := hs'.1
  have hnm := hs.2.1
  unfold maxLen at hnm
  by_cases hne : n = n'
  · subst hne
    have hA : aheadB v u = lexB v u := by unfold aheadB; rw [if_pos (by omega)]
    rw [hA]
    have HNE := hide (fun i (h : i < n) => lexB_at v u i (by omega) (by omega))
    have HEQ : Hid ((∀ j, j < n → v.getD j 0 = u.getD j 0) → lexB v u = false) := fun h => lexB_same v u (by omega) (fun j hj => h j (by omega))
    generalize lexB v u = R at HNE HEQ ⊢
    have HS := hide hs
    have HS' := hide hs'
    clear hs hs' hL hL' hA
    go_enter Try.func8, Try.ntmps8
    go_wp2
    go_loopw [5] (fun i wx => ∃ k q : Nat, k ≤ n ∧ i = .int .i64 k ∧ wx = w.drewN q ∧ ∀ j, j < k → v.getD j 0 = u.getD j 0) (fun i _ => n - (intOf i).toNat)
    case atStart => exact ⟨0, 0, by omega, rfl, rfl, fun j hj => by omega⟩
    case round =>
      obtain ⟨k, q, hk, rfl, rfl, hj⟩ := hrel
      have HJ := hide hj
      clear hj
      by_cases hlt : k < n
      · have hlti : (k : Int) < (n : Int) := by omega
        obtain ⟨b1, o1, rfl, hc1⟩ := sl_cell HS.out k hlt
        obtain ⟨b2, o2, rfl, hc2⟩ := sl_cell HS'.out k hlt
        have HN := hide (HNE.out k hlt HJ.out)
        have HJ2 : Hid (v.getD k 0 = u.getD k 0 → ∀ j, j < k + 1 → v.getD j 0 = u.getD j 0) := fun h j hj => by
          by_cases e : j = k
          · subst e; exact h
          · exact HJ.out j (by omega)
        generalize v.getD k 0 = x at hc1 HN HJ2
        generalize u.getD k 0 = y at hc2 HN HJ2
        by_cases hxy : x = y
        · have HJ3 := hide (HJ2.out hxy)
          subst hxy
          have hb : (x != x) = false := by simp
          go_wp2_with fail
          go_quiet (fail)
          go_wp2
          go_roundw
          case rel => exact ⟨k + 1, q + nq, by omega, by go_num, rfl, HJ3.out⟩
          case measure => simp [intOf]; omega
        · have hb : (x != y) = true := by simpa using hxy
          have HR := hide (HN.out hxy)
          clear hxy HJ2 HN
          go_wp2_with fail
          go_quiet (fail)
          go_wp2_with fail
          go_quiet (fail)
          go_wp2
          go_ret
          exact ⟨by rw [HR.out]; rfl, _, by rw [World.drewN_drewN, World.drewN_drewN]⟩
      · have hlti : ¬ (k : Int) < (n : Int) := by omega
        obtain rfl : k = n := by omega
        have HF := hide (HEQ.out HJ.out)
        go_wp2
        go_ret
        exact ⟨by rw [HF.out]; rfl, _, rfl⟩
  · have hA : aheadB v u = decide (n < n') := by unfold aheadB; rw [if_neg (by omega), hL, hL']
    rw [hA]
    have hne' : ((n : Int) != (n' : Int)) = true := by simp; omega
    clear hs hs'
    go_enter Try.func8, Try.ntmps8
    go_wp2
    go_ret
    exact ⟨rfl, 0, rfl⟩
end Go.Proofs.Ytpkjnkcdajngkaa
