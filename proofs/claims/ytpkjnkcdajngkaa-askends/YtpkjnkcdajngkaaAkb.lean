/- slices.IndexFunc, ContainsFunc at whatever closure that only reads; Index, Contains of true and false: contracts. -/
import Derived.Test.YtpkjnkcdajngkaaAd
import Derived.Test.YtpkjnkcdajngkaaAka
namespace Go.Proofs.Ytpkjnkcdajngkaa
open Go.RowKit

theorem getDb {E : List Bool} {i : Nat} (h : i < E.length) : E.getD i false = E[i] := by simp [List.getD, h]
def idxF (p : Nat → Bool) (l : List Int) (w : World) (e : Ending) (w' : World) : Prop := ∃ i : Int, e = .returned (.int .i64 i) ∧ decide (0 ≤ i) = l.any (fun x => p x.toNat) ∧ w' = w
def retB (q : Bool) (w : World) (e : Ending) (w' : World) : Prop := e = .returned (.bool q) ∧ w' = w
set_option maxHeartbeats 4000000 in
set_option maxRecDepth 4000 in
theorem idxF_any (f : FuncId) (cs : Array Value) (p : Nat → Bool) (k' : Nat) (as_ : Option Addr) (n c : Nat) (l : List Int) (w : World)
    (hen : ∀ (args : Array Value) (W : World), (callFunc f args).run Try.prog W = .ok (.enter f args) W)
    (hF : ∀ s : Nat, s < k' → Calls Try.prog f (#[.int .i64 (s : Int)] ++ cs) w (retB (p s) w)) (hs : Sl w as_ n l) (hl : ∀ x ∈ l, 0 ≤ x ∧ x < (k' : Int)) :
    Calls Try.prog 22 #[.slice as_ n c, .func (.func f) #[] cs] w (idxF p l w) := by
  have hL := hs.1
  have hnm := hs.2.1
  unfold maxLen at hnm
  have HS := hide hs
  have HEN := hide hen
  have H1 := hide hF
  unfold retB at H1
  have HLR : Hid (∀ i, i < n → 0 ≤ l.getD i 0 ∧ l.getD i 0 < (k' : Int)) := fun i hi => hl _ (by rw [getD_at _ i (by omega)]; exact List.getElem_mem _)
  have HYES : Hid (∀ i, i < n → p (l.getD i 0).toNat = true → l.any (fun x => p x.toNat) = true) := fun i hi h => List.any_eq_true.2 ⟨l.getD i 0, by rw [getD_at _ i (by omega)]; exact List.getElem_mem _, h⟩
  have HNO : Hid ((∀ i, i < n → p (l.getD i 0).toNat = false) → l.any (fun x => p x.toNat) = false) := fun h => by
    rw [List.any_eq_false]
    intro x hx
    obtain ⟨i, hi, e⟩ := List.getElem_of_mem hx
    have := h i (by omega)
    rw [getD_at _ i hi, e] at this
    rw [this]
    exact Bool.false_ne_true
  clear hs hl hL hen hF
  go_enter Try.func22, Try.ntmps22
  go_wp2
  go_loop [8] (fun u => ∃ k : Nat, k ≤ n ∧ u = .int .i64 k ∧ ∀ i, i < k → p (l.getD i 0).toNat = false) (fun u => n - (intOf u).toNat)
  case atStart => exact ⟨0, by omega, rfl, fun i hi => by omega⟩
  case round =>
    obtain ⟨k, hk, rfl, hno⟩ := hrel
    have HN := hide hno
    clear hno
    by_cases hlt : k < n
    · have hlti : (k : Int) < (n : Int) := by omega
      obtain ⟨b1, o1, rfl, hcx⟩ := sl_cell HS.out k hlt
      have hr := HLR.out k hlt
      obtain ⟨s, hs⟩ : ∃ s : Nat, l.getD k 0 = s := ⟨(l.getD k 0).toNat, by omega⟩
      have HY := hide (HYES.out k hlt)
      have HX : Hid (p (l.getD k 0).toNat = p s) := by show _ = _; rw [hs]; rfl
      rw [HX.out] at HY
      rw [hs] at hcx hr
      have HC := hide (H1.out s (by omega))
      clear hs hr
      have he := HEN.out
      cases hq : p s with
      | true =>
        rw [hq] at HC
        have HY2 := hide (HY.out hq)
        clear HY hq HX
        go_wp2_with fail
        clear he
        refine HC.out.mono ?_
        rintro e w' ⟨rfl, rfl⟩
        go_wp2
        go_ret
        exact ⟨(k : Int), rfl, by rw [HY2.out]; exact decide_eq_true (Int.natCast_nonneg k), rfl⟩
      | false =>
        rw [hq] at HC HX
        clear hq
        go_wp2_with fail
        clear he
        refine HC.out.mono ?_
        rintro e w' ⟨rfl, rfl⟩
        go_wp2
        go_round
        case rel => exact ⟨k + 1, by omega, by go_num, fun i hi => by
          rcases Nat.lt_or_ge i k with h | h
          · exact HN.out i h
          · have : i = k := by omega
            subst this; exact HX.out⟩
        case measure => simp [intOf]; omega
    · have hlti : ¬ (k : Int) < (n : Int) := by omega
      obtain rfl : k = n := by omega
      have HF := hide (HNO.out HN.out)
      go_wp2
      go_ret
      exact ⟨-1, rfl, (show decide ((0 : Int) ≤ -1) = _ from HF.out.symm), rfl⟩
set_option maxHeartbeats 4000000 in
set_option maxRecDepth 4000 in
theorem cntF_any (f : FuncId) (cs : Array Value) (p : Nat → Bool) (k' : Nat) (as_ : Option Addr) (n c : Nat) (l : List Int) (w : World)
    (hen : ∀ (args : Array Value) (W : World), (callFunc f args).run Try.prog W = .ok (.enter f args) W)
    (hF : ∀ s : Nat, s < k' → Calls Try.prog f (#[.int .i64 (s : Int)] ++ cs) w (retB (p s) w)) (hs : Sl w as_ n l) (hl : ∀ x ∈ l, 0 ≤ x ∧ x < (k' : Int)) :
    Calls Try.prog 15 #[.slice as_ n c, .func (.func f) #[] cs] w (retB (l.any fun x => p x.toNat) w) := by
  have H := hide (idxF_any f cs p k' as_ n c l w hen hF hs hl)
  unfold idxF at H
  clear hen hF hs hl
  generalize l.any (fun x => p x.toNat) = q at H
  go_enter Try.func15, Try.ntmps15
  go_wp2_with (go_at_call 22; refine H.out.mono ?_; rintro e w' ⟨i, rfl, hi, rfl⟩; have HI := hide hi; clear hi)
  go_ret
  exact ⟨by rw [show q = decide (0 ≤ i) from HI.out.symm]; rfl, rfl⟩
set_option maxHeartbeats 4000000 in
set_option maxRecDepth 4000 in
theorem idxB_any (a : Option Addr) (n c : Nat) (E : List Bool) (w : World) (hs : SlB w a n E) :
    Calls Try.prog 26 #[.slice a n c, .bool true] w (fun e w' => ∃ i : Int, e = .returned (.int .i64 i) ∧ decide (0 ≤ i) = E.any id ∧ w' = w) := by
  have hL := hs.1
  have hnm := hs.2.1
  unfold maxLen at hnm
  have HS := hide hs
  have HYES : Hid (∀ i, i < n → E.getD i false = true → E.any id = true) := fun i hi h => List.any_eq_true.2 ⟨E.getD i false, by rw [getDb (by omega)]; exact List.getElem_mem _, h⟩
  have HNO : Hid ((∀ i, i < n → E.getD i false = false) → E.any id = false) := fun h => by
    rw [List.any_eq_false]
    intro x hx
    obtain ⟨i, hi, e⟩ := List.getElem_of_mem hx
    have := h i (by omega)
    rw [getDb hi, e] at this
    rw [this]
    exact Bool.false_ne_true
  clear hs hL
  go_enter Try.func26, Try.ntmps26
  go_wp2
  go_loop [8] (fun u => ∃ k : Nat, k ≤ n ∧ u = .int .i64 k ∧ ∀ i, i < k → E.getD i false = false) (fun u => n - (intOf u).toNat)
  case atStart => exact ⟨0, by omega, rfl, fun i hi => by omega⟩
  case round =>
    obtain ⟨k, hk, rfl, hno⟩ := hrel
    have HN := hide hno
    clear hno
    by_cases hlt : k < n
    · have hlti : (k : Int) < (n : Int) := by omega
      obtain ⟨b1, o1, rfl, hcx⟩ := slB_cell HS.out k hlt
      have HY := hide (HYES.out k hlt)
      cases hq : E.getD k false with
      | true =>
        rw [hq] at hcx
        have HY2 := hide (HY.out hq)
        clear HY hq
        go_wp2
        go_ret
        exact ⟨(k : Int), rfl, by rw [HY2.out]; exact decide_eq_true (Int.natCast_nonneg k), rfl⟩
      | false =>
        rw [hq] at hcx
        have HQ := hide hq
        clear hq
        go_wp2
        go_round
        case rel => exact ⟨k + 1, by omega, by go_num, fun i hi => by
          rcases Nat.lt_or_ge i k with h | h
          · exact HN.out i h
          · have : i = k := by omega
            subst this; exact HQ.out⟩
        case measure => simp [intOf]; omega
    · have hlti : ¬ (k : Int) < (n : Int) := by omega
      obtain rfl : k = n := by omega
      have HF := hide (HNO.out HN.out)
      go_wp2
      go_ret
      exact ⟨-1, rfl, (show decide ((0 : Int) ≤ -1) = _ from HF.out.symm), rfl⟩
set_option maxHeartbeats 4000000 in
set_option maxRecDepth 4000 in
theorem cntB_any (a : Option Addr) (n c : Nat) (E : List Bool) (w : World) (hs : SlB w a n E) :
    Calls Try.prog 21 #[.slice a n c, .bool true] w (retB (E.any id) w) := by
  have H := hide (idxB_any a n c E w hs)
  clear hs
  generalize E.any id = q at H
  go_enter Try.func21, Try.ntmps21
  go_wp2_with (go_at_call 26; refine H.out.mono ?_; rintro e w' ⟨i, rfl, hi, rfl⟩; have HI := hide hi; clear hi)
  go_ret
  exact ⟨by rw [show q = decide (0 ≤ i) from HI.out.symm]; rfl, rfl⟩
end Go.Proofs.Ytpkjnkcdajngkaa
