/- count.plus, one, the closures, added: contracts. -/
import Derived.Test.YtlgjadnkokmjoaaDoorAc
import Derived.Test.YtlgjadnkokmjoaaDoorCta

namespace Go.Proofs.YtlgjadnkokmjoaaDoor
open Go.RowKit

theorem div_over {s a b : Int} (hs0 : 0 ≤ s) (hs : s ≤ 1152921504606846977) (ha : 1 ≤ a) (hb : 1 ≤ b) : (1152921504606846976 - s).tdiv a < b ↔ 1152921504606846976 < s + a * b := by
  rcases Int.lt_or_le 1152921504606846976 s with h | h
  · obtain rfl : s = 1152921504606846977 := by omega
    have h1 : (1152921504606846976 - 1152921504606846977 : Int).tdiv a ≤ 0 := by
      rw [show (1152921504606846976 - 1152921504606846977 : Int) = -1 by decide, Int.neg_tdiv]
      have := Int.tdiv_nonneg (a := 1) (b := a) (by decide) (by omega)
      omega
    have h2 : 0 ≤ a * b := Int.mul_nonneg (by omega) (by omega)
    exact ⟨fun _ => by omega, fun _ => by omega⟩
  · rw [Int.tdiv_eq_ediv_of_nonneg (by omega)]
    have h1 := Int.ediv_lt_iff_lt_mul (a := 1152921504606846976 - s) (b := b) (c := a) (by omega)
    rw [Int.mul_comm a b]
    generalize b * a = p at h1 ⊢
    omega
def retI (v : Int) (w : World) (e : Ending) (w' : World) : Prop := e = .returned (.int .i64 v) ∧ w' = w
set_option maxHeartbeats 2000000 in
set_option maxRecDepth 4000 in
theorem plus_any (s a b : Int) (w : World) (hs : 0 ≤ s ∧ s ≤ 1152921504606846977) (ha : 0 ≤ a ∧ a ≤ 1152921504606846977) (hb : 0 ≤ b ∧ b ≤ 1152921504606846977) :
    Calls Tryd.prog 51 #[.int .i64 s, .int .i64 a, .int .i64 b] w (retI (capI (s + a * b)) w) := by
  by_cases ha0 : a = 0
  · subst ha0
    have hv : capI (s + 0 * b) = s := by unfold capI; split <;> omega
    rw [hv]
    go_enter Tryd.func51, Tryd.ntmps51
    go_wp2
    go_ret
    exact ⟨rfl, rfl⟩
  by_cases hb0 : b = 0
  · subst hb0
    have hv : capI (s + a * 0) = s := by unfold capI; split <;> omega
    rw [hv]
    have h0 : (a == 0) = false := by simp; omega
    go_enter Tryd.func51, Tryd.ntmps51
    go_wp2
    go_ret
    exact ⟨rfl, rfl⟩
  have h0 : (a == 0) = false := by simp; omega
  have h1 : (b == 0) = false := by simp; omega
  have hD := div_over hs.1 hs.2 (show 1 ≤ a by omega) (show 1 ≤ b by omega)
  have hq : -1 ≤ (1152921504606846976 - s).tdiv a ∧ (1152921504606846976 - s).tdiv a ≤ 1152921504606846976 := by
    rcases Int.lt_or_le 1152921504606846976 s with h | h
    · obtain rfl : s = 1152921504606846977 := by omega
      rw [show (1152921504606846976 - 1152921504606846977 : Int) = -1 by decide, Int.neg_tdiv]
      have h2 := Int.tdiv_le_self (a := 1) a (by decide)
      have h3 := Int.tdiv_nonneg (a := 1) (b := a) (by decide) (by omega)
      omega
    · have h2 := Int.tdiv_le_self (a := 1152921504606846976 - s) a (by omega)
      have h3 := Int.tdiv_nonneg (a := 1152921504606846976 - s) (b := a) (by omega) (by omega)
      omega
  have hp : 0 ≤ a * b := Int.mul_nonneg ha.1 hb.1
  have hw0 : IntKind.i64.wrap (1152921504606846976 - s) = 1152921504606846976 - s := by rw [IntKind.wrap_i64]; omega
  generalize hqe : (1152921504606846976 - s).tdiv a = q at hD hq
  have hwq : IntKind.i64.wrap q = q := by rw [IntKind.wrap_i64]; omega
  by_cases hlt : 1152921504606846976 < s + a * b
  · have hql : q < b := hD.2 hlt
    have hv : capI (s + a * b) = 1152921504606846977 := if_neg (by omega)
    rw [hv]
    clear hD hlt hv hp hq hb0
    go_enter Tryd.func51, Tryd.ntmps51
    go_wp2
    go_ret
    exact ⟨rfl, rfl⟩
  · have hql : ¬ q < b := fun h => hlt (hD.1 h)
    have hv : capI (s + a * b) = s + a * b := if_pos (by omega)
    rw [hv]
    have hw1 : IntKind.i64.wrap (a * b) = a * b := by rw [IntKind.wrap_i64]; omega
    have hw2 : IntKind.i64.wrap (s + a * b) = s + a * b := by rw [IntKind.wrap_i64]; omega
    clear hD hlt hv hp hq hb0
    go_enter Tryd.func51, Tryd.ntmps51
    go_wp2
    go_ret
    exact ⟨rfl, rfl⟩
set_option maxHeartbeats 1000000 in
theorem thr1_any (a : Option Addr) (n c : Nat) (l : List Int) (t B : Nat) (w : World) (hs : Sl w a n l) (ht : t < n) (hB : w.cell? ⟨B, 0, none⟩ = some (.int .i64 (t : Int))) :
    Calls Tryd.prog 50 #[.slice a n c, .pointer (some ⟨B, 0, none⟩)] w (retI (l.getD t 0) w) := by
  obtain ⟨b1, o1, rfl, hc⟩ := sl_cell hs t ht
  have hti : (t : Int) < (n : Int) := by omega
  clear hs
  generalize l.getD t 0 = v at hc ⊢
  go_enter Tryd.func50, Tryd.ntmps50
  go_wp2
  go_ret
  exact ⟨rfl, rfl⟩
set_option maxHeartbeats 1000000 in
theorem evl1_any (x : Int) (w : World) : Calls Tryd.prog 46 #[.int .i64 x] w (retI x w) := by
  go_enter Tryd.func46, Tryd.ntmps46
  go_wp2
  go_ret
  exact ⟨rfl, rfl⟩
set_option maxHeartbeats 4000000 in
set_option maxRecDepth 4000 in
theorem addedI_any (f : FuncId) (cs : Array Value) (vs : Nat → Value) (c : Nat → Int) (ar : Option Addr) (n cr : Nat) (row : List Int) (th : Option Addr) (m ct : Nat) (w : World)
    (hen : ∀ (args : Array Value) (W : World), (callFunc f args).run Tryd.prog W = .ok (.enter f args) W)
    (hs : Sl w ar n row) (hth : ∀ i, i < n → ∃ b o, th = some ⟨b, o, none⟩ ∧ w.cell? ⟨b, o + i, none⟩ = some (vs i)) (hm : n ≤ m)
    (hF : ∀ i, i < n → Calls Tryd.prog f (#[vs i] ++ cs) w (retI (c i) w))
    (hrb : ∀ i, i < n → 0 ≤ row.getD i 0 ∧ row.getD i 0 ≤ 1152921504606846977) (hcb : ∀ i, i < n → 0 ≤ c i ∧ c i ≤ 1152921504606846977) :
    Calls Tryd.prog 45 #[.slice ar n cr, .slice th m ct, .func (.func f) #[] cs] w (retI (capI (csum (fun i => row.getD i 0 * c i) n)) w) := by
  have hnm := hs.2.1
  unfold maxLen at hnm
  rw [← ccap_eq fun i hi => Int.mul_nonneg (hrb i hi).1 (hcb i hi).1]
  have HCC : Hid (∀ i, i ≤ n → 0 ≤ ccap (fun i => row.getD i 0 * c i) i ∧ ccap (fun i => row.getD i 0 * c i) i ≤ 1152921504606846977) := fun i hi => by
    rw [ccap_eq fun j hj => Int.mul_nonneg (hrb j (by omega)).1 (hcb j (by omega)).1]
    exact capI_bd (csum_nn fun j hj => Int.mul_nonneg (hrb j (by omega)).1 (hcb j (by omega)).1)
  have HST : Hid (∀ i, ccap (fun i => row.getD i 0 * c i) (i + 1) = capI (ccap (fun i => row.getD i 0 * c i) i + row.getD i 0 * c i)) := fun i => rfl
  have HS := hide hs
  have HTH := hide hth
  have HEN := hide hen
  have H1 := hide hF
  have HRB := hide hrb
  have HCB := hide hcb
  have HZ : Hid (ccap (fun i => row.getD i 0 * c i) 0 = 0) := rfl
  unfold retI at H1
  clear hs hth hen hF hrb hcb
  generalize ccap (fun i => row.getD i 0 * c i) = S at HCC HST HZ ⊢
  go_enter Tryd.func45, Tryd.ntmps45
  go_wp2
  go_loop [7, 12] (fun u i => ∃ k : Nat, k ≤ n ∧ i = .int .i64 k ∧ u = .int .i64 (S k)) (fun _ i => n - (intOf i).toNat)
  case atStart => exact ⟨0, by omega, rfl, by rw [HZ.out]⟩
  case round =>
    obtain ⟨k, hk, rfl, rfl⟩ := hrel
    by_cases hlt : k < n
    · have hlti : (k : Int) < (n : Int) := by omega
      have hkm : (k : Int) < (m : Int) := by omega
      obtain ⟨b1, o1, rfl, hc1⟩ := sl_cell HS.out k hlt
      obtain ⟨b2, o2, rfl, hc2⟩ := HTH.out k hlt
      have HC1 := hide (H1.out k hlt)
      have HC2 := hide (plus_any (S k) (row.getD k 0) (c k) w (HCC.out k hk) (HRB.out k hlt) (HCB.out k hlt))
      unfold retI at HC2
      rw [← HST.out] at HC2
      have HNX := hide (HCC.out (k + 1) hlt)
      generalize row.getD k 0 = x at hc1 HC2
      generalize vs k = v at hc2 HC1
      generalize c k = y at HC1 HC2
      generalize hsk : S k = sk at HC2
      have he := HEN.out
      go_wp2_with fail
      refine HC1.out.mono ?_
      rintro e w' ⟨rfl, hw⟩
      rw [hw]
      clear hw w'
      go_wp2_with (go_at_call 51; refine HC2.out.mono ?_; rintro e w' ⟨rfl, hw⟩; rw [hw]; clear hw w')
      clear he
      go_round
      case rel => exact ⟨k + 1, by omega, by go_num, rfl⟩
      case measure => simp [intOf]; omega
    · have hlti : ¬ (k : Int) < (n : Int) := by omega
      obtain rfl : k = n := by omega
      go_wp2
      go_ret
      exact ⟨rfl, rfl⟩
set_option maxHeartbeats 4000000 in
set_option maxRecDepth 4000 in
theorem addedL_any (f : FuncId) (cs : Array Value) (vs : Nat → Value) (c : Nat → Int) (ar : Option Addr) (n cr : Nat) (row : List Int) (th : Option Addr) (m ct : Nat) (w : World)
    (hen : ∀ (args : Array Value) (W : World), (callFunc f args).run Tryd.prog W = .ok (.enter f args) W)
    (hs : Sl w ar n row) (hth : ∀ i, i < n → ∃ b o, th = some ⟨b, o, none⟩ ∧ w.cell? ⟨b, o + i, none⟩ = some (vs i)) (hm : n ≤ m)
    (hF : ∀ i, i < n → Calls Tryd.prog f (#[vs i] ++ cs) w (retI (c i) w))
    (hrb : ∀ i, i < n → 0 ≤ row.getD i 0 ∧ row.getD i 0 ≤ 1152921504606846977) (hcb : ∀ i, i < n → 0 ≤ c i ∧ c i ≤ 1152921504606846977) :
    Calls Tryd.prog 49 #[.slice ar n cr, .slice th m ct, .func (.func f) #[] cs] w (retI (capI (csum (fun i => row.getD i 0 * c i) n)) w) := by
  have hnm := hs.2.1
  unfold maxLen at hnm
  rw [← ccap_eq fun i hi => Int.mul_nonneg (hrb i hi).1 (hcb i hi).1]
  have HCC : Hid (∀ i, i ≤ n → 0 ≤ ccap (fun i => row.getD i 0 * c i) i ∧ ccap (fun i => row.getD i 0 * c i) i ≤ 1152921504606846977) := fun i hi => by
    rw [ccap_eq fun j hj => Int.mul_nonneg (hrb j (by omega)).1 (hcb j (by omega)).1]
    exact capI_bd (csum_nn fun j hj => Int.mul_nonneg (hrb j (by omega)).1 (hcb j (by omega)).1)
  have HST : Hid (∀ i, ccap (fun i => row.getD i 0 * c i) (i + 1) = capI (ccap (fun i => row.getD i 0 * c i) i + row.getD i 0 * c i)) := fun i => rfl
  have HS := hide hs
  have HTH := hide hth
  have HEN := hide hen
  have H1 := hide hF
  have HRB := hide hrb
  have HCB := hide hcb
  have HZ : Hid (ccap (fun i => row.getD i 0 * c i) 0 = 0) := rfl
  unfold retI at H1
  clear hs hth hen hF hrb hcb
  generalize ccap (fun i => row.getD i 0 * c i) = S at HCC HST HZ ⊢
  go_enter Tryd.func49, Tryd.ntmps49
  go_wp2
  go_loop [7, 12] (fun u i => ∃ k : Nat, k ≤ n ∧ i = .int .i64 k ∧ u = .int .i64 (S k)) (fun _ i => n - (intOf i).toNat)
  case atStart => exact ⟨0, by omega, rfl, by rw [HZ.out]⟩
  case round =>
    obtain ⟨k, hk, rfl, rfl⟩ := hrel
    by_cases hlt : k < n
    · have hlti : (k : Int) < (n : Int) := by omega
      have hkm : (k : Int) < (m : Int) := by omega
      obtain ⟨b1, o1, rfl, hc1⟩ := sl_cell HS.out k hlt
      obtain ⟨b2, o2, rfl, hc2⟩ := HTH.out k hlt
      have HC1 := hide (H1.out k hlt)
      have HC2 := hide (plus_any (S k) (row.getD k 0) (c k) w (HCC.out k hk) (HRB.out k hlt) (HCB.out k hlt))
      unfold retI at HC2
      rw [← HST.out] at HC2
      have HNX := hide (HCC.out (k + 1) hlt)
      generalize row.getD k 0 = x at hc1 HC2
      generalize vs k = v at hc2 HC1
      generalize c k = y at HC1 HC2
      generalize hsk : S k = sk at HC2
      have he := HEN.out
      go_wp2_with fail
      refine HC1.out.mono ?_
      rintro e w' ⟨rfl, hw⟩
      rw [hw]
      clear hw w'
      go_wp2_with (go_at_call 51; refine HC2.out.mono ?_; rintro e w' ⟨rfl, hw⟩; rw [hw]; clear hw w')
      clear he
      go_round
      case rel => exact ⟨k + 1, by omega, by go_num, rfl⟩
      case measure => simp [intOf]; omega
    · have hlti : ¬ (k : Int) < (n : Int) := by omega
      obtain rfl : k = n := by omega
      go_wp2
      go_ret
      exact ⟨rfl, rfl⟩
end Go.Proofs.YtlgjadnkokmjoaaDoor
