/- 7 texts in one. -/
import Derived.Laws.BitsLemmas
import Derived.BigQuiet
import Derived.BigRegion
import Derived.Test.YthadkoplbgibgaeDoorEn
import Derived.Test.YthadkoplbgibgaeDoorZKa
import Derived.Test.YthadkoplbgibgaeDoorZCf
import Derived.Test.YthadkoplbgibgaeDoorJb
import Derived.Test.YthadkoplbgibgaeDoorZLp
import Derived.Test.YthadkoplbgibgaeDoorZNx
/- right.clash, right.stay: contracts. -/
namespace Go.Proofs.YthadkoplbgibgaeDoor
open Go.RowKit

theorem and_small {x y : Nat} (hx : x < 64) (hy : y < 64) : bits .and .i64 (x : Int) (y : Int) = ((x &&& y : Nat) : Int) := (bits_nat .i64 6 (by decide) (fun n h0 h1 => by rw [IntKind.wrap_i64]; omega) x y hx hy).1
theorem rep_get {m k : Nat} (z : Int) (hk : k < m) : (List.replicate m z).getD k 0 = z := by simp [List.getD, hk]
end Go.Proofs.YthadkoplbgibgaeDoor

/- line.check, want.met, want.ends, want.settle, fall: contracts. -/
namespace Go.Proofs.YthadkoplbgibgaeDoor
open Go.RowKit

/-- What is wrong with coefficients and what is added. -/
def ckC (C : List Int) (c : Int) : Int := if absT C C.length ≤ 12 ∧ -60 ≤ c ∧ c ≤ 60 then 0 else 1
theorem ckC_sum {C : List Int} (c : Int) (h : 12 < absT C C.length) : ckC C c = 1 := by unfold ckC; rw [if_neg (by omega)]
set_option maxHeartbeats 4000000 in
set_option maxRecDepth 4000 in
theorem lnCheck_any (a : Option Addr) (n cap : Nat) (C : List Int) (c : Int) (w : World) (hs : Sl w a n C) (hn5 : n ≤ 5) :
    Calls Tryd.prog 31 #[.slice a n cap, .int .i64 c] w fun e w' => e = .returned (errV (ckC C c)) ∧ w' = w := by
  have hL := hs.1
  have HS := hide hs
  have HMO : Hid (∀ k, k ≤ n → 12 < absT C k → ckC C c = 1) := fun k hk h => ckC_sum c (by rw [hL]; have := absT_mono C hk; omega)
  have HSUC : Hid (∀ k, absT C (k + 1) = absT C k + absI (C.getD k 0)) := fun k => rfl
  have HNN := hide (fun k => absT_nn C k)
  have HEND : Hid (ckC C c = if absT C n ≤ 12 ∧ -60 ≤ c ∧ c ≤ 60 then 0 else 1) := by show _ = _; unfold ckC; rw [hL]
  have HZ : Hid (absT C 0 = 0) := rfl
  clear hs hL
  generalize hA : absT C = A at HMO HSUC HNN HEND HZ
  clear hA
  generalize ckC C c = sz at HMO HEND ⊢
  go_enter Tryd.func31, Tryd.ntmps31
  go_wp2
  go_loop [5, 10] (fun sv iv => ∃ k : Nat, k ≤ n ∧ iv = .int .i64 k ∧ sv = .int .i64 (A k) ∧ A k ≤ 12 * (k : Int)) (fun _ iv => n - (intOf iv).toNat)
  case atStart => exact ⟨0, by omega, rfl, by rw [HZ.out], by rw [HZ.out]; decide⟩
  case round =>
    obtain ⟨k, hk, rfl, rfl, h12⟩ := hrel
    have hnn := HNN.out k
    by_cases hlt : k < n
    · have hlti : (k : Int) < (n : Int) := by omega
      obtain ⟨b1, o1, rfl, hc⟩ := sl_cell HS.out k hlt
      have hsuc := HSUC.out k
      have HM := hide (HMO.out (k + 1) hlt)
      have hnn2 := HNN.out (k + 1)
      generalize C.getD k 0 = x at hc hsuc
      generalize A k = z at hsuc h12 hnn
      unfold absI at hsuc
      by_cases h1 : x < -12
      · obtain rfl : sz = 1 := HM.out (by rw [if_pos (by omega)] at hsuc; omega)
        clear hsuc hnn hnn2
        go_wp2
        go_ret
        exact ⟨by simp [errV], rfl⟩
      · have h1' : decide (x < -12) = false := by simp; omega
        by_cases h2 : x > 12
        · obtain rfl : sz = 1 := HM.out (by rw [if_neg (by omega)] at hsuc; omega)
          clear hsuc hnn hnn2
          go_wp2
          go_ret
          exact ⟨by simp [errV], rfl⟩
        · have h2' : decide (x > 12) = false := by simp; omega
          by_cases h3 : x < 0
          · rw [if_pos h3] at hsuc
            have h4 : -x > x := by omega
            have HY := hide hsuc
            clear hsuc hnn2
            go_wp2
            go_round
            case rel => exact ⟨k + 1, by omega, by go_num, by rw [HY.out], by rw [HY.out]; omega⟩
            case measure => simp [intOf]; omega
          · rw [if_neg h3] at hsuc
            have h4 : ¬ -x > x := by omega
            have HY := hide hsuc
            clear hsuc hnn2
            go_wp2
            go_round
            case rel => exact ⟨k + 1, by omega, by go_num, by rw [HY.out], by rw [HY.out]; omega⟩
            case measure => simp [intOf]; omega
    · have hlti : ¬ (k : Int) < (n : Int) := by omega
      obtain rfl : k = n := by omega
      have HE := HEND.out
      clear HMO HSUC HNN HZ HEND
      generalize A k = z at h12 hnn HE ⊢
      by_cases h1 : z > 12
      · obtain rfl : sz = 1 := by rw [HE, if_neg (by omega)]
        clear HE
        go_wp2
        go_ret
        exact ⟨by simp [errV], rfl⟩
      · have h1' : decide (z > 12) = false := by simp; omega
        by_cases h2 : c < -60
        · obtain rfl : sz = 1 := by rw [HE, if_neg (by omega)]
          clear HE
          go_wp2
          go_ret
          exact ⟨by simp [errV], rfl⟩
        · have h2' : decide (c < -60) = false := by simp; omega
          by_cases h3 : c > 60
          · obtain rfl : sz = 1 := by rw [HE, if_neg (by omega)]
            clear HE
            go_wp2
            go_ret
            exact ⟨by simp [errV], rfl⟩
          · have h3' : decide (c > 60) = false := by simp; omega
            obtain rfl : sz = 0 := by rw [HE, if_pos (by omega)]
            clear HE
            go_wp2
            go_ret
            exact ⟨by simp [errV], rfl⟩

set_option maxHeartbeats 4000000 in
set_option maxRecDepth 4000 in
theorem lnMet_any (c : Int) (less : Bool) (x : Int) (w : World) :
    Calls Tryd.prog 40 #[.agg #[.int .i64 (-c), .bool less], .int .i64 x] w fun e w' => e = .returned (.bool (lnEnd c less x)) ∧ Below w.heap.size w w' := by
  have HB := hide ((Below.refl w.heap.size w).alloc (Nat.le_refl _) (.cells #[.int .i64 (-c), .bool less] 67))
  have HE : Hid (lnEnd c less x = if less = true then decide (x < -c) else decide (x = -c)) := by
    show _ = _
    unfold lnEnd
    cases less
    · simp; omega
    · simp; omega
  generalize lnEnd c less x = r at HE ⊢
  generalize -c = g at HB HE ⊢
  by_cases h1 : x = g
  · subst h1
    have h2 : decide (x < x) = false := by simp
    cases less
    · go_enter Tryd.func40, Tryd.ntmps40
      go_wp2
      go_ret
      exact ⟨by rw [HE.out]; simp, HB.out⟩
    · go_enter Tryd.func40, Tryd.ntmps40
      go_wp2
      go_ret
      exact ⟨by rw [HE.out]; simp, HB.out⟩
  · have h1' : (x == g) = false := by simp [h1]
    by_cases h2 : x < g
    · cases less
      · go_enter Tryd.func40, Tryd.ntmps40
        go_wp2
        go_ret
        exact ⟨by rw [HE.out]; simp [h1], HB.out⟩
      · go_enter Tryd.func40, Tryd.ntmps40
        go_wp2
        go_ret
        exact ⟨by rw [HE.out]; simp [h2], HB.out⟩
    · have h2' : decide (x < g) = false := by simp; omega
      cases less
      · go_enter Tryd.func40, Tryd.ntmps40
        go_wp2
        go_ret
        exact ⟨by rw [HE.out]; simp [h1], HB.out⟩
      · go_enter Tryd.func40, Tryd.ntmps40
        go_wp2
        go_ret
        exact ⟨by rw [HE.out]; simp; omega, HB.out⟩

/-- A point. -/
def ptV (p : LPt) : Value := .agg #[.int .i64 p.f, .int .i64 p.s, .int .i64 p.y, .int .i64 p.l]
set_option maxHeartbeats 4000000 in
set_option maxRecDepth 4000 in
theorem lnEnds_any (c : Int) (less : Bool) (p : LPt) (w : World) :
    Calls Tryd.prog 37 #[.agg #[.int .i64 (-c), .bool less], ptV p] w fun e w' => e = .returned (.bool (lpEnd c less p)) ∧ Below w.heap.size w w' := by
  have HB := hide (below_two w (.cells #[.int .i64 (-c), .bool less] 67) (.cells #[.int .i64 p.f, .int .i64 p.s, .int .i64 p.y, .int .i64 p.l] 92))
  have HM := hide (fun W => lnMet_any c less p.s W)
  have HE : Hid (lpEnd c less p = (decide (p.f = 1) || (decide (p.f = 0) && lnEnd c less p.s))) := rfl
  unfold ptV
  generalize lpEnd c less p = r at HE ⊢
  generalize lnEnd c less p.s = q at HE HM
  obtain ⟨f, s, y, l⟩ := p
  simp only at HE HM HB ⊢
  generalize -c = g at HB HM ⊢
  by_cases h1 : f = 1
  · subst h1
    go_enter Tryd.func37, Tryd.ntmps37
    go_wp2
    go_ret
    exact ⟨by rw [HE.out]; simp, HB.out⟩
  · have h1' : (f == 1) = false := by simp [h1]
    by_cases h0 : f = 0
    · subst h0
      go_enter Tryd.func37, Tryd.ntmps37
      go_wp2_with fail
      refine (HM.out _).mono ?_
      rintro e w1 ⟨rfl, hb1⟩
      have HB1 := hide (below_step HB.out hb1)
      go_wp2
      go_ret
      exact ⟨by rw [HE.out]; simp, HB1.out⟩
    · have h0' : (f == 0) = false := by simp [h0]
      go_enter Tryd.func37, Tryd.ntmps37
      go_wp2
      go_ret
      exact ⟨by rw [HE.out]; simp [h0, h1], HB.out⟩

set_option maxHeartbeats 4000000 in
set_option maxRecDepth 4000 in
theorem lnSettle_any (c : Int) (less : Bool) (p : LPt) (low high : Int) (w : World) :
    Calls Tryd.prog 54 #[.agg #[.int .i64 (-c), .bool less], ptV p, .int .i64 low, .int .i64 high] w fun e w' => e = .returned (ptV (lpSettle c less p low high)) ∧ Below w.heap.size w w' := by
  unfold lpSettle ptV
  obtain ⟨f, s, y, l⟩ := p
  simp only
  generalize -c = g
  have HFIN : Hid (∀ u v x : Obj, Below w.heap.size w (((w.alloc u).alloc v).alloc x)) := fun u v x => below_three w u v x
  cases less
  · rw [if_neg (by simp)]
    by_cases h1 : high < g
    · rw [if_pos (.inl h1)]
      go_enter Tryd.func54, Tryd.ntmps54
      go_wp2
      exact bodyPost_ret (v := .agg #[.int .i64 2, .int .i64 0, .int .i64 0, .int .i64 0]) (by simp [results, Tryd.results54, go_sem]) rfl ⟨rfl, HFIN.out _ _ _⟩
    · have h1' : decide (high < g) = false := by simp; omega
      by_cases h2 : low > g
      · rw [if_pos (.inr (.inl h2))]
        go_enter Tryd.func54, Tryd.ntmps54
        go_wp2
        exact bodyPost_ret (v := .agg #[.int .i64 2, .int .i64 0, .int .i64 0, .int .i64 0]) (by simp [results, Tryd.results54, go_sem]) rfl ⟨rfl, HFIN.out _ _ _⟩
      · have h2' : decide (low > g) = false := by simp; omega
        rw [if_neg (by simp; omega)]
        go_enter Tryd.func54, Tryd.ntmps54
        go_wp2
        exact bodyPost_ret (v := .agg #[.int .i64 f, .int .i64 s, .int .i64 y, .int .i64 l]) (by simp [results, Tryd.results54, go_sem]) rfl ⟨rfl, HFIN.out _ _ _⟩
  · by_cases h1 : high < g
    · rw [if_pos ⟨rfl, h1⟩]
      go_enter Tryd.func54, Tryd.ntmps54
      go_wp2
      exact bodyPost_ret (v := .agg #[.int .i64 1, .int .i64 0, .int .i64 0, .int .i64 l]) (by simp [results, Tryd.results54, go_sem]) rfl ⟨rfl, HFIN.out _ _ _⟩
    · have h1' : decide (high < g) = false := by simp; omega
      rw [if_neg (fun h => h1 h.2)]
      by_cases h2 : low > g
      · rw [if_pos (.inr (.inl h2))]
        go_enter Tryd.func54, Tryd.ntmps54
        go_wp2
        exact bodyPost_ret (v := .agg #[.int .i64 2, .int .i64 0, .int .i64 0, .int .i64 0]) (by simp [results, Tryd.results54, go_sem]) rfl ⟨rfl, HFIN.out _ _ _⟩
      · have h2' : decide (low > g) = false := by simp; omega
        by_cases h3 : low = g
        · subst h3
          rw [if_pos (.inr (.inr ⟨rfl, rfl⟩))]
          go_enter Tryd.func54, Tryd.ntmps54
          go_wp2
          exact bodyPost_ret (v := .agg #[.int .i64 2, .int .i64 0, .int .i64 0, .int .i64 0]) (by simp [results, Tryd.results54, go_sem]) rfl ⟨rfl, HFIN.out _ _ _⟩
        · have h3' : (low == g) = false := by simp [h3]
          rw [if_neg (by simp [h3]; omega)]
          go_enter Tryd.func54, Tryd.ntmps54
          go_wp2
          exact bodyPost_ret (v := .agg #[.int .i64 f, .int .i64 s, .int .i64 y, .int .i64 l]) (by simp [results, Tryd.results54, go_sem]) rfl ⟨rfl, HFIN.out _ _ _⟩

theorem fallG_yes {k : Nat} {low a b : Int} (h : 0 ≤ a ∧ 0 ≤ b) : fallG (k + 1) low a b = if b < low then b else low := by unfold fallG; rw [if_pos h]
theorem fallG_no {k : Nat} {low a b : Int} (h : ¬ (0 ≤ a ∧ 0 ≤ b)) (h2 : a ≤ 0 ∧ b ≤ 0) : fallG (k + 1) low a b = -2199023255552 := by unfold fallG; rw [if_neg h, if_pos h2]
theorem fallG_on {k : Nat} {low a b : Int} (h : ¬ (0 ≤ a ∧ 0 ≤ b)) (h2 : ¬ (a ≤ 0 ∧ b ≤ 0)) : fallG (k + 1) low a b = fallG k (if b < low then b else low) b (a + b) := by
  conv => lhs; unfold fallG
  rw [if_neg h, if_neg h2]
/-- What goes down from here: as far as there is something to go on with. -/
def FallI (V : Int) (k : Nat) (low a b : Int) : Prop := fallG k low a b = V ∧ fallOk k a b ∧ -900 ≤ a ∧ a ≤ 900 ∧ -900 ≤ b ∧ b ≤ 900
theorem fall_small {a b : Int} (h : ¬ (0 ≤ a ∧ 0 ≤ b)) (h2 : ¬ (a ≤ 0 ∧ b ≤ 0)) (h3 : -900 ≤ a ∧ a ≤ 900 ∧ -900 ≤ b ∧ b ≤ 900) : -900 ≤ a + b ∧ a + b ≤ 900 := by omega
set_option maxHeartbeats 4000000 in
set_option maxRecDepth 4000 in
theorem lnFall_any (a more : Int) (w : World) (h1 : -900 ≤ a ∧ a ≤ 900) (h2 : -900 ≤ a + more ∧ a + more ≤ 900) :
    Calls Tryd.prog 56 #[.int .i64 a, .int .i64 more] w fun e w' => e = .returned (.int .i64 (fallV a more)) ∧ w' = w := by
  have H0 : Hid (FallI (fallV a more) 2000 a a (a + more)) := ⟨rfl, fallV_ok h1 h2, h1.1, h1.2, h2.1, h2.2⟩
  generalize fallV a more = V at H0 ⊢
  go_enter Tryd.func56, Tryd.ntmps56
  go_wp2
  generalize a + more = z at H0 h2 ⊢
  go_loopg [5, 6, 7] 2000 (fun g lv av bv wx => ∃ (k : Nat) (low x y : Int), g = k ∧ lv = .int .i64 low ∧ av = .int .i64 x ∧ bv = .int .i64 y ∧ FallI V k low x y ∧ wx = w)
  case atStart => exact ⟨2000, a, a, z, rfl, rfl, rfl, rfl, H0.out, rfl⟩
  case round =>
    obtain ⟨k0, low, x, y, hg, rfl, rfl, rfl, ⟨hV, hok, hbd⟩, rfl⟩ := hrel
    obtain ⟨k, rfl⟩ : ∃ k, k0 = k + 1 := ⟨k0 - 1, by have := hok.1; omega⟩
    have HV := hide hV
    have HOK := hide hok
    have HG := hide hg
    clear hV hok hg
    by_cases p1 : 0 ≤ x
    · have p1' : x ≥ 0 := p1
      by_cases p2 : 0 ≤ y
      · have p2' : y ≥ 0 := p2
        by_cases hlow : y < low
        · obtain rfl : V = y := by rw [← HV.out, fallG_yes ⟨p1, p2⟩, if_pos hlow]
          go_wp2
          go_ret
          exact ⟨by simp, rfl⟩
        · obtain rfl : V = low := by rw [← HV.out, fallG_yes ⟨p1, p2⟩, if_neg hlow]
          go_wp2
          go_ret
          exact ⟨by simp, rfl⟩
      · have p2' : decide (y ≥ 0) = false := by simp; omega
        by_cases p3 : x ≤ 0
        · have p4 : y ≤ 0 := by omega
          obtain rfl : V = -2199023255552 := by rw [← HV.out, fallG_no (by omega) (by omega)]
          by_cases hlow : y < low
          · go_wp2
            go_ret
            exact ⟨by simp, rfl⟩
          · go_wp2
            go_ret
            exact ⟨by simp, rfl⟩
        · have p3' : decide (x ≤ 0) = false := by simp; omega
          have HN := hide (fallOk_next HOK.out (by omega) (by omega))
          have HV2 := hide (fallG_on (k := k) (low := low) (a := x) (b := y) (by omega) (by omega))
          rw [HV.out] at HV2
          have hs := fall_small (a := x) (b := y) (by omega) (by omega) hbd
          by_cases hlow : y < low
          · rw [if_pos hlow] at HV2
            go_wp2
            go_roundg k
            case measure => have := HG.out; omega
            case rel => exact ⟨k, y, y, x + y, rfl, rfl, rfl, rfl, ⟨HV2.out.symm, HN.out, by omega, by omega, hs.1, hs.2⟩, rfl⟩
          · rw [if_neg hlow] at HV2
            go_wp2
            go_roundg k
            case measure => have := HG.out; omega
            case rel => exact ⟨k, low, y, x + y, rfl, rfl, rfl, rfl, ⟨HV2.out.symm, HN.out, by omega, by omega, hs.1, hs.2⟩, rfl⟩
    · have p1' : decide (x ≥ 0) = false := by simp; omega
      have p5 : x ≤ 0 := by omega
      by_cases p4 : y ≤ 0
      · obtain rfl : V = -2199023255552 := by rw [← HV.out, fallG_no (by omega) (by omega)]
        by_cases hlow : y < low
        · go_wp2
          go_ret
          exact ⟨by simp, rfl⟩
        · go_wp2
          go_ret
          exact ⟨by simp, rfl⟩
      · have p4' : decide (y ≤ 0) = false := by simp; omega
        have HN := hide (fallOk_next HOK.out (by omega) (by omega))
        have HV2 := hide (fallG_on (k := k) (low := low) (a := x) (b := y) (by omega) (by omega))
        rw [HV.out] at HV2
        have hs := fall_small (a := x) (b := y) (by omega) (by omega) hbd
        by_cases hlow : y < low
        · rw [if_pos hlow] at HV2
          go_wp2
          go_roundg k
          case measure => have := HG.out; omega
          case rel => exact ⟨k, y, y, x + y, rfl, rfl, rfl, rfl, ⟨HV2.out.symm, HN.out, by omega, by omega, hs.1, hs.2⟩, rfl⟩
        · rw [if_neg hlow] at HV2
          go_wp2
          go_roundg k
          case measure => have := HG.out; omega
          case rel => exact ⟨k, low, y, x + y, rfl, rfl, rfl, rfl, ⟨HV2.out.symm, HN.out, by omega, by omega, hs.1, hs.2⟩, rfl⟩
end Go.Proofs.YthadkoplbgibgaeDoor

/- line.loadOf, whole, loadsOf: contracts. -/
namespace Go.Proofs.YthadkoplbgibgaeDoor
open Go.RowKit

theorem ud_far {C N : List Int} (h12 : absT C C.length ≤ 12) {k : Nat} (hk : k ≤ C.length) (hn : ∀ i, i < k → 0 ≤ N.getD i 0 ∧ N.getD i 0 ≤ 1099511627776) : (0 ≤ upT C (fun i => N.getD i 0) k ∧ upT C (fun i => N.getD i 0) k ≤ 13194139533312) ∧ (0 ≤ dnT C (fun i => N.getD i 0) k ∧ dnT C (fun i => N.getD i 0) k ≤ 13194139533312) := by
  have h0 := ud_nn (C := C) (f := fun i => N.getD i 0) (k := k) (fun i hi => (hn i hi).1)
  have h1 := ud_mono (C := C) (f := fun i => N.getD i 0) (g := fun _ => 1099511627776) (k := k) (fun i hi => (hn i hi).2)
  have h2 := ud_mul C 1099511627776 k
  have h3 := ud_abs C k
  have h4 := absT_mono C hk
  have h5 := ud_nn (C := C) (f := fun _ => 1) (k := k) (fun _ _ => by decide)
  omega
def loadV (u d : Int) : Value := .agg #[.int .i64 u, .int .i64 d]
/-- Between two tracks: so much has been gathered in block B. -/
def LoAt (w : World) (u d : Int) (W : World) : Prop := W.heap[w.heap.size + 1]? = some (.cells #[.int .i64 u, .int .i64 d] 71 (0, 0)) ∧ W.heap[w.heap.size]? = some (.cells #[.int .i64 0, .int .i64 0] 71 (0, 0)) ∧ Below w.heap.size w W
theorem loAt_start (w : World) : LoAt w 0 0 ((w.alloc (.cells #[.int .i64 0, .int .i64 0] 71)).alloc (.cells #[.int .i64 0, .int .i64 0] 71)) := by
  have h1 := heap_alloc2_fst w (.cells #[.int .i64 0, .int .i64 0] 71) (.cells #[.int .i64 0, .int .i64 0] 71)
  have h2 := heap_alloc2_snd w (.cells #[.int .i64 0, .int .i64 0] 71) (.cells #[.int .i64 0, .int .i64 0] 71)
  exact ⟨h2, h1, below_two _ _ _⟩
theorem loAt_set0 {w W : World} {u d : Int} (h : LoAt w u d W) (x : Int) : LoAt w x d (W.setCell ⟨w.heap.size + 1, 0, none⟩ (.int .i64 x)).drew := by
  obtain ⟨h1, h2, h3⟩ := h
  obtain ⟨⟨e1, -, k1⟩, hb1⟩ := box2_set1 (i := 0) (v := .int .i64 x) h1
  exact ⟨e1, (k1 _ (by omega)).trans h2, (hb1 w w.heap.size h3 (by omega)).drew⟩
theorem loAt_set1 {w W : World} {u d : Int} (h : LoAt w u d W) (x : Int) : LoAt w u x (W.setCell ⟨w.heap.size + 1, 1, none⟩ (.int .i64 x)).drew := by
  obtain ⟨h1, h2, h3⟩ := h
  obtain ⟨⟨e1, -, k1⟩, hb1⟩ := box2_set1 (i := 1) (v := .int .i64 x) h1
  exact ⟨e1, (k1 _ (by omega)).trans h2, (hb1 w w.heap.size h3 (by omega)).drew⟩
set_option maxHeartbeats 4000000 in
set_option maxRecDepth 4000 in
theorem lnLoad_any (a : Option Addr) (n cap : Nat) (C : List Int) (a2 : Option Addr) (n2 cap2 : Nat) (N : List Int) (w : World) (hs : Sl w a n C) (hs2 : Sl w a2 n2 N) (hn : n ≤ n2) (h12 : absT C C.length ≤ 12) (hN : ∀ i, i < n → 0 ≤ N.getD i 0 ∧ N.getD i 0 ≤ 1099511627776) :
    Calls Tryd.prog 39 #[.slice a n cap, .slice a2 n2 cap2] w fun e w' => e = .returned (loadV (upT C (fun i => N.getD i 0) C.length) (dnT C (fun i => N.getD i 0) C.length)) ∧ Below w.heap.size w w' := by
  have hL := hs.1
  have hML := hs2.2.1
  unfold maxLen at hML
  have HS := hide hs
  have HS2 := hide hs2
  have H0 := hide (loAt_start w)
  have HUF : Hid (∀ k, k ≤ n → (0 ≤ upT C (fun i => N.getD i 0) k ∧ upT C (fun i => N.getD i 0) k ≤ 13194139533312) ∧ (0 ≤ dnT C (fun i => N.getD i 0) k ∧ dnT C (fun i => N.getD i 0) k ≤ 13194139533312)) := fun k hk => ud_far h12 (by omega) (fun i hi => hN i (by omega))
  have HSU : Hid (∀ k, upT C (fun i => N.getD i 0) (k + 1) = if 0 < C.getD k 0 then upT C (fun i => N.getD i 0) k + C.getD k 0 * N.getD k 0 else upT C (fun i => N.getD i 0) k) := fun k => rfl
  have HSD : Hid (∀ k, dnT C (fun i => N.getD i 0) (k + 1) = if 0 < C.getD k 0 then dnT C (fun i => N.getD i 0) k else dnT C (fun i => N.getD i 0) k - C.getD k 0 * N.getD k 0) := fun k => rfl
  have HMF : Hid (∀ k, k < n → -13194139533312 ≤ C.getD k 0 * N.getD k 0 ∧ C.getD k 0 * N.getD k 0 ≤ 13194139533312) := fun k hk => mul_far h12 (by omega) (hN k hk).1 (hN k hk).2
  have HZ : Hid (upT C (fun i => N.getD i 0) 0 = 0 ∧ dnT C (fun i => N.getD i 0) 0 = 0) := ⟨rfl, rfl⟩
  rw [hL]
  clear hs hs2 hL h12 hN
  generalize hU : upT C (fun i => N.getD i 0) = U at HUF HSU HZ ⊢
  generalize hD : dnT C (fun i => N.getD i 0) = D at HUF HSD HZ ⊢
  clear hU hD
  unfold loadV
  generalize hW0 : (w.alloc (.cells #[.int .i64 0, .int .i64 0] 71)).alloc (.cells #[.int .i64 0, .int .i64 0] 71) = wb at H0
  go_enter Tryd.func39, Tryd.ntmps39
  go_wp2
  clear hW0
  go_loopw [10] (fun iv wx => ∃ k : Nat, k ≤ n ∧ iv = .int .i64 k ∧ LoAt w (U k) (D k) wx) (fun iv _ => n - (intOf iv).toNat)
  case atStart => exact ⟨0, by omega, rfl, by rw [HZ.out.1, HZ.out.2]; exact H0.out⟩
  case round =>
    obtain ⟨k, hk, rfl, hlo⟩ := hrel
    have HLO := hide hlo
    have hu := HUF.out k hk
    obtain ⟨⟨c0, c1⟩, cf⟩ := box2_cells hlo.1
    have hsC := sl_below HS.out hlo.2.2
    have hsN := sl_below HS2.out hlo.2.2
    by_cases hlt : k < n
    · have hlti : (k : Int) < (n : Int) := by omega
      have hlti2 : (k : Int) < (n2 : Int) := by omega
      obtain ⟨b1, o1, rfl, hc⟩ := sl_cell hsC k hlt
      obtain ⟨b2, o2, rfl, hc2⟩ := sl_cell hsN k (by omega)
      have hmf := HMF.out k hlt
      have hu2 := HUF.out (k + 1) hlt
      have hsu := HSU.out k
      have hsd := HSD.out k
      have HX0 := hide (fun x => loAt_set0 hlo x)
      have HX1 := hide (fun x => loAt_set1 hlo x)
      clear hsC hsN hlo
      generalize C.getD k 0 = x at hc hmf hsu hsd
      generalize N.getD k 0 = y at hc2 hmf hsu hsd
      by_cases hx : x > 0
      · rw [if_pos hx] at hsu hsd
        have HSU2 := hide hsu
        have HSD2 := hide hsd
        rw [hsu, hsd] at hu2
        clear hsu hsd
        have HN := hide (HX0.out (U k + x * y))
        generalize U k = u at hu hu2 c0 HN HSU2
        generalize D k = d at hu hu2 c1 HN HSD2
        go_wp2
        go_region
        go_wp2
        go_roundw
        case rel => exact ⟨k + 1, by omega, by go_num, by rw [HSU2.out, HSD2.out]; exact HN.out⟩
        case measure => simp [intOf]; omega
      · rw [if_neg hx] at hsu hsd
        have hx' : ¬ x > 0 := hx
        have HSU2 := hide hsu
        have HSD2 := hide hsd
        rw [hsu, hsd] at hu2
        clear hsu hsd
        have HN := hide (HX1.out (D k - x * y))
        generalize U k = u at hu hu2 c0 HN HSU2
        generalize D k = d at hu hu2 c1 HN HSD2
        go_wp2
        go_region
        go_wp2
        go_roundw
        case rel => exact ⟨k + 1, by omega, by go_num, by rw [HSU2.out, HSD2.out]; exact HN.out⟩
        case measure => simp [intOf]; omega
    · have hlti : ¬ (k : Int) < (n : Int) := by omega
      obtain rfl : k = n := by omega
      obtain ⟨h1, h2, h3⟩ := hlo
      have HH2 := hide h2
      have HH3 := hide h3
      obtain ⟨⟨q0, q1⟩, qf⟩ := box2_cells h2
      clear h1 h2 h3 hsC hsN
      generalize hU : U k = u at c0 hu
      generalize hD : D k = d at c1 hu
      have HU := hide hU
      have HD := hide hD
      clear hU hD HLO
      go_wp2
      obtain ⟨⟨hset, -, -⟩, hbel⟩ := box2_set (v0 := .int .i64 u) (v1 := .int .i64 d) HH2.out rfl
      obtain ⟨⟨z0, z1⟩, -⟩ := box2_cells hset
      exact bodyPost_ret (v := .agg #[.int .i64 u, .int .i64 d]) (by simp [results, Tryd.results39, go_sem, z0, z1]) rfl ⟨by rw [HU.out, HD.out], hbel _ _ HH3.out (by omega)⟩

set_option maxHeartbeats 4000000 in
set_option maxRecDepth 4000 in
theorem lnWhole_any (a : Option Addr) (n cap : Nat) (C : List Int) (w : World) (hs : Sl w a n C) (h12 : absT C C.length ≤ 12) (hn : n ≤ 1000) :
    Calls Tryd.prog 34 #[.slice a n cap] w fun e w' => e = .returned (loadV (upA C) (dnA C)) ∧ Below w.heap.size w w' := by
  have hL := hs.1
  have HS := hide hs
  have HB0 := hide ((Below.refl w.heap.size w).alloc (Nat.le_refl _) (.cells #[.int .i64 0, .int .i64 0] 71))
  have HX0 : Hid ((w.alloc (.cells #[.int .i64 0, .int .i64 0] 71)).heap[w.heap.size]? = some (.cells #[.int .i64 0, .int .i64 0] 71 (0, 0))) := heap_alloc_last _ _
  have HSZ : Hid ((w.alloc (.cells #[.int .i64 0, .int .i64 0] 71)).heap.size = w.heap.size + 1) := by show _ = _; simp
  generalize hW0 : w.alloc (.cells #[.int .i64 0, .int .i64 0] 71) = wb at HB0 HX0 HSZ
  have hmk := make_ints n (by omega)
  have H0 := hide (fillAt_start wb (List.replicate n 1) n)
  have HG : Hid (∀ k, k < n → (List.replicate n (1 : Int)).getD k 0 = 1) := fun k hk => rep_get 1 hk
  have HRL : Hid ((List.replicate n (1 : Int)).length = n) := by show _ = _; simp
  have HWF : Hid (∀ x ∈ List.replicate n (1 : Int), (Lit.int .i64 x).wf = true) := fun x hx => by rw [(List.mem_replicate.1 hx).2]; exact WalkArith.wf_i64 (by omega)
  have HLD : Hid (∀ (T : List Int) (g : Nat) (W : World), Sl W a n C → Sl W (some ⟨g, 0, none⟩) n T → (∀ k, k < n → T.getD k 0 = 1) → Calls Tryd.prog 39 #[.slice a n cap, .slice (some ⟨g, 0, none⟩) n n] W fun e w' => e = .returned (loadV (upA C) (dnA C)) ∧ Below W.heap.size W w') := fun T g W h1 h2 h3 => by
    have h := lnLoad_any a n cap C (some ⟨g, 0, none⟩) n n T W h1 h2 (Nat.le_refl _) h12 (fun i hi => by rw [h3 i hi]; decide)
    have e1 := ud_mono (C := C) (f := fun i => T.getD i 0) (g := fun _ => 1) (k := C.length) (fun i hi => Int.le_of_eq (h3 i (by omega)))
    have e2 := ud_mono (C := C) (f := fun _ => 1) (g := fun i => T.getD i 0) (k := C.length) (fun i hi => Int.le_of_eq (h3 i (by omega)).symm)
    have e3 : upT C (fun i => T.getD i 0) C.length = upA C := by unfold upA; omega
    have e4 : dnT C (fun i => T.getD i 0) C.length = dnA C := by unfold dnA; omega
    rw [e3, e4] at h
    exact h
  clear hs hL h12
  unfold loadV at HLD ⊢
  generalize upA C = u at HLD ⊢
  generalize dnA C = d at HLD ⊢
  generalize List.replicate n (1 : Int) = T at H0 HG HRL HWF
  go_enter Tryd.func34, Tryd.ntmps34
  go_wp2
  clear hW0
  generalize wb.alloc (.cells (madeCells #[.int .i64 0] n) 3) = w0 at H0 ⊢
  go_loopw [10] (fun i wx => ∃ k : Nat, k ≤ n ∧ i = .int .i64 k ∧ FillAt wb T n k wx) (fun i _ => n - (intOf i).toNat)
  case atStart => exact ⟨0, by omega, rfl, H0.out⟩
  case round =>
    obtain ⟨k, hk, rfl, hfl⟩ := hrel
    have HFL := hide hfl
    clear hfl
    by_cases hlt : k < n
    · have hlti : (k : Int) < (n : Int) := by omega
      have hcell := HFL.out.1.cell hlt
      have hfz := HFL.out.1.frozen k
      have HNX := hide (fillAt_step HFL.out)
      rw [if_neg (Nat.lt_irrefl _)] at hcell
      rw [HG.out k hlt] at HNX
      go_wp2
      go_roundw
      case rel => exact ⟨k + 1, by omega, by go_num, HNX.out⟩
      case measure => simp [intOf]; omega
    · have hlti : ¬ (k : Int) < (n : Int) := by omega
      obtain rfl : k = n := by omega
      have HBR := hide (below_step HB0.out HFL.out.2)
      have HSLT : Hid (Sl wr (some ⟨wb.heap.size, 0, none⟩) k T) := sl_of_rowIs HRL.out (by unfold maxLen; omega) HWF.out (HFL.out.1.congr fun i hi => by rw [if_pos hi])
      have HCL := hide (HLD.out T wb.heap.size wr (sl_below HS.out HBR.out) HSLT.out HG.out)
      go_wp2_with fail
      refine HCL.out.mono ?_
      rintro e w1 ⟨rfl, hb1⟩
      have HB1 := hide (below_step HBR.out hb1)
      have hx1 := (hb1.block w.heap.size (by have := HFL.out.2.size; have := HSZ.out; omega)).trans ((HFL.out.2.block w.heap.size (by have := HSZ.out; omega)).trans HX0.out)
      have HX1 := hide hx1
      obtain ⟨⟨q0, q1⟩, qf⟩ := box2_cells hx1
      clear hb1 hx1
      go_wp2
      obtain ⟨⟨hset, -, -⟩, hbel⟩ := box2_set (v0 := .int .i64 u) (v1 := .int .i64 d) HX1.out rfl
      obtain ⟨⟨z0, z1⟩, -⟩ := box2_cells hset
      exact bodyPost_ret (v := .agg #[.int .i64 u, .int .i64 d]) (by simp [results, Tryd.results34, go_sem, z0, z1]) rfl ⟨rfl, hbel _ _ HB1.out (Nat.le_refl _)⟩
end Go.Proofs.YthadkoplbgibgaeDoor

/- line.loadsOf: contract. -/
namespace Go.Proofs.YthadkoplbgibgaeDoor
open Go.RowKit

theorem info_load : (Tryd.prog.info? 71).map (fun i => (i.zero, i.size, i.bytes)) = some (some (.agg #[.int .i64 0, .int .i64 0]), 2, 16) := by kernel_rfl
theorem make_loads (n : Nat) (hn : n ≤ 1000000) (w : World) : (Instr.makeSlice 63 (.int .i64 (n : Int)) (.int .i64 (n : Int))).run Tryd.prog w = .ok (.slice (some ⟨w.heap.size, 0, none⟩) n n) (w.alloc (.cells (madeCells #[.int .i64 0, .int .i64 0] (n * 2)) 71)) := by
  obtain ⟨i, hi, hz, hs, hb⟩ := info_parts info_load
  have hr := run_make (P := Tryd.prog) w 63 71 i _ Tryd.underlying63 hi hz .i64 .i64 n n (by omega) (Int.le_refl _) (by rw [hb]; omega) (by omega)
  simp only [Int.toNat_natCast, hs] at hr
  exact hr
/-- Cell q of the first k loads. -/
def ldC (b : Int) (C : List Int) (k q : Nat) : Value := .int .i64 (if q / 2 < k then (if q % 2 = 0 then upL b C ((q / 2 : Nat) : Int) else dnL b C ((q / 2 : Nat) : Int)) else 0)
/-- .. of m letters' in block g. -/
def LdAt (b : Int) (C : List Int) (m k g : Nat) (W : World) : Prop := W.rowIs g 71 (m * 2) (ldC b C k)
theorem ldAt_start (b : Int) (C : List Int) (m : Nat) (w : World) : LdAt b C m 0 w.heap.size (w.alloc (.cells (madeCells #[.int .i64 0, .int .i64 0] (m * 2)) 71)) :=
  ⟨_, heap_alloc_last _ _, size_madeCells _ _, fun i hi => by
    unfold ldC
    rw [if_neg (by omega)]
    rcases (show i % 2 = 0 ∨ i % 2 = 1 by omega) with h | h <;> simp [madeCells, hi, h]⟩
theorem ldAt_cells {b : Int} {C : List Int} {m k g : Nat} {W : World} (h : LdAt b C m k g W) {j : Nat} (hj : j < m) : (∃ v, W.cell? ⟨g, j * 2, none⟩ = some v) ∧ (∃ v, W.cell? ⟨g, j * 2 + 1, none⟩ = some v) ∧ ∀ q, W.frozen? ⟨g, q, none⟩ = false := ⟨⟨_, h.cell (i := j * 2) (by omega)⟩, ⟨_, h.cell (i := j * 2 + 1) (by omega)⟩, h.frozen⟩
theorem ldAt_get {b : Int} {C : List Int} {m g : Nat} {W : World} (h : LdAt b C m m g W) {j : Nat} (hj : j < m) : W.cell? ⟨g, j * 2, none⟩ = some (.int .i64 (upL b C (j : Int))) ∧ W.cell? ⟨g, j * 2 + 1, none⟩ = some (.int .i64 (dnL b C (j : Int))) := by
  have h0 := h.cell (i := j * 2) (by omega)
  have h1 := h.cell (i := j * 2 + 1) (by omega)
  unfold ldC at h0 h1
  rw [if_pos (by omega), if_pos (by omega), show j * 2 / 2 = j by omega] at h0
  rw [if_pos (by omega), if_neg (by omega), show (j * 2 + 1) / 2 = j by omega] at h1
  exact ⟨h0, h1⟩
theorem ldAt_set {b : Int} {C : List Int} {m k g : Nat} {W : World} (h : LdAt b C m k g W) : LdAt b C m (k + 1) g ((W.setCell ⟨g, k * 2, none⟩ (.int .i64 (upL b C (k : Int)))).setCell ⟨g, k * 2 + 1, none⟩ (.int .i64 (dnL b C (k : Int)))) :=
  ((h.set (k * 2) _).set (k * 2 + 1) _).congr fun q hq => by
    unfold ldC
    by_cases e1 : q = k * 2 + 1
    · subst e1
      rw [if_pos rfl, if_pos (by omega), if_neg (by omega), show (k * 2 + 1) / 2 = k by omega]
    · rw [if_neg e1]
      by_cases e0 : q = k * 2
      · subst e0
        rw [if_pos rfl, if_pos (by omega), if_pos (by omega), show k * 2 / 2 = k by omega]
      · rw [if_neg e0]
        congr 1
        by_cases e2 : q / 2 < k
        · rw [if_pos e2, if_pos (show q / 2 < k + 1 by omega)]
        · rw [if_neg e2, if_neg (show ¬ q / 2 < k + 1 by omega)]
theorem ud_congr {C : List Int} {f g : Nat → Int} {k : Nat} (h : ∀ i, i < k → f i = g i) : upT C f k = upT C g k ∧ dnT C f k = dnT C g k := by
  have h1 := ud_mono (C := C) (fun i hi => Int.le_of_eq (h i hi))
  have h2 := ud_mono (C := C) (fun i hi => Int.le_of_eq (h i hi).symm)
  omega
/-- What loadsOf hands back. -/
def LoadsR (w : World) (b : Int) (C : List Int) (m : Nat) (e : Ending) (w' : World) : Prop := ∃ g, e = .returned (.tuple #[.slice (some ⟨g, 0, none⟩) m m, .nilIface]) ∧ w.heap.size ≤ g ∧ LdAt b C m m g w' ∧ Below w.heap.size w w'
set_option maxHeartbeats 4000000 in
set_option maxRecDepth 4000 in
theorem lnLoads_any (b : Int) (a : Option Addr) (n cap : Nat) (C : List Int) (w : World) (hs : Sl w a n C) (hM : codeM b (n : Int) = 0) (h12 : absT C C.length ≤ 12) :
    Calls Tryd.prog 32 #[.int .i64 b, .slice a n cap, .int .i64 (manyU b (n : Int))] w (LoadsR w b C (manyU b (n : Int)).toNat) := by
  have hL := hs.1
  obtain ⟨h1, h2, h3, h4, h5, h6⟩ := codeM_zero hM
  obtain ⟨m1, m36⟩ := manyU_bd hM
  have HS := hide hs
  have hmI : manyU b (n : Int) = (((manyU b (n : Int)).toNat : Nat) : Int) := by omega
  have HUN : Hid (∀ W l, l < (manyU b (n : Int)).toNat → Calls Tryd.prog 52 #[.int .i64 b, .int .i64 n, .int .i64 (l : Int)] W (UnpackC W (splitL b n (l : Int)))) := fun W l hl => unpack_cap b n l W (by unfold codeU; rw [if_pos hM, if_pos ⟨by omega, by omega⟩])
  have HLD : Hid (∀ (g l : Nat) (W : World), Sl W a n C → Sl W (some ⟨g, 0, none⟩) n (splitL b n (l : Int)) → Calls Tryd.prog 39 #[.slice a n cap, .slice (some ⟨g, 0, none⟩) n n] W fun e w' => e = .returned (loadV (upL b C (l : Int)) (dnL b C (l : Int))) ∧ Below W.heap.size W w') := fun g l W k1 k2 => by
    have hd : ∀ i, i < n → (splitL b n (l : Int)).getD i 0 = dOf b n l i := fun i hi => splitL_get b n l i hi
    have h := lnLoad_any a n cap C (some ⟨g, 0, none⟩) n n (splitL b n (l : Int)) W k1 k2 (Nat.le_refl _) h12 (fun i hi => by
      rw [hd i hi]
      have := dOf_bd b h2 n l i
      have := kinds_bd2 b h2
      omega)
    have e := ud_congr (C := C) (f := fun i => (splitL b n (l : Int)).getD i 0) (g := dOf b C.length (l : Int)) (k := C.length) (fun i hi => by rw [hL]; exact hd i (by omega))
    rw [e.1, e.2] at h
    exact h
  have HSL : Hid (∀ l : Int, (splitL b n l).length = n) := fun l => splitL_length b n l
  unfold UnpackC at HUN
  rw [hmI]
  simp only [Int.toNat_natCast]
  unfold LoadsR
  generalize (manyU b (n : Int)).toNat = m at HUN m1 m36 ⊢
  have hmk := make_loads m (by omega)
  have H0 := hide (ldAt_start b C m w)
  have HB0 := hide ((Below.refl w.heap.size w).alloc (Nat.le_refl _) (.cells (madeCells #[.int .i64 0, .int .i64 0] (m * 2)) 71))
  clear hs hL hM h12 h1 h2 h3 h4 h5 h6 hmI
  unfold loadV at HLD
  go_enter Tryd.func32, Tryd.ntmps32
  go_wp2
  generalize w.alloc (.cells (madeCells #[.int .i64 0, .int .i64 0] (m * 2)) 71) = w0 at H0 HB0 ⊢
  go_loopw [15] (fun i wx => ∃ k : Nat, k ≤ m ∧ i = .int .i64 k ∧ LdAt b C m k w.heap.size wx ∧ Below w.heap.size w wx) (fun i _ => m - (intOf i).toNat)
  case atStart => exact ⟨0, by omega, rfl, H0.out, HB0.out⟩
  case round =>
    obtain ⟨k, hk, rfl, hld, hbr⟩ := hrel
    have HLA := hide hld
    have HBR := hide hbr
    clear hld hbr
    by_cases hlt : k < m
    · have hlti : (k : Int) < (m : Int) := by omega
      have HUC := hide (HUN.out wr k hlt)
      go_wp2_with (first
        | (go_at_call 52; refine HUC.out.mono ?_; rintro e w1 ⟨g1, rfl, hg1, hsl1, hb1⟩; rw [HSL.out] at hsl1; simp only [HSL.out]; have HSL1 := hide hsl1; have HB1 := hide (below_step HBR.out hb1); have HL1 := hide (HLA.out.of_block (hb1.block _ HLA.out.lt)); have HC1 := hide (HLD.out g1 k w1 (sl_below HS.out HB1.out) hsl1); clear hsl1 hb1)
        | (go_at_call 39; refine HC1.out.mono ?_; rintro e w2 ⟨rfl, hb2⟩; have HB2 := hide (below_step HB1.out hb2); have HL2 : Hid (LdAt b C m k w.heap.size w2) := HL1.out.of_block (hb2.block _ HL1.out.lt); obtain ⟨⟨v0, hv0⟩, ⟨v1, hv1⟩, hfz⟩ := ldAt_cells HL2.out hlt; clear hb2))
      have HFIN := hide (ldAt_set HL2.out)
      have HBF : Hid (Below w.heap.size w ((w2.setCell ⟨w.heap.size, k * 2, none⟩ (.int .i64 (upL b C (k : Int)))).setCell ⟨w.heap.size, k * 2 + 1, none⟩ (.int .i64 (dnL b C (k : Int))))) := (HB2.out.setCell (Nat.le_refl _) _).setCell (Nat.le_refl _) _
      go_roundw
      case rel => exact ⟨k + 1, by omega, by go_num, HFIN.out, HBF.out⟩
      case measure => simp [intOf]; omega
    · have hlti : ¬ (k : Int) < (m : Int) := by omega
      obtain rfl : k = m := by omega
      go_wp2
      go_ret2
      exact ⟨w.heap.size, rfl, Nat.le_refl _, HLA.out, HBR.out⟩
end Go.Proofs.YthadkoplbgibgaeDoor

/- The closures of line.plainStep and line.fibStep: contracts. -/
namespace Go.Proofs.YthadkoplbgibgaeDoor
open Go.RowKit

/-- What the closures of line keep. -/
def LnBox (b : Int) (C : List Int) (c : Int) (less : Bool) (m g B1 B2 B3 : Nat) (W : World) : Prop :=
  W.heap[B1]? = some (.cells #[.slice (some ⟨g, 0, none⟩) m m] 63 (0, 0)) ∧ W.heap[B2]? = some (.cells #[.int .i64 (upA C), .int .i64 (dnA C)] 71 (0, 0)) ∧ W.heap[B3]? = some (.cells #[.int .i64 (-c), .bool less] 67 (0, 0)) ∧ LdAt b C m m g W
theorem lnBox_below {b : Int} {C : List Int} {c : Int} {less : Bool} {m g B1 B2 B3 : Nat} {W W' : World} (h : LnBox b C c less m g B1 B2 B3 W) (hb : Below W.heap.size W W') : LnBox b C c less m g B1 B2 B3 W' := by
  obtain ⟨h1, h2, h3, h4⟩ := h
  have hl : ∀ {B : Nat} {o : Obj}, W.heap[B]? = some o → W'.heap[B]? = some o := fun {B o} h => (hb.block B (Array.getElem?_eq_some_iff.1 h).1).trans h
  exact ⟨hl h1, hl h2, hl h3, h4.of_block (hb.block _ h4.lt)⟩
theorem box1_cell {W : World} {B : Nat} {v : Value} {T : TypeId} (h : W.heap[B]? = some (.cells #[v] T (0, 0))) : W.cell? ⟨B, 0, none⟩ = some v := by simp [World.cell?, h]
theorem mul_six {s b : Int} (h : -107 ≤ s ∧ s ≤ 107) (h1 : 1 ≤ b) (h2 : b ≤ 6) : -642 ≤ s * b ∧ s * b ≤ 642 := by
  have a1 : s * b ≤ 107 * b := Int.mul_le_mul_of_nonneg_right h.2 (by omega)
  have a2 : -107 * b ≤ s * b := Int.mul_le_mul_of_nonneg_right h.1 (by omega)
  omega
theorem udL_small {b : Int} (h2 : b ≤ 6) {C : List Int} (h12 : absT C C.length ≤ 12) (x : Int) : (0 ≤ upL b C x ∧ upL b C x ≤ 72) ∧ (0 ≤ dnL b C x ∧ dnL b C x ≤ 72) := by
  have h := udL_bd h2 C x
  have hA := udA h12
  have hk : 1 ≤ kindsI b - 1 ∧ kindsI b - 1 ≤ 5 := by unfold kindsI; split <;> omega
  have e1 : (kindsI b - 1) * upA C ≤ 5 * upA C := Int.mul_le_mul_of_nonneg_right hk.2 hA.1
  have e2 : (kindsI b - 1) * dnA C ≤ 5 * dnA C := Int.mul_le_mul_of_nonneg_right hk.2 hA.2.1
  omega
theorem fallG_bd : ∀ (k : Nat) (low a b : Int), -900 ≤ low ∧ low ≤ 900 → (-900 ≤ a ∧ a ≤ 900 ∧ -900 ≤ b ∧ b ≤ 900) → -2199023255552 ≤ fallG k low a b ∧ fallG k low a b ≤ 900
  | 0, low, _, _, h, _ => by show -2199023255552 ≤ low ∧ low ≤ 900; omega
  | k + 1, low, a, b, h, hb => by
    by_cases h1 : 0 ≤ a ∧ 0 ≤ b
    · rw [fallG_yes h1]; split <;> omega
    · by_cases h2 : a ≤ 0 ∧ b ≤ 0
      · rw [fallG_no h1 h2]; omega
      · rw [fallG_on h1 h2]
        have hs := fall_small h1 h2 hb
        exact fallG_bd k _ _ _ (by split <;> omega) ⟨hb.2.2.1, hb.2.2.2, hs.1, hs.2⟩
theorem fallV_bd {a more : Int} (h1 : -900 ≤ a ∧ a ≤ 900) (h2 : -900 ≤ a + more ∧ a + more ≤ 900) : -2199023255552 ≤ fallV a more ∧ fallV a more ≤ 900 := fallG_bd _ _ _ _ h1 ⟨h1.1, h1.2, h2.1, h2.2⟩
def GivesPt (W : World) (p : LPt) (e : Ending) (W' : World) : Prop := e = .returned (ptV p) ∧ Below W.heap.size W W'
set_option maxHeartbeats 4000000 in
set_option maxRecDepth 4000 in
theorem lnPlain_any (b : Int) (C : List Int) (c : Int) (less : Bool) (m g B0 B1 B2 B3 : Nat) (p : LPt) (x : Nat) (W : World) (h1 : 1 ≤ b) (h2 : b ≤ 6) (h12 : absT C C.length ≤ 12) (hp : LpOk b p) (hx : x < m) (h0 : W.heap[B0]? = some (.cells #[.int .i64 b] 3 (0, 0))) (hB : LnBox b C c less m g B1 B2 B3 W) :
    Calls Tryd.prog 53 #[ptV p, .int .i64 (x : Int), .pointer (some ⟨B0, 0, none⟩), .pointer (some ⟨B1, 0, none⟩), .pointer (some ⟨B2, 0, none⟩), .pointer (some ⟨B3, 0, none⟩)] W (GivesPt W (lpPlain b C c less p x)) := by
  have hA := udA h12
  have hbd := lpOk_bd hp
  obtain ⟨f, s, y, l⟩ := p
  simp only at hbd
  unfold GivesPt
  have hxi : (x : Int) < (m : Int) := by omega
  have hbb := below_two W (.cells #[.int .i64 f, .int .i64 s, .int .i64 y, .int .i64 l] 92) (.cells #[.int .i64 0, .int .i64 0, .int .i64 0, .int .i64 0] 92)
  have hr := heap_alloc2_snd W (.cells #[.int .i64 f, .int .i64 s, .int .i64 y, .int .i64 l] 92) (.cells #[.int .i64 0, .int .i64 0, .int .i64 0, .int .i64 0] 92)
  have hq := heap_alloc2_fst W (.cells #[.int .i64 f, .int .i64 s, .int .i64 y, .int .i64 l] 92) (.cells #[.int .i64 0, .int .i64 0, .int .i64 0, .int .i64 0] 92)
  by_cases hf : f = 0
  · subst hf
    have hud := udL_small (b := b) h2 h12 (x : Int)
    have hmul := mul_six hbd.2.1 h1 h2
    have hsum := udL_sum b C (x : Int)
    have HRES : Hid (lpPlain b C c less ⟨0, s, y, l⟩ x = lpSettle c less ⟨0, s * b + upL b C x - dnL b C x, 0, 0⟩ (lpLowP C (s * b + upL b C x - dnL b C x)) (lpHighP C (s * b + upL b C x - dnL b C x))) := by
      show _ = _
      unfold lpPlain
      rw [if_pos rfl, ← hsum, show s * b + (upL b C x - dnL b C x) = s * b + upL b C x - dnL b C x by omega]
    have HST := hide (fun s low high W => lnSettle_any c less ⟨0, s, 0, 0⟩ low high W)
    have hB2 := lnBox_below hB hbb
    obtain ⟨k1, k2, k3, k4⟩ := hB2
    have d0 := box1_cell ((hbb.block B0 (Array.getElem?_eq_some_iff.1 h0).1).trans h0)
    have d1 := box1_cell k1
    obtain ⟨⟨d2, d3⟩, -⟩ := box2_cells k2
    obtain ⟨⟨d4, d5⟩, -⟩ := box2_cells k3
    obtain ⟨d6, d7⟩ := ldAt_get k4 hx
    have HR := hide hr
    have HBB := hide hbb
    rw [HRES.out]
    clear hB k1 k2 k3 k4 h0 hsum hr hbb hp HRES h12
    unfold lpLowP lpHighP
    unfold ptV at HST ⊢
    generalize upL b C (x : Int) = u at hud d6 ⊢
    generalize dnL b C (x : Int) = d at hud d7 ⊢
    generalize upA C = ua at hA d2 ⊢
    generalize dnA C = da at hA d3 ⊢
    simp only at HST ⊢
    have hw1 : IntKind.i64.wrap (s * b) = s * b := by rw [IntKind.wrap_i64]; omega
    obtain ⟨Z, hZ⟩ : ∃ Z, Z = s * b + u - d := ⟨_, rfl⟩
    rw [← hZ]
    obtain ⟨R, hR⟩ : ∃ R, lpSettle c less ⟨0, Z, 0, 0⟩ (if da ≤ Z then Z else -1099511627776) (if Z ≤ -ua then Z else 1099511627776) = R := ⟨_, rfl⟩
    rw [hR]
    obtain ⟨rf, rs, ry, rl⟩ := R
    simp only
    go_enter Tryd.func53, Tryd.ntmps53
    go_wp2_with fail
    have hq2 := (box_cells hq).1
    obtain ⟨q0, q1, q2, q3⟩ := hq2
    have HSZ : Hid (W.heap.size + 1 < ((W.alloc (.cells #[.int .i64 0, .int .i64 s, .int .i64 y, .int .i64 l] 92)).alloc (.cells #[.int .i64 0, .int .i64 0, .int .i64 0, .int .i64 0] 92)).heap.size) := by show _ < _; simp
    clear hq
    generalize (W.alloc (.cells #[.int .i64 0, .int .i64 s, .int .i64 y, .int .i64 l] 92)).alloc (.cells #[.int .i64 0, .int .i64 0, .int .i64 0, .int .i64 0] 92) = W2 at d0 d1 d2 d3 d4 d5 d6 d7 q0 q1 q2 q3 HR HBB HSZ ⊢
    go_quiet (fail)
    rw [show s * b + u - d = Z from hZ.symm]
    have hZb : -1000 ≤ Z ∧ Z ≤ 1000 := by omega
    clear hZ hw1 hmul
    have HEND : Hid (∀ (nq : Nat) (w3 : World), Below (W2.drewN nq).heap.size (W2.drewN nq) w3 → w3.heap[W.heap.size + 1]? = some (.cells #[.int .i64 0, .int .i64 0, .int .i64 0, .int .i64 0] 92 (0, 0)) ∧ Below W.heap.size W w3) := fun nq w3 h => by
      have hb3 : Below W2.heap.size W2 w3 := ⟨h.os, h.tape, h.output, h.size, h.block⟩
      exact ⟨(hb3.block _ HSZ.out).trans HR.out, below_step HBB.out hb3⟩
    by_cases g1 : Z ≥ da
    · rw [if_pos g1] at hR
      by_cases g2 : Z ≤ -ua
      · rw [if_pos g2] at hR
        go_wp2_with fail
        refine (HST.out Z Z Z _).mono ?_
        rintro e w3 ⟨rfl, hb3⟩
        simp only [hR]
        obtain ⟨hr3, hb4⟩ := HEND.out _ w3 hb3
        have HB4 := hide hb4
        have HR3 := hide hr3
        obtain ⟨⟨r0, r1, r2, r3⟩, rf'⟩ := box_cells hr3
        clear hr3 hb3 hb4
        go_wp2
        obtain ⟨⟨hset, -, -⟩, hbel⟩ := box_set (v0 := .int .i64 rf) (v1 := .int .i64 rs) (v2 := .int .i64 ry) (v3 := .int .i64 rl) HR3.out rfl
        obtain ⟨⟨z0, z1, z2, z3⟩, -⟩ := box_cells hset
        exact bodyPost_ret (v := .agg #[.int .i64 rf, .int .i64 rs, .int .i64 ry, .int .i64 rl]) (by simp [results, Tryd.results53, go_sem, z0, z1, z2, z3]) rfl ⟨rfl, hbel _ _ HB4.out (by omega)⟩
      · rw [if_neg g2] at hR
        go_wp2_with fail
        refine (HST.out Z Z 1099511627776 _).mono ?_
        rintro e w3 ⟨rfl, hb3⟩
        simp only [hR]
        obtain ⟨hr3, hb4⟩ := HEND.out _ w3 hb3
        have HB4 := hide hb4
        have HR3 := hide hr3
        obtain ⟨⟨r0, r1, r2, r3⟩, rf'⟩ := box_cells hr3
        clear hr3 hb3 hb4
        go_wp2
        obtain ⟨⟨hset, -, -⟩, hbel⟩ := box_set (v0 := .int .i64 rf) (v1 := .int .i64 rs) (v2 := .int .i64 ry) (v3 := .int .i64 rl) HR3.out rfl
        obtain ⟨⟨z0, z1, z2, z3⟩, -⟩ := box_cells hset
        exact bodyPost_ret (v := .agg #[.int .i64 rf, .int .i64 rs, .int .i64 ry, .int .i64 rl]) (by simp [results, Tryd.results53, go_sem, z0, z1, z2, z3]) rfl ⟨rfl, hbel _ _ HB4.out (by omega)⟩
    · rw [if_neg g1] at hR
      by_cases g2 : Z ≤ -ua
      · rw [if_pos g2] at hR
        go_wp2_with fail
        refine (HST.out Z (-1099511627776) Z _).mono ?_
        rintro e w3 ⟨rfl, hb3⟩
        simp only [hR]
        obtain ⟨hr3, hb4⟩ := HEND.out _ w3 hb3
        have HB4 := hide hb4
        have HR3 := hide hr3
        obtain ⟨⟨r0, r1, r2, r3⟩, rf'⟩ := box_cells hr3
        clear hr3 hb3 hb4
        go_wp2
        obtain ⟨⟨hset, -, -⟩, hbel⟩ := box_set (v0 := .int .i64 rf) (v1 := .int .i64 rs) (v2 := .int .i64 ry) (v3 := .int .i64 rl) HR3.out rfl
        obtain ⟨⟨z0, z1, z2, z3⟩, -⟩ := box_cells hset
        exact bodyPost_ret (v := .agg #[.int .i64 rf, .int .i64 rs, .int .i64 ry, .int .i64 rl]) (by simp [results, Tryd.results53, go_sem, z0, z1, z2, z3]) rfl ⟨rfl, hbel _ _ HB4.out (by omega)⟩
      · rw [if_neg g2] at hR
        go_wp2_with fail
        refine (HST.out Z (-1099511627776) 1099511627776 _).mono ?_
        rintro e w3 ⟨rfl, hb3⟩
        simp only [hR]
        obtain ⟨hr3, hb4⟩ := HEND.out _ w3 hb3
        have HB4 := hide hb4
        have HR3 := hide hr3
        obtain ⟨⟨r0, r1, r2, r3⟩, rf'⟩ := box_cells hr3
        clear hr3 hb3 hb4
        go_wp2
        obtain ⟨⟨hset, -, -⟩, hbel⟩ := box_set (v0 := .int .i64 rf) (v1 := .int .i64 rs) (v2 := .int .i64 ry) (v3 := .int .i64 rl) HR3.out rfl
        obtain ⟨⟨z0, z1, z2, z3⟩, -⟩ := box_cells hset
        exact bodyPost_ret (v := .agg #[.int .i64 rf, .int .i64 rs, .int .i64 ry, .int .i64 rl]) (by simp [results, Tryd.results53, go_sem, z0, z1, z2, z3]) rfl ⟨rfl, hbel _ _ HB4.out (by omega)⟩
  · have hf' : (f == 0) = false := by simp [hf]
    have hres : lpPlain b C c less ⟨f, s, y, l⟩ x = ⟨f, s, y, l⟩ := by unfold lpPlain; rw [if_neg hf]
    rw [hres]
    unfold ptV
    have HR := hide hr
    have HBB := hide hbb
    clear hB h0 hp hr hbb hq hres
    go_enter Tryd.func53, Tryd.ntmps53
    go_wp2
    exact bodyPost_ret (v := .agg #[.int .i64 f, .int .i64 s, .int .i64 y, .int .i64 l]) (by simp [results, Tryd.results53, go_sem]) rfl ⟨rfl, below_two _ _ _⟩

set_option maxHeartbeats 8000000 in
set_option maxRecDepth 8000 in
theorem lnFib_any (C : List Int) (c : Int) (less : Bool) (m g B1 B2 B3 : Nat) (p : LPt) (x : Nat) (W : World) (h12 : absT C C.length ≤ 12) (hp : LpOk 1 p) (hx : x < m) (hB : LnBox 1 C c less m g B1 B2 B3 W) (hm : m ≤ 36) :
    Calls Tryd.prog 55 #[ptV p, .int .i64 (x : Int), .pointer (some ⟨B1, 0, none⟩), .pointer (some ⟨B2, 0, none⟩), .pointer (some ⟨B3, 0, none⟩)] W (GivesPt W (lpFib C c less p x)) := by
  have hA := udA h12
  have hbd := lpOk_bd hp
  have hp0 : ∀ h0 : p.f = 0, -272 ≤ 13 * p.s - 21 * p.y ∧ 13 * p.s - 21 * p.y ≤ 272 := fun h0 => by
    rcases hp with ⟨_, _, _, _, h⟩ | ⟨h, _⟩ | ⟨h, _⟩
    · exact h rfl
    · omega
    · omega
  obtain ⟨f, s, y, l⟩ := p
  simp only at hbd hp0
  obtain ⟨ln, rfl⟩ : ∃ ln : Nat, l = (ln : Int) := ⟨l.toNat, by omega⟩
  unfold GivesPt
  have hxi : (x : Int) < (m : Int) := by omega
  have hand := and_small (x := ln) (y := x) (by omega) (by omega)
  have hbb := below_two W (.cells #[.int .i64 f, .int .i64 s, .int .i64 y, .int .i64 (ln : Int)] 92) (.cells #[.int .i64 0, .int .i64 0, .int .i64 0, .int .i64 0] 92)
  have hr := heap_alloc2_snd W (.cells #[.int .i64 f, .int .i64 s, .int .i64 y, .int .i64 (ln : Int)] 92) (.cells #[.int .i64 0, .int .i64 0, .int .i64 0, .int .i64 0] 92)
  have hq := heap_alloc2_fst W (.cells #[.int .i64 f, .int .i64 s, .int .i64 y, .int .i64 (ln : Int)] 92) (.cells #[.int .i64 0, .int .i64 0, .int .i64 0, .int .i64 0] 92)
  by_cases hf2 : f = 2
  · subst hf2
    have hres : lpFib C c less ⟨2, s, y, (ln : Int)⟩ x = ⟨2, 0, 0, 0⟩ := by unfold lpFib; rw [if_pos (.inl rfl)]
    rw [hres]
    unfold ptV
    clear hB hp hr hbb hq hres hp0
    go_enter Tryd.func55, Tryd.ntmps55
    go_wp2
    exact bodyPost_ret (v := .agg #[.int .i64 2, .int .i64 0, .int .i64 0, .int .i64 0]) (by simp [results, Tryd.results55, go_sem]) rfl ⟨rfl, below_two _ _ _⟩
  · have hf2' : (f == 2) = false := by simp [hf2]
    by_cases hcl : ln &&& x = 0
    · rw [hcl] at hand
      by_cases hf1 : f = 1
      · subst hf1
        have hres : lpFib C c less ⟨1, s, y, (ln : Int)⟩ x = ⟨1, 0, 0, x⟩ := by unfold lpFib; rw [if_neg (by simp [hcl]), if_pos rfl]
        rw [hres]
        unfold ptV
        clear hB hp hr hbb hq hres hp0 hcl
        go_enter Tryd.func55, Tryd.ntmps55
        go_wp2
        exact bodyPost_ret (v := .agg #[.int .i64 1, .int .i64 0, .int .i64 0, .int .i64 (x : Int)]) (by simp [results, Tryd.results55, go_sem]) rfl ⟨rfl, below_two _ _ _⟩
      · have hf1' : (f == 1) = false := by simp [hf1]
        obtain rfl : f = 0 := by omega
        have hpy := hp0 rfl
        have hud := udL_bd (b := 1) (by decide) C (x : Int)
        rw [show kindsI 1 = 2 by decide] at hud
        have hsum := udL_sum 1 C (x : Int)
        have HRES : Hid (lpFib C c less ⟨0, s, y, (ln : Int)⟩ x = lpSettle c less ⟨0, s + y + (upL 1 C x - dnL 1 C x), s + (upL 1 C x - dnL 1 C x), x⟩ (fallV (s + y + (upL 1 C x - dnL 1 C x) - dnA C) (s + (upL 1 C x - dnL 1 C x) - dnA C + dnL 1 C x) + dnA C) (-fallV (-(s + y + (upL 1 C x - dnL 1 C x)) - upA C) (-(s + (upL 1 C x - dnL 1 C x)) - upA C + upL 1 C x) - upA C)) := by
          show _ = _
          unfold lpFib lpLowF lpHighF
          rw [if_neg (by simp [hcl]), if_neg (by show ¬ (0 : Int) = 1; decide), hsum]
        have HST := hide (fun X Y low high W => lnSettle_any c less ⟨0, X, Y, (x : Int)⟩ low high W)
        have HCELL : Hid (∀ W', Below W.heap.size W W' → (W'.cell? ⟨B1, 0, none⟩ = some (.slice (some ⟨g, 0, none⟩) m m)) ∧ (W'.cell? ⟨B2, 0, none⟩ = some (.int .i64 (upA C)) ∧ W'.cell? ⟨B2, 1, none⟩ = some (.int .i64 (dnA C))) ∧ (W'.cell? ⟨B3, 0, none⟩ = some (.int .i64 (-c)) ∧ W'.cell? ⟨B3, 1, none⟩ = some (.bool less)) ∧ (W'.cell? ⟨g, x * 2, none⟩ = some (.int .i64 (upL 1 C x)) ∧ W'.cell? ⟨g, x * 2 + 1, none⟩ = some (.int .i64 (dnL 1 C x)))) := fun W' hb => by
          obtain ⟨k1, k2, k3, k4⟩ := lnBox_below hB hb
          exact ⟨box1_cell k1, (box2_cells k2).1, (box2_cells k3).1, ldAt_get k4 hx⟩
        have HR := hide hr
        have HBB := hide hbb
        have HQ := hide hq
        rw [HRES.out]
        clear hB hsum hr hbb hq hp HRES h12 hp0
        obtain ⟨V1, hV1⟩ : ∃ V1, V1 = fallV (s + y + (upL 1 C x - dnL 1 C x) - dnA C) (s + (upL 1 C x - dnL 1 C x) - dnA C + dnL 1 C x) := ⟨_, rfl⟩
        obtain ⟨V2, hV2⟩ : ∃ V2, V2 = fallV (-(s + y + (upL 1 C x - dnL 1 C x)) - upA C) (-(s + (upL 1 C x - dnL 1 C x)) - upA C + upL 1 C x) := ⟨_, rfl⟩
        rw [← hV1, ← hV2]
        have hb1 := fallV_bd (a := s + y + (upL 1 C x - dnL 1 C x) - dnA C) (more := s + (upL 1 C x - dnL 1 C x) - dnA C + dnL 1 C x) (by omega) (by omega)
        have hb2 := fallV_bd (a := -(s + y + (upL 1 C x - dnL 1 C x)) - upA C) (more := -(s + (upL 1 C x - dnL 1 C x)) - upA C + upL 1 C x) (by omega) (by omega)
        have HF1 := hide (fun W => lnFall_any (s + y + (upL 1 C x - dnL 1 C x) - dnA C) (s + (upL 1 C x - dnL 1 C x) - dnA C + dnL 1 C x) W (by omega) (by omega))
        have HF2 := hide (fun W => lnFall_any (-(s + y + (upL 1 C x - dnL 1 C x)) - upA C) (-(s + (upL 1 C x - dnL 1 C x)) - upA C + upL 1 C x) W (by omega) (by omega))
        rw [← hV1] at hb1 HF1
        rw [← hV2] at hb2 HF2
        clear hV1 hV2
        generalize upL 1 C (x : Int) = u at hud HCELL HF1 HF2 ⊢
        generalize dnL 1 C (x : Int) = d at hud HCELL HF1 HF2 ⊢
        generalize upA C = ua at hA hud HCELL HF1 HF2 ⊢
        generalize dnA C = da at hA hud HCELL HF1 HF2 ⊢
        obtain ⟨r, hrr⟩ : ∃ r, r = u - d := ⟨_, rfl⟩
        rw [← hrr] at HF1 HF2 ⊢
        have hrb : -12 ≤ r ∧ r ≤ 12 := by omega
        obtain ⟨X, hX⟩ : ∃ X, X = s + y + r := ⟨_, rfl⟩
        obtain ⟨Y, hY⟩ : ∃ Y, Y = s + r := ⟨_, rfl⟩
        rw [← hX, ← hY] at HF1 HF2 ⊢
        have hXb : -500 ≤ X ∧ X ≤ 500 := by omega
        have hYb : -500 ≤ Y ∧ Y ≤ 500 := by omega
        obtain ⟨R, hR⟩ : ∃ R, lpSettle c less ⟨0, X, Y, (x : Int)⟩ (V1 + da) (-V2 - ua) = R := ⟨_, rfl⟩
        rw [hR]
        obtain ⟨rf, rs, ry, rl⟩ := R
        have HRR := hide hrr
        have HX := hide hX
        have HY := hide hY
        clear hrr hX hY
        unfold ptV at HST ⊢
        simp only at HST ⊢
        obtain ⟨c1, ⟨c2, c3⟩, -, c6, c7⟩ := HCELL.out _ HBB.out
        obtain ⟨⟨q0, q1, q2, q3⟩, -⟩ := box_cells HQ.out
        go_enter Tryd.func55, Tryd.ntmps55
        go_wp2_with fail
        have HSZ : Hid (W.heap.size + 1 < ((W.alloc (.cells #[.int .i64 0, .int .i64 s, .int .i64 y, .int .i64 (ln : Int)] 92)).alloc (.cells #[.int .i64 0, .int .i64 0, .int .i64 0, .int .i64 0] 92)).heap.size) := by show _ < _; simp
        generalize (W.alloc (.cells #[.int .i64 0, .int .i64 s, .int .i64 y, .int .i64 (ln : Int)] 92)).alloc (.cells #[.int .i64 0, .int .i64 0, .int .i64 0, .int .i64 0] 92) = W2 at c1 c2 c3 c6 c7 q0 q1 q2 q3 HR HQ HBB HSZ ⊢
        go_quiet (fail)
        rw [← HRR.out]
        have HBB3 : Hid (Below W.heap.size W (W2.drewN nq)) := below_drewN HBB.out nq
        have HR3 : Hid ((W2.drewN nq).heap[W.heap.size + 1]? = some (.cells #[.int .i64 0, .int .i64 0, .int .i64 0, .int .i64 0] 92 (0, 0))) := HR.out
        have HQ3 : Hid ((W2.drewN nq).heap[W.heap.size]? = some (.cells #[.int .i64 0, .int .i64 s, .int .i64 y, .int .i64 (ln : Int)] 92 (0, 0))) := HQ.out
        have HSZ3 : Hid (W.heap.size + 1 < (W2.drewN nq).heap.size) := HSZ.out
        clear c1 c2 c3 c6 c7 q0 q1 q2 q3 HR HQ HBB HSZ
        generalize W2.drewN nq = W3 at HBB3 HR3 HQ3 HSZ3 ⊢
        obtain ⟨⟨q0, q1, q2, q3⟩, -⟩ := box_cells HQ3.out
        go_wp2_with fail
        rw [← HX.out, ← HY.out]
        have HBB4 : Hid (Below W.heap.size W (W3.alloc (.cells #[.int .i64 0, .int .i64 X, .int .i64 Y, .int .i64 (x : Int)] 92))) := HBB3.out.alloc HBB3.out.size _
        have HT4 : Hid ((W3.alloc (.cells #[.int .i64 0, .int .i64 X, .int .i64 Y, .int .i64 (x : Int)] 92)).heap[W3.heap.size]? = some (.cells #[.int .i64 0, .int .i64 X, .int .i64 Y, .int .i64 (x : Int)] 92 (0, 0))) := heap_alloc_last _ _
        have HR4 : Hid ((W3.alloc (.cells #[.int .i64 0, .int .i64 X, .int .i64 Y, .int .i64 (x : Int)] 92)).heap[W.heap.size + 1]? = some (.cells #[.int .i64 0, .int .i64 0, .int .i64 0, .int .i64 0] 92 (0, 0))) := (Below.heap_alloc _ _ _ HSZ3.out).trans HR3.out
        have HSZ4 : Hid (W.heap.size + 1 < (W3.alloc (.cells #[.int .i64 0, .int .i64 X, .int .i64 Y, .int .i64 (x : Int)] 92)).heap.size) := by show _ < _; have := HSZ3.out; simp; omega
        clear q0 q1 q2 q3 HR3 HQ3 HBB3 HSZ3
        generalize W3.alloc (.cells #[.int .i64 0, .int .i64 X, .int .i64 Y, .int .i64 (x : Int)] 92) = W4 at HBB4 HT4 HR4 HSZ4 ⊢
        obtain ⟨c1, ⟨c2, c3⟩, -, c6, c7⟩ := HCELL.out _ HBB4.out
        obtain ⟨⟨q0, q1, q2, q3⟩, -⟩ := box_cells HT4.out
        go_quiet (first | (go_at_call 56; refine Calls.quiet_of_same (HF1.out _)))
        have HBB5 : Hid (Below W.heap.size W (W4.drewN nq)) := below_drewN HBB4.out nq
        have HT5 : Hid ((W4.drewN nq).heap[W3.heap.size]? = some (.cells #[.int .i64 0, .int .i64 X, .int .i64 Y, .int .i64 (x : Int)] 92 (0, 0))) := HT4.out
        have HR5 : Hid ((W4.drewN nq).heap[W.heap.size + 1]? = some (.cells #[.int .i64 0, .int .i64 0, .int .i64 0, .int .i64 0] 92 (0, 0))) := HR4.out
        have HSZ5 : Hid (W.heap.size + 1 < (W4.drewN nq).heap.size) := HSZ4.out
        clear c1 c2 c3 c6 c7 q0 q1 q2 q3 HR4 HT4 HBB4 HSZ4
        generalize W4.drewN nq = W5 at HBB5 HT5 HR5 HSZ5 ⊢
        obtain ⟨c1, ⟨c2, c3⟩, -, c6, c7⟩ := HCELL.out _ HBB5.out
        obtain ⟨⟨q0, q1, q2, q3⟩, -⟩ := box_cells HT5.out
        go_wp2_with fail
        go_quiet (first | (go_at_call 56; refine Calls.quiet_of_same (HF2.out _)))
        have HBB6 : Hid (Below W.heap.size W (W5.drewN nq)) := below_drewN HBB5.out nq
        have HT6 : Hid ((W5.drewN nq).heap[W3.heap.size]? = some (.cells #[.int .i64 0, .int .i64 X, .int .i64 Y, .int .i64 (x : Int)] 92 (0, 0))) := HT5.out
        have HR6 : Hid ((W5.drewN nq).heap[W.heap.size + 1]? = some (.cells #[.int .i64 0, .int .i64 0, .int .i64 0, .int .i64 0] 92 (0, 0))) := HR5.out
        have HSZ6 : Hid (W.heap.size + 1 < (W5.drewN nq).heap.size) := HSZ5.out
        clear c1 c2 c3 c6 c7 q0 q1 q2 q3 HR5 HT5 HBB5 HSZ5
        generalize W5.drewN nq = W6 at HBB6 HT6 HR6 HSZ6 ⊢
        obtain ⟨-, -, ⟨c4, c5⟩, -⟩ := HCELL.out _ HBB6.out
        obtain ⟨⟨q0, q1, q2, q3⟩, -⟩ := box_cells HT6.out
        go_wp2_with fail
        refine (HST.out X Y (V1 + da) (-V2 - ua) _).mono ?_
        rintro e w3 ⟨rfl, hb3⟩
        simp only [hR]
        have hr3 := (hb3.block _ HSZ6.out).trans HR6.out
        have HB4 := hide (below_step HBB6.out hb3)
        have HR7 := hide hr3
        obtain ⟨⟨r0, r1, r2, r3⟩, rf'⟩ := box_cells hr3
        clear hr3 hb3 c4 c5 q0 q1 q2 q3
        go_wp2
        obtain ⟨⟨hset, -, -⟩, hbel⟩ := box_set (v0 := .int .i64 rf) (v1 := .int .i64 rs) (v2 := .int .i64 ry) (v3 := .int .i64 rl) HR7.out rfl
        obtain ⟨⟨z0, z1, z2, z3⟩, -⟩ := box_cells hset
        exact bodyPost_ret (v := .agg #[.int .i64 rf, .int .i64 rs, .int .i64 ry, .int .i64 rl]) (by simp [results, Tryd.results55, go_sem, z0, z1, z2, z3]) rfl ⟨rfl, hbel _ _ HB4.out (by omega)⟩
    · have hz : (((ln &&& x : Nat) : Int) == 0) = false := by simp [hcl]
      have hres : lpFib C c less ⟨f, s, y, (ln : Int)⟩ x = ⟨2, 0, 0, 0⟩ := by unfold lpFib; rw [if_pos (.inr (by simpa using hcl))]
      rw [hres]
      unfold ptV
      clear hB hp hr hbb hq hres hp0
      generalize ln &&& x = z at hand hz hcl
      go_enter Tryd.func55, Tryd.ntmps55
      go_wp2
      exact bodyPost_ret (v := .agg #[.int .i64 2, .int .i64 0, .int .i64 0, .int .i64 0]) (by simp [results, Tryd.results55, go_sem]) rfl ⟨rfl, below_two _ _ _⟩
end Go.Proofs.YthadkoplbgibgaeDoor

/- line.plainStep, line.fibStep: contracts. -/
namespace Go.Proofs.YthadkoplbgibgaeDoor
open Go.RowKit

/-- A closure that leads from point to point. -/
def StepF (b : Int) (m : Nat) (st : LPt → Nat → LPt) (f : FuncId) (cs : Array Value) (w' : World) : Prop := ∀ (W : World) (p : LPt) (x : Nat), Below w'.heap.size w' W → LpOk b p → x < m → Calls Tryd.prog f (#[ptV p, .int .i64 (x : Int)] ++ cs) W (GivesPt W (st p x))
theorem stepF_below {b : Int} {m : Nat} {st : LPt → Nat → LPt} {f : FuncId} {cs : Array Value} {w w' : World} (h : StepF b m st f cs w) (hb : Below w.heap.size w w') : StepF b m st f cs w' := fun W p x hW hp hx => h W p x (below_step hb hW) hp hx
def StepR (w : World) (b : Int) (m : Nat) (st : LPt → Nat → LPt) (f : FuncId) (e : Ending) (w' : World) : Prop := ∃ cs, e = .returned (.func (.func f) #[] cs) ∧ Below w.heap.size w w' ∧ StepF b m st f cs w'
theorem heap_push {w : World} {B : Nat} {o : Obj} (h : w.heap[B]? = some o) (u : Obj) : (w.alloc u).heap[B]? = some o := (Below.heap_alloc _ _ _ (Array.getElem?_eq_some_iff.1 h).1).trans h
set_option maxHeartbeats 4000000 in
set_option maxRecDepth 4000 in
theorem lnPlainStep_any (b : Int) (C : List Int) (c : Int) (less : Bool) (m g : Nat) (w : World) (h1 : 1 ≤ b) (h2 : b ≤ 6) (h12 : absT C C.length ≤ 12) (hL : LdAt b C m m g w) :
    Calls Tryd.prog 33 #[.int .i64 b, .slice (some ⟨g, 0, none⟩) m m, loadV (upA C) (dnA C), .agg #[.int .i64 (-c), .bool less]] w (StepR w b m (lpPlain b C c less) 53) := by
  have k1 := heap_alloc_last w (.cells #[.int .i64 b] 3)
  have b1 := (Below.refl w.heap.size w).alloc (Nat.le_refl _) (.cells #[.int .i64 b] 3)
  have s1 : (w.alloc (.cells #[.int .i64 b] 3)).heap.size = w.heap.size + 1 := by simp
  have HF : Hid (∀ w1, w1 = w.alloc (.cells #[.int .i64 b] 3) → StepF b m (lpPlain b C c less) 53 #[.pointer (some ⟨w.heap.size, 0, none⟩), .pointer (some ⟨w.heap.size + 1, 0, none⟩), .pointer (some ⟨w.heap.size + 1 + 1, 0, none⟩), .pointer (some ⟨w.heap.size + 1 + 1 + 1, 0, none⟩)] (((w1.alloc (.cells #[.slice (some ⟨g, 0, none⟩) m m] 63)).alloc (.cells #[.int .i64 (upA C), .int .i64 (dnA C)] 71)).alloc (.cells #[.int .i64 (-c), .bool less] 67)) ∧ Below w.heap.size w (((w1.alloc (.cells #[.slice (some ⟨g, 0, none⟩) m m] 63)).alloc (.cells #[.int .i64 (upA C), .int .i64 (dnA C)] 71)).alloc (.cells #[.int .i64 (-c), .bool less] 67))) := fun w1 hw1 => by
    rw [← hw1] at k1 b1 s1
    have hb3 := below_three w1 (.cells #[.slice (some ⟨g, 0, none⟩) m m] 63) (.cells #[.int .i64 (upA C), .int .i64 (dnA C)] 71) (.cells #[.int .i64 (-c), .bool less] 67)
    have hbw := below_step b1 hb3
    have e0 := heap_push (heap_push (heap_push k1 (.cells #[.slice (some ⟨g, 0, none⟩) m m] 63)) (.cells #[.int .i64 (upA C), .int .i64 (dnA C)] 71)) (.cells #[.int .i64 (-c), .bool less] 67)
    have e1 := heap_push (heap_push (heap_alloc_last w1 (.cells #[.slice (some ⟨g, 0, none⟩) m m] 63)) (.cells #[.int .i64 (upA C), .int .i64 (dnA C)] 71)) (.cells #[.int .i64 (-c), .bool less] 67)
    have e2 := heap_push (heap_alloc_last (w1.alloc (.cells #[.slice (some ⟨g, 0, none⟩) m m] 63)) (.cells #[.int .i64 (upA C), .int .i64 (dnA C)] 71)) (.cells #[.int .i64 (-c), .bool less] 67)
    have e3 := heap_alloc_last ((w1.alloc (.cells #[.slice (some ⟨g, 0, none⟩) m m] 63)).alloc (.cells #[.int .i64 (upA C), .int .i64 (dnA C)] 71)) (.cells #[.int .i64 (-c), .bool less] 67)
    rw [s1] at e1
    rw [World.size_alloc, s1] at e2
    rw [World.size_alloc, World.size_alloc, s1] at e3
    refine ⟨fun W p x hW hp hx => ?_, hbw⟩
    have hbox : LnBox b C c less m g (w.heap.size + 1) (w.heap.size + 1 + 1) (w.heap.size + 1 + 1 + 1) W := lnBox_below ⟨e1, e2, e3, hL.of_block (hbw.block _ hL.lt)⟩ hW
    exact lnPlain_any b C c less m g w.heap.size _ _ _ p x W h1 h2 h12 hp hx ((hW.block _ (Array.getElem?_eq_some_iff.1 e0).1).trans e0) hbox
  clear hL k1 b1 s1
  unfold loadV StepR
  generalize upA C = u at HF ⊢
  generalize dnA C = d at HF ⊢
  go_enter Tryd.func33, Tryd.ntmps33
  go_wp2
  go_ret
  obtain ⟨q1, q2⟩ := HF.out _ rfl
  exact ⟨_, by simp, q2, q1⟩
set_option maxHeartbeats 4000000 in
set_option maxRecDepth 4000 in
theorem lnFibStep_any (C : List Int) (c : Int) (less : Bool) (m g : Nat) (w : World) (h12 : absT C C.length ≤ 12) (hm : m ≤ 36) (hL : LdAt 1 C m m g w) :
    Calls Tryd.prog 35 #[.slice (some ⟨g, 0, none⟩) m m, loadV (upA C) (dnA C), .agg #[.int .i64 (-c), .bool less]] w (StepR w 1 m (lpFib C c less) 55) := by
  have HF : Hid (StepF 1 m (lpFib C c less) 55 #[.pointer (some ⟨w.heap.size, 0, none⟩), .pointer (some ⟨w.heap.size + 1, 0, none⟩), .pointer (some ⟨w.heap.size + 1 + 1, 0, none⟩)] (((w.alloc (.cells #[.slice (some ⟨g, 0, none⟩) m m] 63)).alloc (.cells #[.int .i64 (upA C), .int .i64 (dnA C)] 71)).alloc (.cells #[.int .i64 (-c), .bool less] 67)) ∧ Below w.heap.size w (((w.alloc (.cells #[.slice (some ⟨g, 0, none⟩) m m] 63)).alloc (.cells #[.int .i64 (upA C), .int .i64 (dnA C)] 71)).alloc (.cells #[.int .i64 (-c), .bool less] 67))) := by
    have hbw := below_three w (.cells #[.slice (some ⟨g, 0, none⟩) m m] 63) (.cells #[.int .i64 (upA C), .int .i64 (dnA C)] 71) (.cells #[.int .i64 (-c), .bool less] 67)
    have e1 := heap_push (heap_push (heap_alloc_last w (.cells #[.slice (some ⟨g, 0, none⟩) m m] 63)) (.cells #[.int .i64 (upA C), .int .i64 (dnA C)] 71)) (.cells #[.int .i64 (-c), .bool less] 67)
    have e2 := heap_push (heap_alloc_last (w.alloc (.cells #[.slice (some ⟨g, 0, none⟩) m m] 63)) (.cells #[.int .i64 (upA C), .int .i64 (dnA C)] 71)) (.cells #[.int .i64 (-c), .bool less] 67)
    have e3 := heap_alloc_last ((w.alloc (.cells #[.slice (some ⟨g, 0, none⟩) m m] 63)).alloc (.cells #[.int .i64 (upA C), .int .i64 (dnA C)] 71)) (.cells #[.int .i64 (-c), .bool less] 67)
    rw [World.size_alloc] at e2
    rw [World.size_alloc, World.size_alloc] at e3
    refine ⟨fun W p x hW hp hx => ?_, hbw⟩
    have hbox : LnBox 1 C c less m g w.heap.size (w.heap.size + 1) (w.heap.size + 1 + 1) W := lnBox_below ⟨e1, e2, e3, hL.of_block (hbw.block _ hL.lt)⟩ hW
    exact lnFib_any C c less m g _ _ _ p x W h12 hp hx hbox hm
  clear hL
  unfold loadV StepR
  generalize upA C = u at HF ⊢
  generalize dnA C = d at HF ⊢
  go_enter Tryd.func35, Tryd.ntmps35
  go_wp2
  go_ret
  obtain ⟨q1, q2⟩ := HF.out
  exact ⟨_, by simp, q2, q1⟩
end Go.Proofs.YthadkoplbgibgaeDoor

/- line.Holds: contract. -/
namespace Go.Proofs.YthadkoplbgibgaeDoor
open Go.RowKit

set_option maxHeartbeats 8000000 in
set_option maxRecDepth 8000 in
theorem holds_saysQ : HoldsSays := by
  intro a n cap C c less a2 n2 cap2 nums w hs hs2
  have hCL := hs.1
  have hNL := hs2.1
  have hML := hs.2.1
  have hML2 := hs2.2.1
  unfold maxLen at hML hML2
  have HHC : Hid (hdC C c nums = if (n ≤ 5 ∧ absT C C.length ≤ 12) ∧ -60 ≤ c ∧ c ≤ 60 then (if n2 = n then (if numOk nums = true then 0 else 1) else 2) else 1) := by show _ = _; unfold hdC; rw [hCL, hNL]
  have HHB : Hid (hdB C c less nums = if hdC C c nums = 0 then lnEnd c less (sumT C (fun i => nums.getD i 0) C.length) else false) := rfl
  have HB1 : Hid (hdC C c nums ≠ 0 → hdB C c less nums = false) := fun h => by rw [HHB.out, if_neg h]
  have HB0 : Hid (hdC C c nums = 0 → hdB C c less nums = lnEnd c less (sumT C (fun i => nums.getD i 0) C.length)) := fun h => by rw [HHB.out, if_pos h]
  generalize hdC C c nums = HC at HHC HHB HB1 HB0 ⊢
  generalize hdB C c less nums = HB at HHB HB1 HB0 ⊢
  clear HHB
  have HS := hide hs
  have HS2 := hide hs2
  clear hs hs2
  by_cases h5 : n ≤ 5
  · have h5i : ¬ (n : Int) > 5 := by omega
    have HCK := hide (lnCheck_any a n cap C c w HS.out h5)
    by_cases hck : ckC C c = 0
    · have hin : absT C C.length ≤ 12 ∧ -60 ≤ c ∧ c ≤ 60 := by
        unfold ckC at hck
        by_cases h : absT C C.length ≤ 12 ∧ -60 ≤ c ∧ c ≤ 60
        · exact h
        · rw [if_neg h] at hck; omega
      rw [hck, errV_zero] at HCK
      have HHC2 := HHC.out
      rw [if_pos ⟨⟨h5, hin.1⟩, hin.2⟩] at HHC2
      by_cases hnn : n2 = n
      · subst hnn
        rw [if_pos rfl] at HHC2
        have HHC3 := hide HHC2
        have HIN := hide hin
        have hc60 := hin.2
        have HCL := hide hCL
        have HNL := hide hNL
        clear HHC HHC2 hck hin hCL
        go_enter Tryd.func16, Tryd.ntmps16
        go_wp2_with (go_at_call 31; refine HCK.out.mono ?_; rintro e w1 ⟨rfl, hw1⟩; rw [hw1]; clear hw1 w1)
        go_loop [32] (fun iv => ∃ k : Nat, k ≤ n2 ∧ iv = .int .i64 k ∧ ∀ i, i < k → 0 ≤ nums.getD i 0 ∧ nums.getD i 0 ≤ 1099511627776) (fun iv => n2 - (intOf iv).toNat)
        case atStart => exact ⟨0, by omega, rfl, fun i hi => by omega⟩
        case round =>
          obtain ⟨k, hk, rfl, hall⟩ := hrel
          have HALL := hide hall
          clear hall
          by_cases hlt : k < n2
          · have hlti : (k : Int) < (n2 : Int) := by omega
            obtain ⟨b1, o1, rfl, hc⟩ := sl_cell HS2.out k hlt
            have HN1 : Hid (¬ (0 ≤ nums.getD k 0 ∧ nums.getD k 0 ≤ 1099511627776) → HC = 1 ∧ HB = false) := fun h => by
              have h1 := HHC3.out
              rw [if_neg (numOk_not (i := k) (by rw [HNL.out]; exact hlt) h)] at h1
              exact ⟨h1, HB1.out (by rw [h1]; decide)⟩
            have HNX : Hid ((0 ≤ nums.getD k 0 ∧ nums.getD k 0 ≤ 1099511627776) → ∀ i, i < k + 1 → 0 ≤ nums.getD i 0 ∧ nums.getD i 0 ≤ 1099511627776) := fun h i hi => by
              by_cases e : i = k
              · subst e; exact h
              · exact HALL.out i (by omega)
            generalize nums.getD k 0 = x at hc HN1 HNX
            by_cases hx : x < 0
            · obtain ⟨hC1, hB1⟩ := HN1.out (by omega)
              subst hC1
              subst hB1
              go_wp2
              go_ret2
              exact ⟨by simp [errV], Below.refl _ _⟩
            · have hx' : decide (x < 0) = false := by simp; omega
              by_cases hx2 : x > 1099511627776
              · obtain ⟨hC1, hB1⟩ := HN1.out (by omega)
                subst hC1
                subst hB1
                go_wp2
                go_ret2
                exact ⟨by simp [errV], Below.refl _ _⟩
              · have hx2' : decide (x > 1099511627776) = false := by simp; omega
                have HN2 := hide (HNX.out ⟨by omega, by omega⟩)
                go_wp2
                go_round
                case rel => exact ⟨k + 1, by omega, by go_num, HN2.out⟩
                case measure => simp [intOf]; omega
          · have hlti : ¬ (k : Int) < (n2 : Int) := by omega
            obtain rfl : k = n2 := by omega
            have HOK : Hid (HC = 0) := by
              show _ = _
              have h1 := HHC3.out
              rw [if_pos (numOk_of (fun i hi => HALL.out i (by rw [HNL.out] at hi; exact hi)))] at h1
              exact h1
            have HBV := hide (HB0.out HOK.out)
            have HLD := hide (lnLoad_any a k cap C a2 k cap2 nums w HS.out HS2.out (Nat.le_refl _) HIN.out.1 HALL.out)
            have hfar := ud_far (C := C) (N := nums) HIN.out.1 (k := C.length) (Nat.le_refl _) (fun i hi => HALL.out i (by rw [HCL.out] at hi; exact hi))
            have hsum := ud_sum C (fun i => nums.getD i 0) C.length
            rw [← hsum] at HBV
            unfold loadV at HLD
            clear hsum
            generalize upT C (fun i => nums.getD i 0) C.length = u at HLD hfar HBV
            generalize dnT C (fun i => nums.getD i 0) C.length = d at HLD hfar HBV
            have HME := hide (fun W => lnMet_any c less (u - d) W)
            rw [← HBV.out] at HME
            go_wp2_with fail
            refine HLD.out.mono ?_
            rintro e w1 ⟨rfl, hb1⟩
            have HB2 := hide (hb1.alloc hb1.size (.cells #[.int .i64 u, .int .i64 d] 71))
            clear hb1
            go_wp2_with fail
            refine (HME.out _).mono ?_
            rintro e w2 ⟨rfl, hb2⟩
            have HB3 := hide (below_step HB2.out hb2)
            have hok := HOK.out
            subst hok
            clear hb2
            go_wp2
            go_ret2
            exact ⟨by simp [errV], HB3.out⟩
      · have hnni : ((n2 : Int) == (n : Int)) = false := by simp; omega
        rw [if_neg hnn] at HHC2
        obtain rfl : HB = false := HB1.out (by rw [HHC2]; decide)
        subst HHC2
        clear HHC HB1 HB0
        go_enter Tryd.func16, Tryd.ntmps16
        go_wp2_with (go_at_call 31; refine HCK.out.mono ?_; rintro e w1 ⟨rfl, hw1⟩; rw [hw1]; clear hw1 w1)
        go_ret2
        exact ⟨by simp [errV], Below.refl _ _⟩
    · have hck1 : ckC C c = 1 := by unfold ckC at hck ⊢; split at hck <;> simp_all
      have hout : ¬ ((n ≤ 5 ∧ absT C C.length ≤ 12) ∧ -60 ≤ c ∧ c ≤ 60) := fun h => hck (by unfold ckC; rw [if_pos ⟨h.1.2, h.2⟩])
      have HHC2 := HHC.out
      rw [if_neg hout] at HHC2
      obtain rfl : HB = false := HB1.out (by rw [HHC2]; decide)
      subst HHC2
      rw [hck1, errV_no (by decide)] at HCK
      clear HHC HB1 HB0 hck hck1 hout
      go_enter Tryd.func16, Tryd.ntmps16
      go_wp2_with (go_at_call 31; refine HCK.out.mono ?_; rintro e w1 ⟨rfl, hw1⟩; rw [hw1]; clear hw1 w1)
      go_ret2
      exact ⟨by simp [errV], Below.refl _ _⟩
  · have h5i : (n : Int) > 5 := by omega
    have HHC2 := HHC.out
    rw [if_neg (fun h => h5 h.1.1)] at HHC2
    obtain rfl : HB = false := HB1.out (by rw [HHC2]; decide)
    subst HHC2
    clear HHC HB1 HB0
    go_enter Tryd.func16, Tryd.ntmps16
    go_wp2
    go_ret2
    exact ⟨by simp [errV], Below.refl _ _⟩
end Go.Proofs.YthadkoplbgibgaeDoor
