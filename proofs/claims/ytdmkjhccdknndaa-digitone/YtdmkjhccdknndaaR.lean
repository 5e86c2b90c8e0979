/- The walk of the law DigitOne. -/
import Derived.Test.YtdmkjhccdknndaaQ
namespace Go.Proofs.Ytdmkjhccdknndaa
open Go.RowKit

theorem sl_built2 (w : World) (t : TypeId) : Sl (w.alloc (.cells #[.int .i64 1, .int .i64 1] t)) (some ⟨w.heap.size, 0, none⟩) 2 [1, 1] := by
  refine ⟨rfl, by decide, by decide, Or.inr ⟨_, _, rfl, fun i hi => ?_⟩⟩
  rw [cell_of_row _ _ (0 + i) _ t (0, 0) (heap_alloc_last w _)]
  have : i = 0 ∨ i = 1 := by omega
  rcases this with rfl | rfl <;> rfl

theorem value_fact (a : Option Addr) (cap : Nat) (w : World) (hs : Sl w a 2 [1, 1]) :
    Calls Try.prog 8 #[.int .i64 1, .slice a 2 cap] w fun e w' => e = .returned (.tuple #[.int .i64 3, .nilIface]) ∧ Below w.heap.size w w' := by
  have := value_ok 1 a 2 cap [1, 1] w (by decide) (by decide) (by decide) hs (by decide)
  unfold valV at this
  rw [fact_val, if_pos (by decide)] at this
  exact this

/-- What Right answers, and what Value: an error of both, or none of Right. -/
theorem one_err (b : Int) (a : Option Addr) (len cap : Nat) (w : World) (c c' : Int)
    (hr : ∀ W, Below w.heap.size w W → Calls Try.prog 9 #[.int .i64 b, .slice a len cap] W fun e w' => e = .returned (.tuple #[.bool false, .iface 39 (.int .i64 c)]) ∧ w' = W)
    (hv : ∀ W, Below w.heap.size w W → Calls Try.prog 8 #[.int .i64 b, .slice a len cap] W fun e w' => e = .returned (.tuple #[.int .i64 0, .iface 39 (.int .i64 c')]) ∧ w' = W) :
    Calls Try.prog 4 #[.int .i64 b, .slice a len cap] w fun e w' => e = .returned (.bool true) ∧ Below w.heap.size w w' := by
  have HR := hide hr
  have HV := hide hv
  clear hr hv
  go_enter Try.func4, Try.ntmps4
  go_wp2_with fail
  refine (value_fact _ _ _ (sl_built2 w 3)).mono ?_
  rintro e w1 ⟨rfl, hb⟩
  have HB : Hid (Below w.heap.size w w1) := below_step ((Below.refl _ _).alloc (Nat.le_refl _) _) hb
  clear hb
  go_wp2_with fail
  refine (HR.out _ HB.out).mono ?_
  rintro e w2 ⟨rfl, hw⟩
  rw [hw]
  clear hw w2
  go_wp2_with fail
  refine (HV.out _ HB.out).mono ?_
  rintro e w2 ⟨rfl, hw⟩
  rw [hw]
  clear hw w2
  go_wp2
  go_ret
  exact ⟨by simp, HB.out⟩

/-- Digits that count too much, or are not right, or begin with 0. -/
theorem one_full (b : Int) (a : Option Addr) (len cap : Nat) (w : World) (r : Bool)
    (hr : ∀ W, Below w.heap.size w W → Calls Try.prog 9 #[.int .i64 b, .slice a len cap] W fun e w' => e = .returned (.tuple #[.bool r, .nilIface]) ∧ w' = W)
    (hv : ∀ W, Below w.heap.size w W → Calls Try.prog 8 #[.int .i64 b, .slice a len cap] W fun e w' => e = .returned (.tuple #[.int .i64 0, .iface 39 (.int .i64 3)]) ∧ Below W.heap.size W w') :
    Calls Try.prog 4 #[.int .i64 b, .slice a len cap] w fun e w' => e = .returned (.bool true) ∧ Below w.heap.size w w' := by
  have HR := hide hr
  have HV := hide hv
  clear hr hv
  go_enter Try.func4, Try.ntmps4
  go_wp2_with fail
  refine (value_fact _ _ _ (sl_built2 w 3)).mono ?_
  rintro e w1 ⟨rfl, hb⟩
  have HB : Hid (Below w.heap.size w w1) := below_step ((Below.refl _ _).alloc (Nat.le_refl _) _) hb
  clear hb
  go_wp2_with fail
  refine (HR.out _ HB.out).mono ?_
  rintro e w2 ⟨rfl, hw⟩
  rw [hw]
  clear hw w2
  go_wp2_with fail
  refine (HV.out _ HB.out).mono ?_
  rintro e w2 ⟨rfl, hb⟩
  have HB2 := hide (below_step HB.out hb)
  clear hb
  go_wp2
  go_ret
  exact ⟨by simp, HB2.out⟩

set_option maxHeartbeats 1000000 in
theorem one_false (b : Int) (a : Option Addr) (len cap : Nat) (w : World) (v : Int)
    (hr : ∀ W, Below w.heap.size w W → Calls Try.prog 9 #[.int .i64 b, .slice a len cap] W fun e w' => e = .returned (.tuple #[.bool false, .nilIface]) ∧ w' = W)
    (hv : ∀ W, Below w.heap.size w W → Calls Try.prog 8 #[.int .i64 b, .slice a len cap] W fun e w' => e = .returned (.tuple #[.int .i64 v, .nilIface]) ∧ Below W.heap.size W w') :
    Calls Try.prog 4 #[.int .i64 b, .slice a len cap] w fun e w' => e = .returned (.bool true) ∧ Below w.heap.size w w' := by
  have HR := hide hr
  have HV := hide hv
  clear hr hv
  go_enter Try.func4, Try.ntmps4
  go_wp2_with fail
  refine (value_fact _ _ _ (sl_built2 w 3)).mono ?_
  rintro e w1 ⟨rfl, hb⟩
  have HB : Hid (Below w.heap.size w w1) := below_step ((Below.refl _ _).alloc (Nat.le_refl _) _) hb
  clear hb
  go_wp2_with fail
  refine (HR.out _ HB.out).mono ?_
  rintro e w2 ⟨rfl, hw⟩
  rw [hw]
  clear hw w2
  go_wp2_with fail
  refine (HV.out _ HB.out).mono ?_
  rintro e w2 ⟨rfl, hb⟩
  have HB2 := hide (below_step HB.out hb)
  clear hb
  go_wp2
  go_ret
  exact ⟨by simp, HB2.out⟩

set_option maxHeartbeats 1000000 in
theorem one_zero (b : Int) (a : Option Addr) (len cap : Nat) (l : List Int) (w : World) (v : Int) (hs : Sl w a len l) (hp : 0 < len) (hz : l.getD 0 0 = 0)
    (hr : ∀ W, Below w.heap.size w W → Calls Try.prog 9 #[.int .i64 b, .slice a len cap] W fun e w' => e = .returned (.tuple #[.bool true, .nilIface]) ∧ w' = W)
    (hv : ∀ W, Below w.heap.size w W → Calls Try.prog 8 #[.int .i64 b, .slice a len cap] W fun e w' => e = .returned (.tuple #[.int .i64 v, .nilIface]) ∧ Below W.heap.size W w') :
    Calls Try.prog 4 #[.int .i64 b, .slice a len cap] w fun e w' => e = .returned (.bool true) ∧ Below w.heap.size w w' := by
  have HR := hide hr
  have HV := hide hv
  have HS := hide hs
  have HZ := hide hz
  have hpi : (0 : Int) < (len : Int) := by omega
  clear hr hv hs hz
  go_enter Try.func4, Try.ntmps4
  go_wp2_with fail
  refine (value_fact _ _ _ (sl_built2 w 3)).mono ?_
  rintro e w1 ⟨rfl, hb⟩
  have HB : Hid (Below w.heap.size w w1) := below_step ((Below.refl _ _).alloc (Nat.le_refl _) _) hb
  clear hb
  go_wp2_with fail
  refine (HR.out _ HB.out).mono ?_
  rintro e w2 ⟨rfl, hw⟩
  rw [hw]
  clear hw w2
  go_wp2_with fail
  refine (HV.out _ HB.out).mono ?_
  rintro e w2 ⟨rfl, hb⟩
  have HB2 := hide (below_step HB.out hb)
  clear hb
  obtain ⟨bb, o, rfl, hc⟩ := sl_cell (sl_below HS.out HB2.out) 0 hp
  rw [HZ.out, Nat.add_zero] at hc
  go_wp2
  go_ret
  exact ⟨by simp, HB2.out⟩

set_option maxHeartbeats 1000000 in
theorem one_true (b : Int) (a : Option Addr) (len cap : Nat) (l : List Int) (w : World) (h1 : 1 ≤ b) (h2 : b ≤ 6) (hs : Sl w a len l) (hz : 0 < len → l.getD 0 0 ≠ 0)
    (hn : 0 ≤ val b l) (hn' : val b l ≤ 1099511627776) (hu : dgs b (val b l) = l)
    (hr : ∀ W, Below w.heap.size w W → Calls Try.prog 9 #[.int .i64 b, .slice a len cap] W fun e w' => e = .returned (.tuple #[.bool true, .nilIface]) ∧ w' = W)
    (hv : ∀ W, Below w.heap.size w W → Calls Try.prog 8 #[.int .i64 b, .slice a len cap] W fun e w' => e = .returned (.tuple #[.int .i64 (val b l), .nilIface]) ∧ Below W.heap.size W w') :
    Calls Try.prog 4 #[.int .i64 b, .slice a len cap] w fun e w' => e = .returned (.bool true) ∧ Below w.heap.size w w' := by
  have HO : Hid (∀ W, Calls Try.prog 6 #[.int .i64 b, .int .i64 (val b l)] W (OfGives W l)) := fun W => by
    have := of_gives b (val b l) W h1 h2 hn hn'
    rw [hu] at this
    exact this
  clear hu
  generalize val b l = v at hn hn' hv HO
  have HR := hide hr
  have HV := hide hv
  have HS := hide hs
  have HZ := hide hz
  have HL : Hid (l.length = len) := hs.1
  clear hr hv hs hz
  go_enter Try.func4, Try.ntmps4
  go_wp2_with fail
  refine (value_fact _ _ _ (sl_built2 w 3)).mono ?_
  rintro e w1 ⟨rfl, hb⟩
  have HB : Hid (Below w.heap.size w w1) := below_step ((Below.refl _ _).alloc (Nat.le_refl _) _) hb
  clear hb
  go_wp2_with fail
  refine (HR.out _ HB.out).mono ?_
  rintro e w2 ⟨rfl, hw⟩
  rw [hw]
  clear hw w2
  go_wp2_with fail
  refine (HV.out _ HB.out).mono ?_
  rintro e w2 ⟨rfl, hb⟩
  have HB2 := hide (below_step HB.out hb)
  clear hb
  have hL : (¬ (0 : Int) < (len : Int)) ∨ ((0 : Int) < (len : Int) ∧ ∃ bb o, ∃ x : Int, a = some ⟨bb, o, none⟩ ∧ w2.cell? ⟨bb, o, none⟩ = some (.int .i64 x) ∧ (x == 0) = false) := by
    by_cases e : 0 < len
    · obtain ⟨bb, o, h3, h4⟩ := sl_cell (sl_below HS.out HB2.out) 0 e
      exact Or.inr ⟨by omega, bb, o, _, h3, h4, by simpa using HZ.out e⟩
    · exact Or.inl (by omega)
  clear HZ
  rcases hL with hL | ⟨hL, bb, o, x, rfl, hcx, hx⟩
  all_goals
    go_wp2_with fail
    refine (HO.out _).mono ?_
    rintro e w3 ⟨a', cap', rfl, hs', hb⟩
    rw [HL.out] at hs' ⊢
    have HS' := hide hs'
    have HB3 := hide (below_step HB2.out hb)
    clear hs' hb
    go_wp2_with fail
    refine (ints_eq _ _ _ _ _ _ _ HS'.out (sl_below HS.out HB3.out)).mono ?_
    rintro e w4 ⟨rfl, hb⟩
    have HB4 := hide (below_step HB3.out hb)
    clear hb
    go_wp2
    go_ret
    exact ⟨by simp, HB4.out⟩

theorem one_any (b : Int) (a : Option Addr) (len cap : Nat) (l : List Int) (w : World) (hs : Sl w a len l) :
    Calls Try.prog 4 #[.int .i64 b, .slice a len cap] w fun e w' => e = .returned (.bool true) ∧ Below w.heap.size w w' := by
  by_cases hb : 1 ≤ b ∧ b ≤ 6
  · obtain ⟨h1, h2⟩ := hb
    by_cases hl : len ≤ 60
    · cases hd : digB b l with
      | false => exact one_err b a len cap w 1 1 (fun W hW => right_bad b a len cap l W h1 h2 hl (sl_below hs hW) hd) (fun W hW => value_bad b a len cap l W h1 h2 hl (sl_below hs hW) hd)
      | true =>
        have hr := fun W (hW : Below w.heap.size w W) => right_ok b a len cap l W h1 h2 hl (sl_below hs hW) hd
        have hv := fun W (hW : Below w.heap.size w W) => value_ok b a len cap l W h1 h2 hl (sl_below hs hW) hd
        by_cases hf : val b l ≤ 1099511627776
        · simp only [valV, if_pos hf] at hv
          cases hrr : rightB b l with
          | false => rw [hrr] at hr; exact one_false b a len cap w _ hr hv
          | true =>
            rw [hrr] at hr
            by_cases hz : 0 < len ∧ l.getD 0 0 = 0
            · exact one_zero b a len cap l w _ hs hz.1 hz.2 hr hv
            · have hz' : 0 < len → l.getD 0 0 ≠ 0 := fun h e => hz ⟨h, e⟩
              have hL := hs.1
              exact one_true b a len cap l w h1 h2 hs hz' (val_nonneg b h1 h2 l hd) hf (dgs_unique b h1 h2 l (by omega) hd hrr hf (by rw [hL]; exact hz')) hr hv
        · simp only [valV, if_neg hf] at hv
          exact one_full b a len cap w _ hr hv
    · exact one_err b a len cap w 3 3 (fun W _ => right_full b a len cap W h1 h2 (by omega) hs.2.1) (fun W _ => value_full b a len cap W h1 h2 (by omega) hs.2.1)
  · exact one_err b a len cap w 1 1 (fun W _ => right_range b a len cap W (by omega)) (fun W _ => value_range b a len cap W (by omega))
end Go.Proofs.Ytdmkjhccdknndaa
