/- The walk of the law DigitBack. -/
import Derived.Test.YtdmkjhccdknndaaP
import Derived.Test.YtdmkjhccdknndaaU
namespace Go.Proofs.Ytdmkjhccdknndaa
open Go.RowKit

theorem of_gives (b n : Int) (w : World) (h1 : 1 ≤ b) (h2 : b ≤ 6) (hn : 0 ≤ n) (hn' : n ≤ 1099511627776) : Calls Try.prog 6 #[.int .i64 b, .int .i64 n] w (OfGives w (dgs b n)) := of_ok b n w h1 h2 hn hn'

/-- A slice that was just built. -/
theorem sl_built5 (w : World) (t : TypeId) : Sl (w.alloc (.cells #[.int .i64 1, .int .i64 0, .int .i64 1, .int .i64 0, .int .i64 0] t)) (some ⟨w.heap.size, 0, none⟩) 5 [1, 0, 1, 0, 0] := by
  refine ⟨rfl, by decide, by decide, Or.inr ⟨_, _, rfl, fun i hi => ?_⟩⟩
  rw [cell_of_row _ _ (0 + i) _ t (0, 0) (heap_alloc_last w _)]
  have : i = 0 ∨ i = 1 ∨ i = 2 ∨ i = 3 ∨ i = 4 := by omega
  rcases this with rfl | rfl | rfl | rfl | rfl <;> rfl


set_option maxHeartbeats 1000000 in
theorem back_range (b n m : Int) (w : World) (h : b < 1 ∨ 6 < b) :
    Calls Try.prog 3 #[.int .i64 b, .int .i64 n, .int .i64 m] w fun e w' => e = .returned (.bool true) ∧ Below w.heap.size w w' := by
  go_enter Try.func3, Try.ntmps3
  go_wp2_with fail
  refine (of_gives 1 11 w (by decide) (by decide) (by decide) (by decide)).mono ?_
  rintro e w1 ⟨a, cap, rfl, hs, hb⟩
  rw [fact_of] at hs ⊢
  have HS := hide hs
  have HB := hide hb
  clear hs hb
  go_wp2_with fail
  refine (ints_eq _ _ _ _ _ _ _ (sl_below HS.out ((Below.refl _ _).alloc (Nat.le_refl _) _)) (sl_built5 w1 3)).mono ?_
  rintro e w2 ⟨rfl, hb2⟩
  have HB2 : Hid (Below w.heap.size w w2) := below_step (HB.out.alloc HB.out.size _) hb2
  clear HB HS hb2
  go_wp2_with fail
  refine (of_range b n _ h).mono ?_
  rintro e w3 ⟨rfl, rfl⟩
  go_wp2_with fail
  refine (of_range b m _ h).mono ?_
  rintro e w3 ⟨rfl, rfl⟩
  go_wp2
  go_ret
  exact ⟨by simp, HB2.out⟩

set_option maxHeartbeats 1000000 in
theorem back_far (b n m : Int) (w : World) (h1 : 1 ≤ b) (h2 : b ≤ 6) (h : n < 0 ∨ 1099511627776 < n) :
    Calls Try.prog 3 #[.int .i64 b, .int .i64 n, .int .i64 m] w fun e w' => e = .returned (.bool true) ∧ Below w.heap.size w w' := by
  go_enter Try.func3, Try.ntmps3
  go_wp2_with fail
  refine (of_gives 1 11 w (by decide) (by decide) (by decide) (by decide)).mono ?_
  rintro e w1 ⟨a, cap, rfl, hs, hb⟩
  rw [fact_of] at hs ⊢
  have HS := hide hs
  have HB := hide hb
  clear hs hb
  go_wp2_with fail
  refine (ints_eq _ _ _ _ _ _ _ (sl_below HS.out ((Below.refl _ _).alloc (Nat.le_refl _) _)) (sl_built5 w1 3)).mono ?_
  rintro e w2 ⟨rfl, hb2⟩
  have HB2 : Hid (Below w.heap.size w w2) := below_step (HB.out.alloc HB.out.size _) hb2
  clear HB HS hb2
  go_wp2_with fail
  refine (of_far b n _ h1 h2 h).mono ?_
  rintro e w3 ⟨rfl, hw⟩
  rw [hw]
  clear hw w3
  go_wp2_with fail
  by_cases hm : 0 ≤ m ∧ m ≤ 1099511627776
  · refine (of_gives b m _ h1 h2 hm.1 hm.2).mono ?_
    rintro e w3 ⟨a', cap', rfl, hs, hb⟩
    have HB := hide hb
    clear hs hb hm
    go_wp2
    go_ret
    exact ⟨by simp, below_step HB2.out HB.out⟩
  · refine (of_far b m _ h1 h2 (by omega)).mono ?_
    rintro e w3 ⟨rfl, hw⟩
    rw [hw]
    clear hw w3 hm
    go_wp2
    go_ret
    exact ⟨by simp, HB2.out⟩

set_option maxHeartbeats 1000000 in
theorem back_far2 (b n m : Int) (w : World) (h1 : 1 ≤ b) (h2 : b ≤ 6) (hn : 0 ≤ n) (hn' : n ≤ 1099511627776) (h : m < 0 ∨ 1099511627776 < m) :
    Calls Try.prog 3 #[.int .i64 b, .int .i64 n, .int .i64 m] w fun e w' => e = .returned (.bool true) ∧ Below w.heap.size w w' := by
  go_enter Try.func3, Try.ntmps3
  go_wp2_with fail
  refine (of_gives 1 11 w (by decide) (by decide) (by decide) (by decide)).mono ?_
  rintro e w1 ⟨a, cap, rfl, hs, hb⟩
  rw [fact_of] at hs ⊢
  have HS := hide hs
  have HB := hide hb
  clear hs hb
  go_wp2_with fail
  refine (ints_eq _ _ _ _ _ _ _ (sl_below HS.out ((Below.refl _ _).alloc (Nat.le_refl _) _)) (sl_built5 w1 3)).mono ?_
  rintro e w2 ⟨rfl, hb2⟩
  have HB2 : Hid (Below w.heap.size w w2) := below_step (HB.out.alloc HB.out.size _) hb2
  clear HB HS hb2
  go_wp2_with fail
  refine (of_gives b n _ h1 h2 hn hn').mono ?_
  rintro e w3 ⟨a', cap', rfl, hs, hb⟩
  have HB := hide hb
  clear hs hb
  go_wp2_with fail
  refine (of_far b m _ h1 h2 h).mono ?_
  rintro e w4 ⟨rfl, hw⟩
  rw [hw]
  clear hw w4
  go_wp2
  go_ret
  exact ⟨by simp, below_step HB2.out HB.out⟩

theorem value_of (b n : Int) (a : Option Addr) (cap : Nat) (w : World) (h1 : 1 ≤ b) (h2 : b ≤ 6) (hn : 0 ≤ n) (hn' : n ≤ 1099511627776) (hs : Sl w a (dgs b n).length (dgs b n)) :
    Calls Try.prog 8 #[.int .i64 b, .slice a (dgs b n).length cap] w fun e w' => e = .returned (.tuple #[.int .i64 n, .nilIface]) ∧ Below w.heap.size w w' := by
  have := value_ok b a (dgs b n).length cap (dgs b n) w h1 h2 (dgs_length b n) hs (dgs_digB b n h1 h2 hn hn')
  unfold valV at this
  rw [dgs_val, if_pos hn'] at this
  exact this

set_option maxHeartbeats 1000000 in
theorem back_ok (b n m : Int) (w : World) (h1 : 1 ≤ b) (h2 : b ≤ 6) (hn : 0 ≤ n) (hn' : n ≤ 1099511627776) (hm : 0 ≤ m) (hm' : m ≤ 1099511627776) :
    Calls Try.prog 3 #[.int .i64 b, .int .i64 n, .int .i64 m] w fun e w' => e = .returned (.bool true) ∧ Below w.heap.size w w' := by
  go_enter Try.func3, Try.ntmps3
  go_wp2_with fail
  refine (of_gives 1 11 w (by decide) (by decide) (by decide) (by decide)).mono ?_
  rintro e w1 ⟨a, cap, rfl, hs, hb⟩
  rw [fact_of] at hs ⊢
  have HS := hide hs
  have HB := hide hb
  clear hs hb
  go_wp2_with fail
  refine (ints_eq _ _ _ _ _ _ _ (sl_below HS.out ((Below.refl _ _).alloc (Nat.le_refl _) _)) (sl_built5 w1 3)).mono ?_
  rintro e w2 ⟨rfl, hb2⟩
  have HB2 : Hid (Below w.heap.size w w2) := below_step (HB.out.alloc HB.out.size _) hb2
  clear HB HS hb2
  go_wp2_with fail
  refine (of_gives b n _ h1 h2 hn hn').mono ?_
  rintro e w3 ⟨a, cap, rfl, hs, hb⟩
  have HB3 := hide (below_step HB2.out hb)
  have HS := hide hs
  clear hs hb HB2
  go_wp2_with fail
  refine (of_gives b m _ h1 h2 hm hm').mono ?_
  rintro e w4 ⟨a', cap', rfl, hs', hb⟩
  have HB4 := hide (below_step HB3.out hb)
  have HS4 := hide (sl_below HS.out hb)
  have HS' := hide hs'
  clear hs' hb HB3 HS
  go_wp2_with fail
  refine (value_of b n a cap w4 h1 h2 hn hn' HS4.out).mono ?_
  rintro e w5 ⟨rfl, hb⟩
  have HB5 := hide (below_step HB4.out hb)
  have HS5 := hide (sl_below HS4.out hb)
  have HS5' := hide (sl_below HS'.out hb)
  clear hb HB4 HS4 HS'
  go_wp2_with fail
  refine (right_ok b a (dgs b n).length cap (dgs b n) w5 h1 h2 (dgs_length b n) HS5.out (dgs_digB b n h1 h2 hn hn')).mono ?_
  rintro e w6 ⟨rfl, hw⟩
  rw [hw, dgs_rightB b n hn hn']
  clear hw w6
  go_wp2_with fail
  refine (less_ok b a a' (dgs b n).length cap (dgs b m).length cap' w5 n m (value_of b n a cap w5 h1 h2 hn hn' HS5.out) (fun W hW => value_of b m a' cap' W h1 h2 hm hm' (sl_below HS5'.out hW))).mono ?_
  rintro e w6 ⟨rfl, hb⟩
  have HB6 := hide (below_step HB5.out hb)
  have HS6 := hide (sl_below HS5.out hb)
  clear hb HB5 HS5 HS5'
  have HH := hide (dgs_head b n)
  have HM := hide (dgs_len_mono b n m h1 h2 hn hm')
  have hl := dgs_length b n
  have hl' := dgs_length b m
  have HC := hide (sl_cell HS6.out 0)
  generalize dgs b n = l at HH HM hl HC HS6 ⊢
  generalize dgs b m = l' at HM hl' ⊢
  clear HS6
  generalize l'.length = L' at HM hl' ⊢
  generalize hLL : l.length = L at HH HM hl HC ⊢
  clear hLL
  have hless : decide (n < m) = true ∨ decide (n < m) = false := by cases decide (n < m) <;> simp
  have hnm : m < n ∨ (n ≤ m ∧ (L : Int) ≤ (L' : Int)) := by
    by_cases e : m < n
    · exact Or.inl e
    · exact Or.inr ⟨by omega, by have := HM.out (by omega); omega⟩
  have hL : (¬ (0 : Int) < (L : Int)) ∨ ((0 : Int) < (L : Int) ∧ ∃ bb o, ∃ x : Int, a = some ⟨bb, o, none⟩ ∧ w6.cell? ⟨bb, o, none⟩ = some (.int .i64 x) ∧ (x == 0) = false) := by
    by_cases e : 0 < L
    · obtain ⟨bb, o, h3, h4⟩ := HC.out e
      exact Or.inr ⟨by omega, bb, o, _, h3, h4, by simpa using HH.out e⟩
    · exact Or.inl (by omega)
  clear HC HH HM
  generalize hq : decide (n < m) = q at hless ⊢
  rcases hL with hL | ⟨hL, bb, o, x, rfl, hcx, hx⟩
  all_goals
    rcases hnm with hnm | ⟨hnm, hLl⟩
    all_goals
      go_wp2
      go_ret
      exact ⟨by simp [*], HB6.out⟩

theorem back_any (a0 : Int) (a1 : Int) (a2 : Int) (w : World) :
    Calls Try.prog 3 #[.int .i64 a0, .int .i64 a1, .int .i64 a2] w fun e w' => e = .returned (.bool true) ∧ Below w.heap.size w w' := by
  by_cases hb : 1 ≤ a0 ∧ a0 ≤ 6
  · obtain ⟨h1, h2⟩ := hb
    by_cases hn : 0 ≤ a1 ∧ a1 ≤ 1099511627776
    · by_cases hm : 0 ≤ a2 ∧ a2 ≤ 1099511627776
      · exact back_ok a0 a1 a2 w h1 h2 hn.1 hn.2 hm.1 hm.2
      · exact back_far2 a0 a1 a2 w h1 h2 hn.1 hn.2 (by omega)
    · exact back_far a0 a1 a2 w h1 h2 (by omega)
  · exact back_range a0 a1 a2 w (by omega)
end Go.Proofs.Ytdmkjhccdknndaa
