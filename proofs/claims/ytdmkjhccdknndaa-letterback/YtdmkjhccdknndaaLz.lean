/- The walk of the law LetterBack. -/
import Derived.Test.YtdmkjhccdknndaaLf
namespace Go.Proofs.Ytdmkjhccdknndaa
open Go.RowKit

/-- A slice that was just built. -/
theorem sl_lit (w : World) (t : TypeId) (l : List Int) (hm : l.length ≤ maxLen) (hw : ∀ x ∈ l, (Lit.int .i64 x).wf = true) : Sl (w.alloc (.cells (iArr l) t)) (some ⟨w.heap.size, 0, none⟩) l.length l := by
  refine ⟨rfl, hm, hw, Or.inr ⟨_, _, rfl, fun i hi => ?_⟩⟩
  rw [cell_of_row _ _ (0 + i) _ t (0, 0) (heap_alloc_last w _), Nat.zero_add, iArr_get _ _ hi]

theorem fact_word : wordL 2 [1, 4] = [1, 0, 2] := by decide +kernel
theorem fact_code : codeWd 2 [1, 4] = 0 := by decide +kernel

theorem word_fact (w : World) (a : Option Addr) (cap : Nat) (hs : Sl w a 2 [1, 4]) : Calls Try.prog 11 #[.int .i64 2, .slice a 2 cap] w (OfU w [1, 0, 2] .nilIface) := by
  have := word_u 2 a 2 cap [1, 4] w hs
  unfold WordU at this
  rw [fact_code, if_pos rfl, fact_word, errV_zero] at this
  exact this

set_option maxHeartbeats 2000000 in
set_option maxRecDepth 4000 in
theorem lback_any (b : Int) (a : Option Addr) (len cap : Nat) (nums : List Int) (w : World) (hs : Sl w a len nums) :
    Calls Try.prog 5 #[.int .i64 b, .slice a len cap] w fun e w' => e = .returned (.bool true) ∧ Below w.heap.size w w' := by
  have HS := hide hs
  have hL := hs.1
  have HW := hide (fun W (h : Sl W a len nums) => word_u b a len cap nums W h)
  unfold WordU at HW
  clear hs
  go_enter Try.func5, Try.ntmps5
  go_wp2_with fail
  refine (word_fact _ _ _ (sl_lit w 3 [1, 4] (by decide) (by decide))).mono ?_
  rintro e w1 ⟨a1, cap1, rfl, ⟨hs1, -⟩, hb1⟩
  have HB1 : Hid (Below w.heap.size w w1) := below_step ((Below.refl _ _).alloc (Nat.le_refl _) _) hb1
  have HS1 := hide hs1
  clear hs1 hb1
  go_wp2_with fail
  refine (ints_eq _ _ _ _ _ _ _ (sl_below HS1.out ((Below.refl _ _).alloc (Nat.le_refl _) _)) (sl_lit w1 3 [1, 0, 2] (by decide) (by decide))).mono ?_
  rintro e w2 ⟨rfl, hb2⟩
  have HB2 : Hid (Below w.heap.size w w2) := below_step (HB1.out.alloc HB1.out.size _) hb2
  clear HB1 HS1 hb2
  by_cases hc : codeWd b nums = 0
  · rw [hc, if_pos rfl, errV_zero] at HW
    have HNC := hide (word_codeNm hc)
    have HNN := hide (word_nums hc)
    have HRC := hide (word_codeW hc)
    have HRR := hide (word_right hc)
    have HH := hide (word_head hc)
    have hwl := wordL_length_le b nums
    rw [hL] at HNC HNN HRC HRR
    have HNU : Hid (∀ W a' cap', Sl W a' (wordL b nums).length (wordL b nums) → Calls Try.prog 12 #[.int .i64 b, .int .i64 len, .slice a' (wordL b nums).length cap'] W (OfU W nums .nilIface)) := by
      intro W a' cap' h
      have := nums_u b len a' _ cap' _ W h
      unfold NumsU at this
      rw [HNC.out, if_pos rfl, errV_zero, Int.toNat_natCast, HNN.out] at this
      exact this
    have HRU : Hid (∀ W a' cap', Sl W a' (wordL b nums).length (wordL b nums) → Calls Try.prog 13 #[.int .i64 b, .int .i64 len, .slice a' (wordL b nums).length cap'] W fun e w' => e = .returned (.tuple #[.bool true, .nilIface]) ∧ Below W.heap.size W w') := by
      intro W a' cap' h
      have := wright_u b len a' _ cap' _ W h
      rw [HRC.out, HRR.out, errV_zero] at this
      exact this
    clear HNC HNN HRC HRR hc
    generalize wordL b nums = wd at HW HNU HRU HH hwl
    go_wp2_with fail
    refine (HW.out w2 (sl_below HS.out HB2.out)).mono ?_
    rintro e w3 ⟨a3, cap3, rfl, ⟨hs3, -⟩, hb3⟩
    have HB3 := hide (below_step HB2.out hb3)
    have HS3 := hide hs3
    clear hs3 hb3 HB2 HW
    go_wp2_with fail
    refine (HNU.out w3 a3 cap3 HS3.out).mono ?_
    rintro e w4 ⟨a4, cap4, rfl, ⟨hs4, -⟩, hb4⟩
    have HB4 := hide (below_step HB3.out hb4)
    have HS34 := hide (sl_below HS3.out hb4)
    have HS4 := hide hs4
    clear hs4 hb4 HB3 HS3 HNU
    go_wp2_with fail
    refine (HRU.out w4 a3 cap3 HS34.out).mono ?_
    rintro e w5 ⟨rfl, hb5⟩
    have HB5 := hide (below_step HB4.out hb5)
    have HS35 := hide (sl_below HS34.out hb5)
    have HS45 := hide (sl_below HS4.out hb5)
    clear hb5 HB4 HS34 HS4 HRU
    rw [hL] at HS45
    go_wp2_with fail
    refine (ints_eq _ _ _ _ _ _ _ HS45.out (sl_below HS.out HB5.out)).mono ?_
    rintro e w6 ⟨rfl, hb6⟩
    have HB6 := hide (below_step HB5.out hb6)
    have HC := hide (sl_cell (sl_below HS35.out hb6) 0)
    clear hb6 HB5 HS35 HS45
    generalize hwn : wd.length = n at HH HC hwl ⊢
    clear hwn
    by_cases h0 : n = 0
    · subst h0
      go_wp2
      go_ret
      exact ⟨by simp, HB6.out⟩
    · obtain ⟨bb, o, rfl, hck⟩ := HC.out (by omega)
      have hne := HH.out (by omega)
      have hne' : (wd.getD 0 0 != 0) = true := by simpa using hne
      have hn0 : ((n : Int) == 0) = false := by simp; omega
      have hn1 : (0 : Int) < (n : Int) := by omega
      clear HC HH hne h0
      rw [Nat.add_zero] at hck
      generalize wd.getD 0 0 = x at hck hne'
      go_wp2
      go_ret
      exact ⟨by simp, HB6.out⟩
  · rw [if_neg hc, errV_ne hc] at HW
    generalize codeWd b nums = c at HW
    clear hc
    go_wp2_with fail
    refine (HW.out w2 (sl_below HS.out HB2.out)).mono ?_
    rintro e w3 ⟨a3, cap3, rfl, ⟨hs3, -⟩, hb3⟩
    have HB3 := hide (below_step HB2.out hb3)
    clear hs3 hb3 HB2 HW
    go_wp2
    go_ret
    exact ⟨by simp, HB3.out⟩
end Go.Proofs.Ytdmkjhccdknndaa
