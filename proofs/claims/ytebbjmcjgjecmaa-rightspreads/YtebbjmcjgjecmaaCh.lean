/- least.Check, Same, Differ: contracts. -/
import Derived.Shelf.Abstract
import Derived.Test.YtebbjmcjgjecmaaZLp
import Derived.Test.YtebbjmcjgjecmaaCf
namespace Go.Proofs.Ytebbjmcjgjecmaa
open Go.RowKit

set_option maxHeartbeats 4000000 in
set_option maxRecDepth 4000 in
theorem checkBoth_u (b t : Int) (a1 : Option Addr) (n c1 : Nat) (e1 : Option Addr) (k d1 : Nat) (b' t' : Int) (a2 : Option Addr) (n' c2 : Nat) (e2 : Option Addr) (k' d2 : Nat) (N N' : List (List Int)) (w : World) (h1 : Sl2 w a1 n N) (g1 : k ≤ maxLen) (h2 : Sl2 w a2 n' N') (g2 : k' ≤ maxLen) :
    Calls Try.prog 16 #[.agg #[.int .i64 b, .int .i64 t, .slice a1 n c1, .slice e1 k d1], .agg #[.int .i64 b', .int .i64 t', .slice a2 n' c2, .slice e2 k' d2]] w fun e w' => e = .returned (errV (alikeC b t N k b' t' N' k')) ∧ Below w.heap.size w w' := by
  have hB := below_two w (.cells #[.int .i64 b, .int .i64 t, .slice a1 n c1, .slice e1 k d1] 25) (.cells #[.int .i64 b', .int .i64 t', .slice a2 n' c2, .slice e2 k' d2] 25)
  have HB := hide hB
  have HF1 := hide (check_u b t a1 e1 n c1 k d1 N _ (sl2_below h1 hB) g1)
  have HF2 := hide (fun W h => check_u b' t' a2 e2 n' c2 k' d2 N' W h g2)
  have HS2 := hide (sl2_below h2 hB)
  have HBX := hide (fun w' => @two_boxes w w' (.int .i64 b) (.int .i64 t) (.slice a1 n c1) (.slice e1 k d1) (.int .i64 b') (.int .i64 t') (.slice a2 n' c2) (.slice e2 k' d2) 25)
  clear h1 h2 g1 g2 hB
  have HC : Hid (alikeC b t N k b' t' N' k' = if autoC b t N k = 0 then (if autoC b' t' N' k' = 0 then (if b = b' ∧ t = t' then 0 else 2) else autoC b' t' N' k') else autoC b t N k) := rfl
  generalize alikeC b t N k b' t' N' k' = R at HC ⊢
  generalize autoC b t N k = x at HC HF1
  generalize autoC b' t' N' k' = y at HC HF2
  generalize hW0 : (w.alloc (.cells #[.int .i64 b, .int .i64 t, .slice a1 n c1, .slice e1 k d1] 25)).alloc (.cells #[.int .i64 b', .int .i64 t', .slice a2 n' c2, .slice e2 k' d2] 25) = w0 at HB HF1 HS2 HBX
  obtain ⟨⟨p0, p1, p2, p3⟩, q0, q1, q2, q3⟩ := HBX.out w0 (Below.refl _ _)
  go_enter Try.func16, Try.ntmps16
  go_wp2_with fail
  clear hW0 p0 p1 p2 p3 q0 q1 q2 q3
  refine HF1.out.mono ?_
  rintro e w1 ⟨rfl, hb1⟩
  have HB1 := hide hb1
  have HW1 := hide (below_step HB.out hb1)
  clear hb1 HF1
  by_cases hx : x = 0
  · rw [if_pos hx] at HC
    rw [errV_yes hx]
    obtain ⟨⟨p0, p1, p2, p3⟩, q0, q1, q2, q3⟩ := HBX.out w1 HB1.out
    go_wp2_with fail
    refine (HF2.out w1 (sl2_below HS2.out HB1.out)).mono ?_
    rintro e w2 ⟨rfl, hb2⟩
    have HB2 := hide (below_step HB1.out hb2)
    have HW2 := hide (below_step HW1.out hb2)
    clear hb2 p0 p1 p2 p3 q0 q1 q2 q3
    by_cases hy : y = 0
    · rw [if_pos hy] at HC
      rw [errV_yes hy]
      obtain ⟨⟨p0, p1, p2, p3⟩, q0, q1, q2, q3⟩ := HBX.out w2 HB2.out
      by_cases h : b = b' ∧ t = t'
      · rw [if_pos h] at HC
        obtain ⟨rfl, rfl⟩ := h
        have hbb : (b != b) = false := by simp
        have htt : (t != t) = false := by simp
        go_wp2
        go_ret
        exact ⟨by rw [HC.out]; simp [errV], HW2.out⟩
      · rw [if_neg h] at HC
        have h' : (b != b') = true ∨ ((b != b') = false ∧ (t != t') = true) := by
          by_cases hb : b = b'
          · exact .inr ⟨by simpa using hb, by simpa using fun e => h ⟨hb, e⟩⟩
          · exact .inl (by simpa using hb)
        clear h
        rcases h' with h | ⟨h, h'⟩
        all_goals
          go_wp2
          go_ret
          exact ⟨by rw [HC.out]; simp [errV], HW2.out⟩
    · rw [if_neg hy] at HC
      rw [errV_no hy]
      have HY := hide hy
      clear hy
      go_wp2
      go_ret
      exact ⟨by rw [HC.out, errV_no HY.out]; simp, HW2.out⟩
  · rw [if_neg hx] at HC
    rw [errV_no hx]
    have HX := hide hx
    clear hx
    go_wp2
    go_ret
    exact ⟨by rw [HC.out, errV_no HX.out]; simp, HW1.out⟩

theorem alikeC_zero {b t : Int} {N : List (List Int)} {k : Nat} {b' t' : Int} {N' : List (List Int)} {k' : Nat} (h : alikeC b t N k b' t' N' k' = 0) : autoC b t N k = 0 ∧ autoC b' t' N' k' = 0 ∧ b = b' ∧ t = t' := by
  unfold alikeC at h
  split at h
  · split at h
    · split at h
      · rename_i h1 h2 h3
        exact ⟨h1, h2, h3⟩
      · cases h
    · contradiction
  · contradiction

end Go.Proofs.Ytebbjmcjgjecmaa
