/- 2 texts in one. -/
import Derived.Test.YtgbmemkoggogdaaMa
import Derived.Test.YtgbmemkoggogdaaB
namespace Go.Proofs.Ytgbmemkoggogdaa
open Go.RowKit

theorem zArr (b : Int) : (cArr b 0) = (#[.int .i64 0, .int .i64 0, .int .i64 0, .int .i64 0, .int .i64 0, .int .i64 0, .int .i64 0, .int .i64 0, .int .i64 0, .int .i64 0, .int .i64 0, .int .i64 0, .int .i64 0, .int .i64 0, .int .i64 0, .int .i64 0, .int .i64 0, .int .i64 0, .int .i64 0, .int .i64 0, .int .i64 0, .int .i64 0, .int .i64 0, .int .i64 0, .int .i64 0, .int .i64 0, .int .i64 0, .int .i64 0, .int .i64 0, .int .i64 0, .int .i64 0, .int .i64 0, .int .i64 0, .int .i64 0, .int .i64 0, .int .i64 0, .int .i64 0, .int .i64 0, .int .i64 0, .int .i64 0, .int .i64 0, .int .i64 0, .int .i64 0, .int .i64 0, .int .i64 0, .int .i64 0, .int .i64 0, .int .i64 0, .int .i64 0, .int .i64 0, .int .i64 0, .int .i64 0, .int .i64 0, .int .i64 0, .int .i64 0, .int .i64 0, .int .i64 0, .int .i64 0, .int .i64 0, .int .i64 0] : Array Value) := by rw [cArr_zero]; rfl
theorem info37 : (Try.prog.info? 77).map (·.size) = some 60 := by kernel_rfl
set_option maxHeartbeats 1000000 in
set_option maxRecDepth 4000 in
theorem counts_any (b : Int) (w : World) (h1 : 1 ≤ b) (h2 : b ≤ 6) :
    Calls Try.prog 39 #[.int .i64 b] w fun e w' => e = .returned (.agg (cArr b 60)) ∧ w' = (w.alloc (.cells (cArr b 60) 77)).alloc (.cells (cArr b 60) 77) := by
  go_enter Try.func39, Try.ntmps39
  go_wp2
  rw [← zArr b]
  go_loopg [4, 5, 6] 60 (fun g s4 s5 s6 wx => ∃ k : Nat, k + g = 60 ∧ s4 = .int .i64 (cnt b k) ∧ s5 = .int .i64 (ahd b k) ∧ s6 = .int .i64 (59 - k) ∧ wx = (w.alloc (.cells (cArr b 0) 77)).alloc (.cells (cArr b k) 77))
  case atStart => exact ⟨0, by omega, rfl, rfl, rfl, rfl⟩
  case round =>
    obtain ⟨k, hkg, rfl, rfl, rfl, rfl⟩ := hrel
    cases gk with
    | zero =>
      obtain rfl : k = 60 := by omega
      have H0 := hide (heap_alloc2_fst w (.cells (cArr b 0) 77) (.cells (cArr b 60) 77))
      have H1 := hide (heap_alloc2_snd w (.cells (cArr b 0) 77) (.cells (cArr b 60) 77))
      have H2 := hide (heap_alloc2_fst w (.cells (cArr b 60) 77) (.cells (cArr b 60) 77))
      have HR := hide (setRow_alloc2_fst w (cArr b 0) (cArr b 60) 77 (.cells (cArr b 60) 77))
      have HI : Hid ((Try.prog.info? 77).map (·.size) = some (cArr b 60).size) := by rw [cArr_size]; exact info37
      go_wp2_with (first
        | (refine wpList_load_row rfl 77 _ rfl _ rfl _ _ _ _ _ H1.out Try.underlying77 HI.out ?_)
        | (refine wpList_store_row rfl 77 _ _ rfl _ _ _ rfl rfl _ H0.out HI.out (by rw [cArr_size, cArr_size]) (cArr_one b 60) ?_; rw [HR.out]))
      refine bodyPost_ret (v := .agg (cArr b 60)) ?_ rfl ⟨rfl, rfl⟩
      exact results_cell1 Try.results39 _ _ _ _ _ _ _ _ rfl H2.out Try.underlying77 HI.out
    | succ g =>
      have hk : 0 ≤ (59 : Int) - (k : Int) := by omega
      have hk2 : (59 : Int) - (k : Int) < 60 := by omega
      have hcb := cnt_bd b h1 h2 k
      obtain ⟨⟨hc1, hc2⟩, hc3, hc4⟩ := hcb
      have HC := hide (cnt_succ b k)
      have hcell := cArr_get b k (59 - k) (by omega)
      have HS := hide (cArr_set b k (by omega))
      by_cases hb : b = 1
      · have hb' : (b == 1) = true := by simpa using hb
        rw [if_pos hb] at HC
        clear hb
        go_wp2
        all_goals
          go_roundg g
          case measure => omega
          case rel =>
            refine ⟨k + 1, by omega, ?_, rfl, by go_num, by rw [HS.out]⟩
            rw [HC.out]; congr 1; omega
      · have hb' : (b == 1) = false := by simpa using hb
        have hm1 : 1 ≤ cnt b k * b := by have := Int.mul_le_mul hc1 h1 (by omega) (by omega); omega
        have hm2 : cnt b k * b ≤ 1099511627777 * 6 := by have := Int.mul_le_mul hc2 h2 (by omega) (by omega); omega
        rw [if_neg hb] at HC
        clear hb
        go_wp2
        all_goals
          go_roundg g
          case measure => omega
          case rel =>
            refine ⟨k + 1, by omega, ?_, rfl, by go_num, by rw [HS.out]⟩
            rw [HC.out]; congr 1; omega
end Go.Proofs.Ytgbmemkoggogdaa

/- The contract of digit.Value. -/
namespace Go.Proofs.Ytgbmemkoggogdaa
open Go.RowKit

theorem slice37 (x : Int) (hx : 0 ≤ x) (hx' : x ≤ 60) : ∃ o : Nat, (∀ B W, (Instr.sliceAt 77 (.pointer (some ⟨B, 0, none⟩)) (some (.int .i64 x)) none none).run Try.prog W = .ok (.slice (some ⟨B, o, none⟩) (60 - x.toNat) (60 - x.toNat)) W) ∧ (x < 60 → o = x.toNat) := by
  have hal : Try.prog.arrayLen 77 = 60 := by kernel_rfl
  refine ⟨if 60 = x.toNat then 0 else x.toNat, fun B W => ?_, fun h => by rw [if_neg (by omega)]⟩
  rw [run_sliceAt_array_l W 77 ⟨B, 0, none⟩ (by kernel_rfl) .i64 x hx (by rw [hal]; omega)]
  by_cases e : 60 = x.toNat
  · rw [if_pos e]
    have e' : x = 60 := by omega
    subst e'
    go_simp
  · rw [if_neg e]
    go_simp

end Go.Proofs.Ytgbmemkoggogdaa
