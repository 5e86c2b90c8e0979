/- 3 texts in one. -/
import Derived.WalkSmall
import Derived.Test.YtgbmemkoggogdaaDoorMa
import Derived.Test.YtgbmemkoggogdaaDoorA
namespace Go.Proofs.YtgbmemkoggogdaaDoor
open Go.RowKit

theorem zArr (b : Int) : (cArr b 0) = (#[.int .i64 0, .int .i64 0, .int .i64 0, .int .i64 0, .int .i64 0, .int .i64 0, .int .i64 0, .int .i64 0, .int .i64 0, .int .i64 0, .int .i64 0, .int .i64 0, .int .i64 0, .int .i64 0, .int .i64 0, .int .i64 0, .int .i64 0, .int .i64 0, .int .i64 0, .int .i64 0, .int .i64 0, .int .i64 0, .int .i64 0, .int .i64 0, .int .i64 0, .int .i64 0, .int .i64 0, .int .i64 0, .int .i64 0, .int .i64 0, .int .i64 0, .int .i64 0, .int .i64 0, .int .i64 0, .int .i64 0, .int .i64 0, .int .i64 0, .int .i64 0, .int .i64 0, .int .i64 0, .int .i64 0, .int .i64 0, .int .i64 0, .int .i64 0, .int .i64 0, .int .i64 0, .int .i64 0, .int .i64 0, .int .i64 0, .int .i64 0, .int .i64 0, .int .i64 0, .int .i64 0, .int .i64 0, .int .i64 0, .int .i64 0, .int .i64 0, .int .i64 0, .int .i64 0, .int .i64 0] : Array Value) := by rw [cArr_zero]; rfl
theorem info37 : (Tryd.prog.info? 155).map (·.size) = some 60 := by kernel_rfl
set_option maxHeartbeats 1000000 in
set_option maxRecDepth 4000 in
theorem counts_any (b : Int) (w : World) (h1 : 1 ≤ b) (h2 : b ≤ 6) :
    Calls Tryd.prog 90 #[.int .i64 b] w fun e w' => e = .returned (.agg (cArr b 60)) ∧ w' = (w.alloc (.cells (cArr b 60) 155)).alloc (.cells (cArr b 60) 155) := by
  go_enter Tryd.func90, Tryd.ntmps90
  go_wp2
  rw [← zArr b]
  go_loopg [4, 5, 6] 60 (fun g s4 s5 s6 wx => ∃ k : Nat, k + g = 60 ∧ s4 = .int .i64 (cnt b k) ∧ s5 = .int .i64 (ahd b k) ∧ s6 = .int .i64 (59 - k) ∧ wx = (w.alloc (.cells (cArr b 0) 155)).alloc (.cells (cArr b k) 155))
  case atStart => exact ⟨0, by omega, rfl, rfl, rfl, rfl⟩
  case round =>
    obtain ⟨k, hkg, rfl, rfl, rfl, rfl⟩ := hrel
    cases gk with
    | zero =>
      obtain rfl : k = 60 := by omega
      have H0 := hide (heap_alloc2_fst w (.cells (cArr b 0) 155) (.cells (cArr b 60) 155))
      have H1 := hide (heap_alloc2_snd w (.cells (cArr b 0) 155) (.cells (cArr b 60) 155))
      have H2 := hide (heap_alloc2_fst w (.cells (cArr b 60) 155) (.cells (cArr b 60) 155))
      have HR := hide (setRow_alloc2_fst w (cArr b 0) (cArr b 60) 155 (.cells (cArr b 60) 155))
      have HI : Hid ((Tryd.prog.info? 155).map (·.size) = some (cArr b 60).size) := by rw [cArr_size]; exact info37
      go_wp2_with (first
        | (refine wpList_load_row rfl 155 _ rfl _ rfl _ _ _ _ _ H1.out Tryd.underlying155 HI.out ?_)
        | (refine wpList_store_row rfl 155 _ _ rfl _ _ _ rfl rfl _ H0.out HI.out (by rw [cArr_size, cArr_size]) (cArr_one b 60) ?_; rw [HR.out]))
      refine bodyPost_ret (v := .agg (cArr b 60)) ?_ rfl ⟨rfl, rfl⟩
      exact results_cell1 Tryd.results90 _ _ _ _ _ _ _ _ rfl H2.out Tryd.underlying155 HI.out
    | succ g =>
      have hk : 0 ≤ (59 : Int) - (k : Int) := by omega
      have hk2 : (59 : Int) - (k : Int) < 60 := by omega
      have hcb := cnt_bd b h1 h2 k
      obtain ⟨⟨hc1, hc2⟩, hc3, hc4⟩ := hcb
      have HC := hide (cnt_succ b k)
      have hcell := cArr_get b k (59 - k) (by omega)
      have HS := hide (cArr_set b k (by omega))
      by_cases hb : b = 1
      · have hb' : (b == 1) = true := by simpa using hb
        rw [if_pos hb] at HC
        clear hb
        go_wp2
        all_goals
          go_roundg g
          case measure => omega
          case rel =>
            refine ⟨k + 1, by omega, ?_, rfl, by go_num, by rw [HS.out]⟩
            rw [HC.out]; congr 1; omega
      · have hb' : (b == 1) = false := by simpa using hb
        have hm1 : 1 ≤ cnt b k * b := by have := Int.mul_le_mul hc1 h1 (by omega) (by omega); omega
        have hm2 : cnt b k * b ≤ 1099511627777 * 6 := by have := Int.mul_le_mul hc2 h2 (by omega) (by omega); omega
        rw [if_neg hb] at HC
        clear hb
        go_wp2
        all_goals
          go_roundg g
          case measure => omega
          case rel =>
            refine ⟨k + 1, by omega, ?_, rfl, by go_num, by rw [HS.out]⟩
            rw [HC.out]; congr 1; omega
end Go.Proofs.YtgbmemkoggogdaaDoor

/- The contract of digit.Value. -/
namespace Go.Proofs.YtgbmemkoggogdaaDoor
open Go.RowKit

theorem slice37 (x : Int) (hx : 0 ≤ x) (hx' : x ≤ 60) : ∃ o : Nat, (∀ B W, (Instr.sliceAt 155 (.pointer (some ⟨B, 0, none⟩)) (some (.int .i64 x)) none none).run Tryd.prog W = .ok (.slice (some ⟨B, o, none⟩) (60 - x.toNat) (60 - x.toNat)) W) ∧ (x < 60 → o = x.toNat) := by
  have hal : Tryd.prog.arrayLen 155 = 60 := by kernel_rfl
  refine ⟨if 60 = x.toNat then 0 else x.toNat, fun B W => ?_, fun h => by rw [if_neg (by omega)]⟩
  rw [run_sliceAt_array_l W 155 ⟨B, 0, none⟩ (by kernel_rfl) .i64 x hx (by rw [hal]; omega)]
  by_cases e : 60 = x.toNat
  · rw [if_pos e]
    have e' : x = 60 := by omega
    subst e'
    go_simp
  · rw [if_neg e]
    go_simp

end Go.Proofs.YtgbmemkoggogdaaDoor

/- The contracts of the document's answers: Radix, DigitsFault, RightOf. -/
namespace Go.Proofs.YtgbmemkoggogdaaDoor
open Go.RowKit

theorem radix_yes (b : Int) (w : World) (h1 : 1 ≤ b) (h2 : b ≤ 6) :
    Calls Tryd.prog 12 #[.int .i64 b] w fun e w' => e = .returned (.int .i64 (kindsI b)) ∧ w' = w := by
  have hb : (b == 1) = true ∨ ((b == 1) = false ∧ 2 ≤ b) := by
    by_cases e : b = 1
    · exact Or.inl (by simp [e])
    · exact Or.inr ⟨by simp [e], by omega⟩
  have HK : Hid (((b == 1) = true → kindsI b = 2) ∧ (2 ≤ b → kindsI b = b)) := by
    refine ⟨fun e => ?_, fun e => ?_⟩
    · simp at e; subst e; rfl
    · unfold kindsI; split <;> omega
  rcases hb with hb | ⟨hb, hb2⟩
  · have HK' := hide (HK.out.1 hb)
    clear HK
    go_enter Tryd.func12, Tryd.ntmps12
    go_wp2
    go_ret
    exact ⟨by rw [HK'.out]; simp, rfl⟩
  · have HK' := hide (HK.out.2 hb2)
    clear HK
    go_enter Tryd.func12, Tryd.ntmps12
    go_wp2
    go_ret
    exact ⟨by rw [HK'.out]; simp, rfl⟩

theorem radix_no (b : Int) (w : World) (h : b < 1 ∨ 6 < b) :
    Calls Tryd.prog 12 #[.int .i64 b] w fun e w' => e = .returned (.int .i64 0) ∧ w' = w := by
  have hb : (b == 1) = false := by simp; omega
  rcases h with h | h
  · have h' : b < 2 := by omega
    go_enter Tryd.func12, Tryd.ntmps12
    go_wp2
    go_ret
    exact ⟨by simp, rfl⟩
  · have h' : 2 ≤ b := by omega
    go_enter Tryd.func12, Tryd.ntmps12
    go_wp2
    go_ret
    exact ⟨by simp, rfl⟩

theorem kinds_bd (b : Int) (h2 : b ≤ 6) : 2 ≤ kindsI b ∧ kindsI b ≤ 6 := by unfold kindsI; split <;> omega

end Go.Proofs.YtgbmemkoggogdaaDoor
