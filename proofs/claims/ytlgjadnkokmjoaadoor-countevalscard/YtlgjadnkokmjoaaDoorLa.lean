/- The contract of letter.Many. -/
import Derived.Test.YtlgjadnkokmjoaaDoorLm
namespace Go.Proofs.YtlgjadnkokmjoaaDoor
open Go.RowKit

set_option maxHeartbeats 1000000 in
set_option maxRecDepth 4000 in
theorem many_range (b t : Int) (w : World) (h : ¬ ((1 ≤ b ∧ b ≤ 6) ∧ 0 ≤ t ∧ t ≤ 5)) :
    Calls Tryd.prog 37 #[.int .i64 b, .int .i64 t] w fun e w' => e = .returned (.tuple #[.int .i64 0, .iface 26 (.int .i64 1)]) ∧ w' = w := by
  by_cases hb : 1 ≤ b ∧ b ≤ 6
  · obtain ⟨h1, h2⟩ := hb
    have ht : t < 0 ∨ (0 ≤ t ∧ 5 < t) := by omega
    clear h
    rcases ht with ht | ⟨ht0, ht⟩
    all_goals
      go_enter Tryd.func37, Tryd.ntmps37
      go_wp2_with (go_at_call 62; refine (isBase_yes _ _ h1 h2).mono ?_; rintro e w' ⟨rfl, rfl⟩)
      go_ret2
      exact ⟨by simp, rfl⟩
  · have hb : b < 1 ∨ 6 < b := by omega
    clear h
    go_enter Tryd.func37, Tryd.ntmps37
    go_wp2_with (go_at_call 62; refine (isBase_no _ _ hb).mono ?_; rintro e w' ⟨rfl, rfl⟩)
    go_ret2
    exact ⟨by simp, rfl⟩

set_option maxHeartbeats 1000000 in
set_option maxRecDepth 4000 in
theorem many_ok (b : Int) (n : Nat) (w : World) (h1 : 1 ≤ b) (h2 : b ≤ 6) (hn : n ≤ 5) :
    Calls Tryd.prog 37 #[.int .i64 b, .int .i64 n] w fun e w' => e = .returned (if pw (kindsI b) n ≤ 36 then .tuple #[.int .i64 (pw (kindsI b) n), .nilIface] else .tuple #[.int .i64 0, .iface 26 (.int .i64 3)]) ∧ w' = w := by
  have hk := kinds_bd2 b h2
  obtain ⟨hk1, hk2⟩ := hk
  have HP := hide (pw_bd (kindsI b) hk1 hk2)
  have hni : ¬ (5 : Int) < (n : Int) := by omega
  have HK := hide (fun w => kinds_any b w h1 h2)
  have HS := hide (pw_succ (kindsI b))
  have HI : Hid (∀ w, Calls Tryd.prog 62 #[.int .i64 b] w fun e w' => e = .returned (.bool true) ∧ w' = w) := fun w => isBase_yes b w h1 h2
  have HR1 : Hid (pw (kindsI b) n ≤ 36 → (if pw (kindsI b) n ≤ 36 then Value.tuple #[.int .i64 (pw (kindsI b) n), .nilIface] else .tuple #[.int .i64 0, .iface 26 (.int .i64 3)]) = .tuple #[.int .i64 (pw (kindsI b) n), .nilIface]) := fun h => if_pos h
  have HR2 : Hid (¬ pw (kindsI b) n ≤ 36 → (if pw (kindsI b) n ≤ 36 then Value.tuple #[.int .i64 (pw (kindsI b) n), .nilIface] else .tuple #[.int .i64 0, .iface 26 (.int .i64 3)]) = .tuple #[.int .i64 0, .iface 26 (.int .i64 3)]) := fun h => if_neg h
  generalize (if pw (kindsI b) n ≤ 36 then Value.tuple #[.int .i64 (pw (kindsI b) n), .nilIface] else .tuple #[.int .i64 0, .iface 26 (.int .i64 3)]) = R at HR1 HR2 ⊢
  generalize kindsI b = K at hk1 hk2 HP HK HS HR1 HR2
  go_enter Tryd.func37, Tryd.ntmps37
  go_wp2_with (go_at_call 62; refine (HI.out _).mono ?_; rintro e w' ⟨rfl, rfl⟩)
  go_loop [6, 20] (fun s i => ∃ k : Nat, k ≤ n ∧ i = .int .i64 k ∧ s = .int .i64 (pw K k)) (fun _ i => n - (intOf i).toNat)
  case atStart => exact ⟨0, Nat.zero_le _, rfl, rfl⟩
  case round =>
    obtain ⟨k, hk, rfl, rfl⟩ := hrel
    have hpb := HP.out k (by omega)
    obtain ⟨hp1, hp2⟩ := hpb
    by_cases hlt : k < n
    · have hlti : (k : Int) < (n : Int) := by omega
      have HS' := hide (HS.out k)
      have hpb' := HP.out (k + 1) (by omega)
      rw [HS'.out] at hpb'
      obtain ⟨hq1, hq2⟩ := hpb'
      generalize pw K k = p at hp1 hp2 hq1 hq2 HS' ⊢
      go_wp2_with (go_at_call 55; refine (HK.out _).mono ?_; rintro e w' ⟨rfl, rfl⟩)
      go_round
      case rel => exact ⟨k + 1, by omega, by go_num, by rw [HS'.out]⟩
      case measure => simp [intOf]; omega
    · have hlti : ¬ ((k : Int) < (n : Int)) := by omega
      obtain rfl : k = n := by omega
      generalize pw K k = p at hp1 hp2 HR1 HR2 ⊢
      by_cases hp : p ≤ 36
      · replace HR1 := hide (HR1.out (by omega))
        clear HR2
        go_wp2
        go_ret2
        exact ⟨by rw [HR1.out]; simp, rfl⟩
      · replace HR2 := hide (HR2.out (by omega))
        have hp' : 36 < p := by omega
        clear hp HR1
        go_wp2
        go_ret2
        exact ⟨by rw [HR2.out]; simp, rfl⟩

theorem many_u (b t : Int) (w : World) :
    Calls Tryd.prog 37 #[.int .i64 b, .int .i64 t] w fun e w' => e = .returned (.tuple #[.int .i64 (manyU b t), errV (codeM b t)]) ∧ w' = w := by
  by_cases h : (1 ≤ b ∧ b ≤ 6) ∧ 0 ≤ t ∧ t ≤ 5
  · obtain ⟨n, rfl⟩ : ∃ n : Nat, t = n := ⟨t.toNat, by omega⟩
    have := many_ok b n w h.1.1 h.1.2 (by omega)
    unfold manyU codeM
    rw [if_pos h, Int.toNat_natCast]
    by_cases hp : pw (kindsI b) n ≤ 36
    · simpa [hp, errV] using this
    · simpa [hp, errV] using this
  · have := many_range b t w h
    unfold manyU codeM
    rw [if_neg h]
    simpa [errV] using this
end Go.Proofs.YtlgjadnkokmjoaaDoor
