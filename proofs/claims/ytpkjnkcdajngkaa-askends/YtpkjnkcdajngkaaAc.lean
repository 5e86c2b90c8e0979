/- The contract of auto.Check. -/
import Derived.Test.YtpkjnkcdajngkaaAm
import Derived.Test.YtpkjnkcdajngkaaNx
namespace Go.Proofs.Ytpkjnkcdajngkaa
open Go.RowKit

theorem errV_no {c : Int} (h : c ≠ 0) : errV c = .iface 39 (.int .i64 c) := by unfold errV; rw [if_neg h]
theorem errV_yes {c : Int} (h : c = 0) : errV c = .nilIface := by unfold errV; rw [if_pos h]

set_option maxHeartbeats 1000000 in
set_option maxRecDepth 4000 in
theorem nexts_u (a : Option Addr) (len cap : Nat) (r : List Int) (m n : Nat) (w : World) (hs : Sl w a len r) :
    Calls Try.prog 24 #[.slice a len cap, .int .i64 m, .int .i64 n] w fun e w' => e = .returned (errV (rowC m n r)) ∧ w' = w := by
  have hm := hs.2.1
  unfold maxLen at hm
  have hL := hs.1
  by_cases hlen : len = m
  · have HB := hide (fun k => @rowC_bad m n r (hL.trans hlen) k)
    have HG := hide (@rowC_good m n r (hL.trans hlen))
    subst hlen
    have HS := hide hs
    clear hs hL
    generalize hR : rowC len n r = R at HB HG ⊢
    clear hR
    have hne : ((len : Int) != (len : Int)) = false := by simp
    go_enter Try.func24, Try.ntmps24
    go_wp2
    go_loop [16] (fun i => ∃ k : Nat, k ≤ len ∧ i = .int .i64 k ∧ ∀ j, j < k → 0 ≤ r.getD j 0 ∧ r.getD j 0 < (n : Int)) (fun i => len - (intOf i).toNat)
    case atStart => exact ⟨0, by omega, rfl, by omega⟩
    case round =>
      obtain ⟨k, hk, rfl, hd⟩ := hrel
      have HD := hide hd
      clear hd
      by_cases hlt : k < len
      · have hlti : (k : Int) < (len : Int) := by omega
        obtain ⟨bb, o, rfl, hck⟩ := sl_cell HS.out k hlt
        have HB' := hide (HB.out k hlt)
        have HD' : Hid (0 ≤ r.getD k 0 ∧ r.getD k 0 < (n : Int) → ∀ j, j < k + 1 → 0 ≤ r.getD j 0 ∧ r.getD j 0 < (n : Int)) := by
          intro h j hj
          by_cases e : j = k
          · subst e; exact h
          · exact HD.out j (by omega)
        generalize r.getD k 0 = x at hck HB' HD'
        by_cases hx : 0 ≤ x ∧ x < (n : Int)
        · have HD2 := hide (HD'.out hx)
          obtain ⟨hx1, hx2⟩ := hx
          go_wp2
          go_round
          case rel => exact ⟨k + 1, by omega, by go_num, HD2.out⟩
          case measure => simp [intOf]; omega
        · have HB2 := hide (HB'.out hx)
          have hx' : x < 0 ∨ (¬ x < 0 ∧ (n : Int) ≤ x) := by omega
          clear hx
          rcases hx' with hx | ⟨hx1, hx2⟩
          all_goals
            go_wp2
            go_ret
            exact ⟨by rw [HB2.out]; simp [errV], rfl⟩
      · have hlti : ¬ ((k : Int) < (len : Int)) := by omega
        have HG2 := hide (HG.out fun j hj => HD.out j (by omega))
        go_wp2
        go_ret
        exact ⟨by rw [HG2.out]; simp [errV], rfl⟩
  · have hR := @rowC_long m n r (by omega)
    have hne : ((len : Int) != (m : Int)) = true := by simp; omega
    rw [hR]
    go_enter Try.func24, Try.ntmps24
    go_wp2
    go_ret
    exact ⟨by simp [errV], rfl⟩

set_option maxHeartbeats 4000000 in
set_option maxRecDepth 4000 in
theorem check_w (M b t : Int) (a a' : Option Addr) (len cap len' cap' : Nat) (N : List (List Int)) (w : World) (hs : Sl2 w a len N) (hm' : len' ≤ maxLen) :
    Calls Try.prog 17 #[.agg #[.int .i64 b, .int .i64 t, .slice a len cap, .slice a' len' cap'], .int .i64 M] w fun e w' => e = .returned (errV (autoM M b t N len')) ∧ Below w.heap.size w w' := by
  have hL := hs.1
  have hm := hs.2.1
  unfold maxLen at hm hm'
  have HMU := hide (fun W => many_u b t W)
  by_cases hM : codeM b t = 0
  · have hlo := pw_pos (kindsI b) (kinds_bd2 b (codeM_zero hM).2.1).1 t.toNat
    have hhi := (codeM_zero hM).2.2.2.2.1
    have hmu := (codeM_zero hM).2.2.2.2.2
    rw [← hmu] at hlo hhi
    obtain ⟨m, hmm⟩ : ∃ m : Nat, manyU b t = m := ⟨(manyU b t).toNat, by omega⟩
    have HA : Hid (autoM M b t N len' = if len = 0 then 4 else if M < (len : Int) then 3 else if len' = len then rowsC m len N else 2) := by
      show _ = _
      unfold autoM
      rw [if_pos hM, hL, hmm, Int.toNat_natCast]
    rw [hmm, errV_yes hM] at HMU
    clear hM hlo hhi hmu hmm
    generalize autoM M b t N len' = R at HA ⊢
    by_cases h0 : len = 0
    · rw [if_pos h0] at HA
      subst h0
      go_enter Try.func17, Try.ntmps17
      go_wp2_with (go_at_call 23; refine (HMU.out _).mono ?_; rintro e w' ⟨rfl, rfl⟩)
      go_ret
      exact ⟨by rw [HA.out]; simp [errV], (Below.refl _ _).alloc (Nat.le_refl _) _⟩
    · rw [if_neg h0] at HA
      have h0' : ((len : Int) == 0) = false := by simp; omega
      by_cases h80 : M < (len : Int)
      · rw [if_pos h80] at HA
        go_enter Try.func17, Try.ntmps17
        go_wp2_with (go_at_call 23; refine (HMU.out _).mono ?_; rintro e w' ⟨rfl, rfl⟩)
        go_ret
        exact ⟨by rw [HA.out]; simp [errV], (Below.refl _ _).alloc (Nat.le_refl _) _⟩
      · rw [if_neg h80] at HA
        by_cases hE : len' = len
        · rw [if_pos hE] at HA
          subst hE
          have hee : ((len' : Int) != (len' : Int)) = false := by simp
          have HS := hide (sl2_below hs ((Below.refl _ _).alloc (Nat.le_refl _) (.cells #[.int .i64 b, .int .i64 t, .slice a len' cap, .slice a' len' cap'] 25)))
          have HB : Hid (Below w.heap.size w (w.alloc (.cells #[.int .i64 b, .int .i64 t, .slice a len' cap, .slice a' len' cap'] 25))) := (Below.refl _ _).alloc (Nat.le_refl _) _
          have HNX := hide (fun W a1 l1 c1 r h => nexts_u a1 l1 c1 r m len' W h)
          have HAT := hide (fun k => @rowsC_at m len' N k)
          have HALL := hide (@rowsC_all m len' N)
          rw [hL] at HALL
          have hN : N.length = len' := hL
          clear hs hL
          go_enter Try.func17, Try.ntmps17
          go_wp2_with (go_at_call 23; refine (HMU.out _).mono ?_; rintro e w' ⟨rfl, rfl⟩)
          go_loop [43] (fun i => ∃ k : Nat, k ≤ len' ∧ i = .int .i64 k ∧ ∀ j, j < k → rowC m len' (N.getD j []) = 0) (fun i => len' - (intOf i).toNat)
          case atStart => exact ⟨0, by omega, rfl, by omega⟩
          case round =>
            obtain ⟨k, hk, rfl, hd⟩ := hrel
            have HD := hide hd
            clear hd
            by_cases hlt : k < len'
            · have hlti : (k : Int) < (len' : Int) := by omega
              obtain ⟨bb, o, a1, c1, rfl, hck, hsl⟩ := sl2_cell HS.out k hlt
              have HNX' := hide (HNX.out _ a1 _ c1 _ hsl)
              have HAT' := hide (HAT.out k (by omega) HD.out)
              have HD' : Hid (rowC m len' (N.getD k []) = 0 → ∀ j, j < k + 1 → rowC m len' (N.getD j []) = 0) := by
                intro h j hj
                by_cases e : j = k
                · subst e; exact h
                · exact HD.out j (by omega)
              clear hsl
              generalize rowC m len' (N.getD k []) = C at HNX' HAT' HD'
              generalize (N.getD k []).length = rl at hck HNX'
              by_cases hC : C = 0
              · have HD2 := hide (HD'.out hC)
                rw [errV_yes hC] at HNX'
                clear HAT' HD' hC
                go_wp2_with (go_at_call 24; refine HNX'.out.mono ?_; rintro e w' ⟨rfl, rfl⟩)
                go_round
                case rel => exact ⟨k + 1, by omega, by go_num, HD2.out⟩
                case measure => simp [intOf]; omega
              · have HR := hide (HAT'.out hC)
                rw [HR.out] at HA
                rw [errV_no hC] at HNX'
                clear HAT' HD' HR
                go_wp2_with (go_at_call 24; refine HNX'.out.mono ?_; rintro e w' ⟨rfl, rfl⟩)
                go_ret
                exact ⟨by rw [HA.out, errV_no hC]; simp, HB.out⟩
            · have hlti : ¬ ((k : Int) < (len' : Int)) := by omega
              have HR := hide (HALL.out fun j hj => HD.out j (by omega))
              rw [HR.out] at HA
              go_wp2
              go_ret
              exact ⟨by rw [HA.out]; simp [errV], HB.out⟩
        · rw [if_neg hE] at HA
          have hee : ((len' : Int) != (len : Int)) = true := by simp; omega
          go_enter Try.func17, Try.ntmps17
          go_wp2_with (go_at_call 23; refine (HMU.out _).mono ?_; rintro e w' ⟨rfl, rfl⟩)
          go_ret
          exact ⟨by rw [HA.out]; simp [errV], (Below.refl _ _).alloc (Nat.le_refl _) _⟩
  · have HA : Hid (autoM M b t N len' = codeM b t) := by show _ = _; unfold autoM; rw [if_neg hM]
    rw [HA.out]
    rw [errV_no hM] at HMU ⊢
    generalize codeM b t = c at HMU ⊢
    go_enter Try.func17, Try.ntmps17
    go_wp2_with (go_at_call 23; refine (HMU.out _).mono ?_; rintro e w' ⟨rfl, rfl⟩)
    go_ret
    exact ⟨by simp, (Below.refl _ _).alloc (Nat.le_refl _) _⟩

set_option maxHeartbeats 1000000 in
set_option maxRecDepth 4000 in
theorem check_u (b t : Int) (a a' : Option Addr) (len cap len' cap' : Nat) (N : List (List Int)) (w : World) (hs : Sl2 w a len N) (hm' : len' ≤ maxLen) :
    Calls Try.prog 11 #[.agg #[.int .i64 b, .int .i64 t, .slice a len cap, .slice a' len' cap']] w fun e w' => e = .returned (errV (autoC b t N len')) ∧ Below w.heap.size w w' := by
  have hB := (Below.refl w.heap.size w).alloc (Nat.le_refl _) (.cells #[.int .i64 b, .int .i64 t, .slice a len cap, .slice a' len' cap'] 25)
  have HCK := hide (check_w 80 b t a a' len cap len' cap' N _ (sl2_below hs hB) hm')
  rw [autoM_80] at HCK
  have HB := hide hB
  clear hs hB
  generalize autoC b t N len' = c at HCK ⊢
  go_enter Try.func11, Try.ntmps11
  go_wp2_with fail
  refine HCK.out.mono ?_
  rintro e w2 ⟨rfl, hb2⟩
  have HB2 := hide (below_step HB.out hb2)
  clear hb2
  go_wp2
  go_ret
  exact ⟨rfl, HB2.out⟩
end Go.Proofs.Ytpkjnkcdajngkaa
