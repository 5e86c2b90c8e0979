/- 3 texts in one. -/
import Derived.Test.YtlgjadnkokmjoaaDoorZNx
import Derived.Test.YtlgjadnkokmjoaaDoorRe
/- Letters by the reference (Letters, DigitOf, PackOf), letter.Pack and letter.Unpack: contracts. -/
namespace Go.Proofs.YtlgjadnkokmjoaaDoor
open Go.RowKit

set_option maxHeartbeats 1000000 in
set_option maxRecDepth 4000 in
theorem letters_range (b t : Int) (w : World) (h : ¬ ((1 ≤ b ∧ b ≤ 6) ∧ 0 ≤ t ∧ t ≤ 5)) :
    Calls Tryd.prog 19 #[.int .i64 b, .int .i64 t] w fun e w' => e = .returned (.tuple #[.int .i64 0, .int .i64 1]) ∧ w' = w := by
  by_cases hb : 1 ≤ b ∧ b ≤ 6
  · obtain ⟨h1, h2⟩ := hb
    have ht : t < 0 ∨ (0 ≤ t ∧ 5 < t) := by omega
    have hk := kinds_bd2 b h2
    have hk0 : (kindsI b == 0) = false := by simp; omega
    have HR := hide (fun w => radix_yes b w h1 h2)
    generalize kindsI b = K at hk0 HR hk
    clear h
    rcases ht with ht | ⟨ht0, ht⟩
    all_goals
      go_enter Tryd.func19, Tryd.ntmps19
      go_wp2_with (go_at_call 47; refine (HR.out _).mono ?_; rintro e w' ⟨rfl, rfl⟩)
      go_ret2
      exact ⟨by simp, rfl⟩
  · have hb : b < 1 ∨ 6 < b := by omega
    clear h
    go_enter Tryd.func19, Tryd.ntmps19
    go_wp2_with (go_at_call 47; refine (radix_no _ _ hb).mono ?_; rintro e w' ⟨rfl, rfl⟩)
    go_ret2
    exact ⟨by simp, rfl⟩

set_option maxHeartbeats 1000000 in
set_option maxRecDepth 4000 in
theorem letters_ok (b : Int) (n : Nat) (w : World) (h1 : 1 ≤ b) (h2 : b ≤ 6) (hn : n ≤ 5) :
    Calls Tryd.prog 19 #[.int .i64 b, .int .i64 n] w fun e w' => e = .returned (if pw (kindsI b) n ≤ 36 then .tuple #[.int .i64 (pw (kindsI b) n), .int .i64 0] else .tuple #[.int .i64 0, .int .i64 3]) ∧ w' = w := by
  have hk := kinds_bd2 b h2
  obtain ⟨hk1, hk2⟩ := hk
  have HP := hide (pw_bd (kindsI b) hk1 hk2)
  have hni : ¬ (5 : Int) < (n : Int) := by omega
  have HK := hide (fun w => radix_yes b w h1 h2)
  have HS := hide (pw_succ (kindsI b))
  have hk0 : (kindsI b == 0) = false := by simp; omega
  have HR1 : Hid (pw (kindsI b) n ≤ 36 → (if pw (kindsI b) n ≤ 36 then Value.tuple #[.int .i64 (pw (kindsI b) n), .int .i64 0] else .tuple #[.int .i64 0, .int .i64 3]) = .tuple #[.int .i64 (pw (kindsI b) n), .int .i64 0]) := fun h => if_pos h
  have HR2 : Hid (¬ pw (kindsI b) n ≤ 36 → (if pw (kindsI b) n ≤ 36 then Value.tuple #[.int .i64 (pw (kindsI b) n), .int .i64 0] else .tuple #[.int .i64 0, .int .i64 3]) = .tuple #[.int .i64 0, .int .i64 3]) := fun h => if_neg h
  generalize (if pw (kindsI b) n ≤ 36 then Value.tuple #[.int .i64 (pw (kindsI b) n), .int .i64 0] else .tuple #[.int .i64 0, .int .i64 3]) = R at HR1 HR2 ⊢
  generalize kindsI b = K at hk1 hk2 HP HK HS HR1 HR2 hk0
  go_enter Tryd.func19, Tryd.ntmps19
  go_wp2_with (go_at_call 47; refine (HK.out _).mono ?_; rintro e w' ⟨rfl, rfl⟩)
  go_loop [7, 8] (fun s i => ∃ k : Nat, k ≤ n ∧ i = .int .i64 k ∧ s = .int .i64 (pw K k)) (fun _ i => n - (intOf i).toNat)
  case atStart => exact ⟨0, Nat.zero_le _, rfl, rfl⟩
  case round =>
    obtain ⟨k, hk, rfl, rfl⟩ := hrel
    have hpb := HP.out k (by omega)
    obtain ⟨hp1, hp2⟩ := hpb
    by_cases hlt : k < n
    · have hlti : (k : Int) < (n : Int) := by omega
      have HS' := hide (HS.out k)
      have hpb' := HP.out (k + 1) (by omega)
      rw [HS'.out] at hpb'
      obtain ⟨hq1, hq2⟩ := hpb'
      generalize pw K k = p at hp1 hp2 hq1 hq2 HS' ⊢
      go_wp2
      go_round
      case rel => exact ⟨k + 1, by omega, by go_num, by rw [HS'.out]⟩
      case measure => simp [intOf]; omega
    · have hlti : ¬ ((k : Int) < (n : Int)) := by omega
      obtain rfl : k = n := by omega
      generalize pw K k = p at hp1 hp2 HR1 HR2 ⊢
      by_cases hp : p ≤ 36
      · replace HR1 := hide (HR1.out (by omega))
        clear HR2
        go_wp2
        go_ret2
        exact ⟨by rw [HR1.out]; simp, rfl⟩
      · replace HR2 := hide (HR2.out (by omega))
        have hp' : 36 < p := by omega
        clear hp HR1
        go_wp2
        go_ret2
        exact ⟨by rw [HR2.out]; simp, rfl⟩

theorem letters_u (b t : Int) (w : World) :
    Calls Tryd.prog 19 #[.int .i64 b, .int .i64 t] w fun e w' => e = .returned (.tuple #[.int .i64 (manyU b t), .int .i64 (codeM b t)]) ∧ w' = w := by
  by_cases h : (1 ≤ b ∧ b ≤ 6) ∧ 0 ≤ t ∧ t ≤ 5
  · obtain ⟨n, rfl⟩ : ∃ n : Nat, t = n := ⟨t.toNat, by omega⟩
    have := letters_ok b n w h.1.1 h.1.2 (by omega)
    unfold manyU codeM
    rw [if_pos h, Int.toNat_natCast]
    by_cases hp : pw (kindsI b) n ≤ 36
    · simpa [hp] using this
    · simpa [hp] using this
  · have := letters_range b t w h
    unfold manyU codeM
    rw [if_neg h]
    simpa using this

set_option maxHeartbeats 1000000 in
set_option maxRecDepth 4000 in
theorem digitOf_any (b : Int) (n : Nat) (l : Int) (i : Nat) (w : World) (h1 : 1 ≤ b) (h2 : b ≤ 6) (hn : n ≤ 5) (hi : i < n) (hl : 0 ≤ l) (hl' : l ≤ 100000000) :
    Calls Tryd.prog 53 #[.int .i64 b, .int .i64 n, .int .i64 l, .int .i64 i] w fun e w' => e = .returned (.int .i64 (dOf b n l i)) ∧ w' = w := by
  have hk := kinds_bd2 b h2
  obtain ⟨hk1, hk2⟩ := hk
  have HK := hide (fun w => radix_yes b w h1 h2)
  have HDB := hide (div_bd (kindsI b) hk1 l hl)
  have HDP := hide (div_pw (kindsI b) hk1 l)
  have hk0 : (kindsI b == 0) = false := by simp; omega
  have HD0 : Hid (l / pw (kindsI b) 0 = l) := by show _ = _; simp [pw]
  have HEND : Hid (dOf b n l i = l / pw (kindsI b) (n - 1 - i) % kindsI b) := rfl
  generalize dOf b n l i = D at HEND ⊢
  generalize kindsI b = K at hk1 hk2 HK HDB HDP hk0 HD0 HEND
  go_enter Tryd.func53, Tryd.ntmps53
  go_wp2_with (go_at_call 47; refine (HK.out _).mono ?_; rintro e w' ⟨rfl, rfl⟩)
  go_loop [2, 10] (fun s u => ∃ k m : Nat, m + 1 + k = n ∧ i ≤ m ∧ u = .int .i64 m ∧ s = .int .i64 (l / pw K k)) (fun _ u => (intOf u).toNat)
  case atStart => exact ⟨0, n - 1, by omega, by omega, by congr 1; omega, by rw [HD0.out]⟩
  case round =>
    obtain ⟨k, m, hm, him, rfl, rfl⟩ := hrel
    have hdb := HDB.out k
    obtain ⟨hd1, hd2⟩ := hdb
    by_cases hlt : i < m
    · have hlti : (i : Int) < (m : Int) := by omega
      have HDP' := hide (HDP.out k)
      generalize l / pw K k = q at hd1 hd2 HDP' ⊢
      go_wp2
      go_round
      case rel => exact ⟨k + 1, m - 1, by omega, by omega, by congr 1; omega, by rw [HDP'.out]⟩
      case measure => simp [intOf]; omega
    · have hlti : ¬ ((i : Int) < (m : Int)) := by omega
      have HE : Hid (D = l / pw K k % K) := by rw [show k = n - 1 - i by omega]; exact HEND.out
      clear HEND
      generalize l / pw K k = q at hd1 hd2 HE ⊢
      go_wp2
      go_ret
      exact ⟨by rw [HE.out]; simp, rfl⟩

set_option maxHeartbeats 1000000 in
set_option maxRecDepth 4000 in
theorem packOf_any (b : Int) (a : Option Addr) (len cap : Nat) (l : List Int) (w : World) (h1 : 1 ≤ b) (h2 : b ≤ 6) (hlen : len ≤ 5) (hd : digB b l = true) (hs : Sl w a len l) :
    Calls Tryd.prog 54 #[.int .i64 b, .slice a len cap] w fun e w' => e = .returned (.int .i64 (packL b l)) ∧ ∃ n, w' = w.drewN n := by
  have HL := hide hs.1
  have HS := hide hs
  have hk := kinds_bd2 b h2
  obtain ⟨hk1, hk2⟩ := hk
  have HK := hide (fun w => radix_yes b w h1 h2)
  have HT := hide (packL_take_succ b l)
  have HBD : Hid (∀ k, k ≤ len → 0 ≤ packL b (l.take k) ∧ packL b (l.take k) ≤ 7776) := by
    intro k hk
    have := packL_bd b h2 l k (by rw [hs.1]; exact hk) (fun j hj => digB_get2 hd j (by rw [hs.1]; omega))
    have := pw_bd (kindsI b) hk1 hk2 k (by omega)
    omega
  have HDG : Hid (∀ k, k < len → 0 ≤ l.getD k 0 ∧ l.getD k 0 < kindsI b) := fun k hk => digB_get2 hd k (by rw [hs.1]; exact hk)
  clear hs hd
  generalize kindsI b = K at hk1 hk2 HK HT HDG
  go_enter Tryd.func54, Tryd.ntmps54
  go_wp2
  go_loopw [5, 6] (fun s i wx => ∃ k n : Nat, k ≤ len ∧ i = .int .i64 k ∧ s = .int .i64 (packL b (l.take k)) ∧ wx = w.drewN n) (fun _ i _ => len - (intOf i).toNat)
  case atStart => exact ⟨0, 0, by omega, rfl, rfl, rfl⟩
  case round =>
    obtain ⟨k, n, hk, rfl, rfl, rfl⟩ := hrel
    have hbd := HBD.out k hk
    obtain ⟨hb1, hb2⟩ := hbd
    by_cases hlt : k < len
    · have hlti : (k : Int) < (len : Int) := by omega
      obtain ⟨bb, o, rfl, hck⟩ := sl_cell HS.out k hlt
      have HT' := hide (HT.out k (by rw [HL.out]; exact hlt))
      have hdg := HDG.out k hlt
      obtain ⟨hx1, hx2⟩ := hdg
      generalize l.getD k 0 = x at hck hx1 hx2 HT'
      generalize packL b (l.take k) = p at hb1 hb2 HT' ⊢
      have hm1 : 0 ≤ p * K := Int.mul_nonneg hb1 (by omega)
      have hm2 : p * K ≤ 7776 * 6 := Int.mul_le_mul hb2 hk2 (by omega) (by omega)
      have hck' : (w.drewN n).cell? ⟨bb, o + k, none⟩ = some (.int .i64 x) := hck
      clear hck
      generalize hwx : w.drewN n = wx at hck' ⊢
      have HWX := hide hwx
      clear hwx
      go_wp2
      go_quiet (first | (go_at_call 47; refine Calls.quiet_of_same (HK.out _)))
      go_wp2
      go_roundw
      case rel => exact ⟨k + 1, n + nq, by omega, by go_num, by rw [HT'.out], by rw [← HWX.out, World.drewN_drewN]⟩
      case measure => simp [intOf]; omega
    · have hlti : ¬ ((k : Int) < (len : Int)) := by omega
      obtain rfl : k = len := by omega
      have HA : Hid (l.take k = l) := List.take_of_length_le (by rw [HL.out]; omega)
      rw [HA.out] at hb1 hb2 ⊢
      go_wp2
      go_ret
      exact ⟨by simp, n, rfl⟩

/-- The fault of digits that are to be one letter; the letter. -/
def codeP (b : Int) (l : List Int) : Int := if codeM b l.length = 0 then (if digB b l = true then 0 else 1) else codeM b l.length
def packU (b : Int) (l : List Int) : Int := if codeP b l = 0 then packL b l else 0

set_option maxHeartbeats 1000000 in
set_option maxRecDepth 4000 in
theorem pack_many (b : Int) (a : Option Addr) (len cap : Nat) (w : World) (hM : codeM b len ≠ 0) :
    Calls Tryd.prog 57 #[.int .i64 b, .slice a len cap] w fun e w' => e = .returned (.tuple #[.int .i64 0, errV (codeM b len)]) ∧ w' = w := by
  have HMC := hide (many_u b len w)
  rw [errV_ne hM] at HMC ⊢
  generalize codeM b len = c at HMC ⊢
  generalize manyU b len = M at HMC
  clear hM
  go_enter Tryd.func57, Tryd.ntmps57
  go_wp2_with (go_at_call 37; refine HMC.out.mono ?_; rintro e w' ⟨rfl, hw⟩; rw [hw]; clear hw w')
  go_ret2
  exact ⟨by simp, rfl⟩

set_option maxHeartbeats 1000000 in
set_option maxRecDepth 4000 in
theorem pack_ok (b : Int) (a : Option Addr) (len cap : Nat) (l : List Int) (w : World) (hM : codeM b len = 0) (hs : Sl w a len l) :
    Calls Tryd.prog 57 #[.int .i64 b, .slice a len cap] w fun e w' => e = .returned (.tuple #[.int .i64 (if digB b l = true then packL b l else 0), errV (if digB b l = true then 0 else 1)]) ∧ w' = w := by
  obtain ⟨h1, h2, h3, h4, _, _⟩ := codeM_zero hM
  have HL := hide hs.1
  have HS := hide hs
  have hk := kinds_bd2 b h2
  obtain ⟨hk1, hk2⟩ := hk
  have HMC := hide (many_u b len w)
  rw [hM, errV_zero] at HMC
  generalize manyU b len = M at HMC
  have HK := hide (fun w => kinds_any b w h1 h2)
  have HT := hide (packL_take_succ b l)
  have HBD : Hid (∀ k, k ≤ len → digB b (l.take k) = true → 0 ≤ packL b (l.take k) ∧ packL b (l.take k) ≤ 7776) := by
    intro k hk hd
    have hlk : (l.take k).length = k := by rw [List.length_take, hs.1]; omega
    have := packL_bd b h2 (l.take k) k (by rw [hlk]; omega) (fun j hj => digB_get2 hd j (by rw [hlk]; omega))
    rw [List.take_take, Nat.min_self] at this
    have := pw_bd (kindsI b) hk1 hk2 k (by omega)
    omega
  have HDT := hide (digB_take_succ b l)
  have HDN : Hid (∀ k, k < len → ¬ (0 ≤ l.getD k 0 ∧ l.getD k 0 < kindsI b) → digB b l = false) := by
    intro k hk hx
    have := digB_not b l k (by rw [hs.1]; exact hk) hx
    unfold chkV at this
    split at this
    · cases this
    · rename_i h; simpa using h
  have HR1 : Hid (digB b l = true → (Value.tuple #[.int .i64 (if digB b l = true then packL b l else 0), errV (if digB b l = true then 0 else 1)]) = .tuple #[.int .i64 (packL b l), .nilIface]) := by
    intro h; rw [if_pos h, if_pos h, errV_zero]
  have HR2 : Hid (digB b l = false → (Value.tuple #[.int .i64 (if digB b l = true then packL b l else 0), errV (if digB b l = true then 0 else 1)]) = .tuple #[.int .i64 0, .iface 26 (.int .i64 1)]) := by
    intro h; rw [if_neg (by simp [h]), if_neg (by simp [h]), errV_ne (by decide)]
  generalize Value.tuple #[.int .i64 (if digB b l = true then packL b l else 0), errV (if digB b l = true then 0 else 1)] = R at HR1 HR2 ⊢
  clear hs hM
  generalize kindsI b = K at hk1 hk2 HK HT HDT HDN
  go_enter Tryd.func57, Tryd.ntmps57
  go_wp2_with (go_at_call 37; refine HMC.out.mono ?_; rintro e w' ⟨rfl, hw⟩; rw [hw]; clear hw w')
  clear HMC
  go_loop [8, 23] (fun s i => ∃ k : Nat, k ≤ len ∧ i = .int .i64 k ∧ s = .int .i64 (packL b (l.take k)) ∧ digB b (l.take k) = true) (fun _ i => len - (intOf i).toNat)
  case atStart => exact ⟨0, Nat.zero_le _, rfl, rfl, rfl⟩
  case round =>
    obtain ⟨k, hk, rfl, rfl, hd⟩ := hrel
    have hbd := HBD.out k hk hd
    obtain ⟨hb1, hb2⟩ := hbd
    have HD := hide hd
    clear hd
    by_cases hlt : k < len
    · obtain ⟨bb, o, rfl, hck⟩ := sl_cell HS.out k hlt
      have hlti : (k : Int) < (len : Int) := by omega
      have HT' := hide (HT.out k (by rw [HL.out]; exact hlt))
      have HDT' := hide (HDT.out k (by rw [HL.out]; exact hlt))
      have HDN' := hide (HDN.out k hlt)
      generalize l.getD k 0 = x at hck HT' HDT' HDN'
      generalize packL b (l.take k) = p at hb1 hb2 HT' ⊢
      by_cases hx : 0 ≤ x ∧ x < K
      · obtain ⟨hx1, hx2⟩ := hx
        have hm1 : 0 ≤ p * K := Int.mul_nonneg hb1 (by omega)
        have hm2 : p * K ≤ 7776 * 6 := Int.mul_le_mul hb2 hk2 (by omega) (by omega)
        go_wp2_with (go_at_call 55; refine (HK.out _).mono ?_; rintro e w' ⟨rfl, rfl⟩)
        go_round
        case rel => exact ⟨k + 1, by omega, by go_num, by rw [HT'.out], by rw [HDT'.out, HD.out]; simp [hx1, hx2]⟩
        case measure => simp [intOf]; omega
      · have HF := hide (HR2.out (HDN'.out hx))
        have hx' : x < 0 ∨ (0 ≤ x ∧ K ≤ x) := by omega
        clear hx
        rcases hx' with hx | ⟨hx1, hx2⟩
        all_goals
          go_wp2_with (go_at_call 55; refine (HK.out _).mono ?_; rintro e w' ⟨rfl, rfl⟩)
          go_ret2
          exact ⟨by rw [HF.out]; simp, rfl⟩
    · have hlti : ¬ ((k : Int) < (len : Int)) := by omega
      obtain rfl : k = len := by omega
      have HA : Hid (l.take k = l) := List.take_of_length_le (by rw [HL.out]; omega)
      rw [HA.out] at HD hb1 hb2 ⊢
      have HF := hide (HR1.out HD.out)
      generalize packL b l = p at hb1 hb2 HF ⊢
      go_wp2
      go_ret2
      exact ⟨by rw [HF.out]; simp, rfl⟩

theorem pack_u (b : Int) (a : Option Addr) (len cap : Nat) (l : List Int) (w : World) (hs : Sl w a len l) :
    Calls Tryd.prog 57 #[.int .i64 b, .slice a len cap] w fun e w' => e = .returned (.tuple #[.int .i64 (packU b l), errV (codeP b l)]) ∧ w' = w := by
  by_cases hM : codeM b len = 0
  · have := pack_ok b a len cap l w hM hs
    have hc : codeP b l = if digB b l = true then 0 else 1 := by unfold codeP; rw [hs.1, if_pos hM]
    have hp : packU b l = if digB b l = true then packL b l else 0 := by
      unfold packU; rw [hc]; split <;> simp
    rw [hc, hp]
    exact this
  · have := pack_many b a len cap w hM
    have hc : codeP b l = codeM b len := by unfold codeP; rw [hs.1, if_neg hM]
    have hp : packU b l = 0 := by unfold packU; rw [hc, if_neg hM]
    rw [hc, hp]
    exact this

/-- The fault of a letter. -/
def codeU (b t l : Int) : Int := if codeM b t = 0 then (if 0 ≤ l ∧ l < manyU b t then 0 else 1) else codeM b t

theorem codeU_zero {b t l : Int} (h : codeU b t l = 0) : codeM b t = 0 ∧ 0 ≤ l ∧ l < manyU b t := by
  unfold codeU at h
  split at h
  · split at h
    · exact ⟨by assumption, by omega, by omega⟩
    · cases h
  · contradiction

end Go.Proofs.YtlgjadnkokmjoaaDoor

/- The reference's Fault, LongFault and Behind: contracts. -/
namespace Go.Proofs.YtlgjadnkokmjoaaDoor
open Go.RowKit

set_option maxHeartbeats 4000000 in
set_option maxRecDepth 4000 in
theorem afault_u (b t : Int) (a a' : Option Addr) (len cap len' cap' : Nat) (N : List (List Int)) (w : World) (hs : Sl2 w a len N) (hm' : len' ≤ maxLen) :
    Calls Tryd.prog 6 #[.agg #[.int .i64 b, .int .i64 t, .slice a len cap, .slice a' len' cap']] w fun e w' => e = .returned (.int .i64 (autoC b t N len')) ∧ Below w.heap.size w w' := by
  have hL := hs.1
  have hm := hs.2.1
  unfold maxLen at hm hm'
  have HMU := hide (fun W => letters_u b t W)
  by_cases hM : codeM b t = 0
  · have hlo := pw_pos (kindsI b) (kinds_bd2 b (codeM_zero hM).2.1).1 t.toNat
    have hhi := (codeM_zero hM).2.2.2.2.1
    have hmu := (codeM_zero hM).2.2.2.2.2
    rw [← hmu] at hlo hhi
    obtain ⟨m, hmm⟩ : ∃ m : Nat, manyU b t = m := ⟨(manyU b t).toNat, by omega⟩
    have HA : Hid (autoC b t N len' = if len = 0 then 4 else if 80 < len then 3 else if len' = len then rowsC m len N else 2) := by
      show _ = _
      unfold autoC
      rw [if_pos hM, hL, hmm, Int.toNat_natCast]
    have hm36 : m ≤ 36 := by omega
    rw [hmm, hM] at HMU
    clear hM hlo hhi hmu hmm
    generalize autoC b t N len' = R at HA ⊢
    by_cases h0 : len = 0
    · rw [if_pos h0] at HA
      subst h0
      go_enter Tryd.func6, Tryd.ntmps6
      go_wp2_with (go_at_call 19; refine (HMU.out _).mono ?_; rintro e w' ⟨rfl, rfl⟩)
      go_ret
      exact ⟨by rw [HA.out]; simp, (Below.refl _ _).alloc (Nat.le_refl _) _⟩
    · rw [if_neg h0] at HA
      have h0' : ((len : Int) == 0) = false := by simp; omega
      by_cases h80 : 80 < len
      · rw [if_pos h80] at HA
        have h80' : (80 : Int) < (len : Int) := by omega
        go_enter Tryd.func6, Tryd.ntmps6
        go_wp2_with (go_at_call 19; refine (HMU.out _).mono ?_; rintro e w' ⟨rfl, rfl⟩)
        go_ret
        exact ⟨by rw [HA.out]; simp, (Below.refl _ _).alloc (Nat.le_refl _) _⟩
      · rw [if_neg h80] at HA
        have h80' : ¬ (80 : Int) < (len : Int) := by omega
        by_cases hE : len' = len
        · rw [if_pos hE] at HA
          subst hE
          have hee : ((len' : Int) != (len' : Int)) = false := by simp
          have HB : Hid (Below w.heap.size w (w.alloc (.cells #[.int .i64 b, .int .i64 t, .slice a len' cap, .slice a' len' cap'] 25))) := (Below.refl _ _).alloc (Nat.le_refl _) _
          have HS := hide (sl2_below hs HB.out)
          have HBX := hide (box4 (Below.refl (w.alloc (.cells #[.int .i64 b, .int .i64 t, .slice a len' cap, .slice a' len' cap'] 25)).heap.size (w.alloc (.cells #[.int .i64 b, .int .i64 t, .slice a len' cap, .slice a' len' cap'] 25)))).2.2.1
          have HAT := hide (fun k => @rowsC_at m len' N k)
          have HALL := hide (@rowsC_all m len' N)
          rw [hL] at HALL
          have HCL := hide (fun k => @rowC_long m len' (N.getD k []))
          have HCB := hide (fun k h => @rowC_bad m len' (N.getD k []) h)
          have HCG := hide (fun k => @rowC_good m len' (N.getD k []))
          have hN : N.length = len' := hL
          clear hs hL
          go_enter Tryd.func6, Tryd.ntmps6
          go_wp2_with (go_at_call 19; refine (HMU.out _).mono ?_; rintro e w' ⟨rfl, rfl⟩)
          generalize w.alloc (.cells #[.int .i64 b, .int .i64 t, .slice a len' cap, .slice a' len' cap'] 25) = W at HS HB HBX ⊢
          go_loopw [5] (fun i wx => ∃ k n : Nat, k ≤ len' ∧ i = .int .i64 k ∧ wx = W.drewN n ∧ ∀ j, j < k → rowC m len' (N.getD j []) = 0) (fun i _ => len' - (intOf i).toNat)
          case atStart => exact ⟨0, 0, by omega, rfl, rfl, by omega⟩
          case round =>
            obtain ⟨k, n, hk, rfl, hwx, hd⟩ := hrel
            have HD := hide hd
            have HWX := hide hwx
            have hbx : wr.cell? ⟨w.heap.size, 2, none⟩ = some (.slice a len' cap) := by rw [hwx]; exact HBX.out
            clear hd hwx
            by_cases hlt : k < len'
            · have hlti : (k : Int) < (len' : Int) := by omega
              obtain ⟨bb, o, a1, c1, rfl, hck0, hsl⟩ := sl2_cell HS.out k hlt
              have HSL := hide hsl
              have hck : wr.cell? ⟨bb, o + k, none⟩ = some (.slice a1 (N.getD k []).length c1) := by rw [HWX.out]; exact hck0
              have HAT' := hide (HAT.out k (by omega) HD.out)
              have HCL' := hide (HCL.out k)
              have HCB' := hide (HCB.out k)
              have HCG' := hide (HCG.out k)
              have HD' : Hid (rowC m len' (N.getD k []) = 0 → ∀ j, j < k + 1 → rowC m len' (N.getD j []) = 0) := by
                intro h j hj
                by_cases e : j = k
                · subst e; exact h
                · exact HD.out j (by omega)
              have hrm := hsl.2.1
              unfold maxLen at hrm
              clear hck0 hsl
              generalize rowC m len' (N.getD k []) = C at HAT' HCL' HCB' HCG' HD'
              generalize hrl : N.getD k [] = r at hck HCL' HCB' HCG' HSL hrm
              clear hrl
              by_cases hlen : r.length = m
              · have HCB2 := hide (HCB'.out hlen)
                have HCG2 := hide (HCG'.out hlen)
                rw [hlen] at hck HSL hrm
                clear HCL' HCB' HCG' hlen
                have hmm : ((m : Int) != (m : Int)) = false := by simp
                go_wp2
                obtain ⟨wo, hwo⟩ : ∃ wo : World, wo = wr := ⟨_, rfl⟩
                rw [← hwo] at HWX hbx hck ⊢
                clear hwo wr
                have HCK := hide hck
                have HBX2 := hide hbx
                clear hck hbx
                go_loopw [6] (fun i wx => ∃ q n' : Nat, q ≤ m ∧ i = .int .i64 q ∧ wx = wo.drewN n' ∧ ∀ j, j < q → 0 ≤ r.getD j 0 ∧ r.getD j 0 < (len' : Int)) (fun i _ => m - (intOf i).toNat)
                case atStart => exact ⟨0, 0, by omega, rfl, rfl, by omega⟩
                case round =>
                  obtain ⟨q, n', hq, rfl, hwx, hd⟩ := hrel
                  have HWX2 := hide hwx
                  have HDQ := hide hd
                  have hbx : wr.cell? ⟨w.heap.size, 2, none⟩ = some (.slice (some ⟨bb, o, none⟩) len' cap) := by rw [hwx]; exact HBX2.out
                  have hck : wr.cell? ⟨bb, o + k, none⟩ = some (.slice a1 m c1) := by rw [hwx]; exact HCK.out
                  clear hwx hd
                  by_cases hqt : q < m
                  · have hqti : (q : Int) < (m : Int) := by omega
                    obtain ⟨b1, o1, rfl, hx0⟩ := sl_cell HSL.out q hqt
                    have hxc : wr.cell? ⟨b1, o1 + q, none⟩ = some (.int .i64 (r.getD q 0)) := by rw [HWX2.out, HWX.out]; exact hx0
                    clear hx0
                    have HBQ := hide (HCB2.out q hqt)
                    have HDQ' : Hid (0 ≤ r.getD q 0 ∧ r.getD q 0 < (len' : Int) → ∀ j, j < q + 1 → 0 ≤ r.getD j 0 ∧ r.getD j 0 < (len' : Int)) := by
                      intro h j hj
                      by_cases e : j = q
                      · subst e; exact h
                      · exact HDQ.out j (by omega)
                    generalize r.getD q 0 = x at hxc HBQ HDQ'
                    by_cases hx : 0 ≤ x ∧ x < (len' : Int)
                    · have HDQ2 := hide (HDQ'.out hx)
                      obtain ⟨hx1, hx2⟩ := hx
                      have hxd : decide (x < 0) = false := by simp; omega
                      go_wp2
                      go_quiet (fail)
                      go_wp2
                      go_roundw
                      case rel => exact ⟨q + 1, n' + nq, by omega, by go_num, by rw [HWX2.out, World.drewN_drewN], HDQ2.out⟩
                      case measure => simp [intOf]; omega
                    · have HC1 := hide (HBQ.out hx)
                      have HR := hide (HAT'.out (by rw [HC1.out]; decide))
                      rw [HR.out, HC1.out] at HA
                      have HBW : Hid (Below w.heap.size w wr) := by rw [HWX2.out, HWX.out]; exact below_drewN (below_drewN HB.out n) n'
                      have hx' : x < 0 ∨ (decide (x < 0) = false ∧ (len' : Int) ≤ x) := by
                        by_cases e : x < 0
                        · exact Or.inl e
                        · exact Or.inr ⟨by simp; omega, by omega⟩
                      clear hx HR HC1
                      rcases hx' with hx | ⟨hx1, hx2⟩
                      all_goals
                        go_wp2
                        go_quiet (fail)
                        go_wp2
                        go_ret
                        exact ⟨by rw [HA.out]; simp, below_drewN HBW.out nq⟩
                  · have hqti : ¬ ((q : Int) < (m : Int)) := by omega
                    have HD2 := hide (HD'.out (HCG2.out fun j hj => HDQ.out j (by omega)))
                    go_wp2
                    go_roundw
                    case rel => exact ⟨k + 1, n + n', by omega, by go_num, by rw [HWX2.out, HWX.out, World.drewN_drewN], HD2.out⟩
                    case measure => simp [intOf]; omega
              · have HC2 := hide (HCL'.out hlen)
                have HR := hide (HAT'.out (by rw [HC2.out]; decide))
                rw [HR.out, HC2.out] at HA
                have hne : ((r.length : Int) != (m : Int)) = true := by simp; omega
                have HBW : Hid (Below w.heap.size w wr) := by rw [HWX.out]; exact below_drewN HB.out n
                clear HR HC2 HSL
                go_wp2
                go_ret
                exact ⟨by rw [HA.out]; simp, HBW.out⟩
            · have hlti : ¬ ((k : Int) < (len' : Int)) := by omega
              have HR := hide (HALL.out fun j hj => HD.out j (by omega))
              rw [HR.out] at HA
              have HBW : Hid (Below w.heap.size w wr) := by rw [HWX.out]; exact below_drewN HB.out n
              go_wp2
              go_ret
              exact ⟨by rw [HA.out]; simp, HBW.out⟩
        · rw [if_neg hE] at HA
          have hee : ((len' : Int) != (len : Int)) = true := by simp; omega
          go_enter Tryd.func6, Tryd.ntmps6
          go_wp2_with (go_at_call 19; refine (HMU.out _).mono ?_; rintro e w' ⟨rfl, rfl⟩)
          go_ret
          exact ⟨by rw [HA.out]; simp, (Below.refl _ _).alloc (Nat.le_refl _) _⟩
  · have HA : Hid (autoC b t N len' = codeM b t) := by show _ = _; unfold autoC; rw [if_neg hM]
    rw [HA.out]
    generalize codeM b t = c at HMU hM ⊢
    have hM' : (c != 0) = true := by simpa using hM
    go_enter Tryd.func6, Tryd.ntmps6
    go_wp2_with (go_at_call 19; refine (HMU.out _).mono ?_; rintro e w' ⟨rfl, rfl⟩)
    go_ret
    exact ⟨by simp, (Below.refl _ _).alloc (Nat.le_refl _) _⟩

end Go.Proofs.YtlgjadnkokmjoaaDoor

/- filbertsame.Lists, Autos: two that read alike are the same; the reference's Alike: contracts. -/
namespace Go.Proofs.YtlgjadnkokmjoaaDoor
open Go.RowKit

theorem sl_drew {w : World} {a : Option Addr} {len : Nat} {l : List Int} (h : Sl w a len l) (n : Nat) : Sl (w.drewN n) a len l := sl_below h (below_drewN (Below.refl _ _) n)

set_option maxHeartbeats 2000000 in
set_option maxRecDepth 4000 in
theorem lists_eq (a a' : Option Addr) (n cap cap' : Nat) (N : List (List Int)) (w : World) (hs : Sl2 w a n N) (hs' : Sl2 w a' n N) :
    Calls Tryd.prog 32 #[.slice a n cap, .slice a' n cap'] w fun e w' => e = .returned (.bool true) ∧ ∃ k, w' = w.drewN k := by
  have hm := hs.2.1
  unfold maxLen at hm
  have HS := hide hs
  have HS' := hide hs'
  have hnn : ((n : Int) != (n : Int)) = false := by simp
  have HI : Hid (∀ W (a1 a2 : Option Addr) (l1 c1 c2 : Nat) (r : List Int), Sl W a1 l1 r → Sl W a2 l1 r → Calls Tryd.prog 31 #[.slice a1 l1 c1, .slice a2 l1 c2] W fun e w' => e = .returned (.bool true) ∧ ∃ k, w' = W.drewN k) := by
    intro W a1 a2 l1 c1 c2 r h1 h2
    have := ints_long a1 a2 l1 c1 c2 r r W h1 h2
    rwa [decide_eq_true rfl] at this
  clear hs hs'
  go_enter Tryd.func32, Tryd.ntmps32
  go_wp2
  go_loopw [5] (fun i wx => ∃ k q : Nat, k ≤ n ∧ i = .int .i64 k ∧ wx = w.drewN q) (fun i _ => n - (intOf i).toNat)
  case atStart => exact ⟨0, 0, by omega, rfl, rfl⟩
  case round =>
    obtain ⟨k, q, hk, rfl, hwx⟩ := hrel
    have HWX := hide hwx
    by_cases hlt : k < n
    · have hlti : (k : Int) < (n : Int) := by omega
      obtain ⟨b1, o1, a1, c1, rfl, h1, s1⟩ := sl2_cell HS.out k hlt
      obtain ⟨b2, o2, a2, c2, rfl, h2, s2⟩ := sl2_cell HS'.out k hlt
      have g1 : wr.cell? ⟨b1, o1 + k, none⟩ = some (.slice a1 (N.getD k []).length c1) := by rw [hwx]; exact h1
      have g2 : wr.cell? ⟨b2, o2 + k, none⟩ = some (.slice a2 (N.getD k []).length c2) := by rw [hwx]; exact h2
      have HK := hide (fun j => HI.out (wr.drewN j) a1 a2 (N.getD k []).length c1 c2 (N.getD k []) (by rw [hwx, World.drewN_drewN]; exact sl_drew s1 _) (by rw [hwx, World.drewN_drewN]; exact sl_drew s2 _))
      clear h1 h2 s1 s2 hwx
      generalize (N.getD k []).length = rl at g1 g2 HK
      go_wp2
      go_quiet (first | (go_at_call 31; refine Calls.quiet_of (HK.out _)))
      go_wp2
      go_roundw
      case rel => exact ⟨k + 1, q + nq, by omega, by go_num, by rw [HWX.out, World.drewN_drewN]⟩
      case measure => simp [intOf]; omega
    · have hlti : ¬ ((k : Int) < (n : Int)) := by omega
      clear hwx
      go_wp2
      go_ret
      exact ⟨by simp, q, HWX.out⟩

end Go.Proofs.YtlgjadnkokmjoaaDoor
