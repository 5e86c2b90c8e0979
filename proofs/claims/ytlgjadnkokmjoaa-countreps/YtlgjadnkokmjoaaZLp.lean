/- 2 texts in one. -/
import Derived.Test.YtlgjadnkokmjoaaRows
import Derived.Below
import Derived.LaidEql
import Derived.OwnWalk
import Derived.RegionTactic
import Derived.RowKitTokens
import Derived.Stop.Asserts
import Derived.WalkKit
import Derived.WalkSmall
import Derived.Test.YtlgjadnkokmjoaaMa
import Derived.Test.YtlgjadnkokmjoaaA
import Derived.Test.YtlgjadnkokmjoaaZF
import Derived.Test.YtlgjadnkokmjoaaZNx
import Derived.Test.YtlgjadnkokmjoaaRa
import Derived.Test.YtlgjadnkokmjoaaZRu
/- Letters by the reference (Letters, DigitOf, PackOf), letter.Pack and letter.Unpack: contracts. -/
namespace Go.Proofs.Ytlgjadnkokmjoaa
open Go.RowKit

set_option maxHeartbeats 1000000 in
set_option maxRecDepth 4000 in
theorem digitOf_any (b : Int) (n : Nat) (l : Int) (i : Nat) (w : World) (h1 : 1 ≤ b) (h2 : b ≤ 6) (hn : n ≤ 5) (hi : i < n) (hl : 0 ≤ l) (hl' : l ≤ 100000000) :
    Calls Try.prog 22 #[.int .i64 b, .int .i64 n, .int .i64 l, .int .i64 i] w fun e w' => e = .returned (.int .i64 (dOf b n l i)) ∧ w' = w := by
  have hk := kinds_bd2 b h2
  obtain ⟨hk1, hk2⟩ := hk
  have HK := hide (fun w => radix_yes b w h1 h2)
  have HDB := hide (div_bd (kindsI b) hk1 l hl)
  have HDP := hide (div_pw (kindsI b) hk1 l)
  have hk0 : (kindsI b == 0) = false := by simp; omega
  have HD0 : Hid (l / pw (kindsI b) 0 = l) := by show _ = _; simp [pw]
  have HEND : Hid (dOf b n l i = l / pw (kindsI b) (n - 1 - i) % kindsI b) := rfl
  generalize dOf b n l i = D at HEND ⊢
  generalize kindsI b = K at hk1 hk2 HK HDB HDP hk0 HD0 HEND
  go_enter Try.func22, Try.ntmps22
  go_wp2_with (go_at_call 7; refine (HK.out _).mono ?_; rintro e w' ⟨rfl, rfl⟩)
  go_loop [2, 10] (fun s u => ∃ k m : Nat, m + 1 + k = n ∧ i ≤ m ∧ u = .int .i64 m ∧ s = .int .i64 (l / pw K k)) (fun _ u => (intOf u).toNat)
  case atStart => exact ⟨0, n - 1, by omega, by omega, by congr 1; omega, by rw [HD0.out]⟩
  case round =>
    obtain ⟨k, m, hm, him, rfl, rfl⟩ := hrel
    have hdb := HDB.out k
    obtain ⟨hd1, hd2⟩ := hdb
    by_cases hlt : i < m
    · have hlti : (i : Int) < (m : Int) := by omega
      have HDP' := hide (HDP.out k)
      generalize l / pw K k = q at hd1 hd2 HDP' ⊢
      go_wp2
      go_round
      case rel => exact ⟨k + 1, m - 1, by omega, by omega, by congr 1; omega, by rw [HDP'.out]⟩
      case measure => simp [intOf]; omega
    · have hlti : ¬ ((i : Int) < (m : Int)) := by omega
      have HE : Hid (D = l / pw K k % K) := by rw [show k = n - 1 - i by omega]; exact HEND.out
      clear HEND
      generalize l / pw K k = q at hd1 hd2 HE ⊢
      go_wp2
      go_ret
      exact ⟨by rw [HE.out]; simp, rfl⟩

set_option maxHeartbeats 1000000 in
set_option maxRecDepth 4000 in
theorem packOf_any (b : Int) (a : Option Addr) (len cap : Nat) (l : List Int) (w : World) (h1 : 1 ≤ b) (h2 : b ≤ 6) (hlen : len ≤ 5) (hd : digB b l = true) (hs : Sl w a len l) :
    Calls Try.prog 23 #[.int .i64 b, .slice a len cap] w fun e w' => e = .returned (.int .i64 (packL b l)) ∧ ∃ n, w' = w.drewN n := by
  have HL := hide hs.1
  have HS := hide hs
  have hk := kinds_bd2 b h2
  obtain ⟨hk1, hk2⟩ := hk
  have HK := hide (fun w => radix_yes b w h1 h2)
  have HT := hide (packL_take_succ b l)
  have HBD : Hid (∀ k, k ≤ len → 0 ≤ packL b (l.take k) ∧ packL b (l.take k) ≤ 7776) := by
    intro k hk
    have := packL_bd b h2 l k (by rw [hs.1]; exact hk) (fun j hj => digB_get2 hd j (by rw [hs.1]; omega))
    have := pw_bd (kindsI b) hk1 hk2 k (by omega)
    omega
  have HDG : Hid (∀ k, k < len → 0 ≤ l.getD k 0 ∧ l.getD k 0 < kindsI b) := fun k hk => digB_get2 hd k (by rw [hs.1]; exact hk)
  clear hs hd
  generalize kindsI b = K at hk1 hk2 HK HT HDG
  go_enter Try.func23, Try.ntmps23
  go_wp2
  go_loopw [5, 6] (fun s i wx => ∃ k n : Nat, k ≤ len ∧ i = .int .i64 k ∧ s = .int .i64 (packL b (l.take k)) ∧ wx = w.drewN n) (fun _ i _ => len - (intOf i).toNat)
  case atStart => exact ⟨0, 0, by omega, rfl, rfl, rfl⟩
  case round =>
    obtain ⟨k, n, hk, rfl, rfl, rfl⟩ := hrel
    have hbd := HBD.out k hk
    obtain ⟨hb1, hb2⟩ := hbd
    by_cases hlt : k < len
    · have hlti : (k : Int) < (len : Int) := by omega
      obtain ⟨bb, o, rfl, hck⟩ := sl_cell HS.out k hlt
      have HT' := hide (HT.out k (by rw [HL.out]; exact hlt))
      have hdg := HDG.out k hlt
      obtain ⟨hx1, hx2⟩ := hdg
      generalize l.getD k 0 = x at hck hx1 hx2 HT'
      generalize packL b (l.take k) = p at hb1 hb2 HT' ⊢
      have hm1 : 0 ≤ p * K := Int.mul_nonneg hb1 (by omega)
      have hm2 : p * K ≤ 7776 * 6 := Int.mul_le_mul hb2 hk2 (by omega) (by omega)
      have hck' : (w.drewN n).cell? ⟨bb, o + k, none⟩ = some (.int .i64 x) := hck
      clear hck
      generalize hwx : w.drewN n = wx at hck' ⊢
      have HWX := hide hwx
      clear hwx
      go_wp2
      go_quiet (first | (go_at_call 7; refine Calls.quiet_of_same (HK.out _)))
      go_wp2
      go_roundw
      case rel => exact ⟨k + 1, n + nq, by omega, by go_num, by rw [HT'.out], by rw [← HWX.out, World.drewN_drewN]⟩
      case measure => simp [intOf]; omega
    · have hlti : ¬ ((k : Int) < (len : Int)) := by omega
      obtain rfl : k = len := by omega
      have HA : Hid (l.take k = l) := List.take_of_length_le (by rw [HL.out]; omega)
      rw [HA.out] at hb1 hb2 ⊢
      go_wp2
      go_ret
      exact ⟨by simp, n, rfl⟩

/-- The fault of digits that are to be one letter; the letter. -/
def codeP (b : Int) (l : List Int) : Int := if codeM b l.length = 0 then (if digB b l = true then 0 else 1) else codeM b l.length
def packU (b : Int) (l : List Int) : Int := if codeP b l = 0 then packL b l else 0

set_option maxHeartbeats 1000000 in
set_option maxRecDepth 4000 in
theorem pack_many (b : Int) (a : Option Addr) (len cap : Nat) (w : World) (hM : codeM b len ≠ 0) :
    Calls Try.prog 30 #[.int .i64 b, .slice a len cap] w fun e w' => e = .returned (.tuple #[.int .i64 0, errV (codeM b len)]) ∧ w' = w := by
  have HMC := hide (many_u b len w)
  rw [errV_ne hM] at HMC ⊢
  generalize codeM b len = c at HMC ⊢
  generalize manyU b len = M at HMC
  clear hM
  go_enter Try.func30, Try.ntmps30
  go_wp2_with (go_at_call 27; refine HMC.out.mono ?_; rintro e w' ⟨rfl, hw⟩; rw [hw]; clear hw w')
  go_ret2
  exact ⟨by simp, rfl⟩

set_option maxHeartbeats 1000000 in
set_option maxRecDepth 4000 in
theorem pack_ok (b : Int) (a : Option Addr) (len cap : Nat) (l : List Int) (w : World) (hM : codeM b len = 0) (hs : Sl w a len l) :
    Calls Try.prog 30 #[.int .i64 b, .slice a len cap] w fun e w' => e = .returned (.tuple #[.int .i64 (if digB b l = true then packL b l else 0), errV (if digB b l = true then 0 else 1)]) ∧ w' = w := by
  obtain ⟨h1, h2, h3, h4, _, _⟩ := codeM_zero hM
  have HL := hide hs.1
  have HS := hide hs
  have hk := kinds_bd2 b h2
  obtain ⟨hk1, hk2⟩ := hk
  have HMC := hide (many_u b len w)
  rw [hM, errV_zero] at HMC
  generalize manyU b len = M at HMC
  have HK := hide (fun w => kinds_any b w h1 h2)
  have HT := hide (packL_take_succ b l)
  have HBD : Hid (∀ k, k ≤ len → digB b (l.take k) = true → 0 ≤ packL b (l.take k) ∧ packL b (l.take k) ≤ 7776) := by
    intro k hk hd
    have hlk : (l.take k).length = k := by rw [List.length_take, hs.1]; omega
    have := packL_bd b h2 (l.take k) k (by rw [hlk]; omega) (fun j hj => digB_get2 hd j (by rw [hlk]; omega))
    rw [List.take_take, Nat.min_self] at this
    have := pw_bd (kindsI b) hk1 hk2 k (by omega)
    omega
  have HDT := hide (digB_take_succ b l)
  have HDN : Hid (∀ k, k < len → ¬ (0 ≤ l.getD k 0 ∧ l.getD k 0 < kindsI b) → digB b l = false) := by
    intro k hk hx
    have := digB_not b l k (by rw [hs.1]; exact hk) hx
    unfold chkV at this
    split at this
    · cases this
    · rename_i h; simpa using h
  have HR1 : Hid (digB b l = true → (Value.tuple #[.int .i64 (if digB b l = true then packL b l else 0), errV (if digB b l = true then 0 else 1)]) = .tuple #[.int .i64 (packL b l), .nilIface]) := by
    intro h; rw [if_pos h, if_pos h, errV_zero]
  have HR2 : Hid (digB b l = false → (Value.tuple #[.int .i64 (if digB b l = true then packL b l else 0), errV (if digB b l = true then 0 else 1)]) = .tuple #[.int .i64 0, .iface 52 (.int .i64 1)]) := by
    intro h; rw [if_neg (by simp [h]), if_neg (by simp [h]), errV_ne (by decide)]
  generalize Value.tuple #[.int .i64 (if digB b l = true then packL b l else 0), errV (if digB b l = true then 0 else 1)] = R at HR1 HR2 ⊢
  clear hs hM
  generalize kindsI b = K at hk1 hk2 HK HT HDT HDN
  go_enter Try.func30, Try.ntmps30
  go_wp2_with (go_at_call 27; refine HMC.out.mono ?_; rintro e w' ⟨rfl, hw⟩; rw [hw]; clear hw w')
  clear HMC
  go_loop [8, 23] (fun s i => ∃ k : Nat, k ≤ len ∧ i = .int .i64 k ∧ s = .int .i64 (packL b (l.take k)) ∧ digB b (l.take k) = true) (fun _ i => len - (intOf i).toNat)
  case atStart => exact ⟨0, Nat.zero_le _, rfl, rfl, rfl⟩
  case round =>
    obtain ⟨k, hk, rfl, rfl, hd⟩ := hrel
    have hbd := HBD.out k hk hd
    obtain ⟨hb1, hb2⟩ := hbd
    have HD := hide hd
    clear hd
    by_cases hlt : k < len
    · obtain ⟨bb, o, rfl, hck⟩ := sl_cell HS.out k hlt
      have hlti : (k : Int) < (len : Int) := by omega
      have HT' := hide (HT.out k (by rw [HL.out]; exact hlt))
      have HDT' := hide (HDT.out k (by rw [HL.out]; exact hlt))
      have HDN' := hide (HDN.out k hlt)
      generalize l.getD k 0 = x at hck HT' HDT' HDN'
      generalize packL b (l.take k) = p at hb1 hb2 HT' ⊢
      by_cases hx : 0 ≤ x ∧ x < K
      · obtain ⟨hx1, hx2⟩ := hx
        have hm1 : 0 ≤ p * K := Int.mul_nonneg hb1 (by omega)
        have hm2 : p * K ≤ 7776 * 6 := Int.mul_le_mul hb2 hk2 (by omega) (by omega)
        go_wp2_with (go_at_call 28; refine (HK.out _).mono ?_; rintro e w' ⟨rfl, rfl⟩)
        go_round
        case rel => exact ⟨k + 1, by omega, by go_num, by rw [HT'.out], by rw [HDT'.out, HD.out]; simp [hx1, hx2]⟩
        case measure => simp [intOf]; omega
      · have HF := hide (HR2.out (HDN'.out hx))
        have hx' : x < 0 ∨ (0 ≤ x ∧ K ≤ x) := by omega
        clear hx
        rcases hx' with hx | ⟨hx1, hx2⟩
        all_goals
          go_wp2_with (go_at_call 28; refine (HK.out _).mono ?_; rintro e w' ⟨rfl, rfl⟩)
          go_ret2
          exact ⟨by rw [HF.out]; simp, rfl⟩
    · have hlti : ¬ ((k : Int) < (len : Int)) := by omega
      obtain rfl : k = len := by omega
      have HA : Hid (l.take k = l) := List.take_of_length_le (by rw [HL.out]; omega)
      rw [HA.out] at HD hb1 hb2 ⊢
      have HF := hide (HR1.out HD.out)
      generalize packL b l = p at hb1 hb2 HF ⊢
      go_wp2
      go_ret2
      exact ⟨by rw [HF.out]; simp, rfl⟩

theorem pack_u (b : Int) (a : Option Addr) (len cap : Nat) (l : List Int) (w : World) (hs : Sl w a len l) :
    Calls Try.prog 30 #[.int .i64 b, .slice a len cap] w fun e w' => e = .returned (.tuple #[.int .i64 (packU b l), errV (codeP b l)]) ∧ w' = w := by
  by_cases hM : codeM b len = 0
  · have := pack_ok b a len cap l w hM hs
    have hc : codeP b l = if digB b l = true then 0 else 1 := by unfold codeP; rw [hs.1, if_pos hM]
    have hp : packU b l = if digB b l = true then packL b l else 0 := by
      unfold packU; rw [hc]; split <;> simp
    rw [hc, hp]
    exact this
  · have := pack_many b a len cap w hM
    have hc : codeP b l = codeM b len := by unfold codeP; rw [hs.1, if_neg hM]
    have hp : packU b l = 0 := by unfold packU; rw [hc, if_neg hM]
    rw [hc, hp]
    exact this

/-- The fault of a letter. -/
def codeU (b t l : Int) : Int := if codeM b t = 0 then (if 0 ≤ l ∧ l < manyU b t then 0 else 1) else codeM b t

theorem codeU_zero {b t l : Int} (h : codeU b t l = 0) : codeM b t = 0 ∧ 0 ≤ l ∧ l < manyU b t := by
  unfold codeU at h
  split at h
  · split at h
    · exact ⟨by assumption, by omega, by omega⟩
    · cases h
  · contradiction

end Go.Proofs.Ytlgjadnkokmjoaa

/- The reference's Fault, LongFault and Behind: contracts. -/
namespace Go.Proofs.Ytlgjadnkokmjoaa
open Go.RowKit

set_option maxHeartbeats 2000000 in
set_option maxRecDepth 4000 in
theorem behind_any (b t : Int) (a a' : Option Addr) (len cap len' cap' m : Nat) (N : List (List Int)) (aw : Option Addr) (lw cw : Nat) (l : List Int) (w : World) (hs : Sl2 w a len N) (hw : Sl w aw lw l) (hG : GoodN m len N) (hC : wordC m l = 0) :
    Calls Try.prog 9 #[.agg #[.int .i64 b, .int .i64 t, .slice a len cap, .slice a' len' cap'], .slice aw lw cw] w fun e w' => e = .returned (.int .i64 (runL N l : Nat)) ∧ Below w.heap.size w w' := by
  have hLw := hw.1
  have hWZ := wordC_zero hC
  rw [hLw] at hWZ
  have HWZ := hide hWZ.2
  have hlw := hWZ.1
  have HB : Hid (Below w.heap.size w (w.alloc (.cells #[.int .i64 b, .int .i64 t, .slice a len cap, .slice a' len' cap'] 25))) := (Below.refl _ _).alloc (Nat.le_refl _) _
  have HS := hide (sl2_below hs HB.out)
  have HW := hide (sl_below hw HB.out)
  have HBX := hide (box4 (Below.refl (w.alloc (.cells #[.int .i64 b, .int .i64 t, .slice a len cap, .slice a' len' cap'] 25)).heap.size (w.alloc (.cells #[.int .i64 b, .int .i64 t, .slice a len cap, .slice a' len' cap'] 25)))).2.2.1
  have HLT := hide (fun k => @runL_lt m len N hG l k)
  have HTS := hide (fun k => @runL_take_succ N l k)
  have HST := hide (fun s => @goodN_step m len N hG s)
  have HROW : Hid (∀ s, s < len → (N.getD s []).length = m) := fun s h => (hG.2.2.2.2.2 s h).1
  have hm36 := hG.2.2.2.1
  have hn80 := hG.2.2.1
  have HEND : Hid (runL N (l.take lw) = runL N l) := by show _ = _; rw [List.take_of_length_le (by omega)]
  rw [hLw] at HLT HTS
  clear hs hw hC hWZ hG
  generalize hRL : runL N l = RL at HEND ⊢
  clear hRL
  go_enter Try.func9, Try.ntmps9
  go_wp2
  generalize w.alloc (.cells #[.int .i64 b, .int .i64 t, .slice a len cap, .slice a' len' cap'] 25) = W at HS HW HB HBX ⊢
  go_loopw [5, 6] (fun s i wx => ∃ k n : Nat, k ≤ lw ∧ i = .int .i64 k ∧ s = .int .i64 (runL N (l.take k) : Nat) ∧ wx = W.drewN n) (fun _ i _ => lw - (intOf i).toNat)
  case atStart => exact ⟨0, 0, by omega, rfl, by simp [runL], rfl⟩
  case round =>
    obtain ⟨k, n, hk, rfl, rfl, hwx⟩ := hrel
    have HWX := hide hwx
    have hbx : wr.cell? ⟨w.heap.size, 2, none⟩ = some (.slice a len cap) := by rw [hwx]; exact HBX.out
    clear hwx
    by_cases hlt : k < lw
    · have hlti : (k : Int) < (lw : Int) := by omega
      have hsl := HLT.out k (by omega) (fun j hj => HWZ.out j (by omega))
      have HTS' := hide (HTS.out k hlt)
      obtain ⟨bw, ow, rfl, hcw0⟩ := sl_cell HW.out k hlt
      have hcw : wr.cell? ⟨bw, ow + k, none⟩ = some (.int .i64 (l.getD k 0)) := by rw [HWX.out]; exact hcw0
      have hx := HWZ.out k hlt
      clear hcw0
      generalize runL N (l.take k) = s at hsl HTS' ⊢
      generalize l.getD k 0 = x at hcw hx HTS'
      obtain ⟨bn, on, a1, c1, rfl, hcn0, hsl1⟩ := sl2_cell HS.out s hsl
      rw [HROW.out s hsl] at hcn0 hsl1
      have hcn : wr.cell? ⟨bn, on + s, none⟩ = some (.slice a1 m c1) := by rw [HWX.out]; exact hcn0
      have hsli : (s : Int) < (len : Int) := by omega
      have HST' := hide (HST.out s hsl x hx)
      obtain ⟨y, rfl⟩ : ∃ y : Nat, x = y := ⟨x.toNat, by omega⟩
      have hy : y < m := by omega
      have hyi : (y : Int) < (m : Int) := by omega
      obtain ⟨b1, o1, rfl, hc10⟩ := sl_cell hsl1 y hy
      rw [Int.toNat_natCast] at HST'
      rw [← HST'.out.2] at hc10
      have hc1 : wr.cell? ⟨b1, o1 + y, none⟩ = some (.int .i64 (stepL N s (y : Int) : Nat)) := by rw [HWX.out]; exact hc10
      clear hsl1 hcn0 hc10 hx
      generalize stepL N s (y : Int) = s' at hc1 HTS'
      go_wp2
      go_quiet (fail)
      go_wp2
      go_roundw
      case rel => exact ⟨k + 1, n + nq, by omega, by go_num, by rw [HTS'.out], by rw [HWX.out, World.drewN_drewN]⟩
      case measure => simp [intOf]; omega
    · have hlti : ¬ ((k : Int) < (lw : Int)) := by omega
      obtain rfl : k = lw := by omega
      have HBW : Hid (Below w.heap.size w wr) := by rw [HWX.out]; exact below_drewN HB.out n
      rw [HEND.out]
      go_wp2
      go_ret
      exact ⟨by simp, HBW.out⟩
end Go.Proofs.Ytlgjadnkokmjoaa
