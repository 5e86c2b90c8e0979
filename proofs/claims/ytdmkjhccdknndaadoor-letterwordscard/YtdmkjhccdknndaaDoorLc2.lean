/- letter.apart, whatever is handed in; letter.Right and letter.Nums by it. -/
import Derived.Test.YtdmkjhccdknndaaDoorLc
namespace Go.Proofs.YtdmkjhccdknndaaDoor
open Go.RowKit

theorem errV_ne {c : Int} (h : c ≠ 0) : errV c = .iface 27 (.int .i64 c) := by unfold errV; rw [if_neg h]
theorem errV_zero : errV 0 = .nilIface := rfl

def ApU (b t : Int) (l : List Int) (w : World) (e : Ending) (w' : World) : Prop := ApGives w (if codeW b t l = 0 then tracksL b t.toNat l else []) (errV (codeW b t l)) e w'

set_option maxHeartbeats 1000000 in
set_option maxRecDepth 4000 in
theorem apart_many (b t : Int) (a : Option Addr) (len cap : Nat) (w : World) (hM : codeM b t ≠ 0) :
    Calls Tryd.prog 40 #[.int .i64 b, .int .i64 t, .slice a len cap] w fun e w' => e = .returned (.tuple #[.slice none 0 0, errV (codeM b t)]) ∧ w' = w := by
  have HMC := hide (many_u b t w)
  rw [errV_ne hM] at HMC ⊢
  generalize codeM b t = c at HMC ⊢
  generalize manyU b t = M at HMC
  clear hM
  go_enter Tryd.func40, Tryd.ntmps40
  go_wp2_with (go_at_call 16; refine HMC.out.mono ?_; rintro e w' ⟨rfl, hw⟩; rw [hw]; clear hw w')
  go_ret2
  exact ⟨by simp, rfl⟩

set_option maxHeartbeats 1000000 in
set_option maxRecDepth 4000 in
theorem apart_full (b t : Int) (a : Option Addr) (len cap : Nat) (w : World) (hM : codeM b t = 0) (hlen : 60 < len) (hm : len ≤ maxLen) :
    Calls Tryd.prog 40 #[.int .i64 b, .int .i64 t, .slice a len cap] w fun e w' => e = .returned (.tuple #[.slice none 0 0, .iface 27 (.int .i64 3)]) ∧ w' = w := by
  unfold maxLen at hm
  have hlen' : (60 : Int) < (len : Int) := by omega
  have HMC := hide (many_u b t w)
  rw [hM, errV_zero] at HMC
  generalize manyU b t = M at HMC
  clear hM
  go_enter Tryd.func40, Tryd.ntmps40
  go_wp2_with (go_at_call 16; refine HMC.out.mono ?_; rintro e w' ⟨rfl, hw⟩; rw [hw]; clear hw w')
  go_ret2
  exact ⟨by simp, rfl⟩

theorem apGives_none (w w' : World) (er : Value) (hb : Below w.heap.size w w') : ApGives w [] er (.returned (.tuple #[.slice none 0 0, er])) w' := ⟨none, 0, rfl, ⟨rfl, by decide, Or.inl rfl⟩, hb⟩

theorem apart_u (b t : Int) (a : Option Addr) (len cap : Nat) (l : List Int) (w : World) (hs : Sl w a len l) :
    Calls Tryd.prog 40 #[.int .i64 b, .int .i64 t, .slice a len cap] w (ApU b t l w) := by
  have hL := hs.1
  by_cases hM : codeM b t = 0
  · obtain ⟨h1, h2, h3, h4, _, _⟩ := codeM_zero hM
    obtain ⟨n, rfl⟩ : ∃ n : Nat, t = n := ⟨t.toNat, by omega⟩
    by_cases hl : len ≤ 60
    · refine (apart_ok b n a len cap l w hM hl hs).mono fun e w' h => ?_
      unfold ApPost at h
      unfold ApU
      cases hb : letB b n l with
      | true =>
        have hc : codeW b n l = 0 := by unfold codeW; rw [if_pos hM, if_pos (by omega), if_pos hb]
        rw [if_pos hb, if_pos hb] at h
        rw [hc, if_pos rfl, errV_zero, Int.toNat_natCast]
        exact h
      | false =>
        have hc : codeW b n l = 1 := by unfold codeW; rw [if_pos hM, if_pos (by omega), if_neg (by simp [hb])]
        rw [if_neg (by simp [hb]), if_neg (by simp [hb])] at h
        rw [hc, if_neg (by decide)]
        exact h
    · refine (apart_full b n a len cap w hM (by omega) hs.2.1).mono ?_
      rintro e w' ⟨rfl, rfl⟩
      have hc : codeW b n l = 3 := by unfold codeW; rw [if_pos hM, if_neg (by omega)]
      unfold ApU
      rw [hc, if_neg (by decide)]
      exact apGives_none _ _ _ (Below.refl _ _)
  · refine (apart_many b t a len cap w hM).mono ?_
    rintro e w' ⟨rfl, rfl⟩
    have hc : codeW b t l = codeM b t := by unfold codeW; rw [if_neg hM]
    unfold ApU
    rw [hc, if_neg hM]
    exact apGives_none _ _ _ (Below.refl _ _)

/-- Are the digits of all tracks right? -/
def rightW (b t : Int) (l : List Int) : Bool := (tracksL b t.toNat l).all (rightB b)

theorem tracksL_get (b : Int) (n : Nat) (l : List Int) (i : Nat) (h : i < n) : (tracksL b n l).getD i [] = trackL b n l i := by simp [tracksL, List.getD, h]
theorem tracksL_length (b : Int) (n : Nat) (l : List Int) : (tracksL b n l).length = n := by simp [tracksL]
theorem rightW_not {b : Int} {n : Nat} {l : List Int} {i : Nat} (h : i < n) (hr : rightB b (trackL b n l i) = false) : rightW b n l = false := by
  cases hd : rightW b n l with
  | false => rfl
  | true =>
    unfold rightW at hd
    rw [List.all_eq_true, Int.toNat_natCast] at hd
    have := hd (trackL b n l i) (by simp only [tracksL, List.mem_map, List.mem_range]; exact ⟨i, h, rfl⟩)
    rw [hr] at this; cases this
theorem rightW_yes {b : Int} {n : Nat} {l : List Int} (h : ∀ i, i < n → rightB b (trackL b n l i) = true) : rightW b n l = true := by
  unfold rightW
  rw [List.all_eq_true, Int.toNat_natCast]
  intro d hd
  simp only [tracksL, List.mem_map, List.mem_range] at hd
  obtain ⟨i, hi, rfl⟩ := hd
  exact h i hi

theorem codeD_track (b : Int) (h1 : 1 ≤ b) (h2 : b ≤ 6) (n : Nat) (l : List Int) (hl : l.length ≤ 60) (i : Nat) : codeD b (trackL b n l i) = 0 := by
  unfold codeD
  rw [if_pos ⟨h1, h2⟩, trackL_length, if_pos hl, if_pos (trackL_digB b h2 n l i)]

set_option maxHeartbeats 1000000 in
set_option maxRecDepth 4000 in
theorem wright_err (b t : Int) (a : Option Addr) (len cap : Nat) (l : List Int) (w : World) (hs : Sl w a len l) (hc : codeW b t l ≠ 0) :
    Calls Tryd.prog 26 #[.int .i64 b, .int .i64 t, .slice a len cap] w fun e w' => e = .returned (.tuple #[.bool false, errV (codeW b t l)]) ∧ Below w.heap.size w w' := by
  have HA := hide (apart_u b t a len cap l w hs)
  unfold ApU at HA
  rw [if_neg hc, errV_ne hc] at HA
  rw [errV_ne hc]
  generalize codeW b t l = c at HA ⊢
  clear hs hc
  go_enter Tryd.func26, Tryd.ntmps26
  go_wp2_with fail
  refine HA.out.mono ?_
  rintro e w1 ⟨a1, cap1, rfl, hs1, hb1⟩
  have HB1 := hide hb1
  clear hs1 hb1 HA
  go_wp2
  go_ret2
  exact ⟨by simp, HB1.out⟩

set_option maxHeartbeats 1000000 in
set_option maxRecDepth 4000 in
theorem wright_ok (b : Int) (n : Nat) (a : Option Addr) (len cap : Nat) (l : List Int) (w : World) (hs : Sl w a len l) (hc : codeW b n l = 0) :
    Calls Tryd.prog 26 #[.int .i64 b, .int .i64 n, .slice a len cap] w fun e w' => e = .returned (.tuple #[.bool (rightW b n l), .nilIface]) ∧ Below w.heap.size w w' := by
  have HA := hide (apart_u b n a len cap l w hs)
  unfold ApU at HA
  rw [if_pos hc, hc, errV_zero, Int.toNat_natCast] at HA
  obtain ⟨hM, hl, hlet⟩ := codeW_zero hc
  obtain ⟨h1, h2, h3, h4, _, _⟩ := codeM_zero hM
  have HCD := hide (codeD_track b h1 h2 n l hl)
  have HTG := hide (tracksL_get b n l)
  have HRN := hide (fun i => @rightW_not b n l i)
  have HRY := hide (@rightW_yes b n l)
  have hn : n ≤ 5 := by omega
  generalize rightW b n l = R at HRN HRY ⊢
  clear hs hc hM hlet hl
  go_enter Tryd.func26, Tryd.ntmps26
  go_wp2_with fail
  refine HA.out.mono ?_
  rintro e w1 ⟨a1, cap1, rfl, hs1, hb1⟩
  rw [tracksL_length] at hs1 ⊢
  have HB1 := hide hb1
  have HS1 := hide hs1
  clear hs1 hb1 HA
  go_wp2
  go_loop [26] (fun i => ∃ k : Nat, k ≤ n ∧ i = .int .i64 k ∧ ∀ j, j < k → rightB b (trackL b n l j) = true) (fun i => n - (intOf i).toNat)
  case atStart => exact ⟨0, by omega, rfl, by omega⟩
  case round =>
    obtain ⟨k, hk, rfl, hd⟩ := hrel
    have HD := hide hd
    clear hd
    by_cases hlt : k < n
    · have hlti : (k : Int) < (n : Int) := by omega
      obtain ⟨bb, o, a2, cap2, rfl, hck, hs2⟩ := sl2_cell HS1.out k hlt
      rw [HTG.out k hlt] at hck hs2
      have HR := hide (right_u b a2 _ cap2 _ w1 hs2)
      rw [HCD.out k, errV_zero] at HR
      have HRN' := hide (HRN.out k hlt)
      have HX : Hid (rightB b (trackL b n l k) = true → ∀ j, j < k + 1 → rightB b (trackL b n l j) = true) := by
        intro h j hj
        by_cases e : j = k
        · subst e; exact h
        · exact HD.out j (by omega)
      clear hs2
      generalize (trackL b n l k).length = m at hck HR
      generalize rightB b (trackL b n l k) = r at HR HRN' HX
      go_wp2_with fail
      refine HR.out.mono ?_
      rintro e w2 ⟨rfl, hw⟩
      rw [hw]
      clear hw w2 HR
      cases r with
      | true =>
        replace HX := hide (HX.out rfl)
        go_wp2
        go_round
        case rel => exact ⟨k + 1, by omega, by go_num, HX.out⟩
        case measure => simp [intOf]; omega
      | false =>
        replace HRN' := hide (HRN'.out rfl)
        clear HX
        go_wp2
        go_ret2
        exact ⟨by rw [HRN'.out]; simp, HB1.out⟩
    · have hlti : ¬ ((k : Int) < (n : Int)) := by omega
      obtain rfl : k = n := by omega
      have HR := hide (HRY.out HD.out)
      go_wp2
      go_ret2
      exact ⟨by rw [HR.out]; simp, HB1.out⟩

theorem wright_u (b t : Int) (a : Option Addr) (len cap : Nat) (l : List Int) (w : World) (hs : Sl w a len l) :
    Calls Tryd.prog 26 #[.int .i64 b, .int .i64 t, .slice a len cap] w fun e w' => e = .returned (.tuple #[.bool (decide (codeW b t l = 0) && rightW b t l), errV (codeW b t l)]) ∧ Below w.heap.size w w' := by
  by_cases hc : codeW b t l = 0
  · obtain ⟨h1, h2, h3, h4, _, _⟩ := codeM_zero (codeW_zero hc).1
    obtain ⟨n, rfl⟩ : ∃ n : Nat, t = n := ⟨t.toNat, by omega⟩
    have := wright_ok b n a len cap l w hs hc
    simpa [hc, errV_zero] using this
  · have := wright_err b t a len cap l w hs hc
    simpa [hc] using this
end Go.Proofs.YtdmkjhccdknndaaDoor
