/- Side by side they are what they were: mathematics. -/
import Derived.Test.YtdmkjhccdknndaaDoorLe
namespace Go.Proofs.YtdmkjhccdknndaaDoor
open Go.RowKit

theorem pack_div (b : Int) (h2 : b ≤ 6) (ds : List Int) (hd : ∀ j, j < ds.length → 0 ≤ ds.getD j 0 ∧ ds.getD j 0 < kindsI b) (j : Nat) (hj : j ≤ ds.length) : packL b ds / pw (kindsI b) j = packL b (ds.take (ds.length - j)) := by
  have hk := kinds_bd2 b h2
  induction j with
  | zero => simp [pw]
  | succ j ih =>
    have ih := ih (by omega)
    rw [← div_pw _ hk.1, ih]
    obtain ⟨m, hm⟩ : ∃ m, ds.length - j = m + 1 := ⟨ds.length - j - 1, by omega⟩
    rw [hm, show ds.length - (j + 1) = m by omega, packL_take_succ b ds m (by omega)]
    have hx := hd m (by omega)
    rw [Int.add_comm, Int.add_mul_ediv_right _ _ (by omega), Int.ediv_eq_zero_of_lt hx.1 hx.2]
    omega

theorem dOf_pack (b : Int) (h2 : b ≤ 6) (ds : List Int) (hd : ∀ j, j < ds.length → 0 ≤ ds.getD j 0 ∧ ds.getD j 0 < kindsI b) (i : Nat) (hi : i < ds.length) : dOf b ds.length (packL b ds) i = ds.getD i 0 := by
  have hk := kinds_bd2 b h2
  unfold dOf
  rw [pack_div b h2 ds hd _ (by omega), show ds.length - (ds.length - 1 - i) = i + 1 by omega, packL_take_succ b ds i hi]
  have hx := hd i hi
  rw [Int.add_comm, Int.add_mul_emod_self_right, Int.emod_eq_of_lt hx.1 hx.2]

/-- Digits with 0s ahead. -/
def padL (long : Nat) (d : List Int) : List Int := List.replicate (long - d.length) 0 ++ d
theorem padL_length (long : Nat) (d : List Int) (h : d.length ≤ long) : (padL long d).length = long := by simp [padL]; omega
theorem padL_get (long : Nat) (d : List Int) (h : d.length ≤ long) (p : Nat) : (padL long d).getD p 0 = digAt long p d := by
  unfold padL digAt
  by_cases e : long ≤ p + d.length
  · rw [if_pos e, List.getD, List.getElem?_append_right (by simp; omega), List.length_replicate, List.getD]
    congr 2
    omega
  · rw [if_neg e, List.getD, List.getElem?_append_left (by simp; omega), List.getElem?_replicate, if_pos (by omega)]
    rfl
theorem dropZ_pad (k : Nat) (d : List Int) : dropZ (List.replicate k 0 ++ d) = dropZ d := by
  induction k with
  | zero => rfl
  | succ k ih => simp only [List.replicate_succ, List.cons_append]; unfold dropZ at ih ⊢; simp [ih]
theorem val_pad (b : Int) (long : Nat) (d : List Int) : val b (padL long d) = val b d := by
  unfold padL
  rw [← val_dropZ b (List.replicate _ 0 ++ d), dropZ_pad, val_dropZ]
theorem onesB_cons0 (d : List Int) : onesB (0 :: d) = onesB d := by
  cases d with
  | nil => rfl
  | cons x r => simp [onesB]
theorem onesB_pad (k : Nat) (d : List Int) : onesB (List.replicate k 0 ++ d) = onesB d := by
  induction k with
  | zero => rfl
  | succ k ih => simp only [List.replicate_succ, List.cons_append]; rw [onesB_cons0, ih]
theorem rightB_pad (b : Int) (long : Nat) (d : List Int) : rightB b (padL long d) = rightB b d := by
  unfold rightB padL
  rw [onesB_pad]

theorem longL_ge (rows : List (List Int)) : ∀ d ∈ rows, d.length ≤ longL rows := by
  suffices h : ∀ (n : Nat) (rows : List (List Int)), n ≤ rows.foldl (fun m d => max m d.length) n ∧ ∀ d ∈ rows, d.length ≤ rows.foldl (fun m d => max m d.length) n from (h 0 rows).2
  intro n rows
  induction rows generalizing n with
  | nil => simp
  | cons c r ih =>
    simp only [List.foldl_cons]
    have := ih (max n c.length)
    refine ⟨by omega, fun d hd => ?_⟩
    rcases List.mem_cons.1 hd with rfl | hd
    · omega
    · exact this.2 d hd
theorem longL_at (rows : List (List Int)) (h : 0 < longL rows) : ∃ d ∈ rows, d.length = longL rows := by
  suffices hh : ∀ (n : Nat) (rows : List (List Int)), rows.foldl (fun m d => max m d.length) n = n ∨ ∃ d ∈ rows, d.length = rows.foldl (fun m d => max m d.length) n by
    rcases hh 0 rows with e | e
    · unfold longL at h; omega
    · exact e
  intro n rows
  induction rows generalizing n with
  | nil => simp
  | cons c r ih =>
    simp only [List.foldl_cons]
    rcases ih (max n c.length) with e | ⟨d, hd, e⟩
    · by_cases hc : n ≤ c.length
      · right; exact ⟨c, List.mem_cons_self, by omega⟩
      · left; omega
    · right; exact ⟨d, List.mem_cons_of_mem _ hd, e⟩

theorem map_get {α : Type} (f : List Int → α) (z : α) (rows : List (List Int)) (i : Nat) (h : i < rows.length) : (rows.map f).getD i z = f (rows.getD i []) := by simp [List.getD, h]

/-- The track of a word that was made of rows. -/
theorem track_side (b : Int) (h2 : b ≤ 6) (long : Nat) (rows : List (List Int)) (hd : ∀ d ∈ rows, digB b d = true) (hl : ∀ d ∈ rows, d.length ≤ long) (i : Nat) (hi : i < rows.length) : trackL b rows.length (sideL b long rows) i = padL long (rows.getD i []) := by
  have hmem : rows.getD i [] ∈ rows := by rw [List.getD, List.getElem?_eq_getElem hi]; exact List.getElem_mem _
  apply ext_getD
  · rw [trackL_length, sideL_length, padL_length _ _ (hl _ hmem)]
  · intro p hp
    rw [trackL_length, sideL_length] at hp
    rw [trackL_get _ _ _ _ _ (by rw [sideL_length]; exact hp), sideL_get _ _ _ _ hp, padL_get _ _ (hl _ hmem)]
    unfold letAt
    have := dOf_pack b h2 (rows.map (digAt long p)) (fun j hj => by
      rw [List.length_map] at hj
      rw [map_get _ _ _ _ hj]
      exact digAt_bd b h2 long p _ (hd _ (by rw [List.getD, List.getElem?_eq_getElem hj]; exact List.getElem_mem _))) i (by simpa using hi)
    rw [List.length_map] at this
    rw [this, map_get _ _ _ _ hi]

theorem codeWd_zero {b : Int} {nums : List Int} (h : codeWd b nums = 0) : codeM b nums.length = 0 ∧ ∀ j, j < nums.length → codeN b (nums.getD j 0) = 0 := by
  unfold codeWd at h
  split at h
  · rename_i hM
    refine ⟨hM, fun j hj => ?_⟩
    have := firstC_get0 _ h j (by simpa using hj)
    simpa [List.getD, hj] using this
  · contradiction

theorem codeN_zero {b n : Int} (h : codeN b n = 0) : ((1 ≤ b ∧ b ≤ 6) ∧ 0 ≤ n ∧ n ≤ 1099511627776) ∧ numL b n = dgs b n := by
  unfold codeN at h
  split at h
  · rename_i hh
    exact ⟨hh, by unfold numL; rw [if_pos hh]⟩
  · cases h

theorem word_tracks {b : Int} {nums : List Int} (h : codeWd b nums = 0) (i : Nat) (hi : i < nums.length) : trackL b nums.length (wordL b nums) i = padL (longL (rowsL b nums)) (dgs b (nums.getD i 0)) := by
  obtain ⟨hM, hN⟩ := codeWd_zero h
  obtain ⟨h1, h2, _⟩ := codeM_zero hM
  have := track_side b h2 (longL (rowsL b nums)) (rowsL b nums) (fun d hd => by
    simp only [rowsL, List.mem_map] at hd
    obtain ⟨x, _, rfl⟩ := hd
    exact numL_digB b x) (longL_ge _) i (by rw [rowsL_length]; exact hi)
  rw [rowsL_length, rowsL_get _ _ _ hi, (codeN_zero (hN i hi)).2] at this
  exact this

theorem wordL_length_le (b : Int) (nums : List Int) : (wordL b nums).length ≤ 60 := by
  unfold wordL
  rw [sideL_length]
  have := longL_le b nums nums.length (Nat.le_refl _)
  rw [List.take_of_length_le (by rw [rowsL_length]; omega)] at this
  exact this

theorem letter_bd {b : Int} (h2 : b ≤ 6) (nums : List Int) (p : Nat) : 0 ≤ letAt b (longL (rowsL b nums)) (rowsL b nums) p ∧ letAt b (longL (rowsL b nums)) (rowsL b nums) p < pw (kindsI b) nums.length := by
  have := packL_bd b h2 ((rowsL b nums).map (digAt (longL (rowsL b nums)) p)) nums.length (by simp [rowsL]) (fun j hj => by
    rw [map_get _ _ _ _ (by rw [rowsL_length]; exact hj)]
    refine digAt_bd b h2 _ p _ ?_
    rw [rowsL_get _ _ _ hj]
    exact numL_digB b _)
  rw [List.take_of_length_le (by simp [rowsL])] at this
  exact this

theorem word_codeW {b : Int} {nums : List Int} (h : codeWd b nums = 0) : codeW b nums.length (wordL b nums) = 0 := by
  obtain ⟨hM, hN⟩ := codeWd_zero h
  obtain ⟨h1, h2, h3, h4, h5, h6⟩ := codeM_zero hM
  unfold codeW
  rw [if_pos hM, if_pos (wordL_length_le b nums), if_pos]
  unfold letB
  rw [List.all_eq_true]
  intro x hx
  simp only [wordL, sideL, List.mem_map, List.mem_range] at hx
  obtain ⟨p, _, rfl⟩ := hx
  rw [h6, Int.toNat_natCast]
  have := letter_bd h2 nums p
  simp [this]

theorem word_val {b : Int} {nums : List Int} (h : codeWd b nums = 0) (i : Nat) (hi : i < nums.length) : codeV b (trackL b nums.length (wordL b nums) i) = 0 ∧ valU b (trackL b nums.length (wordL b nums) i) = nums.getD i 0 ∧ rightB b (trackL b nums.length (wordL b nums) i) = true := by
  obtain ⟨hM, hN⟩ := codeWd_zero h
  obtain ⟨h1, h2, h3, h4, h5, h6⟩ := codeM_zero hM
  have hn := (codeN_zero (hN i hi)).1
  have hv : val b (trackL b nums.length (wordL b nums) i) = nums.getD i 0 := by rw [word_tracks h i hi, val_pad, dgs_val]
  have hc : codeV b (trackL b nums.length (wordL b nums) i) = 0 := by
    unfold codeV
    rw [codeD_track b h1 h2 nums.length (wordL b nums) (wordL_length_le b nums) i, if_pos rfl, hv, if_pos hn.2.2]
  refine ⟨hc, ?_, ?_⟩
  · unfold valU; rw [if_pos hc, hv]
  · rw [word_tracks h i hi, rightB_pad, dgs_rightB b _ hn.2.1 hn.2.2]

theorem word_codeNm {b : Int} {nums : List Int} (h : codeWd b nums = 0) : codeNm b nums.length (wordL b nums) = 0 := by
  unfold codeNm
  rw [if_pos (word_codeW h), Int.toNat_natCast]
  refine firstC_all _ fun j hj => ?_
  rw [numC_length] at hj
  rw [numC_get _ _ _ _ hj, (word_val h j hj).1]
theorem word_nums {b : Int} {nums : List Int} (h : codeWd b nums = 0) : numsL b nums.length (wordL b nums) = nums := by
  apply ext_getD
  · rw [numsL_length]
  · intro j hj
    rw [numsL_length] at hj
    rw [numsL_get _ _ _ _ hj, (word_val h j hj).2.1]
theorem word_right {b : Int} {nums : List Int} (h : codeWd b nums = 0) : rightW b nums.length (wordL b nums) = true :=
  rightW_yes fun i hi => (word_val h i hi).2.2
theorem word_head {b : Int} {nums : List Int} (h : codeWd b nums = 0) (hl : 0 < (wordL b nums).length) : (wordL b nums).getD 0 0 ≠ 0 := by
  obtain ⟨hM, hN⟩ := codeWd_zero h
  obtain ⟨h1, h2, _⟩ := codeM_zero hM
  have hk := kinds_bd2 b h2
  have hL : 0 < longL (rowsL b nums) := by unfold wordL at hl; rwa [sideL_length] at hl
  obtain ⟨d, hd, hdl⟩ := longL_at _ hL
  simp only [rowsL, List.mem_map] at hd
  obtain ⟨x, hx, rfl⟩ := hd
  obtain ⟨i, hi, hxi⟩ := List.getElem_of_mem hx
  have hxi' : nums.getD i 0 = x := by simp [List.getD, hi, hxi]
  intro h0
  have ht := trackL_get b nums.length (wordL b nums) i 0 hl
  rw [h0] at ht
  have hz : dOf b nums.length 0 i = 0 := by unfold dOf; simp
  rw [hz, word_tracks h i hi, hxi'] at ht
  rw [← hxi', (codeN_zero (hN i hi)).2, hxi'] at hdl
  unfold padL at ht
  rw [hdl, Nat.sub_self] at ht
  exact dgs_head b x (by omega) (by simpa using ht)
end Go.Proofs.YtdmkjhccdknndaaDoor
