/- Plain mathematics: the digits that are written count the number, are right, and are the only such. -/
import Derived.Test.YtcpnfbjcgaonkafDoorE
import Derived.Test.YtcpnfbjcgaonkafDoorG
namespace Go.Proofs.YtcpnfbjcgaonkafDoor

theorem getD_eq (l : List Int) (k : Nat) (h : k < l.length) : l.getD k 0 = l[k] := by simp [List.getD, h]

theorem cnt_60 (b : Int) (h1 : 1 ≤ b) (h2 : b ≤ 6) : cnt b 60 = 1099511627777 := by
  have : b = 1 ∨ b = 2 ∨ b = 3 ∨ b = 4 ∨ b = 5 ∨ b = 6 := by omega
  rcases this with rfl | rfl | rfl | rfl | rfl | rfl <;> decide +kernel

theorem ahd_le (b : Int) (h1 : 1 ≤ b) (h2 : b ≤ 6) (k : Nat) : ahd b k ≤ cnt b k := by
  cases k with
  | zero => simp [ahd_zero, cnt_zero]
  | succ k =>
    rw [ahd_succ, cnt_succ]
    obtain ⟨⟨a1, a2⟩, a3, a4⟩ := cnt_bd b h1 h2 k
    have : cnt b k ≤ if b = 1 then cnt b k + ahd b k else cnt b k * b := by
      split
      · omega
      · have := Int.mul_le_mul_of_nonneg_left h1 (show 0 ≤ cnt b k by omega)
        omega
    omega

theorem cnt_mono1 (b : Int) (h1 : 1 ≤ b) (h2 : b ≤ 6) (k : Nat) : cnt b k ≤ cnt b (k + 1) := by
  have := ahd_le b h1 h2 (k + 1)
  rwa [ahd_succ] at this

theorem cnt_mono (b : Int) (h1 : 1 ≤ b) (h2 : b ≤ 6) (j k : Nat) (h : j ≤ k) : cnt b j ≤ cnt b k := by
  induction k with
  | zero => have : j = 0 := by omega
            subst this; exact Int.le_refl _
  | succ k ih =>
    by_cases e : j = k + 1
    · subst e; exact Int.le_refl _
    · exact Int.le_trans (ih (by omega)) (cnt_mono1 b h1 h2 k)

theorem cnt_le_kinds (b : Int) (h1 : 1 ≤ b) (h2 : b ≤ 6) (k : Nat) : cnt b (k + 1) ≤ kindsI b * cnt b k := by
  have ha := ahd_le b h1 h2 k
  rw [cnt_succ]
  by_cases e : b = 1
  · rw [if_pos e]
    have : kindsI b = 2 := by unfold kindsI; rw [if_pos (by omega)]
    rw [this]
    omega
  · rw [if_neg e]
    have : kindsI b = b := by unfold kindsI; split <;> omega
    rw [this, Int.mul_comm b]
    omega

theorem remN_lt (b n : Int) (h1 : 1 ≤ b) (h2 : b ≤ 6) (hn' : n ≤ 1099511627776) (k : Nat) (hk : k ≤ 60) : remN b n k < cnt b (60 - k) := by
  cases k with
  | zero => simp only [remN, Nat.sub_zero, cnt_60 b h1 h2]; omega
  | succ k =>
    have hc := (cnt_bd b h1 h2 (59 - k)).1
    simp only [remN]
    rw [show 60 - (k + 1) = 59 - k by omega]
    exact Int.emod_lt_of_pos _ (by omega)

theorem dgt_lt (b n : Int) (h1 : 1 ≤ b) (h2 : b ≤ 6) (hn' : n ≤ 1099511627776) (k : Nat) (hk : k < 60) : dgt b n k < kindsI b := by
  have hr := remN_lt b n h1 h2 hn' k (by omega)
  have hc := (cnt_bd b h1 h2 (59 - k)).1
  rw [show 60 - k = (59 - k) + 1 by omega] at hr
  have := cnt_le_kinds b h1 h2 (59 - k)
  unfold dgt
  apply Int.ediv_lt_of_lt_mul (by omega)
  omega

theorem dgt_split (b n : Int) (k : Nat) : remN b n k = dgt b n k * cnt b (59 - k) + remN b n (k + 1) := by
  simp only [dgt, remN]
  have := Int.emod_add_mul_ediv (remN b n k) (cnt b (59 - k))
  rw [Int.mul_comm] at this
  omega

theorem val_drop (b n : Int) (j : Nat) (hj : j ≤ 60) : val b ((dList b n 60).drop (60 - j)) = remN b n (60 - j) := by
  induction j with
  | zero =>
    rw [List.drop_of_length_le (by rw [dList_length]; omega)]
    simp only [val]
    show 0 = remN b n (59 + 1)
    simp [remN, cnt_zero]
  | succ j ih =>
    have hl : 60 - (j + 1) < (dList b n 60).length := by rw [dList_length]; omega
    rw [List.drop_eq_getElem_cons hl]
    simp only [val]
    rw [← getD_eq _ _ hl, dList_get _ _ _ _ (by omega), if_pos (by omega)]
    rw [show 60 - (j + 1) + 1 = 60 - j by omega, ih (by omega)]
    rw [List.length_drop, dList_length]
    have := dgt_split b n (60 - (j + 1))
    rw [show 60 - (60 - j) = 59 - (60 - (j + 1)) by omega]
    rw [this, show 60 - (j + 1) + 1 = 60 - j by omega]

theorem val_dList (b n : Int) : val b (dList b n 60) = n := by
  have := val_drop b n 60 (by omega)
  simpa [remN] using this

theorem val_dropZ (b : Int) (l : List Int) : val b (dropZ l) = val b l := by
  induction l with
  | nil => rfl
  | cons x r ih =>
    unfold dropZ at ih ⊢
    by_cases h : x = 0
    · simp [h, val, ih]
    · simp [h]

theorem dropZ_suffix (l : List Int) : ∃ k, k ≤ l.length ∧ dropZ l = l.drop k ∧ (∀ j, j < k → l.getD j 0 = 0) ∧ (k < l.length → l.getD k 0 ≠ 0) := by
  induction l with
  | nil => exact ⟨0, by simp, rfl, by omega, by simp⟩
  | cons x r ih =>
    obtain ⟨k, h1, h2, h3, h4⟩ := ih
    by_cases h : x = 0
    · refine ⟨k + 1, by simpa using h1, by unfold dropZ at h2 ⊢; simp [h, h2], ?_, fun hh => by simpa using h4 (by simpa using hh)⟩
      intro j hj
      cases j with
      | zero => simpa using h
      | succ j => simpa using h3 j (by omega)
    · exact ⟨0, by simp, by simp [dropZ, h], by omega, fun _ => by simpa using h⟩

theorem digB_drop {b : Int} {l : List Int} (h : digB b l = true) (k : Nat) : digB b (l.drop k) = true := by
  unfold digB at h ⊢
  rw [List.all_eq_true] at h ⊢
  exact fun x hx => h x (List.mem_of_mem_drop hx)

theorem onesB_drop {l : List Int} (h : onesB l = false) (k : Nat) : onesB (l.drop k) = false := by
  cases h' : onesB (l.drop k) with
  | false => rfl
  | true =>
    obtain ⟨j, h1, h2, h3⟩ := (onesB_iff _).1 h'
    have : onesB l = true := (onesB_iff _).2 ⟨k + j, by simp at h1; omega, by simpa [List.getD] using h2, by simpa [List.getD, Nat.add_assoc] using h3⟩
    rw [h] at this
    exact this.symm

theorem dList_digB (b n : Int) (h1 : 1 ≤ b) (h2 : b ≤ 6) (hn : 0 ≤ n) (hn' : n ≤ 1099511627776) : digB b (dList b n 60) = true := by
  unfold digB
  rw [List.all_eq_true]
  intro x hx
  simp only [dList, List.mem_map, List.mem_range] at hx
  obtain ⟨j, hj, rfl⟩ := hx
  rw [if_pos hj]
  have := (dgt_bd b n h1 h2 hn j).1
  have := dgt_lt b n h1 h2 hn' j hj
  simp [*]

/-- The digits of n. -/
def dgs (b n : Int) : List Int := dropZ (dList b n 60)

theorem dgs_length (b n : Int) : (dgs b n).length ≤ 60 := by
  obtain ⟨k, h1, h2, _⟩ := dropZ_suffix (dList b n 60)
  unfold dgs
  rw [h2, List.length_drop, dList_length]
  omega
theorem dgs_val (b n : Int) : val b (dgs b n) = n := by unfold dgs; rw [val_dropZ, val_dList]
theorem dgs_digB (b n : Int) (h1 : 1 ≤ b) (h2 : b ≤ 6) (hn : 0 ≤ n) (hn' : n ≤ 1099511627776) : digB b (dgs b n) = true := by
  obtain ⟨k, _, h, _⟩ := dropZ_suffix (dList b n 60)
  unfold dgs
  rw [h]
  exact digB_drop (dList_digB b n h1 h2 hn hn') k
theorem dgs_head (b n : Int) (h : 0 < (dgs b n).length) : (dgs b n).getD 0 0 ≠ 0 := by
  obtain ⟨k, h1, h2, _, h4⟩ := dropZ_suffix (dList b n 60)
  unfold dgs at h ⊢
  rw [h2] at h ⊢
  simp at h
  have := h4 (by omega)
  simpa [List.getD] using this

theorem remN_zeros (b n : Int) (k : Nat) (hk : k ≤ 60) (h : ∀ j, j < k → dgt b n j = 0) : remN b n k = n := by
  induction k with
  | zero => rfl
  | succ k ih =>
    have h' := ih (by omega) (fun j hj => h j (by omega))
    have := dgt_split b n k
    rw [h k (by omega), h'] at this
    omega

/-- A number is below what the place ahead of its digits counts, and not below what its first place counts. -/
theorem dgs_between (b n : Int) (h1 : 1 ≤ b) (h2 : b ≤ 6) (hn : 0 ≤ n) (hn' : n ≤ 1099511627776) : n < cnt b (dgs b n).length ∧ (0 < (dgs b n).length → cnt b ((dgs b n).length - 1) ≤ n) := by
  obtain ⟨k, g1, g2, g3, g4⟩ := dropZ_suffix (dList b n 60)
  rw [dList_length] at g1 g4
  have hl : (dgs b n).length = 60 - k := by unfold dgs; rw [g2, List.length_drop, dList_length]
  have hz : ∀ j, j < k → dgt b n j = 0 := fun j hj => by
    have := g3 j hj
    rwa [dList_get _ _ _ _ (by omega), if_pos (by omega)] at this
  have hr := remN_zeros b n k g1 hz
  rw [hl]
  refine ⟨by have := remN_lt b n h1 h2 hn' k g1; omega, fun hp => ?_⟩
  have hne := g4 (by omega)
  rw [dList_get _ _ _ _ (by omega), if_pos (by omega)] at hne
  rw [show 60 - k - 1 = 59 - k by omega]
  have hnn : ¬ n < cnt b (59 - k) := fun hlt => hne (by unfold dgt; rw [hr]; exact Int.ediv_eq_zero_of_lt hn hlt)
  omega

end Go.Proofs.YtcpnfbjcgaonkafDoor
