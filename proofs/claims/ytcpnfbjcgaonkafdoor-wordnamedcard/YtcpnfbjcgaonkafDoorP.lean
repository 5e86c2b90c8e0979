/- Plain mathematics: right digits that begin with no 0 are the only ones of what they count. -/
import Derived.Test.YtcpnfbjcgaonkafDoorO
namespace Go.Proofs.YtcpnfbjcgaonkafDoor

theorem digB_cons {b x : Int} {r : List Int} (h : digB b (x :: r) = true) : (0 ≤ x ∧ x < kindsI b) ∧ digB b r = true := by
  unfold digB at h ⊢
  simp only [List.all_cons, Bool.and_eq_true, decide_eq_true_eq] at h
  exact h

theorem val_nonneg (b : Int) (h1 : 1 ≤ b) (h2 : b ≤ 6) (l : List Int) (hd : digB b l = true) : 0 ≤ val b l := by
  induction l with
  | nil => simp [val]
  | cons x r ih =>
    obtain ⟨⟨hx, _⟩, hr⟩ := digB_cons hd
    have hc := (cnt_bd b h1 h2 r.length).1
    have := ih hr
    have := Int.mul_nonneg hx (show 0 ≤ cnt b r.length by omega)
    simp only [val]
    omega

/-- Right digits count less than the place ahead of them (as long as they count a number). -/
theorem val_lt (b : Int) (h1 : 1 ≤ b) (h2 : b ≤ 6) : ∀ (N : Nat) (l : List Int), l.length ≤ N → digB b l = true → (b = 1 → onesB l = false) → val b l ≤ 1099511627776 → val b l < cnt b l.length := by
  intro N
  induction N with
  | zero =>
    intro l hl _ _ _
    have : l = [] := List.eq_nil_of_length_eq_zero (by omega)
    subst this
    simp [val, cnt_zero]
  | succ N ih =>
    intro l hl hd ho hv
    cases l with
    | nil => simp [val, cnt_zero]
    | cons x r =>
      obtain ⟨⟨hx, hx'⟩, hr⟩ := digB_cons hd
      have hc := (cnt_bd b h1 h2 r.length).1
      have hn := val_nonneg b h1 h2 r hr
      have hm := Int.mul_nonneg hx (show 0 ≤ cnt b r.length by omega)
      simp only [val, List.length_cons] at hv hl ⊢
      have hor : b = 1 → onesB r = false := fun e => by
        have := onesB_drop (ho e) 1
        simpa using this
      have hlt := ih r (by omega) hr hor (by omega)
      rw [cnt_succ]
      by_cases e : b = 1
      · rw [if_pos e]
        have hk : kindsI b = 2 := by unfold kindsI; rw [if_pos (by omega)]
        rw [hk] at hx'
        have ha := (cnt_bd b h1 h2 r.length).2
        have hxx : x = 0 ∨ x = 1 := by omega
        rcases hxx with rfl | rfl
        · omega
        · cases r with
          | nil => simp only [val, List.length_nil, cnt_zero, ahd_zero]; omega
          | cons y r' =>
            have hy : y = 0 := by
              have h3 := ho e
              obtain ⟨⟨hy, hy'⟩, _⟩ := digB_cons hr
              rw [hk] at hy'
              simp only [onesB, Bool.or_eq_false_iff, Bool.and_eq_false_iff] at h3
              have h4 := h3.1
              simp at h4
              omega
            subst hy
            simp only [val, List.length_cons] at hv hlt ⊢
            rw [ahd_succ]
            have hor' : b = 1 → onesB r' = false := fun e => by
              have := onesB_drop (hor e) 1
              simpa using this
            have := ih r' (by simp at hl; omega) (digB_cons hr).2 hor' (by omega)
            omega
      · rw [if_neg e]
        have hk : kindsI b = b := by unfold kindsI; split <;> omega
        rw [hk] at hx'
        have : (x + 1) * cnt b r.length ≤ b * cnt b r.length := Int.mul_le_mul_of_nonneg_right (by omega) (by omega)
        rw [Int.add_mul, Int.one_mul] at this
        rw [Int.mul_comm b] at this
        omega

/-- Sixty right digits are those that are written. -/
theorem dList_unique (b : Int) (h1 : 1 ≤ b) (h2 : b ≤ 6) (p : List Int) (hl : p.length = 60) (hd : digB b p = true) (ho : b = 1 → onesB p = false) (hv : val b p ≤ 1099511627776) : dList b (val b p) 60 = p := by
  have hrem : ∀ k, k ≤ 60 → remN b (val b p) k = val b (p.drop k) ∧ val b (p.drop k) ≤ 1099511627776 ∧ ∀ j, j < k → dgt b (val b p) j = p.getD j 0 := by
    intro k
    induction k with
    | zero => intro _; exact ⟨by simp [remN], by simpa using hv, by omega⟩
    | succ k ih =>
      intro hk
      obtain ⟨e, hb, hg⟩ := ih (by omega)
      have hkl : k < p.length := by omega
      have hc := (cnt_bd b h1 h2 (59 - k)).1
      have hdd := digB_drop hd k
      have hcons := List.drop_eq_getElem_cons hkl
      have hval : val b (p.drop k) = p[k] * cnt b (59 - k) + val b (p.drop (k + 1)) := by
        rw [hcons]
        simp only [val, List.length_drop]
        rw [show p.length - (k + 1) = 59 - k by omega]
      rw [hcons] at hdd
      obtain ⟨⟨hx, _⟩, hr⟩ := digB_cons hdd
      have hn := val_nonneg b h1 h2 _ hr
      have hm := Int.mul_nonneg hx (show 0 ≤ cnt b (59 - k) by omega)
      have hlt := val_lt b h1 h2 _ (p.drop (k + 1)) (Nat.le_refl _) hr (fun e => onesB_drop (ho e) _) (by omega)
      rw [List.length_drop, show p.length - (k + 1) = 59 - k by omega] at hlt
      have hq : dgt b (val b p) k = p[k] := by
        unfold dgt
        rw [e, hval, Int.add_comm, Int.add_mul_ediv_right _ _ (by omega), Int.ediv_eq_zero_of_lt hn hlt]
        omega
      refine ⟨?_, by omega, ?_⟩
      · simp only [remN]
        rw [e, hval, Int.add_comm, Int.add_mul_emod_self_right, Int.emod_eq_of_lt hn hlt]
      · intro j hj
        by_cases ej : j = k
        · subst ej; rw [hq, getD_eq _ _ hkl]
        · exact hg j (by omega)
  apply ext_getD (by rw [dList_length, hl])
  intro j hj
  rw [dList_length] at hj
  rw [dList_get _ _ _ _ hj, if_pos hj]
  exact (hrem 60 (Nat.le_refl _)).2.2 j hj

theorem val_zeros (b : Int) (l : List Int) (k : Nat) : val b (List.replicate k 0 ++ l) = val b l := by
  induction k with
  | zero => simp
  | succ k ih => rw [List.replicate_succ, List.cons_append]; simp only [val]; rw [ih]; omega
theorem dropZ_zeros (l : List Int) (k : Nat) : dropZ (List.replicate k 0 ++ l) = dropZ l := by
  induction k with
  | zero => simp
  | succ k ih => rw [List.replicate_succ, List.cons_append]; unfold dropZ at ih ⊢; simp [ih]
theorem digB_zeros {b : Int} {l : List Int} (h : digB b l = true) (k : Nat) : digB b (List.replicate k 0 ++ l) = true := by
  unfold digB at h ⊢
  rw [List.all_eq_true] at h ⊢
  intro x hx
  rw [List.mem_append] at hx
  rcases hx with hx | hx
  · have := List.eq_of_mem_replicate hx
    subst this
    unfold kindsI
    split <;> simp
    omega
  · exact h x hx
theorem onesB_zeros {l : List Int} (h : onesB l = false) (k : Nat) : onesB (List.replicate k 0 ++ l) = false := by
  induction k with
  | zero => simpa using h
  | succ k ih =>
    rw [List.replicate_succ, List.cons_append]
    cases hr : List.replicate k (0 : Int) ++ l with
    | nil => rfl
    | cons y r => rw [hr] at ih; simp [onesB, ih]

/-- EACH NUMBER IS WRITTEN IN ONE WAY. -/
theorem dgs_unique (b : Int) (h1 : 1 ≤ b) (h2 : b ≤ 6) (l : List Int) (hl : l.length ≤ 60) (hd : digB b l = true) (hr : rightB b l = true) (hv : val b l ≤ 1099511627776) (hz : 0 < l.length → l.getD 0 0 ≠ 0) : dgs b (val b l) = l := by
  have ho : b = 1 → onesB l = false := fun e => by simpa [rightB, e] using hr
  have hu := dList_unique b h1 h2 (List.replicate (60 - l.length) 0 ++ l) (by simp; omega) (digB_zeros hd _) (fun e => onesB_zeros (ho e) _) (by rw [val_zeros]; exact hv)
  rw [val_zeros] at hu
  unfold dgs
  rw [hu, dropZ_zeros]
  rw [dropZ_eq l 0 (by omega) (by omega) hz]
  rfl

end Go.Proofs.YtcpnfbjcgaonkafDoor
