/- Plain mathematics: the places' counts as the document has them (not cut off), held against those of the program. -/
import Derived.Test.YtcpnfbjcgaonkafDoorP
namespace Go.Proofs.YtcpnfbjcgaonkafDoor

def wtP (b : Int) : Nat → Int × Int
  | 0 => (1, 1)
  | k + 1 => (if b = 1 then (wtP b k).1 + (wtP b k).2 else (wtP b k).1 * b, (wtP b k).1)
def wt (b : Int) (k : Nat) : Int := (wtP b k).1
def wta (b : Int) (k : Nat) : Int := (wtP b k).2
theorem wt_zero (b : Int) : wt b 0 = 1 := rfl
theorem wta_zero (b : Int) : wta b 0 = 1 := rfl
theorem wta_succ (b : Int) (k : Nat) : wta b (k + 1) = wt b k := rfl
theorem wt_succ (b : Int) (k : Nat) : wt b (k + 1) = if b = 1 then wt b k + wta b k else wt b k * b := rfl
def wtL (b : Int) (n : Nat) : List Int := (List.range n).map (wt b)
theorem wtL_length (b : Int) (n : Nat) : (wtL b n).length = n := by simp [wtL]
theorem wtL_get (b : Int) (n i : Nat) (h : i < n) : (wtL b n).getD i 0 = wt b i := by simp [wtL, List.getD, h]
theorem wtL_succ (b : Int) (n : Nat) : wtL b (n + 1) = wtL b n ++ [wt b n] := by simp [wtL, List.range_succ]

/-- As many places as count at most MaxNum, and one more. -/
def Wts (b : Int) (n : Nat) : Prop := 1 ≤ n ∧ n ≤ 60 ∧ (∀ i, i + 1 < n → wt b i ≤ 1099511627776) ∧ 1099511627776 < wt b (n - 1)

theorem wt_59 (b : Int) (h1 : 1 ≤ b) (h2 : b ≤ 6) (hb : 2 ≤ b ∨ b = 1) : 1099511627776 < wt b 59 := by
  have : b = 1 ∨ b = 2 ∨ b = 3 ∨ b = 4 ∨ b = 5 ∨ b = 6 := by omega
  rcases this with rfl | rfl | rfl | rfl | rfl | rfl <;> decide +kernel

theorem wt_pos (b : Int) (h1 : 1 ≤ b) (k : Nat) : 1 ≤ wt b k ∧ 1 ≤ wta b k := by
  induction k with
  | zero => simp [wt_zero, wta_zero]
  | succ k ih =>
    rw [wta_succ, wt_succ]
    refine ⟨?_, ih.1⟩
    split
    · omega
    · have := Int.mul_le_mul ih.1 h1 (by omega) (by omega)
      omega

/-- As long as no place counts more than MaxNum the counts are those of the program. -/
theorem cnt_wt (b : Int) (m : Nat) (h : ∀ i, i < m → wt b i ≤ 1099511627776) : cnt b m = min (wt b m) 1099511627777 ∧ ahd b m = wta b m := by
  induction m with
  | zero => exact ⟨by rw [cnt_zero, wt_zero]; omega, rfl⟩
  | succ m ih =>
    obtain ⟨e1, e2⟩ := ih (fun i hi => h i (by omega))
    have hm := h m (by omega)
    have e3 : cnt b m = wt b m := by omega
    rw [cnt_succ, wt_succ, ahd_succ, wta_succ, e3, e2]
    exact ⟨rfl, rfl⟩

theorem cnt_eq_wt {b : Int} {n : Nat} (hw : Wts b n) (i : Nat) (hi : i + 1 < n) : cnt b i = wt b i := by
  have := (cnt_wt b i (fun j hj => hw.2.2.1 j (by omega))).1
  have := hw.2.2.1 i hi
  omega
theorem cnt_top {b : Int} {n : Nat} (h1 : 1 ≤ b) (h2 : b ≤ 6) (hw : Wts b n) (i : Nat) (hi : n ≤ i + 1) : cnt b i = 1099511627777 := by
  have e := (cnt_wt b (n - 1) (fun j hj => hw.2.2.1 j (by omega))).1
  have hl := hw.2.2.2
  have hm := cnt_mono b h1 h2 (n - 1) i (by omega)
  have hb := (cnt_bd b h1 h2 i).1
  omega

/-- The next digit, and what is left, are the same. -/
theorem wt_step {b : Int} {n : Nat} (h1 : 1 ≤ b) (h2 : b ≤ 6) (hw : Wts b n) (i : Nat) (hi : i < n) (r : Int) (hr : 0 ≤ r) (hr' : r ≤ 1099511627776) : r / wt b i = r / cnt b i ∧ r - r / wt b i * wt b i = r % cnt b i := by
  by_cases e : i + 1 < n
  · rw [cnt_eq_wt hw i e]
    have := Int.emod_add_mul_ediv r (wt b i)
    rw [Int.mul_comm] at this
    exact ⟨rfl, by omega⟩
  · have hl := hw.2.2.2
    rw [cnt_top h1 h2 hw i (by omega)]
    have e' : i = n - 1 := by omega
    subst e'
    rw [Int.ediv_eq_zero_of_lt hr (by omega), Int.ediv_eq_zero_of_lt hr (by omega), Int.emod_eq_of_lt hr (by omega)]
    omega

theorem dropZ_snoc (p : List Int) (d : Int) : dropZ (p ++ [d]) = if dropZ p = [] then (if d = 0 then [] else [d]) else dropZ p ++ [d] := by
  induction p with
  | nil =>
    by_cases h : d = 0
    · simp [dropZ, h]
    · simp [dropZ, h]
  | cons x r ih =>
    by_cases h : x = 0
    · have e1 : dropZ (x :: r) = dropZ r := by simp [dropZ, h]
      have e2 : dropZ (x :: r ++ [d]) = dropZ (r ++ [d]) := by simp [dropZ, h]
      rw [e1, e2, ih]
    · simp [dropZ, h]

/-- The digits that are written behind k places. -/
def pre (b n : Int) (k : Nat) : List Int := dropZ ((dList b n 60).take k)
theorem pre_all (b n : Int) : pre b n 60 = dgs b n := by unfold pre dgs; rw [List.take_of_length_le (by rw [dList_length]; omega)]
theorem pre_succ (b n : Int) (k : Nat) (hk : k < 60) : pre b n (k + 1) = if pre b n k = [] then (if dgt b n k = 0 then [] else [dgt b n k]) else pre b n k ++ [dgt b n k] := by
  unfold pre
  have hl : k < (dList b n 60).length := by rw [dList_length]; exact hk
  rw [List.take_succ_eq_append_getElem hl, dropZ_snoc, ← getD_eq _ _ hl, dList_get _ _ _ _ hk, if_pos hk]
theorem pre_length (b n : Int) (k : Nat) : (pre b n k).length ≤ k := by
  obtain ⟨j, _, h, _⟩ := dropZ_suffix ((dList b n 60).take k)
  unfold pre
  rw [h, List.length_drop, List.length_take]
  omega
theorem pre_zeros (b n : Int) (k : Nat) (hk : k ≤ 60) (h : ∀ j, j < k → dgt b n j = 0) : pre b n k = [] := by
  induction k with
  | zero => simp [pre, dropZ]
  | succ k ih =>
    rw [pre_succ b n k (by omega), ih (by omega) (fun j hj => h j (by omega)), if_pos rfl, if_pos (h k (by omega))]
theorem dgt_top {b n : Int} {m : Nat} (h1 : 1 ≤ b) (h2 : b ≤ 6) (hw : Wts b m) (hn : 0 ≤ n) (hn' : n ≤ 1099511627776) : ∀ j, j < 60 - m → dgt b n j = 0 := by
  intro j hj
  have hr := remN_bd b n h1 h2 hn j
  unfold dgt
  rw [cnt_top h1 h2 hw (59 - j) (by omega)]
  exact Int.ediv_eq_zero_of_lt hr.1 (by omega)
theorem pre_start {b n : Int} {m : Nat} (h1 : 1 ≤ b) (h2 : b ≤ 6) (hw : Wts b m) (hn : 0 ≤ n) (hn' : n ≤ 1099511627776) : pre b n (60 - m) = [] ∧ remN b n (60 - m) = n :=
  ⟨pre_zeros b n _ (by omega) (dgt_top h1 h2 hw hn hn'), remN_zeros b n _ (by omega) (dgt_top h1 h2 hw hn hn')⟩

end Go.Proofs.YtcpnfbjcgaonkafDoor
