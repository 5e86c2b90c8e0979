/- Letters, counted: mathematics. -/
import Derived.Test.YtdfgeihlpkpknabRu
namespace Go.Proofs.Ytdfgeihlpkpknab
open Go.RowKit

def pw (k : Int) : Nat → Int
  | 0 => 1
  | n + 1 => pw k n * k

theorem pw_succ (k : Int) (n : Nat) : pw k (n + 1) = pw k n * k := rfl
theorem pw_pos (k : Int) (h : 2 ≤ k) (n : Nat) : 1 ≤ pw k n := by
  induction n with
  | zero => simp [pw]
  | succ n ih => rw [pw_succ]; have := Int.mul_le_mul ih (show 1 ≤ k by omega) (by omega) (by omega); omega

theorem pw_bd (k : Int) (h1 : 2 ≤ k) (h2 : k ≤ 6) (n : Nat) (hn : n ≤ 5) : 1 ≤ pw k n ∧ pw k n ≤ 7776 := by
  have hk : k = 2 ∨ k = 3 ∨ k = 4 ∨ k = 5 ∨ k = 6 := by omega
  have hn : n = 0 ∨ n = 1 ∨ n = 2 ∨ n = 3 ∨ n = 4 ∨ n = 5 := by omega
  rcases hk with rfl | rfl | rfl | rfl | rfl <;> rcases hn with rfl | rfl | rfl | rfl | rfl | rfl <;> decide

theorem kinds_bd2 (b : Int) (h2 : b ≤ 6) : 2 ≤ kindsI b ∧ kindsI b ≤ 6 := by unfold kindsI; split <;> omega

/-- The fault of so many tracks, and how many letters. -/
def codeM (b t : Int) : Int := if (1 ≤ b ∧ b ≤ 6) ∧ 0 ≤ t ∧ t ≤ 5 then (if pw (kindsI b) t.toNat ≤ 36 then 0 else 3) else 1
def manyU (b t : Int) : Int := if codeM b t = 0 then pw (kindsI b) t.toNat else 0

theorem codeM_zero {b t : Int} (h : codeM b t = 0) : 1 ≤ b ∧ b ≤ 6 ∧ 0 ≤ t ∧ t ≤ 5 ∧ pw (kindsI b) t.toNat ≤ 36 ∧ manyU b t = pw (kindsI b) t.toNat := by
  have h' := h
  unfold codeM at h
  split at h
  · split at h
    · exact ⟨by omega, by omega, by omega, by omega, by assumption, by unfold manyU; rw [if_pos h']⟩
    · cases h
  · cases h

theorem codeM_cases (b t : Int) : codeM b t = 0 ∨ codeM b t = 1 ∨ codeM b t = 3 := by
  unfold codeM; split
  · split <;> simp
  · simp

theorem codeM_yes {b t : Int} (h1 : 1 ≤ b) (h2 : b ≤ 6) (h3 : 0 ≤ t) (h4 : t ≤ 5) : codeM b t = if pw (kindsI b) t.toNat ≤ 36 then 0 else 3 := by
  unfold codeM; rw [if_pos ⟨⟨h1, h2⟩, h3, h4⟩]
theorem codeM_no {b t : Int} (h : ¬ ((1 ≤ b ∧ b ≤ 6) ∧ 0 ≤ t ∧ t ≤ 5)) : codeM b t = 1 := by unfold codeM; rw [if_neg h]
theorem manyU_no {b t : Int} (h : codeM b t ≠ 0) : manyU b t = 0 := by unfold manyU; rw [if_neg h]

/-- The letter of digits. -/
def packL (b : Int) (l : List Int) : Int := l.foldl (fun s x => s * kindsI b + x) 0
theorem packL_snoc (b : Int) (l : List Int) (x : Int) : packL b (l ++ [x]) = packL b l * kindsI b + x := by simp [packL, List.foldl_append]
theorem packL_take_succ (b : Int) (l : List Int) (k : Nat) (h : k < l.length) : packL b (l.take (k + 1)) = packL b (l.take k) * kindsI b + l.getD k 0 := by
  rw [List.take_succ_eq_append_getElem h, packL_snoc]
  simp [List.getD, h]

theorem digB_get2 {b : Int} {l : List Int} (hd : digB b l = true) (j : Nat) (hj : j < l.length) : 0 ≤ l.getD j 0 ∧ l.getD j 0 < kindsI b := by
  unfold digB at hd
  rw [List.all_eq_true] at hd
  have := hd (l.getD j 0) (by simp [List.getD, hj])
  simpa using this

theorem packL_bd (b : Int) (h2 : b ≤ 6) (l : List Int) (n : Nat) (hn : n ≤ l.length) (hd : ∀ j, j < n → 0 ≤ l.getD j 0 ∧ l.getD j 0 < kindsI b) : 0 ≤ packL b (l.take n) ∧ packL b (l.take n) < pw (kindsI b) n := by
  have hk := kinds_bd2 b h2
  induction n with
  | zero => simp [packL, pw]
  | succ n ih =>
    have ih := ih (by omega) (fun j hj => hd j (by omega))
    rw [packL_take_succ b l n (by omega), pw_succ]
    have hx := hd n (by omega)
    generalize packL b (l.take n) = p at ih ⊢
    generalize pw (kindsI b) n = q at ih ⊢
    generalize l.getD n 0 = x at hx ⊢
    generalize kindsI b = k at hk hx ⊢
    have e1 : 0 ≤ p * k := Int.mul_nonneg ih.1 (by omega)
    have e2 : (p + 1) * k ≤ q * k := Int.mul_le_mul_of_nonneg_right (by omega) (by omega)
    rw [Int.add_mul] at e2
    omega

/-- The digit of a letter on a track. -/
def dOf (b : Int) (t : Nat) (l : Int) (i : Nat) : Int := l / pw (kindsI b) (t - 1 - i) % kindsI b
theorem dOf_bd (b : Int) (h2 : b ≤ 6) (t : Nat) (l : Int) (i : Nat) : 0 ≤ dOf b t l i ∧ dOf b t l i < kindsI b := by
  have hk := kinds_bd2 b h2
  unfold dOf
  exact ⟨Int.emod_nonneg _ (by omega), Int.emod_lt_of_pos _ (by omega)⟩
theorem div_pw (k : Int) (h : 2 ≤ k) (l : Int) (n : Nat) : l / pw k n / k = l / pw k (n + 1) := by
  rw [pw_succ]
  have := pw_pos k h n
  rw [Int.ediv_ediv, if_neg (by omega), Int.sub_zero]
theorem div_bd (k : Int) (h : 2 ≤ k) (l : Int) (hl : 0 ≤ l) (n : Nat) : 0 ≤ l / pw k n ∧ l / pw k n ≤ l :=
  ⟨Int.ediv_nonneg hl (by have := pw_pos k h n; omega), Int.ediv_le_self _ hl⟩

def splitL (b : Int) (t : Nat) (l : Int) : List Int := (List.range t).map (dOf b t l)
theorem splitL_length (b : Int) (t : Nat) (l : Int) : (splitL b t l).length = t := by simp [splitL]
theorem splitL_get (b : Int) (t : Nat) (l : Int) (i : Nat) (h : i < t) : (splitL b t l).getD i 0 = dOf b t l i := by simp [splitL, List.getD, h]

/-- The digits of a word on a track. -/
def trackL (b : Int) (t : Nat) (w : List Int) (i : Nat) : List Int := w.map fun l => dOf b t l i
theorem trackL_length (b : Int) (t : Nat) (w : List Int) (i : Nat) : (trackL b t w i).length = w.length := by simp [trackL]
theorem trackL_get (b : Int) (t : Nat) (w : List Int) (i j : Nat) (h : j < w.length) : (trackL b t w i).getD j 0 = dOf b t (w.getD j 0) i := by simp [trackL, List.getD, h]
theorem trackL_digB (b : Int) (h2 : b ≤ 6) (t : Nat) (w : List Int) (i : Nat) : digB b (trackL b t w i) = true := by
  unfold digB trackL
  rw [List.all_eq_true]
  intro x hx
  simp only [List.mem_map] at hx
  obtain ⟨l, _, rfl⟩ := hx
  have := dOf_bd b h2 t l i
  simp [this]

/-- The fault of a word of so many tracks. -/
def letB (b t : Int) (w : List Int) : Bool := w.all fun x => decide (0 ≤ x ∧ x < manyU b t)
def codeW (b t : Int) (w : List Int) : Int := if codeM b t = 0 then (if w.length ≤ 60 then (if letB b t w = true then 0 else 1) else 3) else codeM b t
theorem letB_take_succ (b t : Int) (l : List Int) (k : Nat) (h : k < l.length) : letB b t (l.take (k + 1)) = (letB b t (l.take k) && decide (0 ≤ l.getD k 0 ∧ l.getD k 0 < manyU b t)) := by
  unfold letB
  rw [List.take_succ_eq_append_getElem h, List.all_append]
  simp [List.getD, h]
theorem letB_not (b t : Int) (l : List Int) (k : Nat) (h : k < l.length) (hx : ¬ (0 ≤ l.getD k 0 ∧ l.getD k 0 < manyU b t)) : letB b t l = false := by
  cases hd : letB b t l with
  | false => rfl
  | true =>
    unfold letB at hd
    rw [List.all_eq_true] at hd
    have := hd (l.getD k 0) (by simp [List.getD, h])
    exact absurd (by simpa using this) hx
theorem letB_get {b t : Int} {l : List Int} (hd : letB b t l = true) (k : Nat) (h : k < l.length) : 0 ≤ l.getD k 0 ∧ l.getD k 0 < manyU b t := by
  unfold letB at hd
  rw [List.all_eq_true] at hd
  have := hd (l.getD k 0) (by simp [List.getD, h])
  simpa using this
theorem codeW_zero {b t : Int} {w : List Int} (h : codeW b t w = 0) : codeM b t = 0 ∧ w.length ≤ 60 ∧ letB b t w = true := by
  unfold codeW at h
  split at h
  · split at h
    · split at h
      · exact ⟨by assumption, by assumption, by assumption⟩
      · cases h
    · cases h
  · contradiction

/-- The first code that is none of OK. -/
def firstC : List Int → Int
  | [] => 0
  | c :: r => if c = 0 then firstC r else c
theorem firstC_pre (l : List Int) (k : Nat) (h : ∀ j, j < k → l.getD j 0 = 0) (hk : k < l.length) (hc : l.getD k 0 ≠ 0) : firstC l = l.getD k 0 := by
  induction l generalizing k with
  | nil => simp at hk
  | cons c r ih =>
    cases k with
    | zero => simp at hc; simp [firstC, hc]
    | succ k =>
      have h0 : c = 0 := by simpa using h 0 (by omega)
      simp only [firstC, h0, if_true]
      have := ih k (fun j hj => by simpa using h (j + 1) (by omega)) (by simpa using hk) (by simpa using hc)
      rw [this]; simp
theorem firstC_all (l : List Int) (h : ∀ j, j < l.length → l.getD j 0 = 0) : firstC l = 0 := by
  induction l with
  | nil => rfl
  | cons c r ih =>
    have h0 : c = 0 := by simpa using h 0 (by simp)
    simp only [firstC, h0, if_true]
    exact ih fun j hj => by simpa using h (j + 1) (by simpa using hj)
theorem firstC_get0 (l : List Int) (h : firstC l = 0) : ∀ j, j < l.length → l.getD j 0 = 0 := by
  induction l with
  | nil => intro j hj; simp at hj
  | cons c r ih =>
    intro j hj
    by_cases hc : c = 0
    · simp only [firstC, hc, if_true] at h
      cases j with
      | zero => simpa using hc
      | succ j => simpa using ih h j (by simpa using hj)
    · simp only [firstC, hc, if_false] at h
end Go.Proofs.Ytdfgeihlpkpknab
