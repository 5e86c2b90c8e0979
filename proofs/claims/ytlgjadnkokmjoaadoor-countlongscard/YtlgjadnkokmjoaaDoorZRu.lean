/- 5 texts in one. -/
import Derived.RegionTactic
import Derived.Test.YtlgjadnkokmjoaaDoorMa
import Derived.Test.YtlgjadnkokmjoaaDoorB
import Derived.Test.YtlgjadnkokmjoaaDoorZF
/- Package digit's contracts, whatever is handed in: one a function. -/
namespace Go.Proofs.YtlgjadnkokmjoaaDoor
open Go.RowKit

def errV (c : Int) : Value := if c = 0 then .nilIface else .iface 26 (.int .i64 c)
end Go.Proofs.YtlgjadnkokmjoaaDoor

/- Letters, counted: mathematics. -/
namespace Go.Proofs.YtlgjadnkokmjoaaDoor
open Go.RowKit

def pw (k : Int) : Nat → Int
  | 0 => 1
  | n + 1 => pw k n * k

theorem pw_succ (k : Int) (n : Nat) : pw k (n + 1) = pw k n * k := rfl
theorem pw_pos (k : Int) (h : 2 ≤ k) (n : Nat) : 1 ≤ pw k n := by
  induction n with
  | zero => simp [pw]
  | succ n ih => rw [pw_succ]; have := Int.mul_le_mul ih (show 1 ≤ k by omega) (by omega) (by omega); omega

theorem pw_bd (k : Int) (h1 : 2 ≤ k) (h2 : k ≤ 6) (n : Nat) (hn : n ≤ 5) : 1 ≤ pw k n ∧ pw k n ≤ 7776 := by
  have hk : k = 2 ∨ k = 3 ∨ k = 4 ∨ k = 5 ∨ k = 6 := by omega
  have hn : n = 0 ∨ n = 1 ∨ n = 2 ∨ n = 3 ∨ n = 4 ∨ n = 5 := by omega
  rcases hk with rfl | rfl | rfl | rfl | rfl <;> rcases hn with rfl | rfl | rfl | rfl | rfl | rfl <;> decide

theorem kinds_bd2 (b : Int) (h2 : b ≤ 6) : 2 ≤ kindsI b ∧ kindsI b ≤ 6 := by unfold kindsI; split <;> omega

/-- The fault of so many tracks, and how many letters. -/
def codeM (b t : Int) : Int := if (1 ≤ b ∧ b ≤ 6) ∧ 0 ≤ t ∧ t ≤ 5 then (if pw (kindsI b) t.toNat ≤ 36 then 0 else 3) else 1
def manyU (b t : Int) : Int := if codeM b t = 0 then pw (kindsI b) t.toNat else 0

theorem codeM_zero {b t : Int} (h : codeM b t = 0) : 1 ≤ b ∧ b ≤ 6 ∧ 0 ≤ t ∧ t ≤ 5 ∧ pw (kindsI b) t.toNat ≤ 36 ∧ manyU b t = pw (kindsI b) t.toNat := by
  have h' := h
  unfold codeM at h
  split at h
  · split at h
    · exact ⟨by omega, by omega, by omega, by omega, by assumption, by unfold manyU; rw [if_pos h']⟩
    · cases h
  · cases h

theorem codeM_yes {b t : Int} (h1 : 1 ≤ b) (h2 : b ≤ 6) (h3 : 0 ≤ t) (h4 : t ≤ 5) : codeM b t = if pw (kindsI b) t.toNat ≤ 36 then 0 else 3 := by
  unfold codeM; rw [if_pos ⟨⟨h1, h2⟩, h3, h4⟩]
/-- The letter of digits. -/
def packL (b : Int) (l : List Int) : Int := l.foldl (fun s x => s * kindsI b + x) 0
theorem packL_snoc (b : Int) (l : List Int) (x : Int) : packL b (l ++ [x]) = packL b l * kindsI b + x := by simp [packL, List.foldl_append]
theorem packL_take_succ (b : Int) (l : List Int) (k : Nat) (h : k < l.length) : packL b (l.take (k + 1)) = packL b (l.take k) * kindsI b + l.getD k 0 := by
  rw [List.take_succ_eq_append_getElem h, packL_snoc]
  simp [List.getD, h]

theorem digB_get2 {b : Int} {l : List Int} (hd : digB b l = true) (j : Nat) (hj : j < l.length) : 0 ≤ l.getD j 0 ∧ l.getD j 0 < kindsI b := by
  unfold digB at hd
  rw [List.all_eq_true] at hd
  have := hd (l.getD j 0) (by simp [List.getD, hj])
  simpa using this

theorem packL_bd (b : Int) (h2 : b ≤ 6) (l : List Int) (n : Nat) (hn : n ≤ l.length) (hd : ∀ j, j < n → 0 ≤ l.getD j 0 ∧ l.getD j 0 < kindsI b) : 0 ≤ packL b (l.take n) ∧ packL b (l.take n) < pw (kindsI b) n := by
  have hk := kinds_bd2 b h2
  induction n with
  | zero => simp [packL, pw]
  | succ n ih =>
    have ih := ih (by omega) (fun j hj => hd j (by omega))
    rw [packL_take_succ b l n (by omega), pw_succ]
    have hx := hd n (by omega)
    generalize packL b (l.take n) = p at ih ⊢
    generalize pw (kindsI b) n = q at ih ⊢
    generalize l.getD n 0 = x at hx ⊢
    generalize kindsI b = k at hk hx ⊢
    have e1 : 0 ≤ p * k := Int.mul_nonneg ih.1 (by omega)
    have e2 : (p + 1) * k ≤ q * k := Int.mul_le_mul_of_nonneg_right (by omega) (by omega)
    rw [Int.add_mul] at e2
    omega

/-- The digit of a letter on a track. -/
def dOf (b : Int) (t : Nat) (l : Int) (i : Nat) : Int := l / pw (kindsI b) (t - 1 - i) % kindsI b
theorem dOf_bd (b : Int) (h2 : b ≤ 6) (t : Nat) (l : Int) (i : Nat) : 0 ≤ dOf b t l i ∧ dOf b t l i < kindsI b := by
  have hk := kinds_bd2 b h2
  unfold dOf
  exact ⟨Int.emod_nonneg _ (by omega), Int.emod_lt_of_pos _ (by omega)⟩
theorem div_pw (k : Int) (h : 2 ≤ k) (l : Int) (n : Nat) : l / pw k n / k = l / pw k (n + 1) := by
  rw [pw_succ]
  have := pw_pos k h n
  rw [Int.ediv_ediv, if_neg (by omega), Int.sub_zero]
theorem div_bd (k : Int) (h : 2 ≤ k) (l : Int) (hl : 0 ≤ l) (n : Nat) : 0 ≤ l / pw k n ∧ l / pw k n ≤ l :=
  ⟨Int.ediv_nonneg hl (by have := pw_pos k h n; omega), Int.ediv_le_self _ hl⟩

def splitL (b : Int) (t : Nat) (l : Int) : List Int := (List.range t).map (dOf b t l)
theorem splitL_length (b : Int) (t : Nat) (l : Int) : (splitL b t l).length = t := by simp [splitL]
theorem splitL_get (b : Int) (t : Nat) (l : Int) (i : Nat) (h : i < t) : (splitL b t l).getD i 0 = dOf b t l i := by simp [splitL, List.getD, h]

/-- The first code that is none of OK. -/
def firstC : List Int → Int
  | [] => 0
  | c :: r => if c = 0 then firstC r else c
theorem firstC_pre (l : List Int) (k : Nat) (h : ∀ j, j < k → l.getD j 0 = 0) (hk : k < l.length) (hc : l.getD k 0 ≠ 0) : firstC l = l.getD k 0 := by
  induction l generalizing k with
  | nil => simp at hk
  | cons c r ih =>
    cases k with
    | zero => simp at hc; simp [firstC, hc]
    | succ k =>
      have h0 : c = 0 := by simpa using h 0 (by omega)
      simp only [firstC, h0, if_true]
      have := ih k (fun j hj => by simpa using h (j + 1) (by omega)) (by simpa using hk) (by simpa using hc)
      rw [this]; simp
theorem firstC_all (l : List Int) (h : ∀ j, j < l.length → l.getD j 0 = 0) : firstC l = 0 := by
  induction l with
  | nil => rfl
  | cons c r ih =>
    have h0 : c = 0 := by simpa using h 0 (by simp)
    simp only [firstC, h0, if_true]
    exact ih fun j hj => by simpa using h (j + 1) (by simpa using hj)
theorem firstC_get0 (l : List Int) (h : firstC l = 0) : ∀ j, j < l.length → l.getD j 0 = 0 := by
  induction l with
  | nil => intro j hj; simp at hj
  | cons c r ih =>
    intro j hj
    by_cases hc : c = 0
    · simp only [firstC, hc, if_true] at h
      cases j with
      | zero => simpa using hc
      | succ j => simpa using ih h j (by simpa using hj)
    · simp only [firstC, hc, if_false] at h
end Go.Proofs.YtlgjadnkokmjoaaDoor

/- The contract of letter.Many. -/
namespace Go.Proofs.YtlgjadnkokmjoaaDoor
open Go.RowKit

set_option maxHeartbeats 1000000 in
set_option maxRecDepth 4000 in
theorem many_range (b t : Int) (w : World) (h : ¬ ((1 ≤ b ∧ b ≤ 6) ∧ 0 ≤ t ∧ t ≤ 5)) :
    Calls Tryd.prog 37 #[.int .i64 b, .int .i64 t] w fun e w' => e = .returned (.tuple #[.int .i64 0, .iface 26 (.int .i64 1)]) ∧ w' = w := by
  by_cases hb : 1 ≤ b ∧ b ≤ 6
  · obtain ⟨h1, h2⟩ := hb
    have ht : t < 0 ∨ (0 ≤ t ∧ 5 < t) := by omega
    clear h
    rcases ht with ht | ⟨ht0, ht⟩
    all_goals
      go_enter Tryd.func37, Tryd.ntmps37
      go_wp2_with (go_at_call 62; refine (isBase_yes _ _ h1 h2).mono ?_; rintro e w' ⟨rfl, rfl⟩)
      go_ret2
      exact ⟨by simp, rfl⟩
  · have hb : b < 1 ∨ 6 < b := by omega
    clear h
    go_enter Tryd.func37, Tryd.ntmps37
    go_wp2_with (go_at_call 62; refine (isBase_no _ _ hb).mono ?_; rintro e w' ⟨rfl, rfl⟩)
    go_ret2
    exact ⟨by simp, rfl⟩

set_option maxHeartbeats 1000000 in
set_option maxRecDepth 4000 in
theorem many_ok (b : Int) (n : Nat) (w : World) (h1 : 1 ≤ b) (h2 : b ≤ 6) (hn : n ≤ 5) :
    Calls Tryd.prog 37 #[.int .i64 b, .int .i64 n] w fun e w' => e = .returned (if pw (kindsI b) n ≤ 36 then .tuple #[.int .i64 (pw (kindsI b) n), .nilIface] else .tuple #[.int .i64 0, .iface 26 (.int .i64 3)]) ∧ w' = w := by
  have hk := kinds_bd2 b h2
  obtain ⟨hk1, hk2⟩ := hk
  have HP := hide (pw_bd (kindsI b) hk1 hk2)
  have hni : ¬ (5 : Int) < (n : Int) := by omega
  have HK := hide (fun w => kinds_any b w h1 h2)
  have HS := hide (pw_succ (kindsI b))
  have HI : Hid (∀ w, Calls Tryd.prog 62 #[.int .i64 b] w fun e w' => e = .returned (.bool true) ∧ w' = w) := fun w => isBase_yes b w h1 h2
  have HR1 : Hid (pw (kindsI b) n ≤ 36 → (if pw (kindsI b) n ≤ 36 then Value.tuple #[.int .i64 (pw (kindsI b) n), .nilIface] else .tuple #[.int .i64 0, .iface 26 (.int .i64 3)]) = .tuple #[.int .i64 (pw (kindsI b) n), .nilIface]) := fun h => if_pos h
  have HR2 : Hid (¬ pw (kindsI b) n ≤ 36 → (if pw (kindsI b) n ≤ 36 then Value.tuple #[.int .i64 (pw (kindsI b) n), .nilIface] else .tuple #[.int .i64 0, .iface 26 (.int .i64 3)]) = .tuple #[.int .i64 0, .iface 26 (.int .i64 3)]) := fun h => if_neg h
  generalize (if pw (kindsI b) n ≤ 36 then Value.tuple #[.int .i64 (pw (kindsI b) n), .nilIface] else .tuple #[.int .i64 0, .iface 26 (.int .i64 3)]) = R at HR1 HR2 ⊢
  generalize kindsI b = K at hk1 hk2 HP HK HS HR1 HR2
  go_enter Tryd.func37, Tryd.ntmps37
  go_wp2_with (go_at_call 62; refine (HI.out _).mono ?_; rintro e w' ⟨rfl, rfl⟩)
  go_loop [6, 20] (fun s i => ∃ k : Nat, k ≤ n ∧ i = .int .i64 k ∧ s = .int .i64 (pw K k)) (fun _ i => n - (intOf i).toNat)
  case atStart => exact ⟨0, Nat.zero_le _, rfl, rfl⟩
  case round =>
    obtain ⟨k, hk, rfl, rfl⟩ := hrel
    have hpb := HP.out k (by omega)
    obtain ⟨hp1, hp2⟩ := hpb
    by_cases hlt : k < n
    · have hlti : (k : Int) < (n : Int) := by omega
      have HS' := hide (HS.out k)
      have hpb' := HP.out (k + 1) (by omega)
      rw [HS'.out] at hpb'
      obtain ⟨hq1, hq2⟩ := hpb'
      generalize pw K k = p at hp1 hp2 hq1 hq2 HS' ⊢
      go_wp2_with (go_at_call 55; refine (HK.out _).mono ?_; rintro e w' ⟨rfl, rfl⟩)
      go_round
      case rel => exact ⟨k + 1, by omega, by go_num, by rw [HS'.out]⟩
      case measure => simp [intOf]; omega
    · have hlti : ¬ ((k : Int) < (n : Int)) := by omega
      obtain rfl : k = n := by omega
      generalize pw K k = p at hp1 hp2 HR1 HR2 ⊢
      by_cases hp : p ≤ 36
      · replace HR1 := hide (HR1.out (by omega))
        clear HR2
        go_wp2
        go_ret2
        exact ⟨by rw [HR1.out]; simp, rfl⟩
      · replace HR2 := hide (HR2.out (by omega))
        have hp' : 36 < p := by omega
        clear hp HR1
        go_wp2
        go_ret2
        exact ⟨by rw [HR2.out]; simp, rfl⟩

theorem many_u (b t : Int) (w : World) :
    Calls Tryd.prog 37 #[.int .i64 b, .int .i64 t] w fun e w' => e = .returned (.tuple #[.int .i64 (manyU b t), errV (codeM b t)]) ∧ w' = w := by
  by_cases h : (1 ≤ b ∧ b ≤ 6) ∧ 0 ≤ t ∧ t ≤ 5
  · obtain ⟨n, rfl⟩ : ∃ n : Nat, t = n := ⟨t.toNat, by omega⟩
    have := many_ok b n w h.1.1 h.1.2 (by omega)
    unfold manyU codeM
    rw [if_pos h, Int.toNat_natCast]
    by_cases hp : pw (kindsI b) n ≤ 36
    · simpa [hp, errV] using this
    · simpa [hp, errV] using this
  · have := many_range b t w h
    unfold manyU codeM
    rw [if_neg h]
    simpa [errV] using this
end Go.Proofs.YtlgjadnkokmjoaaDoor

/- Automata: what is wrong with one, where words lead, which states are met: mathematics. -/
namespace Go.Proofs.YtlgjadnkokmjoaaDoor
open Go.RowKit

/-- What is wrong with one state's nexts; with all; with an automaton. -/
def rowC (m n : Nat) (r : List Int) : Int := if r.length = m then (if r.all (fun x => decide (0 ≤ x ∧ x < (n : Int))) = true then 0 else 1) else 2
def rowsC (m n : Nat) (N : List (List Int)) : Int := firstC (N.map (rowC m n))
def autoC (b t : Int) (N : List (List Int)) (e : Nat) : Int :=
  if codeM b t = 0 then (if N.length = 0 then 4 else if 80 < N.length then 3 else if e = N.length then rowsC (manyU b t).toNat N.length N else 2) else codeM b t
/-- .. that may have at most M states. -/
def autoM (M b t : Int) (N : List (List Int)) (e : Nat) : Int :=
  if codeM b t = 0 then (if N.length = 0 then 4 else if M < (N.length : Int) then 3 else if e = N.length then rowsC (manyU b t).toNat N.length N else 2) else codeM b t
theorem autoM_80 (b t : Int) (N : List (List Int)) (e : Nat) : autoM 80 b t N e = autoC b t N e := by
  unfold autoM autoC
  by_cases h : 80 < N.length
  · rw [if_pos h, if_pos (show (80 : Int) < (N.length : Int) by omega)]
  · rw [if_neg h, if_neg (show ¬ (80 : Int) < (N.length : Int) by omega)]
/-- n states of m nexts each, each a state. -/
def GoodN (m n : Nat) (N : List (List Int)) : Prop := N.length = n ∧ 1 ≤ n ∧ n ≤ 4000000 ∧ m ≤ 36 ∧ 1 ≤ m ∧ ∀ s, s < n → (N.getD s []).length = m ∧ ∀ j, j < m → 0 ≤ (N.getD s []).getD j 0 ∧ (N.getD s []).getD j 0 < (n : Int)

theorem all_getD {l : List Int} {n : Nat} (h : l.all (fun x => decide (0 ≤ x ∧ x < (n : Int))) = true) (j : Nat) (hj : j < l.length) : 0 ≤ l.getD j 0 ∧ l.getD j 0 < (n : Int) := by
  rw [List.all_eq_true] at h
  have := h (l.getD j 0) (by simp [List.getD, hj])
  simpa using this
theorem all_of_getD {l : List Int} {n : Nat} (h : ∀ j, j < l.length → 0 ≤ l.getD j 0 ∧ l.getD j 0 < (n : Int)) : l.all (fun x => decide (0 ≤ x ∧ x < (n : Int))) = true := by
  rw [List.all_eq_true]
  intro x hx
  obtain ⟨j, hj, rfl⟩ := List.getElem_of_mem hx
  have := h j hj
  simpa [List.getD, hj] using this
theorem all_not {l : List Int} {n : Nat} (k : Nat) (hk : k < l.length) (h : ¬ (0 ≤ l.getD k 0 ∧ l.getD k 0 < (n : Int))) : l.all (fun x => decide (0 ≤ x ∧ x < (n : Int))) = false := by
  cases e : l.all (fun x => decide (0 ≤ x ∧ x < (n : Int))) with
  | false => rfl
  | true => exact absurd (all_getD e k hk) h

theorem rowC_long {m n : Nat} {r : List Int} (h : r.length ≠ m) : rowC m n r = 2 := by unfold rowC; rw [if_neg h]
theorem rowC_bad {m n : Nat} {r : List Int} (h : r.length = m) (k : Nat) (hk : k < m) (hx : ¬ (0 ≤ r.getD k 0 ∧ r.getD k 0 < (n : Int))) : rowC m n r = 1 := by
  unfold rowC; rw [if_pos h, if_neg (by rw [all_not k (by omega) hx]; decide)]
theorem rowC_good {m n : Nat} {r : List Int} (h : r.length = m) (hx : ∀ k, k < m → 0 ≤ r.getD k 0 ∧ r.getD k 0 < (n : Int)) : rowC m n r = 0 := by
  unfold rowC; rw [if_pos h, if_pos (all_of_getD (by rw [h]; exact hx))]
theorem rowC_zero {m n : Nat} {r : List Int} (h : rowC m n r = 0) : r.length = m ∧ ∀ k, k < m → 0 ≤ r.getD k 0 ∧ r.getD k 0 < (n : Int) := by
  unfold rowC at h
  split at h
  · split at h
    · refine ⟨by assumption, fun k hk => all_getD (by assumption) k (by omega)⟩
    · cases h
  · cases h
theorem rowsC_get (m n : Nat) (N : List (List Int)) (k : Nat) (hk : k < N.length) : (N.map (rowC m n)).getD k 0 = rowC m n (N.getD k []) := by
  simp [List.getD, hk]
theorem rowsC_at {m n : Nat} {N : List (List Int)} (k : Nat) (hk : k < N.length) (h : ∀ j, j < k → rowC m n (N.getD j []) = 0) (hc : rowC m n (N.getD k []) ≠ 0) : rowsC m n N = rowC m n (N.getD k []) := by
  unfold rowsC
  rw [← rowsC_get m n N k hk] at hc ⊢
  exact firstC_pre _ k (fun j hj => by rw [rowsC_get m n N j (by omega)]; exact h j hj) (by simpa using hk) hc
theorem rowsC_all {m n : Nat} {N : List (List Int)} (h : ∀ j, j < N.length → rowC m n (N.getD j []) = 0) : rowsC m n N = 0 := by
  unfold rowsC
  exact firstC_all _ fun j hj => by rw [rowsC_get m n N j (by simpa using hj)]; exact h j (by simpa using hj)
theorem rowsC_zero {m n : Nat} {N : List (List Int)} (h : rowsC m n N = 0) (j : Nat) (hj : j < N.length) : rowC m n (N.getD j []) = 0 := by
  unfold rowsC at h
  have := firstC_get0 _ h j (by simpa using hj)
  rwa [rowsC_get m n N j hj] at this

theorem autoC_zero {b t : Int} {N : List (List Int)} {e : Nat} (h : autoC b t N e = 0) : codeM b t = 0 ∧ e = N.length ∧ GoodN (manyU b t).toNat N.length N ∧ ((manyU b t).toNat : Int) = manyU b t := by
  unfold autoC at h
  split at h
  · rename_i hM
    obtain ⟨h1, h2, h3, h4, h5, h6⟩ := codeM_zero hM
    have hk := kinds_bd2 b h2
    have hp := pw_pos (kindsI b) hk.1 t.toNat
    split at h
    · cases h
    · split at h
      · cases h
      · split at h
        · rename_i hN h80 he
          refine ⟨hM, he, ⟨rfl, by omega, by omega, by omega, by omega, fun s hs => ?_⟩, by omega⟩
          exact rowC_zero (rowsC_zero h s hs)
        · cases h
  · contradiction

theorem getD_at (l : List Int) (j : Nat) (hj : j < l.length) : l.getD j 0 = l[j] := by simp [List.getD, hj]
end Go.Proofs.YtlgjadnkokmjoaaDoor

/- Counts that go no further than one too many; how many words lead to an end: mathematics. -/
namespace Go.Proofs.YtlgjadnkokmjoaaDoor
open Go.RowKit

/-- A count that goes no further than one too many. -/
def capI (x : Int) : Int := if x ≤ 1152921504606846976 then x else 1152921504606846977
theorem capI_small {x : Int} (h : x ≤ 1152921504606846976) : capI x = x := if_pos h
theorem capI_bd {x : Int} (h : 0 ≤ x) : 0 ≤ capI x ∧ capI x ≤ 1152921504606846977 := by
  unfold capI; split <;> omega
theorem capI_add {x y : Int} (hy : 0 ≤ y) : capI (capI x + y) = capI (x + y) := by
  unfold capI; repeat' split
  all_goals omega
theorem capI_two {x y : Int} (_ : 0 ≤ x) (hy : 0 ≤ y) : capI (capI x + capI y) = capI (x + y) := by
  unfold capI; repeat' split
  all_goals omega
theorem capI_mul {x c : Int} (_ : 0 ≤ x) (hc : 0 ≤ c) : capI (capI x * c) = capI (x * c) := by
  by_cases h : x ≤ 1152921504606846976
  · rw [capI_small h]
  · have e : capI x = 1152921504606846977 := if_neg h
    by_cases h0 : c = 0
    · subst h0; simp
    · have h1 : 1152921504606846977 * 1 ≤ 1152921504606846977 * c := Int.mul_le_mul_of_nonneg_left (by omega) (by decide)
      have h2 : 1152921504606846977 * c ≤ x * c := Int.mul_le_mul_of_nonneg_right (by omega) hc
      rw [e]
      unfold capI
      rw [if_neg (by omega), if_neg (by omega)]
/-- A sum of so many. -/
def csum (g : Nat → Int) : Nat → Int
  | 0 => 0
  | k + 1 => csum g k + g k
/-- The same, as it is added up. -/
def ccap (g : Nat → Int) : Nat → Int
  | 0 => 0
  | k + 1 => capI (ccap g k + g k)
theorem csum_nn {g : Nat → Int} {n : Nat} (h : ∀ i, i < n → 0 ≤ g i) : 0 ≤ csum g n := by
  induction n with
  | zero => exact Int.le_refl _
  | succ n ih =>
    have h1 := ih fun i hi => h i (by omega)
    have h2 := h n (by omega)
    show 0 ≤ csum g n + g n
    omega
theorem ccap_eq {g : Nat → Int} {n : Nat} (h : ∀ i, i < n → 0 ≤ g i) : ccap g n = capI (csum g n) := by
  induction n with
  | zero => rfl
  | succ n ih =>
    show capI (ccap g n + g n) = capI (csum g n + g n)
    rw [ih fun i hi => h i (by omega), capI_add (h n (by omega))]
theorem csum_congr {g h : Nat → Int} {n : Nat} (e : ∀ i, i < n → g i = h i) : csum g n = csum h n := by
  induction n with
  | zero => rfl
  | succ n ih =>
    show csum g n + g n = csum h n + h n
    rw [ih fun i hi => e i (by omega), e n (by omega)]
theorem csum_add (g h : Nat → Int) (n : Nat) : csum (fun i => g i + h i) n = csum g n + csum h n := by
  induction n with
  | zero => rfl
  | succ n ih =>
    show csum (fun i => g i + h i) n + (g n + h n) = csum g n + g n + (csum h n + h n)
    rw [ih]; omega
theorem csum_zero (n : Nat) : csum (fun _ => 0) n = 0 := by
  induction n with
  | zero => rfl
  | succ n ih => show csum (fun _ => 0) n + 0 = 0; rw [ih]; rfl
theorem csum_mul (g : Nat → Int) (c : Int) (n : Nat) : csum (fun i => g i * c) n = csum g n * c := by
  induction n with
  | zero => exact (Int.zero_mul c).symm
  | succ n ih =>
    show csum (fun i => g i * c) n + g n * c = (csum g n + g n) * c
    rw [ih, Int.add_mul]
theorem csum_mull (g : Nat → Int) (c : Int) (n : Nat) : csum (fun i => c * g i) n = c * csum g n := by
  rw [Int.mul_comm c, ← csum_mul]
  exact csum_congr fun i _ => Int.mul_comm _ _
theorem csum_swap (g : Nat → Nat → Int) (n m : Nat) : csum (fun i => csum (fun j => g i j) m) n = csum (fun j => csum (fun i => g i j) n) m := by
  induction n with
  | zero => exact (csum_zero m).symm
  | succ n ih =>
    show csum (fun i => csum (fun j => g i j) m) n + csum (fun j => g n j) m = csum (fun j => csum (fun i => g i j) n + g n j) m
    rw [ih, csum_add]
theorem csum_one {n a : Nat} (f : Nat → Int) (h : a < n) : csum (fun t => (if t = a then 1 else 0) * f t) n = f a := by
  induction n with
  | zero => omega
  | succ n ih =>
    show csum (fun t => (if t = a then 1 else 0) * f t) n + (if n = a then 1 else 0) * f n = f a
    by_cases e : n = a
    · subst e
      rw [csum_congr (h := fun _ => 0) fun i hi => by rw [if_neg (by omega), Int.zero_mul], csum_zero, if_pos rfl]
      omega
    · rw [ih (by omega), if_neg e]; omega
theorem csum_cap {g h : Nat → Int} {n : Nat} (hg : ∀ i, i < n → 0 ≤ g i) (hh : ∀ i, i < n → 0 ≤ h i) (e : ∀ i, i < n → capI (g i) = capI (h i)) : capI (csum g n) = capI (csum h n) := by
  induction n with
  | zero => rfl
  | succ n ih =>
    show capI (csum g n + g n) = capI (csum h n + h n)
    rw [← capI_two (csum_nn fun i hi => hg i (by omega)) (hg n (by omega)), ih (fun i hi => hg i (by omega)) (fun i hi => hh i (by omega)) (fun i hi => e i (by omega)), e n (by omega), capI_two (csum_nn fun i hi => hh i (by omega)) (hh n (by omega))]
/-- Behind a letter with a step: as much as there is at each place. -/
def thrL (row : List Int) (S : List (List Int)) : List Int := (List.range row.length).map fun t => capI (csum (fun i => row.getD i 0 * (S.getD i []).getD t 0) row.length)
theorem thrL_len (row : List Int) (S : List (List Int)) : (thrL row S).length = row.length := by simp [thrL]
theorem thrL_get {row : List Int} {S : List (List Int)} {t : Nat} (h : t < row.length) : (thrL row S).getD t 0 = capI (csum (fun i => row.getD i 0 * (S.getD i []).getD t 0) row.length) := by
  simp [thrL, List.getD, h]
/-- How many of these letters lead from s to t. -/
def nxA (N : List (List Int)) (s : Nat) (x : Int) : Nat := ((N.getD s []).getD x.toNat 0).toNat
def dgN (N : List (List Int)) (ls : List Int) (s t : Nat) : Int := csum (fun j => if t = nxA N s (ls.getD j 0) then 1 else 0) ls.length
def leadsL (N : List (List Int)) (ls : List Int) : List (List Int) := (List.range N.length).map fun s => (List.range N.length).map fun t => dgN N ls s t
theorem leadsL_len (N : List (List Int)) (ls : List Int) : (leadsL N ls).length = N.length := by simp [leadsL]
theorem leadsL_get {N : List (List Int)} {ls : List Int} {s t : Nat} (hs : s < N.length) (ht : t < N.length) : ((leadsL N ls).getD s []).getD t 0 = dgN N ls s t := by
  simp [leadsL, List.getD, hs, ht]
theorem dgN_nn (N : List (List Int)) (ls : List Int) (s t : Nat) : 0 ≤ dgN N ls s t := csum_nn fun i _ => by split <;> omega
theorem csum_ones {n : Nat} {g : Nat → Int} (h : ∀ i, i < n → 0 ≤ g i ∧ g i ≤ 1) : csum g n ≤ n := by
  induction n with
  | zero => exact Int.le_refl _
  | succ n ih =>
    have h1 := ih fun i hi => h i (by omega)
    have h2 := h n (by omega)
    show csum g n + g n ≤ ((n + 1 : Nat) : Int)
    omega
theorem dgN_le (N : List (List Int)) (ls : List Int) (s t : Nat) : dgN N ls s t ≤ ls.length := csum_ones fun i _ => by split <;> omega
/-- Weighed with what each place counts, they count what the letters lead to. -/
theorem dgN_sum (N : List (List Int)) (ls : List Int) (s n : Nat) (f : Nat → Int) (h : ∀ j, j < ls.length → nxA N s (ls.getD j 0) < n) : csum (fun t => dgN N ls s t * f t) n = csum (fun j => f (nxA N s (ls.getD j 0))) ls.length := by
  rw [csum_congr (h := fun t => csum (fun j => (if t = nxA N s (ls.getD j 0) then 1 else 0) * f t) ls.length) fun t _ => by rw [csum_mul]; rfl, csum_swap]
  exact csum_congr fun j hj => csum_one f (h j hj)
/-- How many words of so many letters, each of these, are taken from s on. -/
def wayL (N : List (List Int)) (E : List Bool) : List (List Int) → Nat → Int
  | [], s => if E.getD s false then 1 else 0
  | ls :: v, s => csum (fun j => wayL N E v (nxA N s (ls.getD j 0))) ls.length
theorem wayL_nn (N : List (List Int)) (E : List Bool) (v : List (List Int)) : ∀ s, 0 ≤ wayL N E v s := by
  induction v with
  | nil => intro s; unfold wayL; split <;> omega
  | cons ls v ih => intro s; exact csum_nn fun j _ => ih _
/-- The rows that come up, step by step. -/
def rwsT (N : List (List Int)) (row : List Int) (v : List (List Int)) : List Int := v.foldl (fun r ls => thrL r (leadsL N ls)) row
/-- All in all: however far, what a row counts is what words lead to. -/
theorem rows_way {N : List (List Int)} {E : List Bool} (v : List (List Int)) : ∀ (row : List Int), row.length = N.length → (∀ s, s < N.length → 0 ≤ row.getD s 0) → (∀ ls ∈ v, ∀ s, s < N.length → ∀ j, j < ls.length → nxA N s (ls.getD j 0) < N.length) →
    capI (csum (fun s => (rwsT N row v).getD s 0 * (if E.getD s false then 1 else 0)) N.length) = capI (csum (fun s => row.getD s 0 * wayL N E v s) N.length) := by
  induction v with
  | nil => intro row _ _ _; rfl
  | cons ls v ih =>
    intro row hl hn hx
    have hW := wayL_nn N E v
    have hT : ∀ t, t < N.length → (thrL row (leadsL N ls)).getD t 0 = capI (csum (fun s => row.getD s 0 * dgN N ls s t) N.length) := fun t ht => by
      rw [thrL_get (by omega), hl]
      exact congrArg capI (csum_congr fun s hs => by rw [leadsL_get hs ht])
    have hS : ∀ t, 0 ≤ csum (fun s => row.getD s 0 * dgN N ls s t) N.length := fun t => csum_nn fun s hs => Int.mul_nonneg (hn s hs) (dgN_nn _ _ _ _)
    have h := ih (thrL row (leadsL N ls)) ((thrL_len _ _).trans hl) (fun s hs => by rw [hT s hs]; exact (capI_bd (hS s)).1) (fun ls' h' => hx ls' (List.mem_cons_of_mem _ h'))
    refine h.trans ?_
    rw [csum_cap (h := fun t => csum (fun s => row.getD s 0 * dgN N ls s t) N.length * wayL N E v t) (fun t ht => by rw [hT t ht]; exact Int.mul_nonneg (capI_bd (hS t)).1 (hW t)) (fun t ht => Int.mul_nonneg (hS t) (hW t)) (fun t ht => by rw [hT t ht]; exact capI_mul (hS t) (hW t))]
    refine congrArg capI ?_
    rw [csum_congr (h := fun t => csum (fun s => row.getD s 0 * dgN N ls s t * wayL N E v t) N.length) fun t _ => by rw [csum_mul], csum_swap]
    refine csum_congr fun s hs => ?_
    rw [csum_congr (h := fun t => row.getD s 0 * (dgN N ls s t * wayL N E v t)) fun t _ => Int.mul_assoc _ _ _, csum_mull, dgN_sum N ls s N.length _ fun j hj => hx ls List.mem_cons_self s hs j hj]
    rfl
/-- At first: once at the first one. -/
def fst0L (n : Nat) : List Int := (List.range n).map fun s => if s = 0 then 1 else 0
theorem fst0L_len (n : Nat) : (fst0L n).length = n := by simp [fst0L]
theorem fst0L_get {n s : Nat} (h : s < n) : (fst0L n).getD s 0 = if s = 0 then 1 else 0 := by simp [fst0L, List.getD, h]
theorem first_way {N : List (List Int)} {E : List Bool} (v : List (List Int)) (h0 : 0 < N.length) (hx : ∀ ls ∈ v, ∀ s, s < N.length → ∀ j, j < ls.length → nxA N s (ls.getD j 0) < N.length) :
    capI (csum (fun s => (rwsT N (fst0L N.length) v).getD s 0 * (if E.getD s false then 1 else 0)) N.length) = capI (wayL N E v 0) := by
  rw [rows_way v _ (fst0L_len _) (fun s hs => by rw [fst0L_get hs]; split <;> omega) hx]
  rw [csum_congr (h := fun s => (if s = 0 then 1 else 0) * wayL N E v s) fun s hs => by rw [fst0L_get hs], csum_one _ h0]
end Go.Proofs.YtlgjadnkokmjoaaDoor
