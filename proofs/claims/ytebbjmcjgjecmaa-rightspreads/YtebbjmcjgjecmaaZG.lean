/- 8 texts in one. -/
import Derived.RegionTactic
import Derived.Test.YtebbjmcjgjecmaaZF
import Derived.Test.YtebbjmcjgjecmaaMa
import Derived.Test.YtebbjmcjgjecmaaB
/- The contract of digit.Of. -/
namespace Go.Proofs.Ytebbjmcjgjecmaa
open Go.RowKit

/-- What is left of n behind k places. -/
def remN (b n : Int) : Nat → Int
  | 0 => n
  | k + 1 => remN b n k % cnt b (59 - k)
def dgt (b n : Int) (k : Nat) : Int := remN b n k / cnt b (59 - k)
/-- The digits of n, k of them laid. -/
def dList (b n : Int) (k : Nat) : List Int := (List.range 60).map fun j => if j < k then dgt b n j else 0

end Go.Proofs.Ytebbjmcjgjecmaa

/- Package digit's contracts, whatever is handed in: one a function. -/
namespace Go.Proofs.Ytebbjmcjgjecmaa
open Go.RowKit

def errV (c : Int) : Value := if c = 0 then .nilIface else .iface 44 (.int .i64 c)
def OfU (w : World) (l : List Int) (er : Value) (e : Ending) (w' : World) : Prop := ∃ a cap, e = .returned (.tuple #[.slice a l.length cap, er]) ∧ SlN w.heap.size w' a l.length l ∧ Below w.heap.size w w'
end Go.Proofs.Ytebbjmcjgjecmaa

/- Letters, counted: mathematics. -/
namespace Go.Proofs.Ytebbjmcjgjecmaa
open Go.RowKit

def pw (k : Int) : Nat → Int
  | 0 => 1
  | n + 1 => pw k n * k

theorem pw_succ (k : Int) (n : Nat) : pw k (n + 1) = pw k n * k := rfl
theorem pw_pos (k : Int) (h : 2 ≤ k) (n : Nat) : 1 ≤ pw k n := by
  induction n with
  | zero => simp [pw]
  | succ n ih => rw [pw_succ]; have := Int.mul_le_mul ih (show 1 ≤ k by omega) (by omega) (by omega); omega

theorem pw_bd (k : Int) (h1 : 2 ≤ k) (h2 : k ≤ 6) (n : Nat) (hn : n ≤ 5) : 1 ≤ pw k n ∧ pw k n ≤ 7776 := by
  have hk : k = 2 ∨ k = 3 ∨ k = 4 ∨ k = 5 ∨ k = 6 := by omega
  have hn : n = 0 ∨ n = 1 ∨ n = 2 ∨ n = 3 ∨ n = 4 ∨ n = 5 := by omega
  rcases hk with rfl | rfl | rfl | rfl | rfl <;> rcases hn with rfl | rfl | rfl | rfl | rfl | rfl <;> decide

theorem kinds_bd2 (b : Int) (h2 : b ≤ 6) : 2 ≤ kindsI b ∧ kindsI b ≤ 6 := by unfold kindsI; split <;> omega

/-- The fault of so many tracks, and how many letters. -/
def codeM (b t : Int) : Int := if (1 ≤ b ∧ b ≤ 6) ∧ 0 ≤ t ∧ t ≤ 5 then (if pw (kindsI b) t.toNat ≤ 36 then 0 else 3) else 1
def manyU (b t : Int) : Int := if codeM b t = 0 then pw (kindsI b) t.toNat else 0

theorem codeM_zero {b t : Int} (h : codeM b t = 0) : 1 ≤ b ∧ b ≤ 6 ∧ 0 ≤ t ∧ t ≤ 5 ∧ pw (kindsI b) t.toNat ≤ 36 ∧ manyU b t = pw (kindsI b) t.toNat := by
  have h' := h
  unfold codeM at h
  split at h
  · split at h
    · exact ⟨by omega, by omega, by omega, by omega, by assumption, by unfold manyU; rw [if_pos h']⟩
    · cases h
  · cases h

theorem codeM_yes {b t : Int} (h1 : 1 ≤ b) (h2 : b ≤ 6) (h3 : 0 ≤ t) (h4 : t ≤ 5) : codeM b t = if pw (kindsI b) t.toNat ≤ 36 then 0 else 3 := by
  unfold codeM; rw [if_pos ⟨⟨h1, h2⟩, h3, h4⟩]
/-- The letter of digits. -/
def packL (b : Int) (l : List Int) : Int := l.foldl (fun s x => s * kindsI b + x) 0
theorem packL_snoc (b : Int) (l : List Int) (x : Int) : packL b (l ++ [x]) = packL b l * kindsI b + x := by simp [packL, List.foldl_append]
theorem packL_take_succ (b : Int) (l : List Int) (k : Nat) (h : k < l.length) : packL b (l.take (k + 1)) = packL b (l.take k) * kindsI b + l.getD k 0 := by
  rw [List.take_succ_eq_append_getElem h, packL_snoc]
  simp [List.getD, h]

theorem digB_get2 {b : Int} {l : List Int} (hd : digB b l = true) (j : Nat) (hj : j < l.length) : 0 ≤ l.getD j 0 ∧ l.getD j 0 < kindsI b := by
  unfold digB at hd
  rw [List.all_eq_true] at hd
  have := hd (l.getD j 0) (by simp [List.getD, hj])
  simpa using this

theorem packL_bd (b : Int) (h2 : b ≤ 6) (l : List Int) (n : Nat) (hn : n ≤ l.length) (hd : ∀ j, j < n → 0 ≤ l.getD j 0 ∧ l.getD j 0 < kindsI b) : 0 ≤ packL b (l.take n) ∧ packL b (l.take n) < pw (kindsI b) n := by
  have hk := kinds_bd2 b h2
  induction n with
  | zero => simp [packL, pw]
  | succ n ih =>
    have ih := ih (by omega) (fun j hj => hd j (by omega))
    rw [packL_take_succ b l n (by omega), pw_succ]
    have hx := hd n (by omega)
    generalize packL b (l.take n) = p at ih ⊢
    generalize pw (kindsI b) n = q at ih ⊢
    generalize l.getD n 0 = x at hx ⊢
    generalize kindsI b = k at hk hx ⊢
    have e1 : 0 ≤ p * k := Int.mul_nonneg ih.1 (by omega)
    have e2 : (p + 1) * k ≤ q * k := Int.mul_le_mul_of_nonneg_right (by omega) (by omega)
    rw [Int.add_mul] at e2
    omega

/-- The digit of a letter on a track. -/
def dOf (b : Int) (t : Nat) (l : Int) (i : Nat) : Int := l / pw (kindsI b) (t - 1 - i) % kindsI b
theorem dOf_bd (b : Int) (h2 : b ≤ 6) (t : Nat) (l : Int) (i : Nat) : 0 ≤ dOf b t l i ∧ dOf b t l i < kindsI b := by
  have hk := kinds_bd2 b h2
  unfold dOf
  exact ⟨Int.emod_nonneg _ (by omega), Int.emod_lt_of_pos _ (by omega)⟩
theorem div_pw (k : Int) (h : 2 ≤ k) (l : Int) (n : Nat) : l / pw k n / k = l / pw k (n + 1) := by
  rw [pw_succ]
  have := pw_pos k h n
  rw [Int.ediv_ediv, if_neg (by omega), Int.sub_zero]
theorem div_bd (k : Int) (h : 2 ≤ k) (l : Int) (hl : 0 ≤ l) (n : Nat) : 0 ≤ l / pw k n ∧ l / pw k n ≤ l :=
  ⟨Int.ediv_nonneg hl (by have := pw_pos k h n; omega), Int.ediv_le_self _ hl⟩

def splitL (b : Int) (t : Nat) (l : Int) : List Int := (List.range t).map (dOf b t l)
theorem splitL_length (b : Int) (t : Nat) (l : Int) : (splitL b t l).length = t := by simp [splitL]
theorem splitL_get (b : Int) (t : Nat) (l : Int) (i : Nat) (h : i < t) : (splitL b t l).getD i 0 = dOf b t l i := by simp [splitL, List.getD, h]

/-- The first code that is none of OK. -/
def firstC : List Int → Int
  | [] => 0
  | c :: r => if c = 0 then firstC r else c
theorem firstC_pre (l : List Int) (k : Nat) (h : ∀ j, j < k → l.getD j 0 = 0) (hk : k < l.length) (hc : l.getD k 0 ≠ 0) : firstC l = l.getD k 0 := by
  induction l generalizing k with
  | nil => simp at hk
  | cons c r ih =>
    cases k with
    | zero => simp at hc; simp [firstC, hc]
    | succ k =>
      have h0 : c = 0 := by simpa using h 0 (by omega)
      simp only [firstC, h0, if_true]
      have := ih k (fun j hj => by simpa using h (j + 1) (by omega)) (by simpa using hk) (by simpa using hc)
      rw [this]; simp
theorem firstC_all (l : List Int) (h : ∀ j, j < l.length → l.getD j 0 = 0) : firstC l = 0 := by
  induction l with
  | nil => rfl
  | cons c r ih =>
    have h0 : c = 0 := by simpa using h 0 (by simp)
    simp only [firstC, h0, if_true]
    exact ih fun j hj => by simpa using h (j + 1) (by simpa using hj)
theorem firstC_get0 (l : List Int) (h : firstC l = 0) : ∀ j, j < l.length → l.getD j 0 = 0 := by
  induction l with
  | nil => intro j hj; simp at hj
  | cons c r ih =>
    intro j hj
    by_cases hc : c = 0
    · simp only [firstC, hc, if_true] at h
      cases j with
      | zero => simpa using hc
      | succ j => simpa using ih h j (by simpa using hj)
    · simp only [firstC, hc, if_false] at h
end Go.Proofs.Ytebbjmcjgjecmaa

/- The contract of letter.Many. -/
namespace Go.Proofs.Ytebbjmcjgjecmaa
open Go.RowKit

set_option maxHeartbeats 1000000 in
set_option maxRecDepth 4000 in
theorem many_range (b t : Int) (w : World) (h : ¬ ((1 ≤ b ∧ b ≤ 6) ∧ 0 ≤ t ∧ t ≤ 5)) :
    Calls Try.prog 9 #[.int .i64 b, .int .i64 t] w fun e w' => e = .returned (.tuple #[.int .i64 0, .iface 44 (.int .i64 1)]) ∧ w' = w := by
  by_cases hb : 1 ≤ b ∧ b ≤ 6
  · obtain ⟨h1, h2⟩ := hb
    have ht : t < 0 ∨ (0 ≤ t ∧ 5 < t) := by omega
    clear h
    rcases ht with ht | ⟨ht0, ht⟩
    all_goals
      go_enter Try.func9, Try.ntmps9
      go_wp2_with (go_at_call 21; refine (isBase_yes _ _ h1 h2).mono ?_; rintro e w' ⟨rfl, rfl⟩)
      go_ret2
      exact ⟨by simp, rfl⟩
  · have hb : b < 1 ∨ 6 < b := by omega
    clear h
    go_enter Try.func9, Try.ntmps9
    go_wp2_with (go_at_call 21; refine (isBase_no _ _ hb).mono ?_; rintro e w' ⟨rfl, rfl⟩)
    go_ret2
    exact ⟨by simp, rfl⟩

set_option maxHeartbeats 1000000 in
set_option maxRecDepth 4000 in
theorem many_ok (b : Int) (n : Nat) (w : World) (h1 : 1 ≤ b) (h2 : b ≤ 6) (hn : n ≤ 5) :
    Calls Try.prog 9 #[.int .i64 b, .int .i64 n] w fun e w' => e = .returned (if pw (kindsI b) n ≤ 36 then .tuple #[.int .i64 (pw (kindsI b) n), .nilIface] else .tuple #[.int .i64 0, .iface 44 (.int .i64 3)]) ∧ w' = w := by
  have hk := kinds_bd2 b h2
  obtain ⟨hk1, hk2⟩ := hk
  have HP := hide (pw_bd (kindsI b) hk1 hk2)
  have hni : ¬ (5 : Int) < (n : Int) := by omega
  have HK := hide (fun w => kinds_any b w h1 h2)
  have HS := hide (pw_succ (kindsI b))
  have HI : Hid (∀ w, Calls Try.prog 21 #[.int .i64 b] w fun e w' => e = .returned (.bool true) ∧ w' = w) := fun w => isBase_yes b w h1 h2
  have HR1 : Hid (pw (kindsI b) n ≤ 36 → (if pw (kindsI b) n ≤ 36 then Value.tuple #[.int .i64 (pw (kindsI b) n), .nilIface] else .tuple #[.int .i64 0, .iface 44 (.int .i64 3)]) = .tuple #[.int .i64 (pw (kindsI b) n), .nilIface]) := fun h => if_pos h
  have HR2 : Hid (¬ pw (kindsI b) n ≤ 36 → (if pw (kindsI b) n ≤ 36 then Value.tuple #[.int .i64 (pw (kindsI b) n), .nilIface] else .tuple #[.int .i64 0, .iface 44 (.int .i64 3)]) = .tuple #[.int .i64 0, .iface 44 (.int .i64 3)]) := fun h => if_neg h
  generalize (if pw (kindsI b) n ≤ 36 then Value.tuple #[.int .i64 (pw (kindsI b) n), .nilIface] else .tuple #[.int .i64 0, .iface 44 (.int .i64 3)]) = R at HR1 HR2 ⊢
  generalize kindsI b = K at hk1 hk2 HP HK HS HR1 HR2
  go_enter Try.func9, Try.ntmps9
  go_wp2_with (go_at_call 21; refine (HI.out _).mono ?_; rintro e w' ⟨rfl, rfl⟩)
  go_loop [6, 20] (fun s i => ∃ k : Nat, k ≤ n ∧ i = .int .i64 k ∧ s = .int .i64 (pw K k)) (fun _ i => n - (intOf i).toNat)
  case atStart => exact ⟨0, Nat.zero_le _, rfl, rfl⟩
  case round =>
    obtain ⟨k, hk, rfl, rfl⟩ := hrel
    have hpb := HP.out k (by omega)
    obtain ⟨hp1, hp2⟩ := hpb
    by_cases hlt : k < n
    · have hlti : (k : Int) < (n : Int) := by omega
      have HS' := hide (HS.out k)
      have hpb' := HP.out (k + 1) (by omega)
      rw [HS'.out] at hpb'
      obtain ⟨hq1, hq2⟩ := hpb'
      generalize pw K k = p at hp1 hp2 hq1 hq2 HS' ⊢
      go_wp2_with (go_at_call 22; refine (HK.out _).mono ?_; rintro e w' ⟨rfl, rfl⟩)
      go_round
      case rel => exact ⟨k + 1, by omega, by go_num, by rw [HS'.out]⟩
      case measure => simp [intOf]; omega
    · have hlti : ¬ ((k : Int) < (n : Int)) := by omega
      obtain rfl : k = n := by omega
      generalize pw K k = p at hp1 hp2 HR1 HR2 ⊢
      by_cases hp : p ≤ 36
      · replace HR1 := hide (HR1.out (by omega))
        clear HR2
        go_wp2
        go_ret2
        exact ⟨by rw [HR1.out]; simp, rfl⟩
      · replace HR2 := hide (HR2.out (by omega))
        have hp' : 36 < p := by omega
        clear hp HR1
        go_wp2
        go_ret2
        exact ⟨by rw [HR2.out]; simp, rfl⟩

theorem many_u (b t : Int) (w : World) :
    Calls Try.prog 9 #[.int .i64 b, .int .i64 t] w fun e w' => e = .returned (.tuple #[.int .i64 (manyU b t), errV (codeM b t)]) ∧ w' = w := by
  by_cases h : (1 ≤ b ∧ b ≤ 6) ∧ 0 ≤ t ∧ t ≤ 5
  · obtain ⟨n, rfl⟩ : ∃ n : Nat, t = n := ⟨t.toNat, by omega⟩
    have := many_ok b n w h.1.1 h.1.2 (by omega)
    unfold manyU codeM
    rw [if_pos h, Int.toNat_natCast]
    by_cases hp : pw (kindsI b) n ≤ 36
    · simpa [hp, errV] using this
    · simpa [hp, errV] using this
  · have := many_range b t w h
    unfold manyU codeM
    rw [if_neg h]
    simpa [errV] using this
end Go.Proofs.Ytebbjmcjgjecmaa

/- Automata: what is wrong with one, where words lead, which states are met: mathematics. -/
namespace Go.Proofs.Ytebbjmcjgjecmaa
open Go.RowKit

theorem length_erase_le (o : List Int) (x : Int) : o.length ≤ (o.erase x).length + 1 := by rw [List.length_erase]; split <;> omega
/-- What is wrong with one state's nexts; with all; with an automaton. -/
def rowC (m n : Nat) (r : List Int) : Int := if r.length = m then (if r.all (fun x => decide (0 ≤ x ∧ x < (n : Int))) = true then 0 else 1) else 2
def rowsC (m n : Nat) (N : List (List Int)) : Int := firstC (N.map (rowC m n))
def autoC (b t : Int) (N : List (List Int)) (e : Nat) : Int :=
  if codeM b t = 0 then (if N.length = 0 then 4 else if 80 < N.length then 3 else if e = N.length then rowsC (manyU b t).toNat N.length N else 2) else codeM b t
/-- .. that may have at most M states. -/
def autoM (M b t : Int) (N : List (List Int)) (e : Nat) : Int :=
  if codeM b t = 0 then (if N.length = 0 then 4 else if M < (N.length : Int) then 3 else if e = N.length then rowsC (manyU b t).toNat N.length N else 2) else codeM b t
theorem autoM_80 (b t : Int) (N : List (List Int)) (e : Nat) : autoM 80 b t N e = autoC b t N e := by
  unfold autoM autoC
  by_cases h : 80 < N.length
  · rw [if_pos h, if_pos (show (80 : Int) < (N.length : Int) by omega)]
  · rw [if_neg h, if_neg (show ¬ (80 : Int) < (N.length : Int) by omega)]
def stepL (N : List (List Int)) (s : Nat) (x : Int) : Nat := ((N.getD s []).getD x.toNat 0).toNat
def runL (N : List (List Int)) (w : List Int) : Nat := w.foldl (stepL N) 0

/-- n states of m nexts each, each a state. -/
def GoodN (m n : Nat) (N : List (List Int)) : Prop := N.length = n ∧ 1 ≤ n ∧ n ≤ 4000000 ∧ m ≤ 36 ∧ 1 ≤ m ∧ ∀ s, s < n → (N.getD s []).length = m ∧ ∀ j, j < m → 0 ≤ (N.getD s []).getD j 0 ∧ (N.getD s []).getD j 0 < (n : Int)

theorem all_getD {l : List Int} {n : Nat} (h : l.all (fun x => decide (0 ≤ x ∧ x < (n : Int))) = true) (j : Nat) (hj : j < l.length) : 0 ≤ l.getD j 0 ∧ l.getD j 0 < (n : Int) := by
  rw [List.all_eq_true] at h
  have := h (l.getD j 0) (by simp [List.getD, hj])
  simpa using this
theorem all_of_getD {l : List Int} {n : Nat} (h : ∀ j, j < l.length → 0 ≤ l.getD j 0 ∧ l.getD j 0 < (n : Int)) : l.all (fun x => decide (0 ≤ x ∧ x < (n : Int))) = true := by
  rw [List.all_eq_true]
  intro x hx
  obtain ⟨j, hj, rfl⟩ := List.getElem_of_mem hx
  have := h j hj
  simpa [List.getD, hj] using this
theorem all_not {l : List Int} {n : Nat} (k : Nat) (hk : k < l.length) (h : ¬ (0 ≤ l.getD k 0 ∧ l.getD k 0 < (n : Int))) : l.all (fun x => decide (0 ≤ x ∧ x < (n : Int))) = false := by
  cases e : l.all (fun x => decide (0 ≤ x ∧ x < (n : Int))) with
  | false => rfl
  | true => exact absurd (all_getD e k hk) h

theorem rowC_long {m n : Nat} {r : List Int} (h : r.length ≠ m) : rowC m n r = 2 := by unfold rowC; rw [if_neg h]
theorem rowC_bad {m n : Nat} {r : List Int} (h : r.length = m) (k : Nat) (hk : k < m) (hx : ¬ (0 ≤ r.getD k 0 ∧ r.getD k 0 < (n : Int))) : rowC m n r = 1 := by
  unfold rowC; rw [if_pos h, if_neg (by rw [all_not k (by omega) hx]; decide)]
theorem rowC_good {m n : Nat} {r : List Int} (h : r.length = m) (hx : ∀ k, k < m → 0 ≤ r.getD k 0 ∧ r.getD k 0 < (n : Int)) : rowC m n r = 0 := by
  unfold rowC; rw [if_pos h, if_pos (all_of_getD (by rw [h]; exact hx))]
theorem rowC_zero {m n : Nat} {r : List Int} (h : rowC m n r = 0) : r.length = m ∧ ∀ k, k < m → 0 ≤ r.getD k 0 ∧ r.getD k 0 < (n : Int) := by
  unfold rowC at h
  split at h
  · split at h
    · refine ⟨by assumption, fun k hk => all_getD (by assumption) k (by omega)⟩
    · cases h
  · cases h
theorem rowsC_get (m n : Nat) (N : List (List Int)) (k : Nat) (hk : k < N.length) : (N.map (rowC m n)).getD k 0 = rowC m n (N.getD k []) := by
  simp [List.getD, hk]
theorem rowsC_at {m n : Nat} {N : List (List Int)} (k : Nat) (hk : k < N.length) (h : ∀ j, j < k → rowC m n (N.getD j []) = 0) (hc : rowC m n (N.getD k []) ≠ 0) : rowsC m n N = rowC m n (N.getD k []) := by
  unfold rowsC
  rw [← rowsC_get m n N k hk] at hc ⊢
  exact firstC_pre _ k (fun j hj => by rw [rowsC_get m n N j (by omega)]; exact h j hj) (by simpa using hk) hc
theorem rowsC_all {m n : Nat} {N : List (List Int)} (h : ∀ j, j < N.length → rowC m n (N.getD j []) = 0) : rowsC m n N = 0 := by
  unfold rowsC
  exact firstC_all _ fun j hj => by rw [rowsC_get m n N j (by simpa using hj)]; exact h j (by simpa using hj)
theorem rowsC_zero {m n : Nat} {N : List (List Int)} (h : rowsC m n N = 0) (j : Nat) (hj : j < N.length) : rowC m n (N.getD j []) = 0 := by
  unfold rowsC at h
  have := firstC_get0 _ h j (by simpa using hj)
  rwa [rowsC_get m n N j hj] at this

theorem autoC_zero {b t : Int} {N : List (List Int)} {e : Nat} (h : autoC b t N e = 0) : codeM b t = 0 ∧ e = N.length ∧ GoodN (manyU b t).toNat N.length N ∧ ((manyU b t).toNat : Int) = manyU b t := by
  unfold autoC at h
  split at h
  · rename_i hM
    obtain ⟨h1, h2, h3, h4, h5, h6⟩ := codeM_zero hM
    have hk := kinds_bd2 b h2
    have hp := pw_pos (kindsI b) hk.1 t.toNat
    split at h
    · cases h
    · split at h
      · cases h
      · split at h
        · rename_i hN h80 he
          refine ⟨hM, he, ⟨rfl, by omega, by omega, by omega, by omega, fun s hs => ?_⟩, by omega⟩
          exact rowC_zero (rowsC_zero h s hs)
        · cases h
  · contradiction

theorem autoM_good {b t M : Int} {N : List (List Int)} {n : Nat} (hM : codeM b t = 0) (hG : GoodN (manyU b t).toNat n N) (h : (n : Int) ≤ M) : autoM M b t N n = 0 := by
  have hL := hG.1
  have h1 := hG.2.1
  unfold autoM
  rw [if_pos hM, if_neg (by omega), if_neg (by omega), if_pos hL.symm]
  exact rowsC_all fun j hj => rowC_good (hG.2.2.2.2.2 j (by omega)).1 (by rw [hL]; exact (hG.2.2.2.2.2 j (by omega)).2)
theorem goodN_step {m n : Nat} {N : List (List Int)} (h : GoodN m n N) (s : Nat) (hs : s < n) (x : Int) (hx : 0 ≤ x ∧ x < (m : Int)) : stepL N s x < n ∧ ((stepL N s x : Nat) : Int) = (N.getD s []).getD x.toNat 0 := by
  have := (h.2.2.2.2.2 s hs).2 x.toNat (by omega)
  unfold stepL
  omega
theorem runL_take_succ (N : List (List Int)) (w : List Int) (k : Nat) (hk : k < w.length) : runL N (w.take (k + 1)) = stepL N (runL N (w.take k)) (w.getD k 0) := by
  unfold runL
  rw [List.take_succ_eq_append_getElem hk, List.foldl_append]
  simp [List.getD, hk]
theorem runL_lt {m n : Nat} {N : List (List Int)} (h : GoodN m n N) (w : List Int) (k : Nat) (hk : k ≤ w.length) (hw : ∀ j, j < k → 0 ≤ w.getD j 0 ∧ w.getD j 0 < (m : Int)) : runL N (w.take k) < n := by
  induction k with
  | zero => simp [runL]; have := h.2.1; omega
  | succ k ih =>
    rw [runL_take_succ N w k (by omega)]
    exact (goodN_step h _ (ih (by omega) (fun j hj => hw j (by omega))) _ (hw k (by omega))).1
theorem runL_append (N : List (List Int)) (v w : List Int) : runL N (v ++ w) = w.foldl (stepL N) (runL N v) := by simp [runL, List.foldl_append]

/-- The states that are met. -/
def addL (o : List Int) (x : Int) : List Int := if x ∈ o then o else o ++ [x]
def rowAdd (o r : List Int) : List Int := r.foldl addL o
def outs (N : List (List Int)) : Nat → List Int
  | 0 => [0]
  | i + 1 => if i < (outs N i).length then rowAdd (outs N i) (N.getD ((outs N i).getD i 0).toNat []) else outs N i
def metL (N : List (List Int)) : List Int := outs N N.length

theorem addL_pre (o : List Int) (x : Int) : o <+: addL o x := by unfold addL; split; exact List.prefix_refl _; exact List.prefix_append _ _
theorem rowAdd_pre (o r : List Int) : o <+: rowAdd o r := by
  unfold rowAdd
  induction r generalizing o with
  | nil => exact List.prefix_refl _
  | cons x r ih => exact (addL_pre o x).trans (ih _)
theorem rowAdd_take_succ (o r : List Int) (k : Nat) (hk : k < r.length) : rowAdd o (r.take (k + 1)) = addL (rowAdd o (r.take k)) (r.getD k 0) := by
  unfold rowAdd
  rw [List.take_succ_eq_append_getElem hk, List.foldl_append]
  simp [List.getD, hk]
theorem rowAdd_all (o r : List Int) : rowAdd o (r.take r.length) = rowAdd o r := by rw [List.take_length]
theorem addL_mem (o : List Int) (x : Int) : x ∈ addL o x := by unfold addL; split; assumption; simp
theorem rowAdd_mem (o r : List Int) (x : Int) (hx : x ∈ r) : x ∈ rowAdd o r := by
  unfold rowAdd
  induction r generalizing o with
  | nil => simp at hx
  | cons y r ih =>
    rcases List.mem_cons.1 hx with rfl | hx
    · exact (rowAdd_pre (addL o x) r).subset (addL_mem o x)
    · exact ih _ hx

/-- Each once, all of them states. -/
def OkO (n : Nat) (o : List Int) : Prop := o.Nodup ∧ ∀ x ∈ o, 0 ≤ x ∧ x < (n : Int)
theorem okO_add {n : Nat} {o : List Int} (h : OkO n o) {x : Int} (hx : 0 ≤ x ∧ x < (n : Int)) : OkO n (addL o x) := by
  unfold addL
  split
  · exact h
  · rename_i hn
    refine ⟨?_, fun y hy => ?_⟩
    · rw [List.nodup_append]
      refine ⟨h.1, by simp, fun a ha b hb => ?_⟩
      rw [List.mem_singleton] at hb
      rintro rfl
      exact hn (hb ▸ ha)
    · rcases List.mem_append.1 hy with hy | hy
      · exact h.2 y hy
      · rw [List.mem_singleton] at hy; subst hy; exact hx
theorem okO_row {n : Nat} {o : List Int} (h : OkO n o) (r : List Int) (hr : ∀ x ∈ r, 0 ≤ x ∧ x < (n : Int)) : OkO n (rowAdd o r) := by
  unfold rowAdd
  induction r generalizing o with
  | nil => exact h
  | cons x r ih => exact ih (okO_add h (hr x (by simp))) (fun y hy => hr y (by simp [hy]))
theorem nodup_len (n : Nat) (o : List Int) (h : OkO n o) : o.length ≤ n := by
  induction n generalizing o with
  | zero =>
    cases o with
    | nil => simp
    | cons x o => have := h.2 x (by simp); omega
  | succ n ih =>
    have := ih (o.erase (n : Int)) ⟨h.1.erase _, fun x hx => by
      have h1 := (h.1.mem_erase_iff).1 hx
      have h2 := h.2 x h1.2
      have h3 := h1.1
      omega⟩
    have := length_erase_le o (n : Int)
    omega
theorem getD_at (l : List Int) (j : Nat) (hj : j < l.length) : l.getD j 0 = l[j] := by simp [List.getD, hj]
theorem goodN_row {m n : Nat} {N : List (List Int)} (h : GoodN m n N) (s : Int) (hs : 0 ≤ s ∧ s < (n : Int)) : (N.getD s.toNat []).length = m ∧ ∀ x ∈ N.getD s.toNat [], 0 ≤ x ∧ x < (n : Int) := by
  have := h.2.2.2.2.2 s.toNat (by omega)
  refine ⟨this.1, fun x hx => ?_⟩
  obtain ⟨j, hj, rfl⟩ := List.getElem_of_mem hx
  have h2 := this.2 j (by omega)
  rwa [getD_at _ j hj] at h2
theorem okO_get {n : Nat} {o : List Int} (h : OkO n o) (i : Nat) (hi : i < o.length) : 0 ≤ o.getD i 0 ∧ o.getD i 0 < (n : Int) := h.2 _ (by simp [List.getD, hi])
theorem outs_ok {m n : Nat} {N : List (List Int)} (h : GoodN m n N) (i : Nat) : OkO n (outs N i) := by
  induction i with
  | zero => exact ⟨by simp [outs], fun x hx => by simp [outs] at hx; subst hx; have := h.2.1; omega⟩
  | succ i ih =>
    unfold outs
    split
    · rename_i hi
      exact okO_row ih _ (goodN_row h _ (okO_get ih i hi)).2
    · exact ih
theorem outs_pre (N : List (List Int)) (i j : Nat) : outs N i <+: outs N (i + j) := by
  induction j with
  | zero => exact List.prefix_refl _
  | succ j ih =>
    refine ih.trans ?_
    show _ <+: outs N (i + j + 1)
    rw [outs]
    split
    · exact rowAdd_pre _ _
    · exact List.prefix_refl _
theorem outs_stay (N : List (List Int)) (i : Nat) (h : (outs N i).length ≤ i) (j : Nat) : outs N (i + j) = outs N i := by
  induction j with
  | zero => rfl
  | succ j ih =>
    show outs N (i + j + 1) = _
    rw [outs, ih, if_neg (by omega)]
theorem outs_end {m n : Nat} {N : List (List Int)} (h : GoodN m n N) (i : Nat) (hi : (outs N i).length ≤ i) (hn : i ≤ n) : outs N i = metL N := by
  unfold metL
  rw [h.1, show n = i + (n - i) by omega, outs_stay N i hi]
theorem outs_len {m n : Nat} {N : List (List Int)} (h : GoodN m n N) (i : Nat) : (outs N i).length ≤ n := nodup_len n _ (outs_ok h i)
theorem outs_succ (N : List (List Int)) (i : Nat) (hi : i < (outs N i).length) : outs N (i + 1) = rowAdd (outs N i) (N.getD ((outs N i).getD i 0).toNat []) := by
  rw [outs, if_pos hi]
theorem pre_getD {o o' : List Int} (h : o <+: o') (i : Nat) (hi : i < o.length) : o'.getD i 0 = o.getD i 0 := by
  obtain ⟨s, rfl⟩ := h
  simp [List.getD, List.getElem?_append_left hi]
theorem outs_closed (N : List (List Int)) (i : Nat) : ∀ j, j < i → j < (outs N i).length → ∀ x ∈ N.getD ((outs N i).getD j 0).toNat [], x ∈ outs N i := by
  induction i with
  | zero => intro j hj; omega
  | succ i ih =>
    intro j hj hl x hx
    by_cases hi : i < (outs N i).length
    · have hpre := outs_pre N i 1
      rw [outs_succ N i hi] at hl hx ⊢
      rw [outs_succ N i hi] at hpre
      by_cases e : j = i
      · subst e
        rw [pre_getD hpre j hi] at hx
        exact rowAdd_mem _ _ x hx
      · rw [pre_getD hpre j (by omega)] at hx
        exact hpre.subset (ih j (by omega) (by omega) x hx)
    · have := outs_stay N i (by omega) 1
      rw [this] at hl hx ⊢
      exact ih j (by omega) hl x hx
theorem met_closed {m n : Nat} {N : List (List Int)} (h : GoodN m n N) (s : Int) (hs : s ∈ metL N) (x : Int) (hx : x ∈ N.getD s.toNat []) : x ∈ metL N := by
  unfold metL at hs ⊢
  rw [h.1] at hs ⊢
  obtain ⟨j, hj, rfl⟩ := List.getElem_of_mem hs
  have hl := outs_len h n
  refine outs_closed N n j (by omega) hj x ?_
  rwa [getD_at _ j hj]
theorem met_zero {m n : Nat} {N : List (List Int)} (h : GoodN m n N) : (0 : Int) ∈ metL N := by
  have := outs_pre N 0 n
  rw [Nat.zero_add] at this
  unfold metL
  rw [h.1]
  exact this.subset (by simp [outs])
theorem addL_yes {o : List Int} {x : Int} (h : x ∈ o) : addL o x = o := by unfold addL; rw [if_pos h]
theorem addL_no {o : List Int} {x : Int} (h : ¬ x ∈ o) : addL o x = o ++ [x] := by unfold addL; rw [if_neg h]
theorem met_len {m n : Nat} {N : List (List Int)} (h : GoodN m n N) : (metL N).length ≤ n := by unfold metL; exact outs_len h _
theorem met_ok {m n : Nat} {N : List (List Int)} (h : GoodN m n N) : OkO n (metL N) := by unfold metL; exact outs_ok h _
end Go.Proofs.Ytebbjmcjgjecmaa

/- Classes of states, and the least automaton: mathematics (Moore's rounds; Myhill and Nerode). -/
namespace Go.Proofs.Ytebbjmcjgjecmaa
open Go.RowKit

/-- An equivalence. -/
structure EqvB (R : Nat → Nat → Bool) : Prop where
  refl : ∀ s, R s s = true
  symm : ∀ s t, R s t = true → R t s = true
  trans : ∀ s t u, R s t = true → R t u = true → R s u = true

/-- Of each class the first that comes; the class of one, by number. -/
def repAdd (R : Nat → Nat → Bool) (acc : List Int) (s : Int) : List Int := if acc.any (fun r => R s.toNat r.toNat) = true then acc else acc ++ [s]
def repsL (R : Nat → Nat → Bool) (mt : List Int) : List Int := mt.foldl (repAdd R) []
def clsL (R : Nat → Nat → Bool) (reps : List Int) (s : Int) : Nat := reps.findIdx fun r => R s.toNat r.toNat

theorem repsL_snoc (R : Nat → Nat → Bool) (mt : List Int) (s : Int) : repsL R (mt ++ [s]) = repAdd R (repsL R mt) s := by simp [repsL, List.foldl_append]
theorem repAdd_pre (R : Nat → Nat → Bool) (acc : List Int) (s : Int) : acc <+: repAdd R acc s := by unfold repAdd; split; exact List.prefix_refl _; exact List.prefix_append _ _
theorem repsL_pre (R : Nat → Nat → Bool) (a b : List Int) : repsL R a <+: repsL R (a ++ b) := by
  unfold repsL
  rw [List.foldl_append]
  generalize a.foldl (repAdd R) [] = acc
  induction b generalizing acc with
  | nil => exact List.prefix_refl _
  | cons x b ih => exact (repAdd_pre R acc x).trans (ih _)

/-- induction from behind -/
theorem list_snoc_ind {p : List Int → Prop} (h0 : p []) (h1 : ∀ l x, p l → p (l ++ [x])) (l : List Int) : p l := by
  have : ∀ n (l : List Int), l.length = n → p l := by
    intro n
    induction n with
    | zero => intro l hl; rw [List.eq_nil_of_length_eq_zero hl]; exact h0
    | succ n ih =>
      intro l hl
      have hne : l ≠ [] := by intro e; subst e; simp at hl
      rw [← List.dropLast_concat_getLast hne]
      exact h1 _ _ (ih _ (by simp [hl]))
  exact this _ l rfl

theorem reps_mem (R : Nat → Nat → Bool) (mt : List Int) : ∀ r ∈ repsL R mt, r ∈ mt := by
  induction mt using list_snoc_ind with
  | h0 => intro r hr; simp [repsL] at hr
  | h1 l x ih =>
    intro r hr
    rw [repsL_snoc] at hr
    unfold repAdd at hr
    split at hr
    · exact List.mem_append.2 (.inl (ih r hr))
    · rcases List.mem_append.1 hr with h | h
      · exact List.mem_append.2 (.inl (ih r h))
      · exact List.mem_append.2 (.inr h)
theorem reps_all {R : Nat → Nat → Bool} (hR : EqvB R) (mt : List Int) : ∀ s ∈ mt, ∃ r ∈ repsL R mt, R s.toNat r.toNat = true := by
  induction mt using list_snoc_ind with
  | h0 => intro s hs; simp at hs
  | h1 l x ih =>
    intro s hs
    rw [repsL_snoc]
    rcases List.mem_append.1 hs with h | h
    · obtain ⟨r, h1, h2⟩ := ih s h
      exact ⟨r, (repAdd_pre R _ x).subset h1, h2⟩
    · rw [List.mem_singleton] at h
      subst h
      unfold repAdd
      split
      · rename_i h
        rw [List.any_eq_true] at h
        exact h
      · exact ⟨s, by simp, hR.refl _⟩
/-- No two of them are alike. -/
theorem reps_apart (R : Nat → Nat → Bool) (hR : EqvB R) (mt : List Int) : (repsL R mt).Pairwise fun a b => R a.toNat b.toNat = false := by
  induction mt using list_snoc_ind with
  | h0 => simp [repsL]
  | h1 l x ih =>
    rw [repsL_snoc]
    unfold repAdd
    split
    · exact ih
    · rename_i h
      rw [List.pairwise_append]
      refine ⟨ih, by simp, fun a ha b hb => ?_⟩
      rw [List.mem_singleton] at hb
      subst hb
      cases e : R a.toNat b.toNat with
      | false => rfl
      | true => exact absurd (List.any_eq_true.2 ⟨a, ha, hR.symm _ _ e⟩) h
theorem reps_get_apart {R : Nat → Nat → Bool} (hR : EqvB R) {mt : List Int} {i j : Nat} (hi : i < (repsL R mt).length) (hj : j < (repsL R mt).length) (h : R ((repsL R mt).getD i 0).toNat ((repsL R mt).getD j 0).toNat = true) : i = j := by
  have hp := reps_apart R hR mt
  rw [List.pairwise_iff_getElem] at hp
  rw [getD_at _ i hi, getD_at _ j hj] at h
  rcases Nat.lt_trichotomy i j with h1 | h1 | h1
  · have := hp i j hi hj h1; rw [this] at h; cases h
  · exact h1
  · have := hp j i hj hi h1; rw [hR.symm _ _ h] at this; cases this
theorem cls_lt {R : Nat → Nat → Bool} {reps : List Int} {s : Int} (h : ∃ r ∈ reps, R s.toNat r.toNat = true) : clsL R reps s < reps.length := by
  unfold clsL
  exact List.findIdx_lt_length_of_exists h
theorem cls_R {R : Nat → Nat → Bool} {reps : List Int} {s : Int} (h : clsL R reps s < reps.length) : R s.toNat (reps.getD (clsL R reps s) 0).toNat = true := by
  rw [getD_at _ _ h]
  unfold clsL at h ⊢
  exact List.findIdx_getElem (p := fun r : Int => R s.toNat r.toNat) (w := h)
theorem cls_of {R : Nat → Nat → Bool} (hR : EqvB R) {mt : List Int} {s : Int} (hs : s ∈ mt) : clsL R (repsL R mt) s < (repsL R mt).length := cls_lt (reps_all hR mt s hs)
theorem cls_eq {R : Nat → Nat → Bool} (hR : EqvB R) {mt : List Int} {s : Int} {k : Nat} (hk : k < (repsL R mt).length) (h : R s.toNat ((repsL R mt).getD k 0).toNat = true) : clsL R (repsL R mt) s = k := by
  have hl : clsL R (repsL R mt) s < (repsL R mt).length := cls_lt ⟨_, by rw [getD_at _ k hk]; exact List.getElem_mem hk, h⟩
  exact reps_get_apart hR hl hk (hR.trans _ _ _ (hR.symm _ _ (cls_R hl)) h)
theorem cls_rep {R : Nat → Nat → Bool} (hR : EqvB R) {mt : List Int} {k : Nat} (hk : k < (repsL R mt).length) : clsL R (repsL R mt) ((repsL R mt).getD k 0) = k := cls_eq hR hk (hR.refl _)
theorem cls_iff {R : Nat → Nat → Bool} (hR : EqvB R) {mt : List Int} {s t : Int} (hs : s ∈ mt) (ht : t ∈ mt) : clsL R (repsL R mt) s = clsL R (repsL R mt) t ↔ R s.toNat t.toNat = true := by
  have h1 := cls_of hR hs
  have h2 := cls_of hR ht
  constructor
  · intro h
    refine hR.trans _ _ _ (cls_R h1) ?_
    rw [h]
    exact hR.symm _ _ (cls_R h2)
  · intro h
    exact cls_eq hR h2 (hR.trans _ _ _ h (cls_R h2))

/-- What agrees on the list has the same classes. -/
theorem reps_congr {R R' : Nat → Nat → Bool} (mt : List Int) (h : ∀ s ∈ mt, ∀ t ∈ mt, R s.toNat t.toNat = R' s.toNat t.toNat) : repsL R mt = repsL R' mt := by
  have : ∀ l : List Int, (∀ s ∈ l, s ∈ mt) → repsL R l = repsL R' l := by
    intro l
    induction l using list_snoc_ind with
    | h0 => intro _; rfl
    | h1 l x ih =>
      intro hl
      rw [repsL_snoc, repsL_snoc, ← ih (fun s hs => hl s (List.mem_append.2 (.inl hs)))]
      unfold repAdd
      have hx := hl x (by simp)
      have e : (repsL R l).any (fun r => R x.toNat r.toNat) = (repsL R l).any (fun r => R' x.toNat r.toNat) := by
        rw [Bool.eq_iff_iff, List.any_eq_true, List.any_eq_true]
        constructor
        · rintro ⟨r, h1, h2⟩; exact ⟨r, h1, by rw [← h x hx r (hl r (List.mem_append.2 (.inl (reps_mem R l r h1))))]; exact h2⟩
        · rintro ⟨r, h1, h2⟩; exact ⟨r, h1, by rw [h x hx r (hl r (List.mem_append.2 (.inl (reps_mem R l r h1))))]; exact h2⟩
      rw [e]
  exact this mt (fun _ h => h)
theorem cls_congr {R R' : Nat → Nat → Bool} {mt reps : List Int} (h : ∀ s ∈ mt, ∀ t ∈ mt, R s.toNat t.toNat = R' s.toNat t.toNat) (hr : ∀ r ∈ reps, r ∈ mt) {s : Int} (hs : s ∈ mt) : clsL R reps s = clsL R' reps s := by
  unfold clsL
  induction reps with
  | nil => rfl
  | cons r reps ih =>
    rw [List.findIdx_cons, List.findIdx_cons, h s hs r (hr r (by simp)), ih (fun x hx => hr x (by simp [hx]))]

/-- A finer one has no fewer classes; as many: it is the same. -/
theorem reps_sub {R R' : Nat → Nat → Bool} (hR : EqvB R) (hf : ∀ s t, R' s t = true → R s t = true) (mt : List Int) : (repsL R mt).Sublist (repsL R' mt) ∧ ∀ s ∈ mt, (∃ r ∈ repsL R' mt, R s.toNat r.toNat = true) → ∃ r ∈ repsL R mt, R s.toNat r.toNat = true := by
  induction mt using list_snoc_ind with
  | h0 => simp [repsL]
  | h1 l x ih =>
    refine ⟨?_, fun s hs _ => reps_all hR _ s hs⟩
    rw [repsL_snoc, repsL_snoc]
    unfold repAdd
    by_cases h1 : (repsL R l).any (fun r => R x.toNat r.toNat) = true
    · rw [if_pos h1]
      split
      · exact ih.1
      · exact ih.1.trans (List.sublist_append_left _ _)
    · rw [if_neg h1]
      have h2 : ¬ (repsL R' l).any (fun r => R' x.toNat r.toNat) = true := by
        intro h
        rw [List.any_eq_true] at h
        obtain ⟨r, hr, hx⟩ := h
        obtain ⟨q, hq, hx'⟩ := reps_all hR l r (reps_mem R' l r hr)
        exact h1 (List.any_eq_true.2 ⟨q, hq, hR.trans _ _ _ (hf _ _ hx) hx'⟩)
      rw [if_neg h2]
      exact List.Sublist.append ih.1 (List.Sublist.refl _)
theorem reps_le {R R' : Nat → Nat → Bool} (hR : EqvB R) (hf : ∀ s t, R' s t = true → R s t = true) (mt : List Int) : (repsL R mt).length ≤ (repsL R' mt).length := (reps_sub hR hf mt).1.length_le
theorem reps_same {R R' : Nat → Nat → Bool} (hR : EqvB R) (hR' : EqvB R') (hf : ∀ s t, R' s t = true → R s t = true) (mt : List Int) (hl : (repsL R mt).length = (repsL R' mt).length) : ∀ s ∈ mt, ∀ t ∈ mt, R s.toNat t.toNat = R' s.toNat t.toNat := by
  intro s hs t ht
  have he := (reps_sub hR hf mt).1.eq_of_length hl
  rw [Bool.eq_iff_iff]
  refine ⟨fun h => ?_, hf _ _⟩
  have h1 := cls_of hR' hs
  have h2 := cls_of hR' ht
  have r1 := cls_R h1
  have r2 := cls_R h2
  have e : clsL R' (repsL R' mt) s = clsL R' (repsL R' mt) t := by
    refine reps_get_apart hR (mt := mt) (by rw [he]; exact h1) (by rw [he]; exact h2) ?_
    rw [he]
    exact hR.trans _ _ _ (hR.symm _ _ (hf _ _ r1)) (hR.trans _ _ _ h (hf _ _ r2))
  rw [e] at r1
  exact hR'.trans _ _ _ r1 (hR'.symm _ _ r2)
/-- Alike for words of fewer than k letters. -/
def nxt (N : List (List Int)) (s j : Nat) : Nat := ((N.getD s []).getD j 0).toNat
def simB (N : List (List Int)) (E : List Bool) (m : Nat) : Nat → Nat → Nat → Bool
  | 0, _, _ => true
  | k + 1, s, t => (E.getD s false == E.getD t false) && (simB N E m k s t && (List.range m).all fun j => simB N E m k (nxt N s j) (nxt N t j))

theorem simB_succ {N : List (List Int)} {E : List Bool} {m k s t : Nat} : simB N E m (k + 1) s t = true ↔ E.getD s false = E.getD t false ∧ simB N E m k s t = true ∧ ∀ j, j < m → simB N E m k (nxt N s j) (nxt N t j) = true := by
  simp only [simB, Bool.and_eq_true, beq_iff_eq, List.all_eq_true, List.mem_range]
theorem simB_eqv (N : List (List Int)) (E : List Bool) (m k : Nat) : EqvB (simB N E m k) := by
  induction k with
  | zero => exact ⟨fun _ => rfl, fun _ _ _ => rfl, fun _ _ _ _ _ => rfl⟩
  | succ k ih =>
    refine ⟨fun s => ?_, fun s t h => ?_, fun s t u h h' => ?_⟩
    · rw [simB_succ]; exact ⟨rfl, ih.refl _, fun _ _ => ih.refl _⟩
    · rw [simB_succ] at h ⊢; exact ⟨h.1.symm, ih.symm _ _ h.2.1, fun j hj => ih.symm _ _ (h.2.2 j hj)⟩
    · rw [simB_succ] at h h' ⊢; exact ⟨h.1.trans h'.1, ih.trans _ _ _ h.2.1 h'.2.1, fun j hj => ih.trans _ _ _ (h.2.2 j hj) (h'.2.2 j hj)⟩
theorem simB_fine {N : List (List Int)} {E : List Bool} {m k s t : Nat} (h : simB N E m (k + 1) s t = true) : simB N E m k s t = true := (simB_succ.1 h).2.1

/-- Words, from a state on; states at which the same words are taken. -/
def runF (N : List (List Int)) (s : Nat) (w : List Int) : Nat := w.foldl (stepL N) s
def okW (m : Nat) (w : List Int) : Prop := ∀ x ∈ w, 0 ≤ x ∧ x < (m : Int)
def langE (N : List (List Int)) (E : List Bool) (m s t : Nat) : Prop := ∀ w, okW m w → E.getD (runF N s w) false = E.getD (runF N t w) false
theorem step_nxt (N : List (List Int)) (s : Nat) (x : Int) : stepL N s x = nxt N s x.toNat := rfl
theorem langE_step {N : List (List Int)} {E : List Bool} {m s t : Nat} (h : langE N E m s t) (j : Nat) (hj : j < m) : langE N E m (nxt N s j) (nxt N t j) := by
  intro w hw
  have := h ((j : Int) :: w) (fun x hx => by
    rcases List.mem_cons.1 hx with rfl | hx
    · omega
    · exact hw x hx)
  simpa [runF, step_nxt] using this
theorem lang_sim {N : List (List Int)} {E : List Bool} {m : Nat} (k : Nat) {s t : Nat} (h : langE N E m s t) : simB N E m k s t = true := by
  induction k generalizing s t with
  | zero => rfl
  | succ k ih =>
    rw [simB_succ]
    exact ⟨by simpa [runF] using h [] (by simp [okW]), ih h, fun j hj => ih (langE_step h j hj)⟩
/-- What no longer parts is the words' own. -/
theorem sim_lang {N : List (List Int)} {E : List Bool} {m : Nat} {R : Nat → Nat → Bool} {M : Nat → Prop} (hM : ∀ s j, M s → j < m → M (nxt N s j)) (hE : ∀ s t, M s → M t → R s t = true → E.getD s false = E.getD t false) (hS : ∀ s t, M s → M t → R s t = true → ∀ j, j < m → R (nxt N s j) (nxt N t j) = true) {s t : Nat} (hs : M s) (ht : M t) (h : R s t = true) : langE N E m s t := by
  intro w
  induction w generalizing s t with
  | nil => intro _; simpa [runF] using hE s t hs ht h
  | cons x w ih =>
    intro hw
    have hx := hw x (by simp)
    have hj : x.toNat < m := by omega
    have := ih (hM s _ hs hj) (hM t _ ht hj) (hS s t hs ht h _ hj) (fun y hy => hw y (by simp [hy]))
    simpa [runF, step_nxt] using this

theorem sim_lang_of {N : List (List Int)} {E : List Bool} {m : Nat} {M : Nat → Prop} (hM : ∀ s j, M s → j < m → M (nxt N s j)) {k : Nat} (hk : ∀ s t, M s → M t → simB N E m k s t = true → simB N E m (k + 1) s t = true) {s t : Nat} (hs : M s) (ht : M t) (h : simB N E m k s t = true) : langE N E m s t :=
  sim_lang (R := simB N E m k) hM (fun s t hs ht h => (simB_succ.1 (hk s t hs ht h)).1) (fun s t hs ht h => (simB_succ.1 (hk s t hs ht h)).2.2) hs ht h

/-- Of n states: words of fewer than n letters tell. -/
def natsL (n : Nat) : List Int := (List.range n).map fun i : Nat => (i : Int)
theorem natsL_mem {n : Nat} {x : Int} : x ∈ natsL n ↔ 0 ≤ x ∧ x < (n : Int) := by
  unfold natsL
  rw [List.mem_map]
  constructor
  · rintro ⟨i, hi, rfl⟩; rw [List.mem_range] at hi; omega
  · intro h; exact ⟨x.toNat, List.mem_range.2 (by omega), by omega⟩
theorem reps_count (R : Nat → Nat → Bool) (mt : List Int) : (repsL R mt).length ≤ mt.length := by
  induction mt using list_snoc_ind with
  | h0 => simp [repsL]
  | h1 l x ih =>
    rw [repsL_snoc]
    unfold repAdd
    split
    · simp; omega
    · simp; exact ih
theorem sim_stops (N : List (List Int)) (E : List Bool) (m n : Nat) (mt : List Int) (hn : mt.length ≤ n) (h0 : mt ≠ []) : ∃ k, k < n ∧ (repsL (simB N E m k) mt).length = (repsL (simB N E m (k + 1)) mt).length := by
  apply Classical.byContradiction
  intro h
  have key : ∀ k, k ≤ n → k + 1 ≤ (repsL (simB N E m k) mt).length := by
    intro k
    induction k with
    | zero =>
      intro _
      cases mt with
      | nil => exact absurd rfl h0
      | cons x l =>
        have := repsL_pre (simB N E m 0) [x] l
        have h1 := this.length_le
        simp [repsL, repAdd] at h1 ⊢
        exact h1
    | succ k ih =>
      intro hk
      have h1 := ih (by omega)
      have h2 := reps_le (R' := simB N E m (k + 1)) (simB_eqv N E m k) (fun s t => simB_fine (N := N) (E := E) (m := m)) mt
      have h3 : (repsL (simB N E m k) mt).length ≠ (repsL (simB N E m (k + 1)) mt).length := fun e => h ⟨k, by omega, e⟩
      omega
  have h1 := key n (Nat.le_refl _)
  have h2 := reps_count (simB N E m n) mt
  omega
theorem sim_all {m n : Nat} {N : List (List Int)} (hG : GoodN m n N) (E : List Bool) {s t : Nat} (hs : s < n) (ht : t < n) : simB N E m n s t = true ↔ langE N E m s t := by
  refine ⟨fun h => ?_, lang_sim n⟩
  have hM : ∀ s j, s < n → j < m → nxt N s j < n := fun s j hs hj => by
    have := (hG.2.2.2.2.2 s hs).2 j hj
    unfold nxt; omega
  obtain ⟨k, hk, hl⟩ := sim_stops N E m n (natsL n) (by simp [natsL]) (by have := hG.2.1; intro e; have := congrArg List.length e; simp [natsL] at this; omega)
  have hsame := reps_same (simB_eqv N E m k) (simB_eqv N E m (k + 1)) (fun s t => simB_fine) (natsL n) hl
  have hstep : ∀ s t, s < n → t < n → simB N E m k s t = true → simB N E m (k + 1) s t = true := fun s t hs ht h => by
    have := hsame (s : Int) (natsL_mem.2 (by omega)) (t : Int) (natsL_mem.2 (by omega))
    rw [Int.toNat_natCast, Int.toNat_natCast] at this
    rw [← this]; exact h
  have hk' : simB N E m k s t = true := by
    have : ∀ i, simB N E m (k + i) s t = true → simB N E m k s t = true := by
      intro i
      induction i with
      | zero => exact id
      | succ i ih => exact fun h => ih (simB_fine h)
    exact this (n - k) (by rw [show k + (n - k) = n by omega]; exact h)
  exact sim_lang_of (M := fun s => s < n) hM hstep hs ht hk'
/-- The automaton of the classes. -/
def quoN (R : Nat → Nat → Bool) (mt : List Int) (N : List (List Int)) : List (List Int) := (repsL R mt).map fun r => (N.getD r.toNat []).map fun x => ((clsL R (repsL R mt) x : Nat) : Int)
def quoE (R : Nat → Nat → Bool) (mt : List Int) (E : List Bool) : List Bool := (repsL R mt).map fun r => E.getD r.toNat false

/-- Classes that part by no letter, and by no end, among the states that are met. -/
structure Stab (N : List (List Int)) (E : List Bool) (m : Nat) (R : Nat → Nat → Bool) : Prop where
  eqv : EqvB R
  ends : ∀ s ∈ metL N, ∀ t ∈ metL N, R s.toNat t.toNat = true → E.getD s.toNat false = E.getD t.toNat false
  step : ∀ s ∈ metL N, ∀ t ∈ metL N, R s.toNat t.toNat = true → ∀ j, j < m → R (nxt N s.toNat j) (nxt N t.toNat j) = true

theorem met_nxt {m n : Nat} {N : List (List Int)} (hG : GoodN m n N) {s : Int} (hs : s ∈ metL N) (j : Nat) (hj : j < m) : ((nxt N s.toNat j : Nat) : Int) ∈ metL N ∧ ((nxt N s.toNat j : Nat) : Int) = (N.getD s.toNat []).getD j 0 := by
  have h := (met_ok hG).2 s hs
  have h1 := hG.2.2.2.2.2 s.toNat (by omega)
  have h2 := h1.2 j hj
  have e : ((nxt N s.toNat j : Nat) : Int) = (N.getD s.toNat []).getD j 0 := by unfold nxt; omega
  refine ⟨?_, e⟩
  rw [e]
  refine met_closed hG s hs _ ?_
  rw [getD_at _ j (by omega)]
  exact List.getElem_mem _
theorem met_get {m n : Nat} {N : List (List Int)} (hG : GoodN m n N) : (metL N).getD 0 0 = 0 ∧ 0 < (metL N).length := by
  have h := outs_pre N 0 n
  rw [Nat.zero_add] at h
  have e : outs N n = metL N := by unfold metL; rw [hG.1]
  rw [e] at h
  have h1 := h.length_le
  have h2 := pre_getD h 0 (by simp [outs])
  simp [outs] at h1 h2
  exact ⟨by simpa using h2, h1⟩

section
variable {m n : Nat} {N : List (List Int)} {E : List Bool} {R : Nat → Nat → Bool}

theorem quoN_length : (quoN R (metL N) N).length = (repsL R (metL N)).length := by simp [quoN]
theorem quoE_length : (quoE R (metL N) E).length = (repsL R (metL N)).length := by simp [quoE]
theorem quoN_get {k : Nat} (hk : k < (repsL R (metL N)).length) : (quoN R (metL N) N).getD k [] = (N.getD ((repsL R (metL N)).getD k 0).toNat []).map fun x => ((clsL R (repsL R (metL N)) x : Nat) : Int) := by
  simp [quoN, List.getD, hk]
theorem quoE_get {k : Nat} (hk : k < (repsL R (metL N)).length) : (quoE R (metL N) E).getD k false = E.getD ((repsL R (metL N)).getD k 0).toNat false := by
  simp [quoE, List.getD, hk]
theorem rep_met {k : Nat} (hk : k < (repsL R (metL N)).length) : (repsL R (metL N)).getD k 0 ∈ metL N := reps_mem R _ _ (by rw [getD_at _ k hk]; exact List.getElem_mem hk)
theorem reps_zero (hG : GoodN m n N) : 0 < (repsL R (metL N)).length ∧ (repsL R (metL N)).getD 0 0 = 0 := by
  obtain ⟨h1, h2⟩ := met_get hG
  cases hm : metL N with
  | nil => rw [hm] at h2; simp at h2
  | cons x l =>
    rw [hm] at h1
    have hx : x = 0 := by simpa using h1
    have hp := repsL_pre R [x] l
    have e : repsL R [x] = [x] := by simp [repsL, repAdd]
    rw [e] at hp
    have h3 := hp.length_le
    have h4 := pre_getD hp 0 (by simp)
    have e2 : [x] ++ l = x :: l := rfl
    rw [e2] at h3 h4
    refine ⟨by simp at h3; omega, ?_⟩
    rw [h4, hx]; rfl

/-- One letter more, class by class. -/
theorem quo_nxt (hG : GoodN m n N) (hR : Stab N E m R) {s : Int} (hs : s ∈ metL N) (j : Nat) (hj : j < m) : nxt (quoN R (metL N) N) (clsL R (repsL R (metL N)) s) j = clsL R (repsL R (metL N)) (nxt N s.toNat j : Nat) := by
  have hk := cls_of hR.eqv hs
  have hr := rep_met hk
  have hrR := cls_R hk
  have h1 := met_nxt hG hr j hj
  have h2 := met_nxt hG hs j hj
  have hrn := (met_ok hG).2 _ hr
  have hlen := (hG.2.2.2.2.2 _ (show ((repsL R (metL N)).getD (clsL R (repsL R (metL N)) s) 0).toNat < n by omega)).1
  unfold nxt at h1 h2 ⊢
  rw [quoN_get hk]
  have e : ((N.getD ((repsL R (metL N)).getD (clsL R (repsL R (metL N)) s) 0).toNat []).map fun x => ((clsL R (repsL R (metL N)) x : Nat) : Int)).getD j 0 = ((clsL R (repsL R (metL N)) ((N.getD ((repsL R (metL N)).getD (clsL R (repsL R (metL N)) s) 0).toNat []).getD j 0) : Nat) : Int) := by
    rw [getD_at _ j (by rw [List.length_map]; omega), List.getElem_map, getD_at _ j (by omega)]
  rw [e, Int.toNat_natCast, ← h1.2]
  refine (cls_iff hR.eqv h1.1 h2.1).2 ?_
  rw [Int.toNat_natCast, Int.toNat_natCast]
  exact hR.step _ hr _ hs (hR.eqv.symm _ _ hrR) j hj
theorem quo_good (hG : GoodN m n N) (hR : Stab N E m R) : GoodN m (repsL R (metL N)).length (quoN R (metL N) N) := by
  refine ⟨quoN_length, (reps_zero hG).1, ?_, hG.2.2.2.1, hG.2.2.2.2.1, fun s hs => ?_⟩
  · have h1 := reps_count R (metL N)
    have h2 := met_len hG
    have h3 := hG.2.2.1
    omega
  · have hr := rep_met hs
    have hrn := (met_ok hG).2 _ hr
    have hlen := hG.2.2.2.2.2 _ (show ((repsL R (metL N)).getD s 0).toNat < n by omega)
    rw [quoN_get hs]
    refine ⟨by rw [List.length_map]; exact hlen.1, fun j hj => ?_⟩
    have h1 := met_nxt hG hr j hj
    rw [getD_at _ j (by rw [List.length_map]; omega), List.getElem_map]
    rw [getD_at _ j (by omega)] at h1
    have := cls_of hR.eqv h1.1
    rw [h1.2] at this
    omega
theorem run_mem (hG : GoodN m n N) {s : Int} (hs : s ∈ metL N) (w : List Int) (hw : okW m w) : ((runF N s.toNat w : Nat) : Int) ∈ metL N := by
  induction w generalizing s with
  | nil =>
    have := (met_ok hG).2 s hs
    rw [show ((runF N s.toNat [] : Nat) : Int) = s by simp [runF]; omega]
    exact hs
  | cons x w ih =>
    have hx := hw x (by simp)
    have h1 := met_nxt hG hs x.toNat (by omega)
    have := ih h1.1 (fun y hy => hw y (by simp [hy]))
    rw [Int.toNat_natCast] at this
    simpa [runF, step_nxt] using this
theorem quo_run (hG : GoodN m n N) (hR : Stab N E m R) {s : Int} (hs : s ∈ metL N) (w : List Int) (hw : okW m w) : runF (quoN R (metL N) N) (clsL R (repsL R (metL N)) s) w = clsL R (repsL R (metL N)) (runF N s.toNat w : Nat) := by
  induction w generalizing s with
  | nil =>
    have := (met_ok hG).2 s hs
    rw [show ((runF N s.toNat [] : Nat) : Int) = s by simp [runF]; omega]
    rfl
  | cons x w ih =>
    have hx := hw x (by simp)
    have h1 := met_nxt hG hs x.toNat (by omega)
    have h2 := quo_nxt hG hR hs x.toNat (by omega)
    have := ih h1.1 (fun y hy => hw y (by simp [hy]))
    rw [Int.toNat_natCast] at this
    simp only [runF, List.foldl_cons, step_nxt] at this ⊢
    rw [h2]
    exact this
theorem quo_end (hR : Stab N E m R) {s : Int} (hs : s ∈ metL N) : (quoE R (metL N) E).getD (clsL R (repsL R (metL N)) s) false = E.getD s.toNat false := by
  have hk := cls_of hR.eqv hs
  rw [quoE_get hk]
  exact hR.ends _ (rep_met hk) _ hs (hR.eqv.symm _ _ (cls_R hk))
theorem cls_zero (hG : GoodN m n N) (hR : Stab N E m R) : clsL R (repsL R (metL N)) 0 = 0 := by
  obtain ⟨h1, h2⟩ := reps_zero (R := R) hG
  have := cls_rep hR.eqv h1
  rwa [h2] at this
theorem quo_takes (hG : GoodN m n N) (hR : Stab N E m R) (w : List Int) (hw : okW m w) : (quoE R (metL N) E).getD (runL (quoN R (metL N) N) w) false = E.getD (runL N w) false := by
  have h0 := met_zero hG
  have h1 := quo_run hG hR h0 w hw
  rw [cls_zero hG hR] at h1
  have h2 := run_mem hG h0 w hw
  have h3 := quo_end hR h2
  rw [← h1, Int.toNat_natCast] at h3
  exact h3

/-- The classes come up in their order. -/
theorem natsL_succ (b : Nat) : natsL (b + 1) = natsL b ++ [(b : Int)] := by simp [natsL, List.range_succ]
theorem natsL_len (b : Nat) : (natsL b).length = b := by simp [natsL]
theorem natsL_get {b k : Nat} (hk : k < b) : (natsL b).getD k 0 = (k : Int) := by simp [natsL, List.getD, hk]
theorem reps_prefix {o mt : List Int} (h : o <+: mt) : repsL R o <+: repsL R mt := by
  obtain ⟨s, rfl⟩ := h
  exact repsL_pre R o s
theorem cls_prefix {o mt : List Int} (hR : EqvB R) (h : o <+: mt) {x : Int} (hx : ∃ r ∈ repsL R o, R x.toNat r.toNat = true) : clsL R (repsL R mt) x < (repsL R o).length := by
  have hl := cls_lt hx
  have hp := reps_prefix (R := R) h
  have := cls_eq (mt := mt) hR (Nat.lt_of_lt_of_le hl hp.length_le) (s := x) (by rw [pre_getD hp _ hl]; exact cls_R hl)
  rw [this]; exact hl
theorem nats_add (hR : EqvB R) {o mt : List Int} {x : Int} (h : addL o x <+: mt) : natsL (repsL R (addL o x)).length = addL (natsL (repsL R o).length) (clsL R (repsL R mt) x : Nat) := by
  have hpo : o <+: mt := (addL_pre o x).trans h
  by_cases hx : ∃ r ∈ repsL R o, R x.toNat r.toNat = true
  · have hc := cls_prefix hR hpo hx
    have e1 : (repsL R (addL o x)) = repsL R o := by
      unfold addL
      split
      · rfl
      · rw [repsL_snoc]; unfold repAdd; rw [if_pos (List.any_eq_true.2 hx)]
    rw [e1, addL_yes (natsL_mem.2 (by omega))]
  · have hno : ¬ x ∈ o := fun hm => hx (reps_all hR o x hm)
    rw [addL_no hno] at h ⊢
    have e1 : repsL R (o ++ [x]) = repsL R o ++ [x] := by
      rw [repsL_snoc]; unfold repAdd; rw [if_neg (fun e => hx (List.any_eq_true.1 e))]
    have hp := reps_prefix (R := R) h
    rw [e1] at hp
    have hlt : (repsL R o).length < (repsL R mt).length := by have := hp.length_le; simp at this; omega
    have hg := pre_getD hp (repsL R o).length (by simp)
    have hc := cls_rep hR hlt
    have e2 : (repsL R o ++ [x]).getD (repsL R o).length 0 = x := by simp [List.getD]
    rw [hg, e2] at hc
    rw [e1, List.length_append, List.length_singleton, hc, natsL_succ, addL_no (fun hm => by have := natsL_mem.1 hm; omega)]
theorem nats_row (hR : EqvB R) {mt : List Int} (row : List Int) {o : List Int} (h : rowAdd o row <+: mt) : natsL (repsL R (rowAdd o row)).length = rowAdd (natsL (repsL R o).length) (row.map fun x => ((clsL R (repsL R mt) x : Nat) : Int)) := by
  induction row generalizing o with
  | nil => rfl
  | cons x row ih =>
    have h1 : rowAdd o (x :: row) = rowAdd (addL o x) row := rfl
    rw [h1] at h ⊢
    rw [ih h, nats_add hR ((rowAdd_pre _ _).trans h)]
    rfl
theorem rowAdd_none {o r : List Int} (h : ∀ x ∈ r, x ∈ o) : rowAdd o r = o := by
  unfold rowAdd
  induction r with
  | nil => rfl
  | cons x r ih => rw [List.foldl_cons, addL_yes (h x (by simp))]; exact ih (fun y hy => h y (by simp [hy]))

theorem quo_outs (hG : GoodN m n N) (hR : Stab N E m R) (i : Nat) (hi : i ≤ (metL N).length) : outs (quoN R (metL N) N) (repsL R ((metL N).take i)).length = natsL (repsL R (outs N i)).length := by
  have hme : outs N n = metL N := by unfold metL; rw [hG.1]
  have hml := met_len hG
  have hpre : ∀ j, j ≤ n → outs N j <+: metL N := fun j hj => by
    have := outs_pre N j (n - j)
    rwa [show j + (n - j) = n by omega, hme] at this
  induction i with
  | zero => simp [repsL, outs, repAdd, natsL]
  | succ i ih =>
    have ih := ih (by omega)
    have hio : i < (outs N i).length := by
      apply Classical.byContradiction
      intro h
      have := outs_end hG i (by omega) (by omega)
      rw [this] at h
      omega
    have hp := hpre i (by omega)
    have hp1 := hpre (i + 1) (by omega)
    have hget := pre_getD hp i hio
    have hs : (metL N).getD i 0 ∈ metL N := by rw [getD_at _ i (by omega)]; exact List.getElem_mem _
    have htake : (metL N).take (i + 1) = (metL N).take i ++ [(metL N).getD i 0] := by rw [List.take_succ_eq_append_getElem (by omega), getD_at _ i (by omega)]
    have hrow := nats_row (R := R) hR.eqv (N.getD ((outs N i).getD i 0).toNat []) (o := outs N i) (mt := metL N) (by rw [← outs_succ N i hio]; exact hp1)
    rw [← outs_succ N i hio, ← hget] at hrow
    have htp : (metL N).take i <+: outs N i := by
      obtain ⟨q, hq⟩ := hp
      rw [← hq, List.take_append_of_le_length (by omega)]
      exact List.take_prefix _ _
    have htp1 : (metL N).take (i + 1) <+: outs N i := by
      obtain ⟨q, hq⟩ := hp
      rw [← hq, List.take_append_of_le_length (by omega)]
      exact List.take_prefix _ _
    by_cases hx : ∃ r ∈ repsL R ((metL N).take i), R ((metL N).getD i 0).toNat r.toNat = true
    · have e1 : repsL R ((metL N).take (i + 1)) = repsL R ((metL N).take i) := by
        rw [htake, repsL_snoc]; unfold repAdd; rw [if_pos (List.any_eq_true.2 hx)]
      rw [e1, ih, hrow]
      refine (rowAdd_none fun y hy => ?_).symm
      obtain ⟨r, hr, hrs⟩ := hx
      obtain ⟨x, hxm, rfl⟩ := List.mem_map.1 hy
      obtain ⟨j, hj, rfl⟩ := List.getElem_of_mem hxm
      have hrt := reps_mem R _ r hr
      obtain ⟨p, hpl, hpe⟩ := List.getElem_of_mem hrt
      have hpi : p < i := by rw [List.length_take] at hpl; omega
      have hrm : r ∈ metL N := List.mem_of_mem_take hrt
      have hsn := (met_ok hG).2 _ hs
      have hjm : j < m := by
        have := (hG.2.2.2.2.2 _ (show ((metL N).getD i 0).toNat < n by omega)).1
        omega
      have h1 := met_nxt hG hs j hjm
      have h2 := met_nxt hG hrm j hjm
      have hst := hR.step _ hs _ hrm hrs j hjm
      have ecls := (cls_iff hR.eqv h1.1 h2.1).2 (by rw [Int.toNat_natCast, Int.toNat_natCast]; exact hst)
      rw [h1.2, getD_at _ j hj] at ecls
      rw [ecls]
      refine natsL_mem.2 ⟨by omega, ?_⟩
      have hyo : ((nxt N r.toNat j : Nat) : Int) ∈ outs N i := by
        have hpo : (outs N i).getD p 0 = r := by
          rw [← hpe]
          have := pre_getD htp p hpl
          rw [this, getD_at _ p hpl]
        refine outs_closed N i p hpi (by omega) _ ?_
        rw [hpo, h2.2]
        have hrn := (met_ok hG).2 _ hrm
        rw [getD_at _ j (by have := (hG.2.2.2.2.2 r.toNat (by omega)).1; omega)]
        exact List.getElem_mem _
      have := cls_prefix hR.eqv hp (reps_all hR.eqv _ _ hyo)
      omega
    · have e1 : repsL R ((metL N).take (i + 1)) = repsL R ((metL N).take i) ++ [(metL N).getD i 0] := by
        rw [htake, repsL_snoc]; unfold repAdd; rw [if_neg (fun e => hx (List.any_eq_true.1 e))]
      have hpr := reps_prefix (R := R) htp1
      rw [e1] at hpr
      have hlt : (repsL R ((metL N).take i)).length < (repsL R (outs N i)).length := by have := hpr.length_le; simp at this; omega
      have hpm := hpr.trans (reps_prefix (R := R) hp)
      have hg := pre_getD hpm (repsL R ((metL N).take i)).length (by simp)
      have hlm : (repsL R ((metL N).take i)).length < (repsL R (metL N)).length := by have := hpm.length_le; simp at this; omega
      have e2 : (repsL R ((metL N).take i) ++ [(metL N).getD i 0]).getD (repsL R ((metL N).take i)).length 0 = (metL N).getD i 0 := by simp [List.getD]
      rw [e2] at hg
      rw [e1, List.length_append, List.length_singleton, outs_succ _ _ (by rw [ih, natsL_len]; exact hlt), ih, natsL_get hlt, Int.toNat_natCast, quoN_get hlm, hg, hrow]
theorem quo_met (hG : GoodN m n N) (hR : Stab N E m R) : metL (quoN R (metL N) N) = natsL (repsL R (metL N)).length := by
  have h := quo_outs hG hR (metL N).length (Nat.le_refl _)
  have hml := met_len hG
  have hme : outs N n = metL N := by unfold metL; rw [hG.1]
  have e : outs N (metL N).length = metL N := by
    have hp := outs_pre N (metL N).length (n - (metL N).length)
    rw [show (metL N).length + (n - (metL N).length) = n by omega, hme] at hp
    exact outs_end hG _ hp.length_le hml
  rw [List.take_of_length_le (Nat.le_refl _), e] at h
  show outs _ (quoN R (metL N) N).length = _
  rw [quoN_length, h]
end
/-- THE LEAST AUTOMATON. -/
def leastR (N : List (List Int)) (E : List Bool) (m : Nat) : Nat → Nat → Bool := simB N E m N.length
def leastN (N : List (List Int)) (E : List Bool) (m : Nat) : List (List Int) := quoN (leastR N E m) (metL N) N
def leastE (N : List (List Int)) (E : List Bool) (m : Nat) : List Bool := quoE (leastR N E m) (metL N) E
def leastK (N : List (List Int)) (E : List Bool) (m : Nat) : Nat := (repsL (leastR N E m) (metL N)).length

theorem met_lt {m n : Nat} {N : List (List Int)} (hG : GoodN m n N) {s : Int} (hs : s ∈ metL N) : s.toNat < n := by have := (met_ok hG).2 s hs; omega
theorem least_iff {m n : Nat} {N : List (List Int)} (hG : GoodN m n N) (E : List Bool) {s t : Nat} (hs : s < n) (ht : t < n) : leastR N E m s t = true ↔ langE N E m s t := by
  unfold leastR; rw [hG.1]; exact sim_all hG E hs ht
theorem least_stab {m n : Nat} {N : List (List Int)} (hG : GoodN m n N) (E : List Bool) : Stab N E m (leastR N E m) := by
  refine ⟨simB_eqv _ _ _ _, fun s hs t ht h => ?_, fun s hs t ht h j hj => ?_⟩
  · have := (least_iff hG E (met_lt hG hs) (met_lt hG ht)).1 h [] (by simp [okW])
    simpa [runF] using this
  · have h1 := langE_step ((least_iff hG E (met_lt hG hs) (met_lt hG ht)).1 h) j hj
    have h2 := met_lt hG (met_nxt hG hs j hj).1
    have h3 := met_lt hG (met_nxt hG ht j hj).1
    rw [Int.toNat_natCast] at h2 h3
    exact (least_iff hG E h2 h3).2 h1
/-- Whatever classes an algorithm comes to: where they part no more, and part only what words part, they are the least automaton's. -/
theorem stab_is {m n : Nat} {N : List (List Int)} {E : List Bool} {R : Nat → Nat → Bool} (hG : GoodN m n N) (hR : Stab N E m R) (hc : ∀ s ∈ metL N, ∀ t ∈ metL N, langE N E m s.toNat t.toNat → R s.toNat t.toNat = true) : ∀ s ∈ metL N, ∀ t ∈ metL N, R s.toNat t.toNat = leastR N E m s.toNat t.toNat := by
  intro s hs t ht
  rw [Bool.eq_iff_iff, least_iff hG E (met_lt hG hs) (met_lt hG ht)]
  refine ⟨fun h => ?_, hc s hs t ht⟩
  refine sim_lang (M := fun q => (q : Int) ∈ metL N) (R := R) (fun q j hq hj => ?_) (fun a b ha hb hab => ?_) (fun a b ha hb hab j hj => ?_) ?_ ?_ h
  · have := (met_nxt hG hq j hj).1
    rwa [Int.toNat_natCast] at this
  · have := hR.ends _ ha _ hb (by rw [Int.toNat_natCast, Int.toNat_natCast]; exact hab)
    rwa [Int.toNat_natCast, Int.toNat_natCast] at this
  · have := hR.step _ ha _ hb (by rw [Int.toNat_natCast, Int.toNat_natCast]; exact hab) j hj
    rwa [Int.toNat_natCast, Int.toNat_natCast] at this
  · have := (met_ok hG).2 s hs
    rwa [show ((s.toNat : Nat) : Int) = s by omega]
  · have := (met_ok hG).2 t ht
    rwa [show ((t.toNat : Nat) : Int) = t by omega]
theorem quo_congr {m n : Nat} {N : List (List Int)} {R R' : Nat → Nat → Bool} (hG : GoodN m n N) (h : ∀ s ∈ metL N, ∀ t ∈ metL N, R s.toNat t.toNat = R' s.toNat t.toNat) : quoN R (metL N) N = quoN R' (metL N) N ∧ ∀ E, quoE R (metL N) E = quoE R' (metL N) E := by
  have hr := reps_congr (metL N) h
  refine ⟨?_, fun E => by unfold quoE; rw [hr]⟩
  unfold quoN
  rw [hr]
  refine List.map_congr_left fun r hrm => List.map_congr_left fun x hx => ?_
  have hrm' := reps_mem R' _ r hrm
  have hxm := met_closed hG r hrm' x hx
  rw [cls_congr h (fun q hq => reps_mem R' _ q hq) hxm]
theorem least_unique {m n : Nat} {N : List (List Int)} {E : List Bool} {R : Nat → Nat → Bool} (hG : GoodN m n N) (hR : Stab N E m R) (hc : ∀ s ∈ metL N, ∀ t ∈ metL N, langE N E m s.toNat t.toNat → R s.toNat t.toNat = true) : quoN R (metL N) N = leastN N E m ∧ quoE R (metL N) E = leastE N E m := by
  have := quo_congr hG (stab_is hG hR hc)
  exact ⟨this.1, this.2 E⟩

theorem leastN_len (N : List (List Int)) (E : List Bool) (m : Nat) : (leastN N E m).length = leastK N E m := by simp [leastN, quoN, leastK]
theorem leastE_len (N : List (List Int)) (E : List Bool) (m : Nat) : (leastE N E m).length = leastK N E m := by simp [leastE, quoE, leastK]
theorem least_good {m n : Nat} {N : List (List Int)} (hG : GoodN m n N) (E : List Bool) : GoodN m (leastK N E m) (leastN N E m) := quo_good hG (least_stab hG E)
theorem least_met {m n : Nat} {N : List (List Int)} (hG : GoodN m n N) (E : List Bool) : metL (leastN N E m) = natsL (leastK N E m) := quo_met hG (least_stab hG E)
theorem least_takes {m n : Nat} {N : List (List Int)} (hG : GoodN m n N) (E : List Bool) (w : List Int) (hw : okW m w) : (leastE N E m).getD (runL (leastN N E m) w) false = E.getD (runL N w) false := quo_takes hG (least_stab hG E) w hw
/-- Any two of its states part at some word. -/
theorem least_parts {m n : Nat} {N : List (List Int)} (hG : GoodN m n N) (E : List Bool) {s t : Nat} (hs : s < leastK N E m) (ht : t < leastK N E m) (h : langE (leastN N E m) (leastE N E m) m s t) : s = t := by
  have hR := least_stab hG E
  have hrs := rep_met (N := N) (R := leastR N E m) hs
  have hrt := rep_met (N := N) (R := leastR N E m) ht
  have cs := cls_rep hR.eqv (mt := metL N) hs
  have ct := cls_rep hR.eqv (mt := metL N) ht
  have hl : langE N E m ((repsL (leastR N E m) (metL N)).getD s 0).toNat ((repsL (leastR N E m) (metL N)).getD t 0).toNat := by
    intro w hw
    have h1 := quo_run hG hR hrs w hw
    have h2 := quo_run hG hR hrt w hw
    rw [cs] at h1
    rw [ct] at h2
    have h3 := h w hw
    have e1 := quo_end hR (run_mem hG hrs w hw)
    have e2 := quo_end hR (run_mem hG hrt w hw)
    rw [Int.toNat_natCast] at e1 e2
    unfold leastN leastE at h3
    rw [h1, h2, e1, e2] at h3
    exact h3
  exact reps_get_apart hR.eqv hs ht ((least_iff hG E (met_lt hG hrs) (met_lt hG hrt)).2 hl)
end Go.Proofs.Ytebbjmcjgjecmaa

/- The states that are met, each with the word by which it is met; the first word: mathematics. -/
namespace Go.Proofs.Ytebbjmcjgjecmaa
open Go.RowKit

theorem okW_snoc {m : Nat} {w : List Int} {x : Int} : okW m (w ++ [x]) ↔ okW m w ∧ 0 ≤ x ∧ x < (m : Int) := by
  unfold okW
  constructor
  · intro h; exact ⟨fun y hy => h y (by simp [hy]), h x (by simp)⟩
  · rintro ⟨h1, h2⟩ y hy
    rcases List.mem_append.1 hy with h | h
    · exact h1 y h
    · rw [List.mem_singleton] at h; subst h; exact h2
theorem runL_snoc (N : List (List Int)) (w : List Int) (x : Int) : runL N (w ++ [x]) = stepL N (runL N w) x := by simp [runL, List.foldl_append]

end Go.Proofs.Ytebbjmcjgjecmaa

/- Plain mathematics: the places' counts as the document has them (not cut off), held against those of the program. -/
namespace Go.Proofs.Ytebbjmcjgjecmaa

/-- The digits that are written behind k places. -/
def pre (b n : Int) (k : Nat) : List Int := dropZ ((dList b n 60).take k)
end Go.Proofs.Ytebbjmcjgjecmaa
