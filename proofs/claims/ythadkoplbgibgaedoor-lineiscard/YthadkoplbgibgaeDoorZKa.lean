/- 11 texts in one. -/
import Derived.Deep.RegionHeldLaw
import Derived.Deep.RegionLaw
import Derived.Deep.RegionWith
import Derived.Laws.AppendOwnNone
import Derived.Test.YthadkoplbgibgaeDoorZNx
import Derived.Test.YthadkoplbgibgaeDoorZAt
import Derived.Test.YthadkoplbgibgaeDoorBp
import Derived.Test.YthadkoplbgibgaeDoorBt
import Derived.Test.YthadkoplbgibgaeDoorBx
import Derived.Test.YthadkoplbgibgaeDoorBy
import Derived.Test.YthadkoplbgibgaeDoorZMp
import Derived.Test.YthadkoplbgibgaeDoorZCf
import Derived.Test.YthadkoplbgibgaeDoorZCi
import Derived.Test.YthadkoplbgibgaeDoorDd
import Derived.Test.YthadkoplbgibgaeDoorZE
import Derived.Test.YthadkoplbgibgaeDoorG
import Derived.Test.YthadkoplbgibgaeDoorGd
import Derived.Test.YthadkoplbgibgaeDoorZLp
import Derived.Test.YthadkoplbgibgaeDoorZF
/- Right words: the automaton of them; mathematics. -/
namespace Go.Proofs.YthadkoplbgibgaeDoor
open Go.RowKit

/-- Letters that may not follow: a 1 below a 1, in base 1 (Fibonacci's). -/
def hitB (b : Int) (tr : Nat) (x y : Int) : Bool := (List.range tr).any fun k => decide (b = 1) && decide (dOf b tr x k = 1) && decide (dOf b tr y k = 1)
/-- Where letter l leads from state s: 0: none was read; s + 1: letter s was; m + 1: it went wrong. -/
def arT (b : Int) (tr m s l : Nat) : Nat := if s = m + 1 then m + 1 else if 0 < s ∧ hitB b tr ((s : Int) - 1) (l : Int) = true then m + 1 else l + 1
def arN (b : Int) (tr m : Nat) : List (List Int) := (List.range (m + 2)).map fun s => (List.range m).map fun l => ((arT b tr m s l : Nat) : Int)
def arE (m : Nat) : List Bool := (List.range (m + 2)).map fun s => decide (s ≤ m)
theorem arN_len (b : Int) (tr m : Nat) : (arN b tr m).length = m + 2 := by simp [arN]
theorem arE_len (m : Nat) : (arE m).length = m + 2 := by simp [arE]
theorem arN_row {b : Int} {tr m s : Nat} (hs : s < m + 2) : (arN b tr m).getD s [] = (List.range m).map fun l => ((arT b tr m s l : Nat) : Int) := by simp [arN, List.getD, hs]
theorem arN_cell {b : Int} {tr m s l : Nat} (hs : s < m + 2) (hl : l < m) : ((arN b tr m).getD s []).getD l 0 = ((arT b tr m s l : Nat) : Int) := by rw [arN_row hs]; simp [List.getD, hl]
theorem arE_get {m s : Nat} (hs : s < m + 2) : (arE m).getD s false = decide (s ≤ m) := by simp [arE, List.getD, hs]
theorem arT_lt {b : Int} {tr m s l : Nat} (hl : l < m) : arT b tr m s l < m + 2 := by unfold arT; split; omega; split <;> omega
theorem ar_good (b : Int) (tr : Nat) {m : Nat} (h1 : 1 ≤ m) (h36 : m ≤ 36) : GoodN m (m + 2) (arN b tr m) := by
  refine ⟨arN_len _ _ _, by omega, by omega, h36, h1, fun s hs => ⟨by rw [arN_row hs]; simp, fun j hj => ?_⟩⟩
  rw [arN_cell hs hj]
  have := arT_lt (b := b) (tr := tr) (s := s) hj
  omega
/-- Has it gone wrong somewhere? -/
def badL (b : Int) (tr : Nat) : List Int → Bool
  | x :: y :: r => hitB b tr x y || badL b tr (y :: r)
  | _ => false
theorem badL_snoc (b : Int) (tr : Nat) (w : List Int) (x y : Int) : badL b tr (w ++ [x] ++ [y]) = (badL b tr (w ++ [x]) || hitB b tr x y) := by
  induction w with
  | nil => simp [badL]
  | cons z w ih =>
    cases w with
    | nil => simp [badL]
    | cons z' w =>
      show (hitB b tr z z' || badL b tr (z' :: w ++ [x] ++ [y])) = _
      rw [ih]
      show _ = ((hitB b tr z z' || badL b tr (z' :: w ++ [x])) || hitB b tr x y)
      rw [Bool.or_assoc]
theorem ar_step {b : Int} {tr m s : Nat} (hs : s < m + 2) {x : Int} (hx : 0 ≤ x ∧ x < (m : Int)) : stepL (arN b tr m) s x = arT b tr m s x.toNat := by
  unfold stepL
  rw [arN_cell hs (by omega), Int.toNat_natCast]
/-- Where a word leads. -/
theorem ar_run {b : Int} {tr m : Nat} (w : List Int) : okW m w → (badL b tr w = true → runL (arN b tr m) w = m + 1) ∧ (badL b tr w = false → (w = [] ∧ runL (arN b tr m) w = 0) ∨ ∃ v x, w = v ++ [x] ∧ runL (arN b tr m) w = x.toNat + 1) := by
  induction w using list_snoc_ind with
  | h0 => exact fun _ => ⟨fun h => by simp [badL] at h, fun _ => .inl ⟨rfl, rfl⟩⟩
  | h1 w y ih =>
    intro hw
    obtain ⟨hw1, hw2⟩ := okW_append.1 hw
    have hy := hw2 y (by simp)
    obtain ⟨i1, i2⟩ := ih hw1
    rw [runL_snoc]
    by_cases hb : badL b tr w = true
    · rw [i1 hb, ar_step (by omega) hy]
      have hbad : badL b tr (w ++ [y]) = true := by
        cases w using list_snoc_ind with
        | h0 => simp [badL] at hb
        | h1 v z _ => rw [badL_snoc, hb]; rfl
      refine ⟨fun _ => by unfold arT; rw [if_pos rfl], fun h => by rw [hbad] at h; cases h⟩
    · have hb' : badL b tr w = false := by simpa using hb
      rcases i2 hb' with ⟨rfl, h0⟩ | ⟨v, x, rfl, h1⟩
      · rw [h0, ar_step (by omega) hy]
        refine ⟨fun h => by simp [badL] at h, fun _ => .inr ⟨[], y, rfl, ?_⟩⟩
        unfold arT
        rw [if_neg (by omega), if_neg (by omega)]
      · have hx := hw1 x (by simp)
        rw [h1, ar_step (by omega) hy, badL_snoc, hb', Bool.false_or]
        have e1 : ((x.toNat + 1 : Nat) : Int) - 1 = x := by omega
        have e2 : ((y.toNat : Nat) : Int) = y := by omega
        unfold arT
        rw [if_neg (by omega), e1, e2]
        by_cases hh : hitB b tr x y = true
        · rw [if_pos ⟨by omega, hh⟩]
          exact ⟨fun _ => rfl, fun h => by rw [hh] at h; cases h⟩
        · rw [if_neg (fun h => hh h.2)]
          exact ⟨fun h => absurd h hh, fun _ => .inr ⟨v ++ [x], y, rfl, rfl⟩⟩
theorem ar_tk {b : Int} {tr m : Nat} {w : List Int} (hw : okW m w) : tkB (arN b tr m) (arE m) w = !badL b tr w := by
  obtain ⟨h1, h2⟩ := ar_run (b := b) (tr := tr) w hw
  unfold tkB
  cases hb : badL b tr w with
  | true =>
    rw [h1 hb, arE_get (by omega)]
    simp
  | false =>
    rcases h2 hb with ⟨_, h0⟩ | ⟨v, x, rfl, hr⟩
    · rw [h0, arE_get (by omega)]; simp
    · have hx := hw x (by simp)
      rw [hr, arE_get (by omega)]
      simp; omega
theorem ones_snoc (w : List Int) (x y : Int) : onesB (w ++ [x] ++ [y]) = (onesB (w ++ [x]) || (x == 1 && y == 1)) := by
  induction w with
  | nil => simp [onesB]
  | cons z w ih =>
    cases w with
    | nil => simp [onesB]
    | cons z' w =>
      show ((z == 1 && z' == 1) || onesB (z' :: w ++ [x] ++ [y])) = _
      rw [ih]
      show _ = (((z == 1 && z' == 1) || onesB (z' :: w ++ [x])) || (x == 1 && y == 1))
      rw [Bool.or_assoc]
/-- A word has not gone wrong, just if it is right. -/
theorem bad_right {b t : Int} {tr : Nat} (ht : t = (tr : Int)) (w : List Int) : (!badL b tr w) = rightW b t w := by
  subst ht
  have key : badL b tr w = (List.range tr).any fun k => decide (b = 1) && onesB (trackL b tr w k) := by
    induction w using list_snoc_ind with
    | h0 => simp [badL, trackL, onesB]
    | h1 w y ih =>
      cases w using list_snoc_ind with
      | h0 => simp [badL, trackL, onesB]
      | h1 v x _ =>
        rw [badL_snoc, ih]
        have e : ∀ k, onesB (trackL b tr (v ++ [x] ++ [y]) k) = (onesB (trackL b tr (v ++ [x]) k) || (dOf b tr x k == 1 && dOf b tr y k == 1)) := fun k => by
          have := ones_snoc (trackL b tr v k) (dOf b tr x k) (dOf b tr y k)
          simpa [trackL, List.map_append] using this
        rw [Bool.eq_iff_iff, Bool.or_eq_true]
        unfold hitB
        simp only [List.any_eq_true, Bool.and_eq_true, decide_eq_true_eq, e, Bool.or_eq_true, beq_iff_eq]
        constructor
        · rintro (⟨k, h1, h2, h3⟩ | ⟨k, h1, ⟨h2, h3⟩, h4⟩)
          · exact ⟨k, h1, h2, .inl h3⟩
          · exact ⟨k, h1, h2, .inr ⟨h3, h4⟩⟩
        · rintro ⟨k, h1, h2, h3 | ⟨h3, h4⟩⟩
          · exact .inl ⟨k, h1, h2, h3⟩
          · exact .inr ⟨k, h1, ⟨h2, h3⟩, h4⟩
  rw [key]
  unfold rightW tracksL rightB
  rw [Int.toNat_natCast, Bool.eq_iff_iff]
  simp only [Bool.not_eq_true', List.all_map, List.all_eq_true, Function.comp, Bool.or_eq_true, bne_iff_ne, ne_eq]
  rw [← Bool.not_eq_true, List.any_eq_true]
  constructor
  · intro h k hk
    by_cases hb : b = 1
    · refine .inr ?_
      cases ho : onesB (trackL b tr w k) with
      | false => rfl
      | true => exact absurd ⟨k, hk, by simp [hb] at ho ⊢; exact ho⟩ h
    · exact .inl hb
  · rintro h ⟨k, hk, hh⟩
    rw [Bool.and_eq_true, decide_eq_true_eq] at hh
    rcases h k hk with h1 | h1
    · exact h1 hh.1
    · rw [hh.2] at h1; cases h1

/-- All: the automaton. -/
def alN (b t : Int) : List (List Int) := if codeM b t = 0 then leastN (arN b t.toNat (manyU b t).toNat) (arE (manyU b t).toNat) (manyU b t).toNat else []
def alE (b t : Int) : List Bool := if codeM b t = 0 then leastE (arN b t.toNat (manyU b t).toNat) (arE (manyU b t).toNat) (manyU b t).toNat else []
/-- All's automaton, where there is one. -/
structure AlWell (b t : Int) (m : Nat) (MN : List (List Int)) (ME : List Bool) : Prop where
  auto : autoC b t MN MN.length = 0
  len : ME.length = MN.length
  good : GoodN m MN.length MN
  many : (manyU b t).toNat = m
  least : leastN MN ME m = MN ∧ leastE MN ME m = ME
  lang : ∀ w, okW m w → tkB MN ME w = rightW b t w
theorem manyU_bd {b t : Int} (h : codeM b t = 0) : 1 ≤ (manyU b t).toNat ∧ (manyU b t).toNat ≤ 36 := by
  obtain ⟨h1, h2, h3, h4, h5, h6⟩ := codeM_zero h
  have hk := kinds_bd2 b h2
  have hp : 1 ≤ pw (kindsI b) t.toNat := pw_pos _ (by omega) _
  omega
theorem al_well {b t : Int} (h : codeM b t = 0) : AlWell b t (manyU b t).toNat (alN b t) (alE b t) := by
  obtain ⟨m1, m36⟩ := manyU_bd h
  obtain ⟨h1, h2, h3, h4, h5, h6⟩ := codeM_zero h
  have hG := ar_good b t.toNat m1 m36
  have hLG := least_good hG (arE (manyU b t).toNat)
  have hK := leastK_80 hG (arE (manyU b t).toNat) (by omega)
  have e1 : alN b t = leastN (arN b t.toNat (manyU b t).toNat) (arE (manyU b t).toNat) (manyU b t).toNat := by unfold alN; rw [if_pos h]
  have e2 : alE b t = leastE (arN b t.toNat (manyU b t).toNat) (arE (manyU b t).toNat) (manyU b t).toNat := by unfold alE; rw [if_pos h]
  refine ⟨?_, by rw [e1, e2, leastN_len, leastE_len], by rw [e1, leastN_len]; exact hLG, rfl, by rw [e1, e2]; exact least_again hG _, fun w hw => ?_⟩
  · rw [e1, leastN_len]
    exact autoC_fine h hLG hK
  · rw [e1, e2, tk_least hG _ w hw, ar_tk hw]
    exact bad_right (by omega) w
end Go.Proofs.YthadkoplbgibgaeDoor

/- Right words that are taken, and the others: mathematics of RightTakes. -/
namespace Go.Proofs.YthadkoplbgibgaeDoor
open Go.RowKit

theorem how_and (x y : Bool) : howB 8 x y = (x && y) := by cases x <;> cases y <;> rfl
end Go.Proofs.YthadkoplbgibgaeDoor

/- Sums of numbers: an automaton that counts along, cut off where it is too far; mathematics. -/
namespace Go.Proofs.YthadkoplbgibgaeDoor
open Go.RowKit

/-- The first k of coefficients, each times what stands beside it, together. -/
def sumT (C : List Int) (f : Nat → Int) : Nat → Int
  | 0 => 0
  | k + 1 => sumT C f k + C.getD k 0 * f k
/-- .. without signs. -/
def absI (x : Int) : Int := if x < 0 then -x else x
def absT (C : List Int) : Nat → Int
  | 0 => 0
  | k + 1 => absT C k + absI (C.getD k 0)
theorem absI_nn (x : Int) : 0 ≤ absI x := by unfold absI; split <;> omega
theorem absT_nn (C : List Int) (k : Nat) : 0 ≤ absT C k := by
  induction k with
  | zero => exact Int.le_refl 0
  | succ k ih => have := absI_nn (C.getD k 0); show 0 ≤ absT C k + absI (C.getD k 0); omega
theorem absT_mono (C : List Int) {j k : Nat} (h : j ≤ k) : absT C j ≤ absT C k := by
  induction k with
  | zero =>
    obtain rfl : j = 0 := by omega
    exact Int.le_refl _
  | succ k ih =>
    by_cases e : j = k + 1
    · subst e; exact Int.le_refl _
    · have := ih (by omega)
      have := absI_nn (C.getD k 0)
      show _ ≤ absT C k + absI (C.getD k 0)
      omega
theorem absT_at (C : List Int) {j k : Nat} (h : j < k) : absI (C.getD j 0) ≤ absT C k := by
  have h1 := absT_mono C (show j + 1 ≤ k from h)
  have h2 := absT_nn C j
  have h3 : absT C (j + 1) = absT C j + absI (C.getD j 0) := rfl
  omega
theorem mul_bd {x y D : Int} (h0 : 0 ≤ y) (h1 : y ≤ D) : -(absI x * D) ≤ x * y ∧ x * y ≤ absI x * D := by
  unfold absI
  by_cases h : x < 0
  · rw [if_pos h]
    have h2 : x * D ≤ x * y := Int.mul_le_mul_of_nonpos_left (by omega) h1
    have h3 : x * y ≤ 0 := Int.mul_nonpos_of_nonpos_of_nonneg (by omega) h0
    have h4 : -x * D = -(x * D) := Int.neg_mul _ _
    have h5 : x * D ≤ 0 := Int.mul_nonpos_of_nonpos_of_nonneg (by omega) (by omega)
    omega
  · rw [if_neg h]
    have h2 : x * y ≤ x * D := Int.mul_le_mul_of_nonneg_left h1 (by omega)
    have h3 : 0 ≤ x * y := Int.mul_nonneg (by omega) h0
    omega
theorem sumT_bd (C : List Int) (f : Nat → Int) (D : Int) (k : Nat) (hf : ∀ i, i < k → 0 ≤ f i ∧ f i ≤ D) : -(absT C k * D) ≤ sumT C f k ∧ sumT C f k ≤ absT C k * D := by
  induction k with
  | zero => simp [sumT, absT]
  | succ k ih =>
    have h1 := ih (fun i hi => hf i (by omega))
    have h2 := mul_bd (x := C.getD k 0) (hf k (by omega)).1 (hf k (by omega)).2
    have h3 : absT C (k + 1) * D = absT C k * D + absI (C.getD k 0) * D := Int.add_mul _ _ _
    have h4 : sumT C f (k + 1) = sumT C f k + C.getD k 0 * f k := rfl
    rw [h3, h4]
    omega
/-- What a letter adds. -/
def lsum (b : Int) (C : List Int) (l : Int) : Int := sumT C (dOf b C.length l) C.length
theorem lsum_bd {b : Int} {C : List Int} (h2 : b ≤ 6) (h12 : absT C C.length ≤ 12) (l : Int) : -(12 * (kindsI b - 1)) ≤ lsum b C l ∧ lsum b C l ≤ 12 * (kindsI b - 1) := by
  have h := sumT_bd C (dOf b C.length l) (kindsI b - 1) C.length (fun i _ => by have := dOf_bd b h2 C.length l i; omega)
  have hk : 1 ≤ kindsI b - 1 := by unfold kindsI; split <;> omega
  have h3 : absT C C.length * (kindsI b - 1) ≤ 12 * (kindsI b - 1) := Int.mul_le_mul_of_nonneg_right h12 (by omega)
  unfold lsum
  omega
/-- What was read, and, in Fibonacci's base, what it counts a place lower; a letter more. -/
def lnStep (b : Int) (p : Int × Int) (s : Int) : Int × Int := if b = 1 then (p.1 + p.2 + s, p.1 + s) else (p.1 * b + s, 0)
/-- It stays where it is, once it is too far off. -/
def lnCut (b : Int) (p : Int × Int) (s : Int) : Int × Int :=
  if p.1 = 108 ∨ p.1 = -108 then (p.1, 0) else if 108 ≤ (lnStep b p s).1 then (108, 0) else if (lnStep b p s).1 ≤ -108 then (-108, 0) else lnStep b p s
def LnIn (b : Int) (p : Int × Int) : Prop := (p.1 = 108 ∧ p.2 = 0) ∨ (p.1 = -108 ∧ p.2 = 0) ∨ (-107 ≤ p.1 ∧ p.1 ≤ 107 ∧ (b ≠ 1 → p.2 = 0) ∧ (b = 1 → -272 ≤ 13 * p.1 - 21 * p.2 ∧ 13 * p.1 - 21 * p.2 ≤ 272))
theorem lnIn_bd {b : Int} {p : Int × Int} (h : LnIn b p) : -108 ≤ p.1 ∧ p.1 ≤ 108 ∧ -108 ≤ p.2 ∧ p.2 ≤ 108 := by
  rcases h with h | h | ⟨h1, h2, h3, h4⟩
  · omega
  · omega
  · by_cases hb : b = 1
    · have := h4 hb; omega
    · have := h3 hb; omega
theorem lnCut_in {b : Int} {p : Int × Int} {s : Int} (h : LnIn b p) (hs : b = 1 → -12 ≤ s ∧ s ≤ 12) : LnIn b (lnCut b p s) := by
  unfold lnCut
  by_cases h0 : p.1 = 108 ∨ p.1 = -108
  · rw [if_pos h0]
    rcases h0 with h0 | h0
    · exact .inl ⟨h0, rfl⟩
    · exact .inr (.inl ⟨h0, rfl⟩)
  · rw [if_neg h0]
    by_cases h1 : 108 ≤ (lnStep b p s).1
    · rw [if_pos h1]; exact .inl ⟨rfl, rfl⟩
    · rw [if_neg h1]
      by_cases h2 : (lnStep b p s).1 ≤ -108
      · rw [if_pos h2]; exact .inr (.inl ⟨rfl, rfl⟩)
      · rw [if_neg h2]
        refine .inr (.inr ⟨by omega, by omega, fun hb => ?_, fun hb => ?_⟩)
        · unfold lnStep; rw [if_neg hb]
        · have hs' := hs hb
          unfold lnStep
          rw [if_pos hb]
          rcases h with h | h | ⟨h3, h4, h5, h6⟩
          · omega
          · omega
          · have := h6 hb
            show -272 ≤ 13 * (p.1 + p.2 + s) - 21 * (p.1 + s) ∧ 13 * (p.1 + p.2 + s) - 21 * (p.1 + s) ≤ 272
            omega
/-- What the cut one tells of the true one. -/
def LnRel (b : Int) (p P : Int × Int) : Prop := (p = P ∧ LnIn b p ∧ p.1 ≠ 108 ∧ p.1 ≠ -108) ∨ (p = (108, 0) ∧ 108 ≤ P.1 ∧ (b = 1 → 54 ≤ P.2)) ∨ (p = (-108, 0) ∧ P.1 ≤ -108 ∧ (b = 1 → P.2 ≤ -54))
theorem lnRel_step {b : Int} {p P : Int × Int} {s : Int} (h1 : 1 ≤ b) (h : LnRel b p P) (hs : -(12 * (kindsI b - 1)) ≤ s ∧ s ≤ 12 * (kindsI b - 1)) : LnRel b (lnCut b p s) (lnStep b P s) := by
  have hs1 : b = 1 → -12 ≤ s ∧ s ≤ 12 := fun hb => by
    have : kindsI b = 2 := by unfold kindsI; rw [if_pos (by omega)]
    omega
  have hs2 : b ≠ 1 → -(12 * (b - 1)) ≤ s ∧ s ≤ 12 * (b - 1) := fun hb => by
    have : kindsI b = b := by unfold kindsI; split <;> omega
    rw [this] at hs; exact hs
  rcases h with ⟨rfl, hin, hn1, hn2⟩ | ⟨rfl, hP, hY⟩ | ⟨rfl, hP, hY⟩
  · have hcut := lnCut_in hin hs1
    unfold lnCut at hcut ⊢
    rw [if_neg (by omega)] at hcut ⊢
    by_cases c1 : 108 ≤ (lnStep b p s).1
    · rw [if_pos c1]
      refine .inr (.inl ⟨rfl, c1, fun hb => ?_⟩)
      have := hs1 hb
      unfold lnStep at c1 ⊢
      rw [if_pos hb] at c1 ⊢
      rcases hin with h | h | ⟨h3, h4, h5, h6⟩
      · omega
      · omega
      · have := h6 hb
        change 108 ≤ p.1 + p.2 + s at c1
        show 54 ≤ p.1 + s
        omega
    · rw [if_neg c1] at hcut ⊢
      by_cases c2 : (lnStep b p s).1 ≤ -108
      · rw [if_pos c2]
        refine .inr (.inr ⟨rfl, c2, fun hb => ?_⟩)
        have := hs1 hb
        unfold lnStep at c2 ⊢
        rw [if_pos hb] at c2 ⊢
        rcases hin with h | h | ⟨h3, h4, h5, h6⟩
        · omega
        · omega
        · have := h6 hb
          change p.1 + p.2 + s ≤ -108 at c2
          show p.1 + s ≤ -54
          omega
      · rw [if_neg c2] at hcut ⊢
        exact .inl ⟨rfl, hcut, by omega, by omega⟩
  · have e : lnCut b (108, 0) s = (108, 0) := by unfold lnCut; rw [if_pos (.inl rfl)]
    rw [e]
    unfold lnStep
    by_cases hb : b = 1
    · rw [if_pos hb]
      have := hs1 hb
      have := hY hb
      exact .inr (.inl ⟨rfl, by show 108 ≤ P.1 + P.2 + s; omega, fun _ => by show 54 ≤ P.1 + s; omega⟩)
    · rw [if_neg hb]
      have := hs2 hb
      refine .inr (.inl ⟨rfl, ?_, fun h => absurd h hb⟩)
      show 108 ≤ P.1 * b + s
      have h3 : 108 * b ≤ P.1 * b := Int.mul_le_mul_of_nonneg_right hP (by omega)
      omega
  · have e : lnCut b (-108, 0) s = (-108, 0) := by unfold lnCut; rw [if_pos (.inr rfl)]
    rw [e]
    unfold lnStep
    by_cases hb : b = 1
    · rw [if_pos hb]
      have := hs1 hb
      have := hY hb
      exact .inr (.inr ⟨rfl, by show P.1 + P.2 + s ≤ -108; omega, fun _ => by show P.1 + s ≤ -54; omega⟩)
    · rw [if_neg hb]
      have := hs2 hb
      refine .inr (.inr ⟨rfl, ?_, fun h => absurd h hb⟩)
      show P.1 * b + s ≤ -108
      have h3 : P.1 * b ≤ -108 * b := Int.mul_le_mul_of_nonneg_right hP (by omega)
      omega
/-- Two numbers in one. -/
def spotN (p : Int × Int) : Nat := ((p.1 + 108) * 217 + p.2 + 108).toNat
def unspot (n : Nat) : Int × Int := (((n / 217 : Nat) : Int) - 108, ((n % 217 : Nat) : Int) - 108)
theorem unspot_spot {b : Int} {p : Int × Int} (h : LnIn b p) : unspot (spotN p) = p ∧ spotN p < 47089 := by
  have hb := lnIn_bd h
  obtain ⟨x, y⟩ := p
  simp only at hb
  have e : spotN (x, y) = (x + 108).toNat * 217 + (y + 108).toNat := by
    unfold spotN
    show ((x + 108) * 217 + y + 108).toNat = _
    omega
  refine ⟨?_, by rw [e]; omega⟩
  unfold unspot
  rw [e]
  have h1 : ((x + 108).toNat * 217 + (y + 108).toNat) / 217 = (x + 108).toNat := by omega
  have h2 : ((x + 108).toNat * 217 + (y + 108).toNat) % 217 = (y + 108).toNat := by omega
  rw [h1, h2]
  ext
  · show ((x + 108).toNat : Int) - 108 = x; omega
  · show ((y + 108).toNat : Int) - 108 = y; omega
def lnD (b : Int) (C : List Int) (s l : Nat) : Nat := spotN (lnCut b (unspot s) (lsum b C (l : Int)))
/-- The true numbers behind a word. -/
def lnRun (b : Int) (C : List Int) (w : List Int) : Int × Int := w.foldl (fun p l => lnStep b p (lsum b C l)) (0, 0)
theorem lnRun_snoc (b : Int) (C : List Int) (w : List Int) (l : Int) : lnRun b C (w ++ [l]) = lnStep b (lnRun b C w) (lsum b C l) := by simp [lnRun, List.foldl_append]
theorem zero_in (b : Int) : LnIn b (0, 0) := .inr (.inr ⟨by decide, by decide, fun _ => rfl, fun _ => by decide⟩)
theorem unspot_start : unspot 23544 = (0, 0) := by decide
/-- Where a word leads. -/
theorem ln_run {b : Int} {C : List Int} {m : Nat} (h1 : 1 ≤ b) (h2 : b ≤ 6) (h12 : absT C C.length ≤ 12) (w : List Int) : okW m w → LnIn b (unspot (runG (lnD b C) 23544 w)) ∧ LnRel b (unspot (runG (lnD b C) 23544 w)) (lnRun b C w) ∧ runG (lnD b C) 23544 w < 47089 := by
  induction w using list_snoc_ind with
  | h0 =>
    intro _
    have e : runG (lnD b C) 23544 [] = 23544 := rfl
    rw [e, unspot_start]
    exact ⟨zero_in b, .inl ⟨rfl, zero_in b, by decide, by decide⟩, by decide⟩
  | h1 w y ih =>
    intro hw
    obtain ⟨hw1, hw2⟩ := okW_append.1 hw
    have hy := hw2 y (by simp)
    obtain ⟨i1, i2, -⟩ := ih hw1
    have hs := lsum_bd h2 h12 y
    have hs1 : b = 1 → -12 ≤ lsum b C y ∧ lsum b C y ≤ 12 := fun hb => by
      have : kindsI b = 2 := by unfold kindsI; rw [if_pos (by omega)]
      omega
    have hc := lnCut_in i1 hs1
    have hu := unspot_spot hc
    have ey : ((y.toNat : Nat) : Int) = y := by omega
    rw [runG_snoc, lnRun_snoc]
    unfold lnD at i1 i2 hc hu ⊢
    rw [ey]
    rw [hu.1]
    exact ⟨hc, lnRel_step h1 i2 hs, hu.2⟩
def lnEnd (c : Int) (less : Bool) (x : Int) : Bool := if less = true then decide (x + c < 0) else decide (x + c = 0)
theorem lnRel_end {b : Int} {p P : Int × Int} (h : LnRel b p P) {c : Int} (hc : -60 ≤ c ∧ c ≤ 60) (less : Bool) : lnEnd c less p.1 = lnEnd c less P.1 := by
  rcases h with ⟨rfl, -⟩ | ⟨rfl, hP, -⟩ | ⟨rfl, hP, -⟩
  · rfl
  · unfold lnEnd
    cases less
    · simp only [Bool.false_eq_true, if_false]
      rw [decide_eq_false (by show ¬ (108 + c = 0); omega), decide_eq_false (by omega)]
    · simp only [if_true]
      rw [decide_eq_false (by show ¬ (108 + c < 0); omega), decide_eq_false (by omega)]
  · unfold lnEnd
    cases less
    · simp only [Bool.false_eq_true, if_false]
      rw [decide_eq_false (by show ¬ (-108 + c = 0); omega), decide_eq_false (by omega)]
    · simp only [if_true]
      rw [decide_eq_true (by show -108 + c < 0; omega), decide_eq_true (by omega)]
end Go.Proofs.YthadkoplbgibgaeDoor

/- Sums of numbers: what line.Of hands back; mathematics. -/
namespace Go.Proofs.YthadkoplbgibgaeDoor
open Go.RowKit

def lnM (b : Int) (C : List Int) : Nat := (manyU b (C.length : Int)).toNat
/-- What comes up. -/
def lnL (b : Int) (C : List Int) : List Nat := outG (lnD b C) (lnM b C) 23544 47089
def lnGN (b : Int) (C : List Int) : List (List Int) := gN (lnD b C) (lnM b C) (lnL b C)
def lnGE (b : Int) (C : List Int) (c : Int) (less : Bool) : List Bool := gE (fun s => lnEnd c less (unspot s).1) (lnL b C)
/-- .. of right words alone. -/
def lnP (b : Int) (C : List Int) : List (List Int) := prodN (lnGN b C) (alN b (C.length : Int)) (lnM b C)
def lnQ (b : Int) (C : List Int) (c : Int) (less : Bool) : List Bool := prodE 8 (lnGN b C).length (alN b (C.length : Int)).length (lnGE b C c less) (alE b (C.length : Int))
/-- The fault. -/
def lnF (b : Int) (C : List Int) (c : Int) : Int := if codeM b (C.length : Int) = 0 then (if absT C C.length ≤ 12 ∧ -60 ≤ c ∧ c ≤ 60 then 0 else 1) else codeM b (C.length : Int)
def lnC (b : Int) (C : List Int) (c : Int) (less : Bool) : Int := if lnF b C c = 0 then (if leastK (lnP b C) (lnQ b C c less) (lnM b C) ≤ 80 then 0 else 3) else lnF b C c
def lnN (b : Int) (C : List Int) (c : Int) (less : Bool) : List (List Int) := if lnC b C c less = 0 then leastN (lnP b C) (lnQ b C c less) (lnM b C) else []
def lnE (b : Int) (C : List Int) (c : Int) (less : Bool) : List Bool := if lnC b C c less = 0 then leastE (lnP b C) (lnQ b C c less) (lnM b C) else []
theorem lnF_zero {b : Int} {C : List Int} {c : Int} (h : lnF b C c = 0) : codeM b (C.length : Int) = 0 ∧ absT C C.length ≤ 12 ∧ -60 ≤ c ∧ c ≤ 60 := by
  unfold lnF at h
  by_cases h1 : codeM b (C.length : Int) = 0
  · rw [if_pos h1] at h
    by_cases h2 : absT C C.length ≤ 12 ∧ -60 ≤ c ∧ c ≤ 60
    · exact ⟨h1, h2⟩
    · rw [if_neg h2] at h; omega
  · rw [if_neg h1] at h; exact absurd h h1
theorem outG_few {d : Nat → Nat → Nat} {m f B : Nat} (h : ∀ w, okW m w → runG d f w < B) (i : Nat) : (outG d m f i).length ≤ B := by
  have := nodup_sub (K := List.range B) (outG_nodup d m f i) (fun x hx => by
    obtain ⟨w, hw, rfl⟩ := outG_reach hx
    exact List.mem_range.2 (h w hw))
  rwa [List.length_range] at this
theorem outG_done {d : Nat → Nat → Nat} {m f B : Nat} (h : ∀ w, okW m w → runG d f w < B) : ClosedG d m (outG d m f B) ∧ 0 < (outG d m f B).length ∧ (outG d m f B).length ≤ B ∧ (outG d m f B).getD 0 0 = f :=
  ⟨outG_closed (outG_few h B), (outG_pos d m f B).1, outG_few h B, (outG_pos d m f B).2⟩
theorem lnL_ok {b : Int} {C : List Int} (h1 : 1 ≤ b) (h2 : b ≤ 6) (h12 : absT C C.length ≤ 12) : ClosedG (lnD b C) (lnM b C) (lnL b C) ∧ 0 < (lnL b C).length ∧ (lnL b C).length ≤ 47089 ∧ (lnL b C).getD 0 0 = 23544 := by
  have := outG_done (d := lnD b C) (m := lnM b C) (f := 23544) (B := 47089) (fun w hw => (ln_run h1 h2 h12 w hw).2.2)
  unfold lnL
  exact this
/-- The words that are asked for. -/
def lineW (b : Int) (C : List Int) (c : Int) (less : Bool) (w : List Int) : Bool := rightW b (C.length : Int) w && lnEnd c less (lnRun b C w).1
theorem lnG_good {b : Int} {C : List Int} (h1 : 1 ≤ b) (h2 : b ≤ 6) (h12 : absT C C.length ≤ 12) (hM : codeM b (C.length : Int) = 0) : GoodN (lnM b C) (lnGN b C).length (lnGN b C) := by
  obtain ⟨m1, m36⟩ := manyU_bd hM
  obtain ⟨k1, k2, k3, k4⟩ := lnL_ok h1 h2 h12
  have h := gN_good k1 k2 (by omega) m1 m36
  have e : (lnGN b C).length = (lnL b C).length := gN_len _ _ _
  rw [e]
  exact h
theorem lnG_tk {b : Int} {C : List Int} {c : Int} (h1 : 1 ≤ b) (h2 : b ≤ 6) (h12 : absT C C.length ≤ 12) (hc : -60 ≤ c ∧ c ≤ 60) (less : Bool) (w : List Int) (hw : okW (lnM b C) w) : tkB (lnGN b C) (lnGE b C c less) w = lnEnd c less (lnRun b C w).1 := by
  obtain ⟨k1, k2, k3, k4⟩ := lnL_ok h1 h2 h12
  have h := gN_tk (p := fun s => lnEnd c less (unspot s).1) k1 k2 w hw
  rw [k4] at h
  have hr := (ln_run h1 h2 h12 w hw).2.1
  rw [← lnRel_end hr hc less]
  exact h
theorem lnP_ok {b : Int} {C : List Int} {c : Int} (h : lnF b C c = 0) (less : Bool) : GoodN (lnM b C) ((lnGN b C).length * (alN b (C.length : Int)).length) (lnP b C) ∧ ∀ w, okW (lnM b C) w → tkB (lnP b C) (lnQ b C c less) w = lineW b C c less w := by
  obtain ⟨hM, h12, hc⟩ := lnF_zero h
  obtain ⟨h1, h2, -⟩ := codeM_zero hM
  have hL := al_well hM
  have hG := lnG_good h1 h2 h12 hM
  have hG2 : GoodN (lnM b C) (alN b (C.length : Int)).length (alN b (C.length : Int)) := hL.good
  have k3 := (lnL_ok h1 h2 h12).2.2.1
  have e : (lnGN b C).length = (lnL b C).length := gN_len _ _ _
  have h80 := autoC_80 hL.auto
  have hn : (lnGN b C).length * (alN b (C.length : Int)).length ≤ 4000000 := Nat.le_trans (Nat.mul_le_mul (by rw [e]; exact k3) h80) (by decide)
  refine ⟨prod_good hG hG2 hn, fun w hw => ?_⟩
  have hp := prod_takes hG hG2 8 (lnGE b C c less) (alE b (C.length : Int)) w hw
  have h3 := lnG_tk h1 h2 h12 hc less w hw
  have h4 := hL.lang w hw
  unfold tkB at h3 h4
  rw [h3, h4, how_and, Bool.and_comm] at hp
  exact hp
/-- Whatever takes these words has this least automaton. -/
theorem ln_same {b : Int} {C : List Int} {c : Int} {less : Bool} (h : lnF b C c = 0) {n : Nat} {N : List (List Int)} {E : List Bool} (hG : GoodN (lnM b C) n N) (hl : ∀ w, okW (lnM b C) w → tkB N E w = lineW b C c less w) : leastN N E (lnM b C) = leastN (lnP b C) (lnQ b C c less) (lnM b C) ∧ leastE N E (lnM b C) = leastE (lnP b C) (lnQ b C c less) (lnM b C) := by
  obtain ⟨hP, hlP⟩ := lnP_ok h less
  refine least_same hG hP E _ fun w hw => ?_
  have h1 := hl w hw
  have h2 := hlP w hw
  unfold tkB at h1 h2
  rw [h1, h2]
end Go.Proofs.YthadkoplbgibgaeDoor

/- right.All: its automaton; mathematics. -/
namespace Go.Proofs.YthadkoplbgibgaeDoor
open Go.RowKit

/-- Two letters that may not stand side by side. -/
def clB (b : Int) (x y : Nat) : Bool := decide (b = 1) && decide (x &&& y ≠ 0)
theorem hit_fib : ∀ t : Nat, t < 6 → ∀ x : Nat, x < (manyU 1 (t : Int)).toNat → ∀ y : Nat, y < (manyU 1 (t : Int)).toNat → hitB 1 t (x : Int) (y : Int) = clB 1 x y := by decide +kernel
theorem hit_cl {b t : Int} (h : codeM b t = 0) {x y : Nat} (hx : x < (manyU b t).toNat) (hy : y < (manyU b t).toNat) : hitB b t.toNat (x : Int) (y : Int) = clB b x y := by
  obtain ⟨h1, h2, h3, h4, -⟩ := codeM_zero h
  by_cases hb : b = 1
  · subst hb
    obtain ⟨tn, rfl⟩ : ∃ tn : Nat, t = (tn : Int) := ⟨t.toNat, by omega⟩
    rw [Int.toNat_natCast]
    exact hit_fib tn (by omega) x hx y hy
  · unfold hitB clB
    simp [hb]
theorem cl_zero (b : Int) (y : Nat) : clB b 0 y = false := by unfold clB; simp
end Go.Proofs.YthadkoplbgibgaeDoor

/- The developers' automaton of a sum: points whose fate is open, or no longer; mathematics. -/
namespace Go.Proofs.YthadkoplbgibgaeDoor
open Go.RowKit

/-- What raises a sum, and, without a sign, what lowers it. -/
def upT (C : List Int) (f : Nat → Int) : Nat → Int
  | 0 => 0
  | k + 1 => if 0 < C.getD k 0 then upT C f k + C.getD k 0 * f k else upT C f k
def dnT (C : List Int) (f : Nat → Int) : Nat → Int
  | 0 => 0
  | k + 1 => if 0 < C.getD k 0 then dnT C f k else dnT C f k - C.getD k 0 * f k
theorem ud_sum (C : List Int) (f : Nat → Int) (k : Nat) : upT C f k - dnT C f k = sumT C f k := by
  induction k with
  | zero => rfl
  | succ k ih =>
    unfold upT dnT sumT
    by_cases h : 0 < C.getD k 0
    · rw [if_pos h, if_pos h]; omega
    · rw [if_neg h, if_neg h]; omega
theorem ud_abs (C : List Int) (k : Nat) : upT C (fun _ => 1) k + dnT C (fun _ => 1) k = absT C k := by
  induction k with
  | zero => rfl
  | succ k ih =>
    unfold upT dnT absT absI
    by_cases h : 0 < C.getD k 0
    · rw [if_pos h, if_pos h, if_neg (by omega)]; omega
    · rw [if_neg h, if_neg h]
      split <;> omega
theorem ud_mono {C : List Int} {f g : Nat → Int} : ∀ {k : Nat}, (∀ i, i < k → f i ≤ g i) → upT C f k ≤ upT C g k ∧ dnT C f k ≤ dnT C g k
  | 0, _ => ⟨Int.le_refl _, Int.le_refl _⟩
  | k + 1, h => by
    have ih := ud_mono (C := C) (k := k) (fun i hi => h i (by omega))
    have hk := h k (by omega)
    unfold upT dnT
    by_cases hc : 0 < C.getD k 0
    · rw [if_pos hc, if_pos hc, if_pos hc, if_pos hc]
      have := Int.mul_le_mul_of_nonneg_left hk (Int.le_of_lt hc)
      omega
    · rw [if_neg hc, if_neg hc, if_neg hc, if_neg hc]
      have := Int.mul_le_mul_of_nonpos_left (a := C.getD k 0) (by omega) hk
      omega
theorem ud_add (C : List Int) (f g : Nat → Int) (k : Nat) : upT C (fun i => f i + g i) k = upT C f k + upT C g k ∧ dnT C (fun i => f i + g i) k = dnT C f k + dnT C g k := by
  induction k with
  | zero => exact ⟨rfl, rfl⟩
  | succ k ih =>
    unfold upT dnT
    by_cases hc : 0 < C.getD k 0
    · rw [if_pos hc, if_pos hc, if_pos hc, if_pos hc, if_pos hc, if_pos hc, Int.mul_add]
      omega
    · rw [if_neg hc, if_neg hc, if_neg hc, if_neg hc, if_neg hc, if_neg hc, Int.mul_add]
      omega
theorem ud_zero (C : List Int) (k : Nat) : upT C (fun _ => 0) k = 0 ∧ dnT C (fun _ => 0) k = 0 := by
  induction k with
  | zero => exact ⟨rfl, rfl⟩
  | succ k ih =>
    unfold upT dnT
    by_cases hc : 0 < C.getD k 0
    · rw [if_pos hc, if_pos hc]; omega
    · rw [if_neg hc, if_neg hc]; omega
theorem ud_mul (C : List Int) (K : Int) (k : Nat) : upT C (fun _ => K) k = K * upT C (fun _ => 1) k ∧ dnT C (fun _ => K) k = K * dnT C (fun _ => 1) k := by
  induction k with
  | zero => exact ⟨by simp [upT], by simp [dnT]⟩
  | succ k ih =>
    unfold upT dnT
    by_cases hc : 0 < C.getD k 0
    · rw [if_pos hc, if_pos hc, if_pos hc, if_pos hc, Int.mul_add, Int.mul_one, Int.mul_comm (C.getD k 0) K]
      omega
    · rw [if_neg hc, if_neg hc, if_neg hc, if_neg hc, Int.mul_sub, Int.mul_one, Int.mul_comm (C.getD k 0) K]
      omega
theorem ud_nn {C : List Int} {f : Nat → Int} {k : Nat} (h : ∀ i, i < k → 0 ≤ f i) : 0 ≤ upT C f k ∧ 0 ≤ dnT C f k := by
  have h1 := ud_mono (C := C) (f := fun _ => 0) (g := f) h
  have h2 := ud_zero C k
  omega
def upA (C : List Int) : Int := upT C (fun _ => 1) C.length
def dnA (C : List Int) : Int := dnT C (fun _ => 1) C.length
def upL (b : Int) (C : List Int) (x : Int) : Int := upT C (dOf b C.length x) C.length
def dnL (b : Int) (C : List Int) (x : Int) : Int := dnT C (dOf b C.length x) C.length
theorem udA {C : List Int} (h12 : absT C C.length ≤ 12) : 0 ≤ upA C ∧ 0 ≤ dnA C ∧ upA C + dnA C ≤ 12 := by
  have h1 := ud_abs C C.length
  have h2 := ud_nn (C := C) (f := fun _ => 1) (k := C.length) (fun _ _ => by decide)
  unfold upA dnA
  omega
theorem udL_sum (b : Int) (C : List Int) (x : Int) : upL b C x - dnL b C x = lsum b C x := ud_sum _ _ _
theorem udL_bd {b : Int} (h2 : b ≤ 6) (C : List Int) (x : Int) : 0 ≤ upL b C x ∧ 0 ≤ dnL b C x ∧ upL b C x ≤ (kindsI b - 1) * upA C ∧ dnL b C x ≤ (kindsI b - 1) * dnA C := by
  have h1 := ud_nn (C := C) (f := dOf b C.length x) (k := C.length) (fun i _ => (dOf_bd b h2 C.length x i).1)
  have h3 := ud_mono (C := C) (f := dOf b C.length x) (g := fun _ => kindsI b - 1) (k := C.length) (fun i _ => by have := dOf_bd b h2 C.length x i; show _ ≤ kindsI b - 1; omega)
  have h4 := ud_mul C (kindsI b - 1) C.length
  unfold upL dnL upA dnA
  omega
theorem udL_two {C : List Int} {l x : Int} (h : hitB 1 C.length l x = false) : upL 1 C l + upL 1 C x ≤ upA C ∧ dnL 1 C l + dnL 1 C x ≤ dnA C := by
  have hk : kindsI 1 = 2 := by decide
  have h1 := ud_add C (dOf 1 C.length l) (dOf 1 C.length x) C.length
  have h3 := ud_mono (C := C) (f := fun i => dOf 1 C.length l i + dOf 1 C.length x i) (g := fun _ => 1) (k := C.length) (fun i hi => by
    have a1 := dOf_bd 1 (by decide) C.length l i
    have a2 := dOf_bd 1 (by decide) C.length x i
    show dOf 1 C.length l i + dOf 1 C.length x i ≤ 1
    rw [hk] at a1 a2
    apply Decidable.byContradiction
    intro hn
    have e1 : dOf 1 C.length l i = 1 := by omega
    have e2 : dOf 1 C.length x i = 1 := by omega
    have : hitB 1 C.length l x = true := by
      unfold hitB
      rw [List.any_eq_true]
      exact ⟨i, List.mem_range.2 hi, by simp [e1, e2]⟩
    rw [h] at this
    cases this)
  unfold upL dnL upA dnA
  omega

/-- Numbers of which each is the two ahead of it together. -/
def fibS (a b : Int) : Nat → Int
  | 0 => a
  | n + 1 => fibS b (a + b) n
theorem fibS_up : ∀ (n : Nat) (a b : Int), 0 ≤ a → 0 ≤ b → b ≤ fibS a b (n + 1)
  | 0, _, _, _, _ => Int.le_refl _
  | n + 1, a, b, ha, hb => by
    have := fibS_up n b (a + b) hb (by omega)
    show b ≤ fibS b (a + b) (n + 1)
    omega
/-- The least of them; -2^41 if they fall without an end. -/
def fallG : Nat → Int → Int → Int → Int
  | 0, low, _, _ => low
  | k + 1, low, a, b => if 0 ≤ a ∧ 0 ≤ b then (if b < low then b else low) else if a ≤ 0 ∧ b ≤ 0 then -2199023255552 else fallG k (if b < low then b else low) b (a + b)
/-- There is enough to go on with. -/
def fallOk (k : Nat) (a b : Int) : Prop := 1 ≤ k ∧ (¬ (0 ≤ a ∧ 0 ≤ b) → ¬ (a ≤ 0 ∧ b ≤ 0) → 2 + absI a + absI b ≤ k)
theorem fallOk_next {k : Nat} {a b : Int} (h : fallOk (k + 1) a b) (h1 : ¬ (0 ≤ a ∧ 0 ≤ b)) (h2 : ¬ (a ≤ 0 ∧ b ≤ 0)) : fallOk k b (a + b) := by
  obtain ⟨-, h3⟩ := h
  have h4 := h3 h1 h2
  unfold absI at h4
  refine ⟨by split at h4 <;> split at h4 <;> omega, fun h5 h6 => ?_⟩
  unfold absI
  split at h4 <;> split at h4 <;> split <;> split <;> omega
theorem fallG_is : ∀ (k : Nat) (low a b : Int), fallOk k a b → fallG k low a b = -2199023255552 ∨ (fallG k low a b ≤ low ∧ ∀ n, fallG k low a b ≤ fibS a b (n + 1))
  | 0, _, _, _, h => absurd h.1 (by decide)
  | k + 1, low, a, b, h => by
    unfold fallG
    by_cases h1 : 0 ≤ a ∧ 0 ≤ b
    · rw [if_pos h1]
      refine .inr ⟨by split <;> omega, fun n => ?_⟩
      have := fibS_up n a b h1.1 h1.2
      split <;> omega
    · rw [if_neg h1]
      by_cases h2 : a ≤ 0 ∧ b ≤ 0
      · rw [if_pos h2]; exact .inl rfl
      · rw [if_neg h2]
        rcases fallG_is k (if b < low then b else low) b (a + b) (fallOk_next h h1 h2) with h3 | ⟨h3, h4⟩
        · exact .inl h3
        · refine .inr ⟨by split at h3 <;> split <;> omega, fun n => ?_⟩
          cases n with
          | zero =>
            show _ ≤ b
            split at h3 <;> split <;> omega
          | succ n => exact h4 n
def fallV (a more : Int) : Int := fallG 2000 a a (a + more)
theorem fallV_ok {a more : Int} (h1 : -900 ≤ a ∧ a ≤ 900) (h2 : -900 ≤ a + more ∧ a + more ≤ 900) : fallOk 2000 a (a + more) := ⟨by decide, fun _ _ => by unfold absI; split <;> split <;> omega⟩
theorem fallV_is {a more : Int} (h1 : -900 ≤ a ∧ a ≤ 900) (h2 : -900 ≤ a + more ∧ a + more ≤ 900) : fallV a more = -2199023255552 ∨ ∀ n, fallV a more ≤ fibS a (a + more) n := by
  rcases fallG_is 2000 a a (a + more) (fallV_ok h1 h2) with h | ⟨h, h3⟩
  · exact .inl h
  · refine .inr fun n => ?_
    cases n with
    | zero => exact h
    | succ n => exact h3 n
theorem fallV_up {a more : Int} (h1 : 0 ≤ a) (h2 : 0 ≤ a + more) : fallV a more = if a + more < a then a + more else a := by
  unfold fallV
  rw [show (2000 : Nat) = 1999 + 1 from rfl]
  unfold fallG
  rw [if_pos ⟨h1, h2⟩]
/-- How low a sum can come: by letters that fit, each lowers it by no more than is left. -/
theorem fib_low {r dn : Int → Int} {D : Int} {t : Nat} (h1 : ∀ z, -dn z ≤ r z) (h2 : ∀ l z, hitB 1 t l z = false → dn l + dn z ≤ D) :
    ∀ (v : List Int) (x y l a b : Int), a ≤ x - D → b ≤ x + y - 2 * D + dn l → badL 1 t (l :: v) = false → fibS a b v.length ≤ (v.foldl (fun (p : Int × Int) z => (p.1 + p.2 + r z, p.1 + r z)) (x, y)).1 - D
  | [], _, _, _, _, _, ha, _, _ => ha
  | z :: v, x, y, l, a, b, ha, hb, hr => by
    have hr' : (hitB 1 t l z || badL 1 t (z :: v)) = false := hr
    rw [Bool.or_eq_false_iff] at hr'
    have e1 := h1 z
    have e2 := h2 l z hr'.1
    exact fib_low h1 h2 v (x + y + r z) (x + r z) z b (a + b) (by omega) (by omega) hr'.2
end Go.Proofs.YthadkoplbgibgaeDoor

/- The developers' automaton of a sum: from point to point; mathematics. -/
namespace Go.Proofs.YthadkoplbgibgaeDoor
open Go.RowKit

/-- How far a sum has come. -/
structure LPt where
  f : Int
  s : Int
  y : Int
  l : Int
def lpSettle (c : Int) (less : Bool) (p : LPt) (low high : Int) : LPt :=
  if less = true ∧ high < -c then ⟨1, 0, 0, p.l⟩ else if high < -c ∨ low > -c ∨ (less = true ∧ low = -c) then ⟨2, 0, 0, 0⟩ else p
def lpLowP (C : List Int) (s : Int) : Int := if dnA C ≤ s then s else -1099511627776
def lpHighP (C : List Int) (s : Int) : Int := if s ≤ -upA C then s else 1099511627776
def lpPlain (b : Int) (C : List Int) (c : Int) (less : Bool) (p : LPt) (x : Nat) : LPt :=
  if p.f = 0 then lpSettle c less ⟨0, p.s * b + lsum b C x, 0, 0⟩ (lpLowP C (p.s * b + lsum b C x)) (lpHighP C (p.s * b + lsum b C x)) else p
def lpLowF (C : List Int) (s y : Int) (x : Nat) : Int := fallV (s - dnA C) (y - dnA C + dnL 1 C x) + dnA C
def lpHighF (C : List Int) (s y : Int) (x : Nat) : Int := -fallV (-s - upA C) (-y - upA C + upL 1 C x) - upA C
def lpFib (C : List Int) (c : Int) (less : Bool) (p : LPt) (x : Nat) : LPt :=
  if p.f = 2 ∨ p.l.toNat &&& x ≠ 0 then ⟨2, 0, 0, 0⟩ else if p.f = 1 then ⟨1, 0, 0, x⟩ else
    lpSettle c less ⟨0, p.s + p.y + lsum 1 C x, p.s + lsum 1 C x, x⟩ (lpLowF C (p.s + p.y + lsum 1 C x) (p.s + lsum 1 C x) x) (lpHighF C (p.s + p.y + lsum 1 C x) (p.s + lsum 1 C x) x)
def lpStep (b : Int) (C : List Int) (c : Int) (less : Bool) (p : LPt) (x : Nat) : LPt := if b = 1 then lpFib C c less p x else lpPlain b C c less p x
def lpEnd (c : Int) (less : Bool) (p : LPt) : Bool := decide (p.f = 1) || (decide (p.f = 0) && lnEnd c less p.s)
/-- Points that there are. -/
def LpOk (b : Int) (p : LPt) : Prop :=
  (p.f = 0 ∧ (-107 ≤ p.s ∧ p.s ≤ 107) ∧ (0 ≤ p.l ∧ p.l < 64) ∧ (b ≠ 1 → p.y = 0 ∧ p.l = 0) ∧ (b = 1 → -272 ≤ 13 * p.s - 21 * p.y ∧ 13 * p.s - 21 * p.y ≤ 272)) ∨ (p.f = 1 ∧ p.s = 0 ∧ p.y = 0 ∧ 0 ≤ p.l ∧ p.l < 64 ∧ (b ≠ 1 → p.l = 0)) ∨ (p.f = 2 ∧ p.s = 0 ∧ p.y = 0 ∧ p.l = 0)
theorem lpOk_bd {b : Int} {p : LPt} (h : LpOk b p) : (0 ≤ p.f ∧ p.f ≤ 2) ∧ (-107 ≤ p.s ∧ p.s ≤ 107) ∧ (-108 ≤ p.y ∧ p.y ≤ 108) ∧ 0 ≤ p.l ∧ p.l < 64 := by
  rcases h with ⟨h1, h2, h3, h4, h5⟩ | ⟨h1, h2, h3, h4, h5, -⟩ | ⟨h1, h2, h3, h4⟩
  · by_cases hb : b = 1
    · have := h5 hb; omega
    · have := h4 hb; omega
  · omega
  · omega
/-- Four numbers in one. -/
def ptN (p : LPt) : Nat := if p.f = 0 then (((p.s + 108) * 217 + (p.y + 108)) * 64 + p.l).toNat else (3013696 + 64 * (p.f - 1) + p.l).toNat
def unpt (n : Nat) : LPt := if n < 3013696 then ⟨0, ((n / 64 / 217 : Nat) : Int) - 108, ((n / 64 % 217 : Nat) : Int) - 108, ((n % 64 : Nat) : Int)⟩ else ⟨1 + (((n - 3013696) / 64 : Nat) : Int), 0, 0, (((n - 3013696) % 64 : Nat) : Int)⟩
theorem unpt_pt {b : Int} {p : LPt} (h : LpOk b p) : unpt (ptN p) = p ∧ ptN p < 3013824 := by
  have hb := lpOk_bd h
  obtain ⟨f, s, y, l⟩ := p
  simp only at hb
  unfold ptN unpt
  by_cases hf : f = 0
  · subst hf
    have e : (((s + 108) * 217 + (y + 108)) * 64 + l).toNat = ((s + 108).toNat * 217 + (y + 108).toNat) * 64 + l.toNat := by omega
    simp only [if_true]
    rw [e]
    have h1 : (((s + 108).toNat * 217 + (y + 108).toNat) * 64 + l.toNat) / 64 = (s + 108).toNat * 217 + (y + 108).toNat := by omega
    have h2 : (((s + 108).toNat * 217 + (y + 108).toNat) * 64 + l.toNat) % 64 = l.toNat := by omega
    have h3 : ((s + 108).toNat * 217 + (y + 108).toNat) / 217 = (s + 108).toNat := by omega
    have h4 : ((s + 108).toNat * 217 + (y + 108).toNat) % 217 = (y + 108).toNat := by omega
    have h5 : ((s + 108).toNat * 217 + (y + 108).toNat) * 64 + l.toNat < 3013696 := by omega
    rw [if_pos h5, h1, h2, h3, h4]
    refine ⟨?_, by omega⟩
    rw [show (((s + 108).toNat : Nat) : Int) - 108 = s by omega, show (((y + 108).toNat : Nat) : Int) - 108 = y by omega, show ((l.toNat : Nat) : Int) = l by omega]
  · have hs : s = 0 ∧ y = 0 := by
      rcases h with ⟨h1, -⟩ | ⟨h1, h2, h3, -⟩ | ⟨h1, h2, h3, -⟩
      · exact absurd h1 hf
      · exact ⟨h2, h3⟩
      · exact ⟨h2, h3⟩
    obtain ⟨rfl, rfl⟩ := hs
    have e : (3013696 + 64 * (f - 1) + l).toNat = 3013696 + (64 * (f - 1).toNat + l.toNat) := by omega
    simp only [hf, if_false]
    rw [e, if_neg (by omega), show 3013696 + (64 * (f - 1).toNat + l.toNat) - 3013696 = 64 * (f - 1).toNat + l.toNat by omega]
    have h1 : (64 * (f - 1).toNat + l.toNat) / 64 = (f - 1).toNat := by omega
    have h2 : (64 * (f - 1).toNat + l.toNat) % 64 = l.toNat := by omega
    rw [h1, h2]
    refine ⟨?_, by omega⟩
    rw [show 1 + (((f - 1).toNat : Nat) : Int) = f by omega, show ((l.toNat : Nat) : Int) = l by omega]
theorem lpOk_start (b : Int) : LpOk b ⟨0, 0, 0, 0⟩ := .inl ⟨rfl, by decide, by decide, fun _ => ⟨rfl, rfl⟩, fun _ => by decide⟩
theorem lp_start : unpt 1506816 = ⟨0, 0, 0, 0⟩ ∧ ptN ⟨0, 0, 0, 0⟩ = 1506816 := by
  have h : ptN ⟨0, 0, 0, 0⟩ = 1506816 := by decide
  refine ⟨?_, h⟩
  rw [← h]
  exact (unpt_pt (lpOk_start 1)).1
theorem settle_cases (c : Int) (less : Bool) (p : LPt) (low high : Int) :
    (lpSettle c less p low high = ⟨1, 0, 0, p.l⟩ ∧ less = true ∧ high < -c) ∨ (lpSettle c less p low high = ⟨2, 0, 0, 0⟩ ∧ ((less = false ∧ high < -c) ∨ low > -c ∨ (less = true ∧ low = -c))) ∨ (lpSettle c less p low high = p ∧ -c ≤ high ∧ low ≤ -c) := by
  unfold lpSettle
  by_cases h1 : less = true ∧ high < -c
  · rw [if_pos h1]; exact .inl ⟨rfl, h1⟩
  · rw [if_neg h1]
    by_cases h2 : high < -c ∨ low > -c ∨ (less = true ∧ low = -c)
    · rw [if_pos h2]
      refine .inr (.inl ⟨rfl, ?_⟩)
      rcases h2 with h2 | h2
      · refine .inl ⟨?_, h2⟩
        cases less
        · rfl
        · exact absurd ⟨rfl, h2⟩ h1
      · exact .inr h2
    · rw [if_neg h2]
      exact .inr (.inr ⟨rfl, by omega, by omega⟩)
section
variable {b : Int} {C : List Int} {c : Int} {less : Bool} {p : LPt} {x : Nat}
/-- A point leads to points. -/
theorem lpStep_ok (h1 : 1 ≤ b) (h2 : b ≤ 6) (h12 : absT C C.length ≤ 12) (hc : -60 ≤ c ∧ c ≤ 60) (hx : x < 64) (h : LpOk b p) : LpOk b (lpStep b C c less p x) := by
  have hA := udA h12
  have hls := lsum_bd h2 h12 (x : Int)
  have hl := lpOk_bd h
  unfold lpStep
  by_cases hb : b = 1
  · subst hb
    rw [if_pos rfl]
    unfold lpFib
    by_cases d1 : p.f = 2 ∨ p.l.toNat &&& x ≠ 0
    · rw [if_pos d1]; exact .inr (.inr ⟨rfl, rfl, rfl, rfl⟩)
    · rw [if_neg d1]
      by_cases d2 : p.f = 1
      · rw [if_pos d2]; exact .inr (.inl ⟨rfl, rfl, rfl, by show 0 ≤ (x : Int); omega, by show (x : Int) < 64; omega, fun h => absurd rfl h⟩)
      · rw [if_neg d2]
        rcases h with ⟨k1, k2, k3, k4, k5⟩ | ⟨k1, -⟩ | ⟨k1, -⟩
        · have k6 := k5 rfl
          have hk : kindsI 1 = 2 := by decide
          rw [hk] at hls
          have hud := udL_bd (b := 1) (by decide) C (x : Int)
          rw [hk] at hud
          generalize lsum 1 C (x : Int) = r at hls ⊢
          rcases settle_cases c less ⟨0, p.s + p.y + r, p.s + r, x⟩ (lpLowF C (p.s + p.y + r) (p.s + r) x) (lpHighF C (p.s + p.y + r) (p.s + r) x) with ⟨e, -⟩ | ⟨e, -⟩ | ⟨e, e1, e2⟩
          · rw [e]; exact .inr (.inl ⟨rfl, rfl, rfl, by show 0 ≤ (x : Int); omega, by show (x : Int) < 64; omega, fun h => absurd rfl h⟩)
          · rw [e]; exact .inr (.inr ⟨rfl, rfl, rfl, rfl⟩)
          · rw [e]
            refine .inl ⟨rfl, ⟨?_, ?_⟩, ⟨by show 0 ≤ (x : Int); omega, by show (x : Int) < 64; omega⟩, fun h => absurd rfl h, fun _ => by show -272 ≤ 13 * (p.s + p.y + r) - 21 * (p.s + r) ∧ 13 * (p.s + p.y + r) - 21 * (p.s + r) ≤ 272; omega⟩
            · show -107 ≤ p.s + p.y + r
              apply Decidable.byContradiction
              intro hn
              have hy : p.s + r ≤ -54 := by omega
              unfold lpHighF at e1
              rw [fallV_up (by omega) (by omega)] at e1
              split at e1 <;> omega
            · show p.s + p.y + r ≤ 107
              apply Decidable.byContradiction
              intro hn
              have hy : 54 ≤ p.s + r := by omega
              unfold lpLowF at e2
              rw [fallV_up (by omega) (by omega)] at e2
              split at e2 <;> omega
        · exact absurd k1 d2
        · exact absurd (.inl k1) d1
  · rw [if_neg hb]
    unfold lpPlain
    by_cases d1 : p.f = 0
    · rw [if_pos d1]
      generalize p.s * b + lsum b C (x : Int) = s
      rcases settle_cases c less ⟨0, s, 0, 0⟩ (lpLowP C s) (lpHighP C s) with ⟨e, -⟩ | ⟨e, -⟩ | ⟨e, e1, e2⟩
      · rw [e]; exact .inr (.inl ⟨rfl, rfl, rfl, Int.le_refl _, by show (0 : Int) < 64; decide, fun _ => rfl⟩)
      · rw [e]; exact .inr (.inr ⟨rfl, rfl, rfl, rfl⟩)
      · rw [e]
        refine .inl ⟨rfl, ⟨?_, ?_⟩, by show (0 : Int) ≤ 0 ∧ (0 : Int) < 64; decide, fun _ => ⟨rfl, rfl⟩, fun h => absurd h hb⟩
        · show -107 ≤ s
          unfold lpHighP at e1
          split at e1 <;> omega
        · show s ≤ 107
          unfold lpLowP at e2
          split at e2 <;> omega
    · rw [if_neg d1]; exact h
end
end Go.Proofs.YthadkoplbgibgaeDoor

/- The developers' automaton of a sum takes its words; mathematics. -/
namespace Go.Proofs.YthadkoplbgibgaeDoor
open Go.RowKit

def lastI (w : List Int) : Int := w.getLastD 0
theorem lastI_snoc (w : List Int) (x : Int) : lastI (w ++ [x]) = x := by unfold lastI; rw [List.getLastD_eq_getLast?]; simp
theorem badL_app (b : Int) (tr : Nat) (w : List Int) (x : Int) (v : List Int) : badL b tr (w ++ x :: v) = (badL b tr (w ++ [x]) || badL b tr (x :: v)) := by
  induction w with
  | nil => simp [badL]
  | cons z w ih =>
    cases w with
    | nil => simp [badL]
    | cons z' w =>
      show (hitB b tr z z' || badL b tr (z' :: w ++ x :: v)) = ((hitB b tr z z' || badL b tr (z' :: w ++ [x])) || badL b tr (x :: v))
      rw [ih, Bool.or_assoc]
section
variable {b : Int} {C : List Int} {c : Int} {less : Bool}
theorem hit_clN (hM : codeM b (C.length : Int) = 0) {x y : Nat} (hx : x < lnM b C) (hy : y < lnM b C) : hitB b C.length (x : Int) (y : Int) = clB b x y := by
  have := hit_cl hM hx hy
  rwa [Int.toNat_natCast] at this
theorem hit_zero (hM : codeM b (C.length : Int) = 0) {y : Int} (hy : 0 ≤ y ∧ y < (lnM b C : Int)) : hitB b C.length 0 y = false := by
  obtain ⟨m1, -⟩ := manyU_bd hM
  have h0 : 0 < lnM b C := m1
  have := hit_clN hM h0 (show y.toNat < lnM b C by omega)
  rw [cl_zero, show ((y.toNat : Nat) : Int) = y by omega] at this
  exact this
theorem badL_zero (hM : codeM b (C.length : Int) = 0) {w : List Int} (hw : okW (lnM b C) w) : badL b C.length (0 :: w) = badL b C.length w := by
  cases w with
  | nil => rfl
  | cons y w =>
    show (hitB b C.length 0 y || badL b C.length (y :: w)) = _
    rw [hit_zero hM (hw y (by simp))]
    rfl
/-- A word and what comes behind it. -/
theorem badL_on (hM : codeM b (C.length : Int) = 0) {w v : List Int} (hv : okW (lnM b C) v) : badL b C.length (w ++ v) = (badL b C.length w || badL b C.length (lastI w :: v)) := by
  cases w using list_snoc_ind with
  | h0 =>
    show badL b C.length v = (false || badL b C.length (0 :: v))
    rw [badL_zero hM hv]; rfl
  | h1 u x _ =>
    rw [lastI_snoc, List.append_assoc]
    exact badL_app b C.length u x v
theorem lnRight_bad (w : List Int) : rightW b (C.length : Int) w = !badL b C.length w := (bad_right rfl w).symm
def runP (b : Int) (C : List Int) (p : Int × Int) (v : List Int) : Int × Int := v.foldl (fun p l => lnStep b p (lsum b C l)) p
theorem lnRun_app (w v : List Int) : lnRun b C (w ++ v) = runP b C (lnRun b C w) v := by simp [lnRun, runP, List.foldl_append]
/-- Below: no right word that goes on so comes to more than this. -/
theorem plain_low (h1 : 1 ≤ b) (h2 : b ≤ 6) (hb : b ≠ 1) : ∀ (v : List Int) (p : Int × Int) (s : Int), dnA C ≤ s → s ≤ p.1 → s ≤ (runP b C p v).1
  | [], _, _, _, h => h
  | z :: v, p, s, h, hp => by
    have hud := udL_bd h2 C z
    have hs := udL_sum b C z
    have hk : kindsI b = b := by unfold kindsI; split <;> omega
    rw [hk] at hud
    have e : runP b C p (z :: v) = runP b C (p.1 * b + lsum b C z, 0) v := by
      show runP b C (lnStep b p (lsum b C z)) v = _
      unfold lnStep
      rw [if_neg hb]
    rw [e]
    refine plain_low h1 h2 hb v _ s h ?_
    show s ≤ p.1 * b + lsum b C z
    have h5 : (b - 1) * dnA C ≤ (b - 1) * p.1 := Int.mul_le_mul_of_nonneg_left (by omega) (by omega)
    rw [Int.sub_mul, Int.sub_mul] at h5
    rw [Int.sub_mul, Int.sub_mul] at hud
    rw [Int.mul_comm b p.1] at h5
    omega
theorem plain_high (h1 : 1 ≤ b) (h2 : b ≤ 6) (hb : b ≠ 1) : ∀ (v : List Int) (p : Int × Int) (s : Int), s ≤ -upA C → p.1 ≤ s → (runP b C p v).1 ≤ s
  | [], _, _, _, h => h
  | z :: v, p, s, h, hp => by
    have hud := udL_bd h2 C z
    have hs := udL_sum b C z
    have hk : kindsI b = b := by unfold kindsI; split <;> omega
    rw [hk] at hud
    have e : runP b C p (z :: v) = runP b C (p.1 * b + lsum b C z, 0) v := by
      show runP b C (lnStep b p (lsum b C z)) v = _
      unfold lnStep
      rw [if_neg hb]
    rw [e]
    refine plain_high h1 h2 hb v _ s h ?_
    show p.1 * b + lsum b C z ≤ s
    have h5 : (b - 1) * p.1 ≤ (b - 1) * (-upA C) := Int.mul_le_mul_of_nonneg_left (by omega) (by omega)
    rw [Int.sub_mul, Int.sub_mul, Int.mul_neg] at h5
    rw [Int.sub_mul, Int.sub_mul] at hud
    rw [Int.mul_comm b p.1] at h5
    omega
theorem runP_fib (p : Int × Int) (v : List Int) : runP 1 C p v = v.foldl (fun (p : Int × Int) z => (p.1 + p.2 + lsum 1 C z, p.1 + lsum 1 C z)) p := by
  unfold runP lnStep
  simp
theorem fold_neg (r : Int → Int) : ∀ (v : List Int) (x y : Int), (v.foldl (fun (p : Int × Int) z => (p.1 + p.2 + -r z, p.1 + -r z)) (-x, -y)).1 = -(v.foldl (fun (p : Int × Int) z => (p.1 + p.2 + r z, p.1 + r z)) (x, y)).1
  | [], _, _ => rfl
  | z :: v, x, y => by
    have := fold_neg r v (x + y + r z) (x + r z)
    show (v.foldl _ (-x + -y + -r z, -x + -r z)).1 = -(v.foldl _ (x + y + r z, x + r z)).1
    rw [← this]
    congr 2
    rw [show -x + -y + -r z = -(x + y + r z) by omega, show -x + -r z = -(x + r z) by omega]
theorem fib_lowP {x y l : Int} {v : List Int} (hv : badL 1 C.length (l :: v) = false) (h1 : -900 ≤ x - dnA C ∧ x - dnA C ≤ 900) (h2 : -900 ≤ x - dnA C + (y - dnA C + dnL 1 C l) ∧ x - dnA C + (y - dnA C + dnL 1 C l) ≤ 900) :
    fallV (x - dnA C) (y - dnA C + dnL 1 C l) = -2199023255552 ∨ fallV (x - dnA C) (y - dnA C + dnL 1 C l) + dnA C ≤ (runP 1 C (x, y) v).1 := by
  rcases fallV_is h1 h2 with h | h
  · exact .inl h
  · refine .inr ?_
    have hf := fib_low (r := lsum 1 C) (dn := dnL 1 C) (D := dnA C) (t := C.length) (fun z => by have := udL_sum 1 C z; have := udL_bd (b := 1) (by decide) C z; omega) (fun l z h => (udL_two h).2) v x y l (x - dnA C) (x - dnA C + (y - dnA C + dnL 1 C l)) (Int.le_refl _) (by omega) hv
    rw [runP_fib]
    have := h v.length
    omega
theorem fib_highP {x y l : Int} {v : List Int} (hv : badL 1 C.length (l :: v) = false) (h1 : -900 ≤ -x - upA C ∧ -x - upA C ≤ 900) (h2 : -900 ≤ -x - upA C + (-y - upA C + upL 1 C l) ∧ -x - upA C + (-y - upA C + upL 1 C l) ≤ 900) :
    fallV (-x - upA C) (-y - upA C + upL 1 C l) = -2199023255552 ∨ (runP 1 C (x, y) v).1 ≤ -fallV (-x - upA C) (-y - upA C + upL 1 C l) - upA C := by
  rcases fallV_is h1 h2 with h | h
  · exact .inl h
  · refine .inr ?_
    have hf := fib_low (r := fun z => -lsum 1 C z) (dn := upL 1 C) (D := upA C) (t := C.length) (fun z => by have := udL_sum 1 C z; have := udL_bd (b := 1) (by decide) C z; show -upL 1 C z ≤ -lsum 1 C z; omega) (fun l z h => (udL_two h).1) v (-x) (-y) l (-x - upA C) (-x - upA C + (-y - upA C + upL 1 C l)) (Int.le_refl _) (by omega) hv
    rw [fold_neg (lsum 1 C) v x y] at hf
    rw [runP_fib]
    have := h v.length
    omega
/-- What a point tells of the word that led to it. -/
def LpInv (b : Int) (C : List Int) (c : Int) (less : Bool) (w : List Int) (p : LPt) : Prop :=
  LpOk b p ∧ (p.f = 0 → badL b C.length w = false ∧ lnRun b C w = (p.s, p.y) ∧ (b = 1 → p.l = lastI w)) ∧
  (p.f = 1 → less = true ∧ badL b C.length w = false ∧ (b = 1 → p.l = lastI w) ∧ ∀ v, okW (lnM b C) v → badL b C.length (w ++ v) = false → (lnRun b C (w ++ v)).1 < -c) ∧
  (p.f = 2 → ∀ v, okW (lnM b C) v → lineW b C c less (w ++ v) = false)
theorem lpInv_end {w : List Int} {p : LPt} (h : LpInv b C c less w p) : lpEnd c less p = lineW b C c less w := by
  obtain ⟨h0, h1, h2, h3⟩ := h
  unfold lpEnd
  rcases h0 with ⟨k, -⟩ | ⟨k, -⟩ | ⟨k, -⟩
  · obtain ⟨a1, a2, -⟩ := h1 k
    unfold lineW
    rw [lnRight_bad, a1, a2, k]
    simp
  · obtain ⟨a1, a2, -, a3⟩ := h2 k
    have := a3 [] (fun _ h => by simp at h) (by rw [List.append_nil]; exact a2)
    rw [List.append_nil] at this
    unfold lineW
    rw [lnRight_bad, a2, k, a1]
    unfold lnEnd
    simp
    omega
  · have := h3 k [] (fun _ h => by simp at h)
    rw [List.append_nil] at this
    rw [this, k]
    simp
theorem lpInv_start : LpInv b C c less [] ⟨0, 0, 0, 0⟩ := ⟨lpOk_start b, fun _ => ⟨rfl, rfl, fun _ => rfl⟩, fun h => absurd h (by decide), fun h => absurd h (by decide)⟩
theorem lineW_no_bad {w : List Int} (h : badL b C.length w = true) : lineW b C c less w = false := by unfold lineW; rw [lnRight_bad, h]; rfl
theorem badL_plain (hb : b ≠ 1) (tr : Nat) : ∀ w : List Int, badL b tr w = false
  | [] => rfl
  | [_] => rfl
  | x :: y :: r => by
    show (hitB b tr x y || badL b tr (y :: r)) = false
    rw [badL_plain hb tr (y :: r)]
    unfold hitB
    simp [hb]
/-- What is settled is settled rightly. -/
theorem settle_inv {w : List Int} {p : LPt} {low high : Int} (hc : -60 ≤ c ∧ c ≤ 60) (hok : LpOk b (lpSettle c less p low high)) (hf : p.f = 0) (h0 : badL b C.length w = false) (h1 : lnRun b C w = (p.s, p.y)) (h2 : b = 1 → p.l = lastI w)
    (hlow : low ≤ -100 ∨ ∀ v, okW (lnM b C) v → badL b C.length (w ++ v) = false → low ≤ (lnRun b C (w ++ v)).1)
    (hhigh : 100 ≤ high ∨ ∀ v, okW (lnM b C) v → badL b C.length (w ++ v) = false → (lnRun b C (w ++ v)).1 ≤ high) : LpInv b C c less w (lpSettle c less p low high) := by
  rcases settle_cases c less p low high with ⟨e, e1, e2⟩ | ⟨e, e1⟩ | ⟨e, -⟩
  · rw [e] at hok ⊢
    refine ⟨hok, fun h => absurd h (by show ¬ (1 : Int) = 0; decide), fun _ => ⟨e1, h0, h2, fun v hv hb => ?_⟩, fun h => absurd h (by show ¬ (1 : Int) = 2; decide)⟩
    rcases hhigh with h | h
    · omega
    · have := h v hv hb; omega
  · rw [e] at hok ⊢
    refine ⟨hok, fun h => absurd h (by show ¬ (2 : Int) = 0; decide), fun h => absurd h (by show ¬ (2 : Int) = 1; decide), fun _ v hv => ?_⟩
    by_cases hb : badL b C.length (w ++ v) = true
    · exact lineW_no_bad hb
    · have hb' : badL b C.length (w ++ v) = false := by simpa using hb
      unfold lineW lnEnd
      rw [lnRight_bad, hb']
      rcases e1 with ⟨k1, k2⟩ | k2 | ⟨k1, k2⟩
      · rcases hhigh with h | h
        · omega
        · have := h v hv hb'
          subst k1
          simp; omega
      · rcases hlow with h | h
        · omega
        · have := h v hv hb'
          cases less <;> simp <;> omega
      · rcases hlow with h | h
        · omega
        · have := h v hv hb'
          subst k1
          simp; omega
  · rw [e] at hok ⊢
    refine ⟨hok, fun _ => ⟨h0, h1, h2⟩, fun h => absurd (hf.symm.trans h) (by decide), fun h => absurd (hf.symm.trans h) (by decide)⟩
theorem lpInv_step {w : List Int} {p : LPt} {x : Nat} (hM : codeM b (C.length : Int) = 0) (h12 : absT C C.length ≤ 12) (hc : -60 ≤ c ∧ c ≤ 60) (hw : okW (lnM b C) w) (hx : x < lnM b C) (h : LpInv b C c less w p) : LpInv b C c less (w ++ [(x : Int)]) (lpStep b C c less p x) := by
  obtain ⟨h1, h2, -⟩ := codeM_zero hM
  obtain ⟨m1, m36⟩ := manyU_bd hM
  have hx36 : x < 36 := Nat.lt_of_lt_of_le hx m36
  have hok := lpStep_ok (c := c) (less := less) h1 h2 h12 hc (show x < 64 by omega) h.1
  obtain ⟨k0, k1, k2, k3⟩ := h
  have hA := udA h12
  have hxw : okW (lnM b C) [(x : Int)] := fun y hy => by simp at hy; subst hy; omega
  have hcat : ∀ v, okW (lnM b C) v → okW (lnM b C) ((x : Int) :: v) := fun v hv => okW_append.2 ⟨hxw, hv⟩
  have happ : ∀ v : List Int, w ++ [(x : Int)] ++ v = w ++ (x : Int) :: v := fun v => by simp
  have hbd := lpOk_bd k0
  unfold lpStep at hok ⊢
  by_cases hb : b = 1
  · subst hb
    rw [if_pos rfl] at hok ⊢
    unfold lpFib at hok ⊢
    have hlm : ∀ hl : p.l = lastI w, lastI w = ((p.l.toNat : Nat) : Int) ∧ p.l.toNat < lnM 1 C := fun hl => by
      refine ⟨by omega, ?_⟩
      cases w using list_snoc_ind with
      | h0 => rw [hl]; exact m1
      | h1 u y _ =>
        rw [lastI_snoc] at hl
        have := hw y (by simp)
        omega
    have hcl : ∀ hl : p.l = lastI w, badL 1 C.length w = false → badL 1 C.length (w ++ [(x : Int)]) = decide (p.l.toNat &&& x ≠ 0) := fun hl h0 => by
      rw [badL_on hM hxw, h0]
      obtain ⟨e1, e2⟩ := hlm hl
      rw [e1]
      show (false || (hitB 1 C.length ((p.l.toNat : Nat) : Int) (x : Int) || false)) = _
      rw [hit_clN hM e2 hx]
      unfold clB
      simp
    by_cases d1 : p.f = 2 ∨ p.l.toNat &&& x ≠ 0
    · rw [if_pos d1] at hok ⊢
      refine ⟨hok, fun h => absurd h (by show ¬ (2 : Int) = 0; decide), fun h => absurd h (by show ¬ (2 : Int) = 1; decide), fun _ v hv => ?_⟩
      by_cases d3 : p.f = 2
      · rw [happ]; exact k3 d3 _ (hcat v hv)
      · have d4 : p.l.toNat &&& x ≠ 0 := d1.resolve_left d3
        have hh : badL 1 C.length w = false ∧ p.l = lastI w := by
          rcases k0 with ⟨q, -⟩ | ⟨q, -⟩ | ⟨q, -⟩
          · exact ⟨(k1 q).1, (k1 q).2.2 rfl⟩
          · exact ⟨(k2 q).2.1, (k2 q).2.2.1 rfl⟩
          · exact absurd q d3
        have h5 := hcl hh.2 hh.1
        rw [decide_eq_true d4] at h5
        refine lineW_no_bad ?_
        rw [badL_on hM hv, h5]; rfl
    · rw [if_neg d1] at hok ⊢
      have d4 : ¬ (p.l.toNat &&& x ≠ 0) := fun h => d1 (.inr h)
      have d5 : p.f ≠ 2 := fun h => d1 (.inl h)
      by_cases d2 : p.f = 1
      · rw [if_pos d2] at hok ⊢
        obtain ⟨a1, a2, a3, a4⟩ := k2 d2
        have h5 := hcl (a3 rfl) a2
        rw [decide_eq_false d4] at h5
        exact ⟨hok, fun h => absurd h (by show ¬ (1 : Int) = 0; decide), fun _ => ⟨a1, h5, fun _ => (lastI_snoc _ _).symm, fun v hv hbv => by rw [happ] at hbv ⊢; exact a4 _ (hcat v hv) hbv⟩, fun h => absurd h (by show ¬ (1 : Int) = 2; decide)⟩
      · rw [if_neg d2] at hok ⊢
        have d0 : p.f = 0 := by omega
        obtain ⟨a1, a2, a3⟩ := k1 d0
        have h5 := hcl (a3 rfl) a1
        rw [decide_eq_false d4] at h5
        have hrun : lnRun 1 C (w ++ [(x : Int)]) = (p.s + p.y + lsum 1 C x, p.s + lsum 1 C x) := by rw [lnRun_snoc, a2]; rfl
        have hls := lsum_bd h2 h12 (x : Int)
        have hk : kindsI 1 = 2 := by decide
        have hud := udL_bd (b := 1) (by decide) C (x : Int)
        rw [hk] at hls hud
        have hgo : ∀ v, okW (lnM 1 C) v → badL 1 C.length (w ++ [(x : Int)] ++ v) = false → badL 1 C.length ((x : Int) :: v) = false := fun v hv hbv => by
          rw [badL_on hM hv, h5, lastI_snoc] at hbv
          simpa using hbv
        refine settle_inv hc hok rfl h5 hrun (fun _ => (lastI_snoc _ _).symm) ?_ ?_
        · unfold lpLowF
          by_cases hfar : fallV (p.s + p.y + lsum 1 C x - dnA C) (p.s + lsum 1 C x - dnA C + dnL 1 C x) = -2199023255552
          · left; omega
          · right
            intro v hv hbv
            rw [lnRun_app, hrun]
            rcases fib_lowP (x := p.s + p.y + lsum 1 C x) (y := p.s + lsum 1 C x) (hgo v hv hbv) (by omega) (by omega) with h | h
            · exact absurd h hfar
            · exact h
        · unfold lpHighF
          by_cases hfar : fallV (-(p.s + p.y + lsum 1 C x) - upA C) (-(p.s + lsum 1 C x) - upA C + upL 1 C x) = -2199023255552
          · left; omega
          · right
            intro v hv hbv
            rw [lnRun_app, hrun]
            rcases fib_highP (x := p.s + p.y + lsum 1 C x) (y := p.s + lsum 1 C x) (hgo v hv hbv) (by omega) (by omega) with h | h
            · exact absurd h hfar
            · exact h
  · rw [if_neg hb] at hok ⊢
    unfold lpPlain at hok ⊢
    by_cases d1 : p.f = 0
    · rw [if_pos d1] at hok ⊢
      obtain ⟨a1, a2, a3⟩ := k1 d1
      have hrun : lnRun b C (w ++ [(x : Int)]) = (p.s * b + lsum b C x, 0) := by
        rw [lnRun_snoc, a2]
        unfold lnStep
        rw [if_neg hb]
      refine settle_inv hc hok rfl (badL_plain hb _ _) hrun (fun h => absurd h hb) ?_ ?_
      · unfold lpLowP
        by_cases hD : dnA C ≤ p.s * b + lsum b C x
        · rw [if_pos hD]
          exact .inr fun v _ _ => by rw [lnRun_app, hrun]; exact plain_low h1 h2 hb v _ _ hD (Int.le_refl _)
        · rw [if_neg hD]; left; decide
      · unfold lpHighP
        by_cases hD : p.s * b + lsum b C x ≤ -upA C
        · rw [if_pos hD]
          exact .inr fun v _ _ => by rw [lnRun_app, hrun]; exact plain_high h1 h2 hb v _ _ hD (Int.le_refl _)
        · rw [if_neg hD]; left; decide
    · rw [if_neg d1] at hok ⊢
      refine ⟨hok, fun h => absurd h d1, fun h => ?_, fun h v hv => by rw [happ]; exact k3 h _ (hcat v hv)⟩
      obtain ⟨a1, a2, a3, a4⟩ := k2 h
      exact ⟨a1, badL_plain hb _ _, fun h => absurd h hb, fun v hv hbv => by rw [happ] at hbv ⊢; exact a4 _ (hcat v hv) hbv⟩
/-- By numbers. -/
def lpD (b : Int) (C : List Int) (c : Int) (less : Bool) (s l : Nat) : Nat := ptN (lpStep b C c less (unpt s) l)
theorem lp_run (h : lnF b C c = 0) (less : Bool) (w : List Int) (hw : okW (lnM b C) w) : LpInv b C c less w (unpt (runG (lpD b C c less) 1506816 w)) ∧ runG (lpD b C c less) 1506816 w = ptN (unpt (runG (lpD b C c less) 1506816 w)) := by
  obtain ⟨hM, h12, hc⟩ := lnF_zero h
  induction w using list_snoc_ind with
  | h0 =>
    have e : runG (lpD b C c less) 1506816 [] = 1506816 := rfl
    rw [e, lp_start.1]
    exact ⟨lpInv_start, lp_start.2.symm⟩
  | h1 w y ih =>
    obtain ⟨hw1, hw2⟩ := okW_append.1 hw
    have hy := hw2 y (by simp)
    obtain ⟨i1, i2⟩ := ih hw1
    have hs := lpInv_step (x := y.toNat) hM h12 hc hw1 (by omega) i1
    rw [show ((y.toNat : Nat) : Int) = y by omega] at hs
    have hu := unpt_pt hs.1
    rw [runG_snoc]
    unfold lpD at i1 i2 hs hu ⊢
    rw [hu.1]
    exact ⟨hs, rfl⟩
def lpL (b : Int) (C : List Int) (c : Int) (less : Bool) : List Nat := outG (lpD b C c less) (lnM b C) 1506816 3013824
def lpN (b : Int) (C : List Int) (c : Int) (less : Bool) : List (List Int) := gN (lpD b C c less) (lnM b C) (lpL b C c less)
def lpE (b : Int) (C : List Int) (c : Int) (less : Bool) : List Bool := gE (fun s => lpEnd c less (unpt s)) (lpL b C c less)
theorem lp_few (h : lnF b C c = 0) (less : Bool) (w : List Int) (hw : okW (lnM b C) w) : runG (lpD b C c less) 1506816 w < 3013824 := by
  obtain ⟨h1, h2⟩ := lp_run h less w hw
  have := (unpt_pt h1.1).2
  omega
theorem lpL_ok (h : lnF b C c = 0) (less : Bool) : ClosedG (lpD b C c less) (lnM b C) (lpL b C c less) ∧ 0 < (lpL b C c less).length ∧ (lpL b C c less).length ≤ 3013824 ∧ (lpL b C c less).getD 0 0 = 1506816 := by
  have := outG_done (d := lpD b C c less) (m := lnM b C) (f := 1506816) (B := 3013824) (fun w hw => lp_few h less w hw)
  unfold lpL
  exact this
theorem lp_all (h : lnF b C c = 0) (less : Bool) : GoodN (lnM b C) (lpN b C c less).length (lpN b C c less) ∧ ∀ w, okW (lnM b C) w → tkB (lpN b C c less) (lpE b C c less) w = lineW b C c less w := by
  obtain ⟨hM, -⟩ := lnF_zero h
  obtain ⟨m1, m36⟩ := manyU_bd hM
  obtain ⟨k1, k2, k3, k4⟩ := lpL_ok h less
  constructor
  · have hg := gN_good k1 k2 (by omega) m1 m36
    have e : (lpN b C c less).length = (lpL b C c less).length := gN_len _ _ _
    rw [e]
    exact hg
  · intro w hw
    have ht := gN_tk (p := fun s => lpEnd c less (unpt s)) k1 k2 w hw
    rw [k4] at ht
    rw [← lpInv_end (lp_run h less w hw).1]
    exact ht
end
end Go.Proofs.YthadkoplbgibgaeDoor

/- What package right answers. -/
namespace Go.Proofs.YthadkoplbgibgaeDoor
open Go.RowKit

/-- What was handed back, in the box that it is put into. -/
theorem autoAt_pair {w W : World} {b t : Int} {a : Option Addr} {n c : Nat} {a' : Option Addr} {c' : Nat} {N : List (List Int)} {E : List Bool} (T : TypeId) (h : AutoNew w a n N a' E W) : AutoAt (W.alloc (.cells #[.int .i64 b, .int .i64 t, .slice a n c, .slice a' n c'] T)) W.heap.size b t a n c a' n c' N E ∧ Below W.heap.size W (W.alloc (.cells #[.int .i64 b, .int .i64 t, .slice a n c, .slice a' n c'] T)) :=
  ⟨autoAt_new h.here.1 h.here.2, (Below.refl _ _).alloc (Nat.le_refl _) _⟩
end Go.Proofs.YthadkoplbgibgaeDoor

/- What package line answers. -/
namespace Go.Proofs.YthadkoplbgibgaeDoor
open Go.RowKit

/-- Numbers that may be handed in. -/
def numOk (nums : List Int) : Bool := nums.all fun x => decide (0 ≤ x ∧ x ≤ 1099511627776)
def hdC (C : List Int) (c : Int) (nums : List Int) : Int := if (C.length ≤ 5 ∧ absT C C.length ≤ 12) ∧ -60 ≤ c ∧ c ≤ 60 then (if nums.length = C.length then (if numOk nums = true then 0 else 1) else 2) else 1
def hdB (C : List Int) (c : Int) (less : Bool) (nums : List Int) : Bool := if hdC C c nums = 0 then lnEnd c less (sumT C (fun i => nums.getD i 0) C.length) else false
/-- What package line answers. -/
def LineSays : Prop := ∀ (b : Int) (a : Option Addr) (n cap : Nat) (C : List Int) (c : Int) (less : Bool) (W : World), Sl W a n C → Calls Tryd.prog 14 #[.int .i64 b, .slice a n cap, .int .i64 c, .bool less] W (PairR W (okI (lnC b C c less) b) (okI (lnC b C c less) (n : Int)) (lnN b C c less) (lnE b C c less) (lnC b C c less))
def HoldsSays : Prop := ∀ (a : Option Addr) (n cap : Nat) (C : List Int) (c : Int) (less : Bool) (a2 : Option Addr) (n2 cap2 : Nat) (nums : List Int) (W : World), Sl W a n C → Sl W a2 n2 nums → Calls Tryd.prog 16 #[.slice a n cap, .int .i64 c, .bool less, .slice a2 n2 cap2] W fun e w' => e = .returned (.tuple #[.bool (hdB C c less nums), errV (hdC C c nums)]) ∧ Below W.heap.size W w'
theorem numOk_at {nums : List Int} (h : numOk nums = true) {i : Nat} (hi : i < nums.length) : 0 ≤ nums.getD i 0 ∧ nums.getD i 0 ≤ 1099511627776 := by
  unfold numOk at h
  rw [List.all_eq_true] at h
  have := h (nums.getD i 0) (by rw [getD_at _ i hi]; exact List.getElem_mem hi)
  simpa using this
theorem numOk_of {nums : List Int} (h : ∀ i, i < nums.length → 0 ≤ nums.getD i 0 ∧ nums.getD i 0 ≤ 1099511627776) : numOk nums = true := by
  unfold numOk
  rw [List.all_eq_true]
  intro x hx
  obtain ⟨i, hi, rfl⟩ := List.getElem_of_mem hx
  have := h i hi
  rw [getD_at _ i hi] at this
  simpa using this
theorem numOk_not {nums : List Int} {i : Nat} (hi : i < nums.length) (h : ¬ (0 ≤ nums.getD i 0 ∧ nums.getD i 0 ≤ 1099511627776)) : numOk nums ≠ true := fun e => h (numOk_at e hi)
/-- How far a sum can come. -/
theorem sum_far {C nums : List Int} (h12 : absT C C.length ≤ 12) {k : Nat} (hk : k ≤ C.length) (hn : ∀ i, i < k → 0 ≤ nums.getD i 0 ∧ nums.getD i 0 ≤ 1099511627776) : -13194139533312 ≤ sumT C (fun i => nums.getD i 0) k ∧ sumT C (fun i => nums.getD i 0) k ≤ 13194139533312 := by
  have h := sumT_bd C (fun i => nums.getD i 0) 1099511627776 k hn
  have h2 := absT_mono C hk
  have h3 : absT C k * 1099511627776 ≤ 13194139533312 := by omega
  omega
theorem mul_far {C : List Int} (h12 : absT C C.length ≤ 12) {k : Nat} (hk : k < C.length) {y : Int} (h0 : 0 ≤ y) (h1 : y ≤ 1099511627776) : -13194139533312 ≤ C.getD k 0 * y ∧ C.getD k 0 * y ≤ 13194139533312 := by
  have h := mul_bd (x := C.getD k 0) h0 h1
  have h2 := absT_at C hk
  have h3 : absI (C.getD k 0) * 1099511627776 ≤ 13194139533312 := by omega
  omega
end Go.Proofs.YthadkoplbgibgaeDoor

/- The reference's SizeOf, LineFault: contracts. -/
namespace Go.Proofs.YthadkoplbgibgaeDoor
open Go.RowKit

/-- One above 12: it is more. -/
def sizeI (C : List Int) : Int := if absT C C.length ≤ 12 then absT C C.length else 13
theorem sizeI_more (C : List Int) {k : Nat} (hk : k ≤ C.length) (h : 12 < absT C k) : sizeI C = 13 := by
  have := absT_mono C hk
  unfold sizeI
  rw [if_neg (by omega)]
theorem sizeI_12 (C : List Int) : (sizeI C ≤ 12 ↔ absT C C.length ≤ 12) ∧ 0 ≤ sizeI C ∧ sizeI C ≤ 13 := by
  have := absT_nn C C.length
  unfold sizeI
  split <;> omega
set_option maxHeartbeats 4000000 in
set_option maxRecDepth 4000 in
theorem sizeOf_any (a : Option Addr) (n cap : Nat) (C : List Int) (w : World) (hs : Sl w a n C) :
    Calls Tryd.prog 15 #[.slice a n cap] w fun e w' => e = .returned (.int .i64 (sizeI C)) ∧ w' = w := by
  have hL := hs.1
  have hML := hs.2.1
  unfold maxLen at hML
  have HS := hide hs
  have HMO := hide (fun k hk h => @sizeI_more C k hk h)
  have HSUC : Hid (∀ k, absT C (k + 1) = absT C k + absI (C.getD k 0)) := fun k => rfl
  have HNN := hide (fun k => absT_nn C k)
  have HEND : Hid (absT C C.length ≤ 12 → sizeI C = absT C C.length) := fun h => by unfold sizeI; rw [if_pos h]
  have HZ : Hid (absT C 0 = 0) := rfl
  rw [hL] at HMO HEND
  clear hs hL
  generalize hA : absT C = A at HMO HSUC HNN HEND HZ
  clear hA
  generalize sizeI C = sz at HMO HEND ⊢
  go_enter Tryd.func15, Tryd.ntmps15
  go_wp2
  go_loop [3, 4] (fun sv iv => ∃ k : Nat, k ≤ n ∧ iv = .int .i64 k ∧ sv = .int .i64 (A k) ∧ A k ≤ 12) (fun _ iv => n - (intOf iv).toNat)
  case atStart => exact ⟨0, by omega, rfl, by rw [HZ.out], by rw [HZ.out]; decide⟩
  case round =>
    obtain ⟨k, hk, rfl, rfl, h12⟩ := hrel
    have hnn := HNN.out k
    by_cases hlt : k < n
    · have hlti : (k : Int) < (n : Int) := by omega
      obtain ⟨b1, o1, rfl, hc⟩ := sl_cell HS.out k hlt
      have hsuc := HSUC.out k
      have HM := hide (HMO.out (k + 1) hlt)
      have hnn2 := HNN.out (k + 1)
      generalize C.getD k 0 = x at hc hsuc
      generalize A k = z at hsuc h12 hnn
      unfold absI at hsuc
      by_cases h1 : x < -12
      · obtain rfl : sz = 13 := HM.out (by rw [if_pos (by omega)] at hsuc; omega)
        clear hsuc hnn hnn2
        go_wp2
        go_ret
        exact ⟨by simp, rfl⟩
      · have h1' : decide (x < -12) = false := by simp; omega
        by_cases h2 : x > 12
        · obtain rfl : sz = 13 := HM.out (by rw [if_neg (by omega)] at hsuc; omega)
          clear hsuc hnn hnn2
          go_wp2
          go_ret
          exact ⟨by simp, rfl⟩
        · have h2' : decide (x > 12) = false := by simp; omega
          by_cases h3 : x < 0
          · rw [if_pos h3] at hsuc
            by_cases h4 : z + -x > 12
            · obtain rfl : sz = 13 := HM.out (by omega)
              clear hsuc hnn2
              go_wp2
              go_ret
              exact ⟨by simp, rfl⟩
            · have HY := hide hsuc
              clear hsuc hnn2
              go_wp2
              go_round
              case rel => exact ⟨k + 1, by omega, by go_num, by rw [HY.out], by have := HY.out; omega⟩
              case measure => simp [intOf]; omega
          · rw [if_neg h3] at hsuc
            by_cases h4 : z + x > 12
            · obtain rfl : sz = 13 := HM.out (by omega)
              clear hsuc hnn2
              go_wp2
              go_ret
              exact ⟨by simp, rfl⟩
            · have HY := hide hsuc
              clear hsuc hnn2
              go_wp2
              go_round
              case rel => exact ⟨k + 1, by omega, by go_num, by rw [HY.out], by have := HY.out; omega⟩
              case measure => simp [intOf]; omega
    · have hlti : ¬ (k : Int) < (n : Int) := by omega
      obtain rfl : k = n := by omega
      have he := HEND.out h12
      go_wp2
      go_ret
      exact ⟨by simp, rfl⟩

set_option maxHeartbeats 4000000 in
set_option maxRecDepth 4000 in
theorem lineFault_any (b : Int) (a : Option Addr) (n cap : Nat) (C : List Int) (c : Int) (w : World) (hs : Sl w a n C) :
    Calls Tryd.prog 29 #[.int .i64 b, .slice a n cap, .int .i64 c] w fun e w' => e = .returned (.int .i64 (lnF b C c)) ∧ w' = w := by
  have hL := hs.1
  have HLT := hide (letters_u b (n : Int) w)
  have HSO := hide (sizeOf_any a n cap C w hs)
  have h13 := sizeI_12 C
  unfold lnF
  rw [hL]
  rw [hL] at h13
  clear hs hL
  generalize codeM b (n : Int) = cM at HLT ⊢
  generalize manyU b (n : Int) = mM at HLT
  generalize absT C n = A at h13 ⊢
  generalize sizeI C = sz at HSO h13
  by_cases hM : cM = 0
  · subst hM
    by_cases h1 : A ≤ 12
    · have hsz : decide (sz > 12) = false := by simp; omega
      by_cases h2 : c < -60
      · rw [if_pos rfl, if_neg (by omega)]
        clear h13
        go_enter Tryd.func29, Tryd.ntmps29
        go_wp2_with (first
          | (go_at_call 5; refine HLT.out.mono ?_; rintro e w' ⟨rfl, hw⟩; rw [hw]; clear hw w')
          | (go_at_call 15; refine HSO.out.mono ?_; rintro e w' ⟨rfl, hw⟩; rw [hw]; clear hw w'))
        go_ret
        exact ⟨by simp, rfl⟩
      · have h2' : decide (c < -60) = false := by simp; omega
        by_cases h3 : c > 60
        · rw [if_pos rfl, if_neg (by omega)]
          clear h13
          go_enter Tryd.func29, Tryd.ntmps29
          go_wp2_with (first
            | (go_at_call 5; refine HLT.out.mono ?_; rintro e w' ⟨rfl, hw⟩; rw [hw]; clear hw w')
            | (go_at_call 15; refine HSO.out.mono ?_; rintro e w' ⟨rfl, hw⟩; rw [hw]; clear hw w'))
          go_ret
          exact ⟨by simp, rfl⟩
        · have h3' : decide (c > 60) = false := by simp; omega
          rw [if_pos rfl, if_pos (by omega)]
          clear h13
          go_enter Tryd.func29, Tryd.ntmps29
          go_wp2_with (first
            | (go_at_call 5; refine HLT.out.mono ?_; rintro e w' ⟨rfl, hw⟩; rw [hw]; clear hw w')
            | (go_at_call 15; refine HSO.out.mono ?_; rintro e w' ⟨rfl, hw⟩; rw [hw]; clear hw w'))
          go_ret
          exact ⟨by simp, rfl⟩
    · have hsz : sz > 12 := by omega
      rw [if_pos rfl, if_neg (by omega)]
      clear h13
      go_enter Tryd.func29, Tryd.ntmps29
      go_wp2_with (first
        | (go_at_call 5; refine HLT.out.mono ?_; rintro e w' ⟨rfl, hw⟩; rw [hw]; clear hw w')
        | (go_at_call 15; refine HSO.out.mono ?_; rintro e w' ⟨rfl, hw⟩; rw [hw]; clear hw w'))
      go_ret
      exact ⟨by simp, rfl⟩
  · have hMb : (cM == 0) = false := by simp [hM]
    rw [if_neg hM]
    clear h13
    go_enter Tryd.func29, Tryd.ntmps29
    go_wp2_with (go_at_call 5; refine HLT.out.mono ?_; rintro e w' ⟨rfl, hw⟩; rw [hw]; clear hw w')
    go_ret
    exact ⟨by simp, rfl⟩
end Go.Proofs.YthadkoplbgibgaeDoor
