/- 9 texts in one. -/
import Derived.Deep.RegionHeldLaw
import Derived.Deep.RegionLaw
import Derived.Laws.AppendOwnNone
import Derived.BigQuiet
import Derived.BigRegion
import Derived.Test.YtgbmemkoggogdaaDoorZNx
import Derived.Test.YtgbmemkoggogdaaDoorBx
import Derived.Test.YtgbmemkoggogdaaDoorBy
import Derived.Test.YtgbmemkoggogdaaDoorZMp
import Derived.Test.YtgbmemkoggogdaaDoorZCf
import Derived.Test.YtgbmemkoggogdaaDoorZDb
import Derived.Test.YtgbmemkoggogdaaDoorDd
import Derived.Test.YtgbmemkoggogdaaDoorZDg
import Derived.Test.YtgbmemkoggogdaaDoorZGc
import Derived.Test.YtgbmemkoggogdaaDoorEa
import Derived.Test.YtgbmemkoggogdaaDoorZLp
import Derived.Test.YtgbmemkoggogdaaDoorRe
/- Right words: the automaton of them; mathematics. -/
namespace Go.Proofs.YtgbmemkoggogdaaDoor
open Go.RowKit

/-- Letters that may not follow: a 1 below a 1, in base 1 (Fibonacci's). -/
def hitB (b : Int) (tr : Nat) (x y : Int) : Bool := (List.range tr).any fun k => decide (b = 1) && decide (dOf b tr x k = 1) && decide (dOf b tr y k = 1)
/-- Where letter l leads from state s: 0: none was read; s + 1: letter s was; m + 1: it went wrong. -/
def arT (b : Int) (tr m s l : Nat) : Nat := if s = m + 1 then m + 1 else if 0 < s ∧ hitB b tr ((s : Int) - 1) (l : Int) = true then m + 1 else l + 1
def arN (b : Int) (tr m : Nat) : List (List Int) := (List.range (m + 2)).map fun s => (List.range m).map fun l => ((arT b tr m s l : Nat) : Int)
def arE (m : Nat) : List Bool := (List.range (m + 2)).map fun s => decide (s ≤ m)
theorem arN_len (b : Int) (tr m : Nat) : (arN b tr m).length = m + 2 := by simp [arN]
theorem arE_len (m : Nat) : (arE m).length = m + 2 := by simp [arE]
theorem arN_row {b : Int} {tr m s : Nat} (hs : s < m + 2) : (arN b tr m).getD s [] = (List.range m).map fun l => ((arT b tr m s l : Nat) : Int) := by simp [arN, List.getD, hs]
theorem arN_cell {b : Int} {tr m s l : Nat} (hs : s < m + 2) (hl : l < m) : ((arN b tr m).getD s []).getD l 0 = ((arT b tr m s l : Nat) : Int) := by rw [arN_row hs]; simp [List.getD, hl]
theorem arE_get {m s : Nat} (hs : s < m + 2) : (arE m).getD s false = decide (s ≤ m) := by simp [arE, List.getD, hs]
theorem arT_lt {b : Int} {tr m s l : Nat} (hl : l < m) : arT b tr m s l < m + 2 := by unfold arT; split; omega; split <;> omega
theorem ar_good (b : Int) (tr : Nat) {m : Nat} (h1 : 1 ≤ m) (h36 : m ≤ 36) : GoodN m (m + 2) (arN b tr m) := by
  refine ⟨arN_len _ _ _, by omega, by omega, h36, h1, fun s hs => ⟨by rw [arN_row hs]; simp, fun j hj => ?_⟩⟩
  rw [arN_cell hs hj]
  have := arT_lt (b := b) (tr := tr) (s := s) hj
  omega
/-- Has it gone wrong somewhere? -/
def badL (b : Int) (tr : Nat) : List Int → Bool
  | x :: y :: r => hitB b tr x y || badL b tr (y :: r)
  | _ => false
theorem badL_snoc (b : Int) (tr : Nat) (w : List Int) (x y : Int) : badL b tr (w ++ [x] ++ [y]) = (badL b tr (w ++ [x]) || hitB b tr x y) := by
  induction w with
  | nil => simp [badL]
  | cons z w ih =>
    cases w with
    | nil => simp [badL]
    | cons z' w =>
      show (hitB b tr z z' || badL b tr (z' :: w ++ [x] ++ [y])) = _
      rw [ih]
      show _ = ((hitB b tr z z' || badL b tr (z' :: w ++ [x])) || hitB b tr x y)
      rw [Bool.or_assoc]
theorem ar_step {b : Int} {tr m s : Nat} (hs : s < m + 2) {x : Int} (hx : 0 ≤ x ∧ x < (m : Int)) : stepL (arN b tr m) s x = arT b tr m s x.toNat := by
  unfold stepL
  rw [arN_cell hs (by omega), Int.toNat_natCast]
/-- Where a word leads. -/
theorem ar_run {b : Int} {tr m : Nat} (w : List Int) : okW m w → (badL b tr w = true → runL (arN b tr m) w = m + 1) ∧ (badL b tr w = false → (w = [] ∧ runL (arN b tr m) w = 0) ∨ ∃ v x, w = v ++ [x] ∧ runL (arN b tr m) w = x.toNat + 1) := by
  induction w using list_snoc_ind with
  | h0 => exact fun _ => ⟨fun h => by simp [badL] at h, fun _ => .inl ⟨rfl, rfl⟩⟩
  | h1 w y ih =>
    intro hw
    obtain ⟨hw1, hw2⟩ := okW_append.1 hw
    have hy := hw2 y (by simp)
    obtain ⟨i1, i2⟩ := ih hw1
    rw [runL_snoc]
    by_cases hb : badL b tr w = true
    · rw [i1 hb, ar_step (by omega) hy]
      have hbad : badL b tr (w ++ [y]) = true := by
        cases w using list_snoc_ind with
        | h0 => simp [badL] at hb
        | h1 v z _ => rw [badL_snoc, hb]; rfl
      refine ⟨fun _ => by unfold arT; rw [if_pos rfl], fun h => by rw [hbad] at h; cases h⟩
    · have hb' : badL b tr w = false := by simpa using hb
      rcases i2 hb' with ⟨rfl, h0⟩ | ⟨v, x, rfl, h1⟩
      · rw [h0, ar_step (by omega) hy]
        refine ⟨fun h => by simp [badL] at h, fun _ => .inr ⟨[], y, rfl, ?_⟩⟩
        unfold arT
        rw [if_neg (by omega), if_neg (by omega)]
      · have hx := hw1 x (by simp)
        rw [h1, ar_step (by omega) hy, badL_snoc, hb', Bool.false_or]
        have e1 : ((x.toNat + 1 : Nat) : Int) - 1 = x := by omega
        have e2 : ((y.toNat : Nat) : Int) = y := by omega
        unfold arT
        rw [if_neg (by omega), e1, e2]
        by_cases hh : hitB b tr x y = true
        · rw [if_pos ⟨by omega, hh⟩]
          exact ⟨fun _ => rfl, fun h => by rw [hh] at h; cases h⟩
        · rw [if_neg (fun h => hh h.2)]
          exact ⟨fun h => absurd h hh, fun _ => .inr ⟨v ++ [x], y, rfl, rfl⟩⟩
theorem ar_tk {b : Int} {tr m : Nat} {w : List Int} (hw : okW m w) : tkB (arN b tr m) (arE m) w = !badL b tr w := by
  obtain ⟨h1, h2⟩ := ar_run (b := b) (tr := tr) w hw
  unfold tkB
  cases hb : badL b tr w with
  | true =>
    rw [h1 hb, arE_get (by omega)]
    simp
  | false =>
    rcases h2 hb with ⟨_, h0⟩ | ⟨v, x, rfl, hr⟩
    · rw [h0, arE_get (by omega)]; simp
    · have hx := hw x (by simp)
      rw [hr, arE_get (by omega)]
      simp; omega
theorem ones_snoc (w : List Int) (x y : Int) : onesB (w ++ [x] ++ [y]) = (onesB (w ++ [x]) || (x == 1 && y == 1)) := by
  induction w with
  | nil => simp [onesB]
  | cons z w ih =>
    cases w with
    | nil => simp [onesB]
    | cons z' w =>
      show ((z == 1 && z' == 1) || onesB (z' :: w ++ [x] ++ [y])) = _
      rw [ih]
      show _ = (((z == 1 && z' == 1) || onesB (z' :: w ++ [x])) || (x == 1 && y == 1))
      rw [Bool.or_assoc]
/-- A word has not gone wrong, just if it is right. -/
theorem bad_right {b t : Int} {tr : Nat} (ht : t = (tr : Int)) (w : List Int) : (!badL b tr w) = rightW b t w := by
  subst ht
  have key : badL b tr w = (List.range tr).any fun k => decide (b = 1) && onesB (trackL b tr w k) := by
    induction w using list_snoc_ind with
    | h0 => simp [badL, trackL, onesB]
    | h1 w y ih =>
      cases w using list_snoc_ind with
      | h0 => simp [badL, trackL, onesB]
      | h1 v x _ =>
        rw [badL_snoc, ih]
        have e : ∀ k, onesB (trackL b tr (v ++ [x] ++ [y]) k) = (onesB (trackL b tr (v ++ [x]) k) || (dOf b tr x k == 1 && dOf b tr y k == 1)) := fun k => by
          have := ones_snoc (trackL b tr v k) (dOf b tr x k) (dOf b tr y k)
          simpa [trackL, List.map_append] using this
        rw [Bool.eq_iff_iff, Bool.or_eq_true]
        unfold hitB
        simp only [List.any_eq_true, Bool.and_eq_true, decide_eq_true_eq, e, Bool.or_eq_true, beq_iff_eq]
        constructor
        · rintro (⟨k, h1, h2, h3⟩ | ⟨k, h1, ⟨h2, h3⟩, h4⟩)
          · exact ⟨k, h1, h2, .inl h3⟩
          · exact ⟨k, h1, h2, .inr ⟨h3, h4⟩⟩
        · rintro ⟨k, h1, h2, h3 | ⟨h3, h4⟩⟩
          · exact .inl ⟨k, h1, h2, h3⟩
          · exact .inr ⟨k, h1, ⟨h2, h3⟩, h4⟩
  rw [key]
  unfold rightW tracksL rightB
  rw [Int.toNat_natCast, Bool.eq_iff_iff]
  simp only [Bool.not_eq_true', List.all_map, List.all_eq_true, Function.comp, Bool.or_eq_true, bne_iff_ne, ne_eq]
  rw [← Bool.not_eq_true, List.any_eq_true]
  constructor
  · intro h k hk
    by_cases hb : b = 1
    · refine .inr ?_
      cases ho : onesB (trackL b tr w k) with
      | false => rfl
      | true => exact absurd ⟨k, hk, by simp [hb] at ho ⊢; exact ho⟩ h
    · exact .inl hb
  · rintro h ⟨k, hk, hh⟩
    rw [Bool.and_eq_true, decide_eq_true_eq] at hh
    rcases h k hk with h1 | h1
    · exact h1 hh.1
    · rw [hh.2] at h1; cases h1

/-- All: the automaton. -/
def alN (b t : Int) : List (List Int) := if codeM b t = 0 then leastN (arN b t.toNat (manyU b t).toNat) (arE (manyU b t).toNat) (manyU b t).toNat else []
def alE (b t : Int) : List Bool := if codeM b t = 0 then leastE (arN b t.toNat (manyU b t).toNat) (arE (manyU b t).toNat) (manyU b t).toNat else []
/-- All's automaton, where there is one. -/
structure AlWell (b t : Int) (m : Nat) (MN : List (List Int)) (ME : List Bool) : Prop where
  auto : autoC b t MN MN.length = 0
  len : ME.length = MN.length
  good : GoodN m MN.length MN
  many : (manyU b t).toNat = m
  least : leastN MN ME m = MN ∧ leastE MN ME m = ME
  lang : ∀ w, okW m w → tkB MN ME w = rightW b t w
theorem manyU_bd {b t : Int} (h : codeM b t = 0) : 1 ≤ (manyU b t).toNat ∧ (manyU b t).toNat ≤ 36 := by
  obtain ⟨h1, h2, h3, h4, h5, h6⟩ := codeM_zero h
  have hk := kinds_bd2 b h2
  have hp : 1 ≤ pw (kindsI b) t.toNat := pw_pos _ (by omega) _
  omega
theorem al_well {b t : Int} (h : codeM b t = 0) : AlWell b t (manyU b t).toNat (alN b t) (alE b t) := by
  obtain ⟨m1, m36⟩ := manyU_bd h
  obtain ⟨h1, h2, h3, h4, h5, h6⟩ := codeM_zero h
  have hG := ar_good b t.toNat m1 m36
  have hLG := least_good hG (arE (manyU b t).toNat)
  have hK := leastK_80 hG (arE (manyU b t).toNat) (by omega)
  have e1 : alN b t = leastN (arN b t.toNat (manyU b t).toNat) (arE (manyU b t).toNat) (manyU b t).toNat := by unfold alN; rw [if_pos h]
  have e2 : alE b t = leastE (arN b t.toNat (manyU b t).toNat) (arE (manyU b t).toNat) (manyU b t).toNat := by unfold alE; rw [if_pos h]
  refine ⟨?_, by rw [e1, e2, leastN_len, leastE_len], by rw [e1, leastN_len]; exact hLG, rfl, by rw [e1, e2]; exact least_again hG _, fun w hw => ?_⟩
  · rw [e1, leastN_len]
    exact autoC_fine h hLG hK
  · rw [e1, e2, tk_least hG _ w hw, ar_tk hw]
    exact bad_right (by omega) w
end Go.Proofs.YtgbmemkoggogdaaDoor

/- Right words that are taken, and the others: mathematics of RightTakes. -/
namespace Go.Proofs.YtgbmemkoggogdaaDoor
open Go.RowKit

theorem how_and (x y : Bool) : howB 8 x y = (x && y) := by cases x <;> cases y <;> rfl
end Go.Proofs.YtgbmemkoggogdaaDoor

/- Automata with outputs: what is wrong with one, what it says; mathematics. -/
namespace Go.Proofs.YtgbmemkoggogdaaDoor
open Go.RowKit

/-- What is wrong with one state; with all. -/
def outR (k n : Nat) (r : List Int) (o : Int) : Int := if rowC k n r = 0 then (if 0 ≤ o ∧ o ≤ 9 then 0 else 1) else rowC k n r
def outRs (k : Nat) (N : List (List Int)) (O : List Int) : List Int := (List.range N.length).map fun s => outR k N.length (N.getD s []) (O.getD s 0)
def outC (b : Int) (N : List (List Int)) (O : List Int) : Int :=
  if 1 ≤ b ∧ b ≤ 6 then (if N.length = 0 then 4 else if 20 < N.length then 3 else if O.length = N.length then firstC (outRs (kindsI b).toNat N O) else 2) else 1
theorem outRs_len (k : Nat) (N : List (List Int)) (O : List Int) : (outRs k N O).length = N.length := by simp [outRs]
theorem outRs_get {k : Nat} {N : List (List Int)} {O : List Int} {s : Nat} (hs : s < N.length) : (outRs k N O).getD s 0 = outR k N.length (N.getD s []) (O.getD s 0) := by simp [outRs, List.getD, hs]
theorem outR_zero {k n : Nat} {r : List Int} {o : Int} (h : outR k n r o = 0) : rowC k n r = 0 ∧ 0 ≤ o ∧ o ≤ 9 := by
  unfold outR at h
  by_cases h1 : rowC k n r = 0
  · rw [if_pos h1] at h
    by_cases h2 : 0 ≤ o ∧ o ≤ 9
    · exact ⟨h1, h2⟩
    · rw [if_neg h2] at h; omega
  · rw [if_neg h1] at h; exact absurd h h1
theorem kinds_nat {b : Int} (h1 : 1 ≤ b) (h2 : b ≤ 6) : 2 ≤ (kindsI b).toNat ∧ (kindsI b).toNat ≤ 6 ∧ ((kindsI b).toNat : Int) = kindsI b := by
  unfold kindsI; split <;> omega
theorem two_tracks {b : Int} (h1 : 1 ≤ b) (h2 : b ≤ 6) : codeM b 2 = 0 ∧ manyU b 2 = kindsI b * kindsI b := by
  have hk := kinds_nat h1 h2
  have hm : kindsI b * kindsI b ≤ 36 := by
    have : kindsI b * kindsI b ≤ 6 * 6 := Int.mul_le_mul (by omega) (by omega) (by omega) (by decide)
    omega
  have e : pw (kindsI b) (2 : Int).toNat = kindsI b * kindsI b := by show pw (kindsI b) 2 = _; simp [pw]
  have hc : codeM b 2 = 0 := by
    unfold codeM
    rw [if_pos ⟨⟨h1, h2⟩, by decide, by decide⟩, if_pos (by rw [e]; exact hm)]
  refine ⟨hc, ?_⟩
  unfold manyU
  rw [if_pos hc, e]
theorem outC_zero {b : Int} {N : List (List Int)} {O : List Int} (h : outC b N O = 0) : 1 ≤ b ∧ b ≤ 6 ∧ N.length ≤ 20 ∧ O.length = N.length ∧ GoodN (kindsI b).toNat N.length N ∧ ∀ s, s < N.length → 0 ≤ O.getD s 0 ∧ O.getD s 0 ≤ 9 := by
  unfold outC at h
  by_cases hb : 1 ≤ b ∧ b ≤ 6
  · rw [if_pos hb] at h
    have hk := kinds_nat hb.1 hb.2
    by_cases h0 : N.length = 0
    · rw [if_pos h0] at h; omega
    · rw [if_neg h0] at h
      by_cases h20 : 20 < N.length
      · rw [if_pos h20] at h; omega
      · rw [if_neg h20] at h
        by_cases hl : O.length = N.length
        · rw [if_pos hl] at h
          have hs : ∀ s, s < N.length → rowC (kindsI b).toNat N.length (N.getD s []) = 0 ∧ 0 ≤ O.getD s 0 ∧ O.getD s 0 ≤ 9 := fun s hs => by
            have := firstC_get0 _ h s (by rw [outRs_len]; exact hs)
            rw [outRs_get hs] at this
            exact outR_zero this
          exact ⟨hb.1, hb.2, by omega, hl, ⟨rfl, by omega, by omega, by omega, by omega, fun s h => rowC_zero (hs s h).1⟩, fun s h => (hs s h).2⟩
        · rw [if_neg hl] at h; omega
  · rw [if_neg hb] at h; omega
/-- What is said behind a word; at a number. -/
def sayW (N : List (List Int)) (O : List Int) (w : List Int) : Int := O.getD (runL N w) 0
/-- With a state ahead that waits for a digit that is not 0. -/
def upR (r : List Int) : List Int := r.map fun x => x + 1
def wN (N : List (List Int)) : List (List Int) := (upR (N.getD 0 [])).set 0 0 :: N.map upR
def wO (O : List Int) : List Int := O.getD 0 0 :: O
theorem wN_len (N : List (List Int)) : (wN N).length = N.length + 1 := by simp [wN]
theorem wO_len (O : List Int) : (wO O).length = O.length + 1 := by simp [wO]
theorem upR_len (r : List Int) : (upR r).length = r.length := by simp [upR]
theorem upR_get {r : List Int} {j : Nat} (hj : j < r.length) : (upR r).getD j 0 = r.getD j 0 + 1 := by simp [upR, List.getD, hj]
theorem wN_succ {N : List (List Int)} {s : Nat} (hs : s < N.length) : (wN N).getD (s + 1) [] = upR (N.getD s []) := by simp [wN, List.getD, hs]
theorem wN_zero (N : List (List Int)) : (wN N).getD 0 [] = (upR (N.getD 0 [])).set 0 0 := rfl
theorem wN_zero_get {N : List (List Int)} {j : Nat} (hj : j < (N.getD 0 []).length) : ((wN N).getD 0 []).getD j 0 = if j = 0 then 0 else (N.getD 0 []).getD j 0 + 1 := by
  rw [wN_zero]
  by_cases e : j = 0
  · subst e
    rw [if_pos rfl]
    have h0 : 0 < (upR (N.getD 0 [])).length := by rw [upR_len]; exact hj
    generalize upR (N.getD 0 []) = r at h0
    cases r with
    | nil => simp at h0
    | cons x r => rfl
  · rw [if_neg e, ← upR_get hj]
    simp [List.getD, Ne.symm e]
theorem wN_good {k : Nat} {N : List (List Int)} (hG : GoodN k N.length N) (hn : N.length ≤ 20) : GoodN k (N.length + 1) (wN N) := by
  refine ⟨wN_len N, by omega, by omega, hG.2.2.2.1, hG.2.2.2.2.1, fun s hs => ?_⟩
  cases s with
  | zero =>
    have h0 := hG.2.2.2.2.2 0 hG.2.1
    refine ⟨by rw [wN_zero, List.length_set, upR_len]; exact h0.1, fun j hj => ?_⟩
    rw [wN_zero_get (by rw [h0.1]; exact hj)]
    have := h0.2 j hj
    split <;> omega
  | succ s =>
    have h1 := hG.2.2.2.2.2 s (by omega)
    rw [wN_succ (by omega)]
    refine ⟨by rw [upR_len]; exact h1.1, fun j hj => ?_⟩
    rw [upR_get (by rw [h1.1]; exact hj)]
    have := h1.2 j hj
    omega
/-- Where a word leads. -/
theorem wN_run {k : Nat} {N : List (List Int)} (hG : GoodN k N.length N) (w : List Int) : okW k w → runL N (dropZ w) < N.length ∧ runL (wN N) w = if dropZ w = [] then 0 else runL N (dropZ w) + 1 := by
  induction w using list_snoc_ind with
  | h0 => exact fun _ => ⟨hG.2.1, rfl⟩
  | h1 w y ih =>
    intro hw
    obtain ⟨hw1, hw2⟩ := okW_append.1 hw
    have hy := hw2 y (by simp)
    obtain ⟨i1, i2⟩ := ih hw1
    have hst : ∀ s, s < N.length → stepL N s y < N.length ∧ stepL (wN N) (s + 1) y = stepL N s y + 1 := fun s hs => by
      have h1 := hG.2.2.2.2.2 s hs
      have h2 := h1.2 y.toNat (by omega)
      unfold stepL
      rw [wN_succ hs, upR_get (by rw [h1.1]; omega)]
      omega
    rw [runL_snoc, i2, dropZ_end]
    by_cases hd : dropZ w = []
    · rw [if_pos hd, if_pos hd]
      have h0 := hG.2.2.2.2.2 0 hG.2.1
      have e0 : stepL (wN N) 0 y = if y = 0 then 0 else stepL N 0 y + 1 := by
        unfold stepL
        rw [wN_zero_get (by rw [h0.1]; omega)]
        have := h0.2 y.toNat (by omega)
        by_cases e : y = 0
        · subst e; rfl
        · rw [if_neg (by omega), if_neg e]; omega
      rw [e0]
      by_cases e : y = 0
      · rw [if_pos e, if_pos e]
        exact ⟨hG.2.1, rfl⟩
      · rw [if_neg e, if_neg e, if_neg (by simp)]
        have e1 : runL N [y] = stepL N 0 y := rfl
        rw [e1]
        exact ⟨(hst 0 hG.2.1).1, rfl⟩
    · rw [if_neg hd, if_neg hd, if_neg (by simp), runL_snoc]
      exact ⟨(hst _ i1).1, (hst _ i1).2⟩
theorem wO_say {k : Nat} {N : List (List Int)} {O : List Int} (hG : GoodN k N.length N) (w : List Int) (hw : okW k w) : (wO O).getD (runL (wN N) w) 0 = sayW N O (dropZ w) := by
  obtain ⟨h1, h2⟩ := wN_run hG w hw
  rw [h2]
  unfold sayW
  by_cases hd : dropZ w = []
  · rw [if_pos hd, hd]
    rfl
  · rw [if_neg hd]
    simp [wO, List.getD]
end Go.Proofs.YtgbmemkoggogdaaDoor

/- Automata with outputs: where one says v, where two say the same; mathematics. -/
namespace Go.Proofs.YtgbmemkoggogdaaDoor
open Go.RowKit

section
variable {b : Int} {N : List (List Int)} {O : List Int} {v : Int}
end
/-- The digit of a letter of two tracks. -/
def dgA (k : Nat) : List Int := (List.range (k * k)).map fun l => ((l / k : Nat) : Int)
def dgB (k : Nat) : List Int := (List.range (k * k)).map fun l => ((l % k : Nat) : Int)
theorem dgA_len (k : Nat) : (dgA k).length = k * k := by simp [dgA]
theorem dgB_len (k : Nat) : (dgB k).length = k * k := by simp [dgB]
theorem dgA_get {k l : Nat} (h : l < k * k) : (dgA k).getD l 0 = ((l / k : Nat) : Int) := by simp [dgA, List.getD, h]
theorem dgB_get {k l : Nat} (h : l < k * k) : (dgB k).getD l 0 = ((l % k : Nat) : Int) := by simp [dgB, List.getD, h]
theorem dgA_ok {k : Nat} : okTo k (dgA k) := fun x hx => by
  obtain ⟨l, hl, rfl⟩ := List.mem_map.1 hx
  have h1 := List.mem_range.1 hl
  exact ⟨Int.natCast_nonneg _, Int.ofNat_lt.2 (Nat.div_lt_of_lt_mul h1)⟩
theorem dgB_ok {k : Nat} (hk : 1 ≤ k) : okTo k (dgB k) := fun x hx => by
  obtain ⟨l, hl, rfl⟩ := List.mem_map.1 hx
  exact ⟨Int.natCast_nonneg _, Int.ofNat_lt.2 (Nat.mod_lt l (show k > 0 by omega))⟩
theorem two_digits {b : Int} (h1 : 1 ≤ b) (h2 : b ≤ 6) {l : Nat} (hl : l < (kindsI b).toNat * (kindsI b).toNat) : dOf b 2 (l : Int) 0 = ((l / (kindsI b).toNat : Nat) : Int) ∧ dOf b 2 (l : Int) 1 = ((l % (kindsI b).toNat : Nat) : Int) := by
  obtain ⟨k1, k2, k3⟩ := kinds_nat h1 h2
  have hd : l / (kindsI b).toNat < (kindsI b).toNat := Nat.div_lt_of_lt_mul hl
  have e1 : pw (kindsI b) (2 - 1 - 0) = kindsI b := by simp [pw]
  have e0 : pw (kindsI b) (2 - 1 - 1) = 1 := by simp [pw]
  unfold dOf
  rw [e1, e0, ← k3]
  constructor
  · rw [← Int.natCast_ediv, ← Int.natCast_emod, Nat.mod_eq_of_lt hd, Int.toNat_natCast]
  · rw [Int.ediv_one, ← Int.natCast_emod, Int.toNat_natCast]
theorem two_words {b : Int} (h1 : 1 ≤ b) (h2 : b ≤ 6) {w : List Int} (hw : okW ((kindsI b).toNat * (kindsI b).toNat) w) : reW (dgA (kindsI b).toNat) w = trackL b 2 w 0 ∧ reW (dgB (kindsI b).toNat) w = trackL b 2 w 1 := by
  constructor
  · unfold reW trackL
    refine List.map_congr_left fun x hx => ?_
    have h := hw x hx
    have hl : x.toNat < (kindsI b).toNat * (kindsI b).toNat := by omega
    rw [dgA_get hl, ← (two_digits h1 h2 hl).1, show ((x.toNat : Nat) : Int) = x by omega]
  · unfold reW trackL
    refine List.map_congr_left fun x hx => ?_
    have h := hw x hx
    have hl : x.toNat < (kindsI b).toNat * (kindsI b).toNat := by omega
    rw [dgB_get hl, ← (two_digits h1 h2 hl).2, show ((x.toNat : Nat) : Int) = x by omega]
/-- Side by side. -/
def lkN (k : Nat) (N N2 : List (List Int)) : List (List Int) := prodN (relN (wN N) (dgA k)) (relN (wN N2) (dgB k)) (k * k)
def lkE (O O2 : List Int) : List Bool := (List.range ((O.length + 1) * (O2.length + 1))).map fun q => decide ((wO O).getD (q / (O2.length + 1)) 0 = (wO O2).getD (q % (O2.length + 1)) 0)
def likeL (b : Int) (N : List (List Int)) (O : List Int) (N2 : List (List Int)) (O2 : List Int) (w : List Int) : Bool := rightW b 2 w && decide (sayW N O (dropZ (trackL b 2 w 0)) = sayW N2 O2 (dropZ (trackL b 2 w 1)))
def lkP (b : Int) (N N2 : List (List Int)) : List (List Int) := prodN (lkN (kindsI b).toNat N N2) (alN b 2) ((kindsI b).toNat * (kindsI b).toNat)
def lkQ (b : Int) (O O2 : List Int) : List Bool := prodE 8 ((O.length + 1) * (O2.length + 1)) (alN b 2).length (lkE O O2) (alE b 2)
def lkF (b : Int) (N : List (List Int)) (O : List Int) (b2 : Int) (N2 : List (List Int)) (O2 : List Int) : Int := if outC b N O = 0 then (if outC b2 N2 O2 = 0 then (if b = b2 then 0 else 2) else outC b2 N2 O2) else outC b N O
def lkC (b : Int) (N : List (List Int)) (O : List Int) (b2 : Int) (N2 : List (List Int)) (O2 : List Int) : Int := if lkF b N O b2 N2 O2 = 0 then (if leastK (lkP b N N2) (lkQ b O O2) ((kindsI b).toNat * (kindsI b).toNat) ≤ 80 then 0 else 3) else lkF b N O b2 N2 O2
def lkRN (b : Int) (N : List (List Int)) (O : List Int) (b2 : Int) (N2 : List (List Int)) (O2 : List Int) : List (List Int) := if lkC b N O b2 N2 O2 = 0 then leastN (lkP b N N2) (lkQ b O O2) ((kindsI b).toNat * (kindsI b).toNat) else []
def lkRE (b : Int) (N : List (List Int)) (O : List Int) (b2 : Int) (N2 : List (List Int)) (O2 : List Int) : List Bool := if lkC b N O b2 N2 O2 = 0 then leastE (lkP b N N2) (lkQ b O O2) ((kindsI b).toNat * (kindsI b).toNat) else []
theorem lkF_zero {b : Int} {N : List (List Int)} {O : List Int} {b2 : Int} {N2 : List (List Int)} {O2 : List Int} (h : lkF b N O b2 N2 O2 = 0) : outC b N O = 0 ∧ outC b2 N2 O2 = 0 ∧ b2 = b := by
  unfold lkF at h
  by_cases h1 : outC b N O = 0
  · rw [if_pos h1] at h
    by_cases h2 : outC b2 N2 O2 = 0
    · rw [if_pos h2] at h
      by_cases h3 : b = b2
      · exact ⟨h1, h2, h3.symm⟩
      · rw [if_neg h3] at h; omega
    · rw [if_neg h2] at h; exact absurd h h2
  · rw [if_neg h1] at h; exact absurd h h1
section
variable {b : Int} {N : List (List Int)} {O : List Int} {N2 : List (List Int)} {O2 : List Int}
theorem lk_good (h : outC b N O = 0) (h' : outC b N2 O2 = 0) : GoodN ((kindsI b).toNat * (kindsI b).toNat) ((N.length + 1) * (N2.length + 1)) (lkN (kindsI b).toNat N N2) ∧ ∀ w, okW ((kindsI b).toNat * (kindsI b).toNat) w → (lkE O O2).getD (runL (lkN (kindsI b).toNat N N2) w) false = decide (sayW N O (dropZ (trackL b 2 w 0)) = sayW N2 O2 (dropZ (trackL b 2 w 1))) := by
  obtain ⟨h1, h2, h20, hO, hG, -⟩ := outC_zero h
  obtain ⟨-, -, h20', hO', hG', -⟩ := outC_zero h'
  obtain ⟨k1, k2, k3⟩ := kinds_nat h1 h2
  have hW := wN_good hG h20
  have hW' := wN_good hG' h20'
  have hkk : (kindsI b).toNat * (kindsI b).toNat ≤ 36 := Nat.le_trans (Nat.mul_le_mul k2 k2) (by decide)
  have hk1 : 1 ≤ (kindsI b).toNat * (kindsI b).toNat := Nat.le_trans (by decide) (Nat.mul_le_mul k1 k1)
  have hA := rel_good hW (dgA_ok (k := (kindsI b).toNat)) (by rw [dgA_len]; exact hk1) (by rw [dgA_len]; exact hkk)
  have hB := rel_good hW' (dgB_ok (k := (kindsI b).toNat) (by omega)) (by rw [dgB_len]; exact hk1) (by rw [dgB_len]; exact hkk)
  rw [dgA_len] at hA
  rw [dgB_len] at hB
  have hn : (N.length + 1) * (N2.length + 1) ≤ 4000000 := Nat.le_trans (Nat.mul_le_mul (show N.length + 1 ≤ 21 by omega) (show N2.length + 1 ≤ 21 by omega)) (by decide)
  refine ⟨prod_good hA hB hn, fun w hw => ?_⟩
  obtain ⟨p1, p2, p3⟩ := prod_run hA hB w hw
  obtain ⟨t0, t1⟩ := two_words h1 h2 hw
  have r0 := rel_run hW (dgA_ok (k := (kindsI b).toNat)) (by rw [dgA_len]; exact hk1) (by rw [dgA_len]; exact hkk) w (by rw [dgA_len]; exact hw)
  have r1 := rel_run hW' (dgB_ok (k := (kindsI b).toNat) (by omega)) (by rw [dgB_len]; exact hk1) (by rw [dgB_len]; exact hkk) w (by rw [dgB_len]; exact hw)
  have w0 : okW (kindsI b).toNat (reW (dgA (kindsI b).toNat) w) := reW_ok dgA_ok (by rw [dgA_len]; exact hw)
  have w1 : okW (kindsI b).toNat (reW (dgB (kindsI b).toNat) w) := reW_ok (dgB_ok (by omega)) (by rw [dgB_len]; exact hw)
  have hq := pair_lt p1 p2
  have hpp := pair_parts p1 p2
  have e : (lkE O O2).getD (runL (lkN (kindsI b).toNat N N2) w) false = decide ((wO O).getD (runL (lkN (kindsI b).toNat N N2) w / (O2.length + 1)) 0 = (wO O2).getD (runL (lkN (kindsI b).toNat N N2) w % (O2.length + 1)) 0) := by
    have : runL (lkN (kindsI b).toNat N N2) w < (O.length + 1) * (O2.length + 1) := by unfold lkN; rw [p3, hO, hO']; exact hq
    simp [lkE, List.getD, this]
    exact decide_eq_decide.2 Iff.rfl
  rw [e]
  unfold lkN
  rw [p3, hO', hpp.1, hpp.2, r0, r1, wO_say hG _ w0, wO_say hG' _ w1, t0, t1]
theorem lkP_ok (h : outC b N O = 0) (h' : outC b N2 O2 = 0) : GoodN ((kindsI b).toNat * (kindsI b).toNat) ((N.length + 1) * (N2.length + 1) * (alN b 2).length) (lkP b N N2) ∧ ∀ w, okW ((kindsI b).toNat * (kindsI b).toNat) w → tkB (lkP b N N2) (lkQ b O O2) w = likeL b N O N2 O2 w := by
  obtain ⟨h1, h2, h20, hO, -, -⟩ := outC_zero h
  obtain ⟨-, -, h20', hO', -, -⟩ := outC_zero h'
  obtain ⟨k1, k2, k3⟩ := kinds_nat h1 h2
  obtain ⟨hM, hm⟩ := two_tracks h1 h2
  have hL := al_well hM
  have hmn : (manyU b 2).toNat = (kindsI b).toNat * (kindsI b).toNat := by
    rw [hm, ← k3, ← Int.natCast_mul, Int.toNat_natCast, Int.toNat_natCast]
  obtain ⟨hW, hlk⟩ := lk_good h h'
  have hG2 := hL.good
  rw [hmn] at hG2
  have h80 := autoC_80 hL.auto
  have hn : (N.length + 1) * (N2.length + 1) * (alN b 2).length ≤ 4000000 := Nat.le_trans (Nat.mul_le_mul (Nat.mul_le_mul (show N.length + 1 ≤ 21 by omega) (show N2.length + 1 ≤ 21 by omega)) h80) (by decide)
  refine ⟨prod_good hW hG2 hn, fun w hw => ?_⟩
  have hp := tk_prod hW hG2 8 (lkE O O2) (alE b 2) w hw
  have h4 := hL.lang w (by rw [hmn]; exact hw)
  have h3 : tkB (lkN (kindsI b).toNat N N2) (lkE O O2) w = decide (sayW N O (dropZ (trackL b 2 w 0)) = sayW N2 O2 (dropZ (trackL b 2 w 1))) := hlk w hw
  rw [h3, h4, how_and] at hp
  unfold lkQ likeL
  rw [hO, hO', Bool.and_comm]
  exact hp
theorem like_same (h : outC b N O = 0) (h' : outC b N2 O2 = 0) {n : Nat} {M : List (List Int)} {ME : List Bool} (hG : GoodN ((kindsI b).toNat * (kindsI b).toNat) n M) (hl : ∀ w, okW ((kindsI b).toNat * (kindsI b).toNat) w → tkB M ME w = likeL b N O N2 O2 w) : leastN M ME ((kindsI b).toNat * (kindsI b).toNat) = leastN (lkP b N N2) (lkQ b O O2) ((kindsI b).toNat * (kindsI b).toNat) ∧ leastE M ME ((kindsI b).toNat * (kindsI b).toNat) = leastE (lkP b N N2) (lkQ b O O2) ((kindsI b).toNat * (kindsI b).toNat) := by
  obtain ⟨hP, hlP⟩ := lkP_ok h h'
  refine least_same hG hP ME _ fun w hw => ?_
  have h1 := hl w hw
  have h2 := hlP w hw
  unfold tkB at h1 h2
  rw [h1, h2]
end
end Go.Proofs.YtgbmemkoggogdaaDoor

/- word.ofAllWords, Is, Like: what is read; mathematics. -/
namespace Go.Proofs.YtgbmemkoggogdaaDoor
open Go.RowKit

/-- One step of what reads all words. -/
def bgn (a : Int) : Int := if a = -1 then 0 else a
def stpW (b : Int) (N : List (List Int)) (a c x : Int) : Int × Int :=
  if a = -2 ∨ (c = 1 ∧ x = 1) then (-2, 0) else if a = -1 ∧ x = 0 then (a, c) else ((N.getD (bgn a).toNat []).getD x.toNat 0, if b = 1 then x else 0)
def dW (b : Int) (N : List (List Int)) (s l : Nat) : Nat := spN (stpW b N (spA s) (spB s) (l : Int)).1 (stpW b N (spA s) (spB s) (l : Int)).2
theorem dOf_one {b x : Int} (h0 : 0 ≤ x) (h1 : x < kindsI b) : dOf b 1 x 0 = x := by
  have e1 : pw (kindsI b) (1 - 1 - 0) = 1 := by simp [pw]
  unfold dOf
  rw [e1, Int.ediv_one, Int.emod_eq_of_lt h0 h1]
theorem hit_one {b x y : Int} (h0 : 0 ≤ x) (h1 : x < kindsI b) (h2 : 0 ≤ y) (h3 : y < kindsI b) : hitB b 1 x y = decide (b = 1 ∧ x = 1 ∧ y = 1) := by
  unfold hitB
  have e : List.range 1 = [0] := rfl
  rw [e]
  simp only [List.any_cons, List.any_nil, Bool.or_false]
  rw [dOf_one h0 h1, dOf_one h2 h3]
  by_cases e1 : b = 1 <;> by_cases e2 : x = 1 <;> by_cases e3 : y = 1 <;> simp [e1, e2, e3]
/-- Where it stands behind a word. -/
def RdAt (b : Int) (N : List (List Int)) (w : List Int) (a c : Int) : Prop :=
  (badL b 1 w = true ∧ a = -2 ∧ c = 0) ∨ (badL b 1 w = false ∧ dropZ w = [] ∧ a = -1 ∧ c = 0) ∨ (badL b 1 w = false ∧ dropZ w ≠ [] ∧ a = (runL N (dropZ w) : Int) ∧ runL N (dropZ w) < N.length ∧ ∃ v y, w = v ++ [y] ∧ c = if b = 1 then y else 0)
theorem zero_last {v : List Int} {y : Int} (h : dropZ (v ++ [y]) = []) : y = 0 := by
  rw [dropZ_end] at h
  by_cases e : dropZ v = []
  · rw [if_pos e] at h
    by_cases e2 : y = 0
    · exact e2
    · rw [if_neg e2] at h; cases h
  · rw [if_neg e] at h; simp at h
theorem snoc_cases (w : List Int) : w = [] ∨ ∃ v y, w = v ++ [y] := by
  induction w using list_snoc_ind with
  | h0 => exact .inl rfl
  | h1 l x _ => exact .inr ⟨l, x, rfl⟩
theorem rd_step {b : Int} {k : Nat} {N : List (List Int)} (hG : GoodN k N.length N) (hk : (k : Int) = kindsI b) {w : List Int} {a c y : Int} (hw : okW k w) (hy : 0 ≤ y ∧ y < (k : Int)) (h : RdAt b N w a c) : RdAt b N (w ++ [y]) (stpW b N a c y).1 (stpW b N a c y).2 := by
  have hst : ∀ s, s < N.length → (((N.getD s []).getD y.toNat 0 = (stepL N s y : Int)) ∧ stepL N s y < N.length) := fun s hs => by
    have h1 := hG.2.2.2.2.2 s hs
    have h2 := h1.2 y.toNat (by omega)
    unfold stepL
    omega
  rcases h with ⟨h1, rfl, rfl⟩ | ⟨h1, h2, rfl, rfl⟩ | ⟨h1, h2, rfl, h3, v, x, rfl, rfl⟩
  · refine .inl ⟨?_, ?_, ?_⟩
    · rcases snoc_cases w with rfl | ⟨v, x, rfl⟩
      · simp [badL] at h1
      · rw [badL_snoc, h1]; rfl
    · simp [stpW]
    · simp [stpW]
  · have hbad : badL b 1 (w ++ [y]) = false := by
      rcases snoc_cases w with rfl | ⟨v, x, rfl⟩
      · simp [badL]
      · obtain rfl := zero_last h2
        rw [badL_snoc, h1, hit_one (by omega) (by omega) (by omega) (by omega)]
        simp
    by_cases e : y = 0
    · subst e
      refine .inr (.inl ⟨hbad, by rw [dropZ_end, if_pos h2, if_pos rfl], by simp [stpW], by simp [stpW]⟩)
    · have hd : dropZ (w ++ [y]) = [y] := by rw [dropZ_end, if_pos h2, if_neg e]
      have e0 : stpW b N (-1) 0 y = ((N.getD 0 []).getD y.toNat 0, if b = 1 then y else 0) := by simp [stpW, bgn, e]
      have h4 := hst 0 hG.2.1
      have e1 : runL N [y] = stepL N 0 y := rfl
      refine .inr (.inr ⟨hbad, by rw [hd]; simp, ?_, by rw [hd, e1]; exact h4.2, w, y, rfl, by rw [e0]⟩)
      rw [hd, e0, e1]
      exact h4.1
  · obtain ⟨hw1, hx0, hx1⟩ := okW_snoc.1 hw
    have hbad : badL b 1 (v ++ [x] ++ [y]) = decide (b = 1 ∧ x = 1 ∧ y = 1) := by
      rw [badL_snoc, h1, hit_one (by omega) (by omega) (by omega) (by omega)]; rfl
    have hd : dropZ (v ++ [x] ++ [y]) = dropZ (v ++ [x]) ++ [y] := by rw [dropZ_end, if_neg h2]
    by_cases e : b = 1 ∧ x = 1 ∧ y = 1
    · refine .inl ⟨by rw [hbad]; simpa using e, ?_, ?_⟩
      · simp [stpW, e]
      · simp [stpW, e]
    · have e0 : stpW b N (runL N (dropZ (v ++ [x])) : Int) (if b = 1 then x else 0) y = ((N.getD (runL N (dropZ (v ++ [x]))) []).getD y.toNat 0, if b = 1 then y else 0) := by
        have n1 : ¬ ((runL N (dropZ (v ++ [x])) : Int) = -2 ∨ ((if b = 1 then x else 0) = 1 ∧ y = 1)) := by
          rintro (h | ⟨h, hy1⟩)
          · omega
          · by_cases hb : b = 1
            · rw [if_pos hb] at h; exact e ⟨hb, h, hy1⟩
            · rw [if_neg hb] at h; omega
        unfold stpW bgn
        rw [if_neg n1, if_neg (by omega), if_neg (by omega), Int.toNat_natCast]
      have h4 := hst _ h3
      refine .inr (.inr ⟨by rw [hbad]; simpa using e, by rw [hd]; simp, ?_, by rw [hd, runL_snoc]; exact h4.2, v ++ [x], y, rfl, by rw [e0]⟩)
      rw [hd, e0, runL_snoc]
      exact h4.1
theorem rd_bd {b : Int} {k : Nat} {N : List (List Int)} (hk : (k : Int) = kindsI b) {w : List Int} {a c : Int} (hw : okW k w) (h : RdAt b N w a c) : (a = -2 ∧ c = 0) ∨ (a = -1 ∧ c = 0) ∨ (0 ≤ a ∧ a < (N.length : Int) ∧ 0 ≤ c ∧ c ≤ 1) := by
  rcases h with ⟨h1, rfl, rfl⟩ | ⟨h1, h2, rfl, rfl⟩ | ⟨h1, h2, rfl, h3, v, x, rfl, rfl⟩
  · exact .inl ⟨rfl, rfl⟩
  · exact .inr (.inl ⟨rfl, rfl⟩)
  · obtain ⟨hw1, hx0, hx1⟩ := okW_snoc.1 hw
    refine .inr (.inr ⟨by omega, by omega, ?_⟩)
    by_cases hb : b = 1
    · rw [if_pos hb]
      subst hb
      rw [hk] at hx1
      have : kindsI 1 = 2 := rfl
      omega
    · rw [if_neg hb]; omega
theorem rd_run {b : Int} {k : Nat} {N : List (List Int)} (hG : GoodN k N.length N) (hk : (k : Int) = kindsI b) (hN : N.length ≤ 20) (w : List Int) : okW k w → RdAt b N w (spA (runG (dW b N) 64 w)) (spB (runG (dW b N) 64 w)) := by
  induction w using list_snoc_ind with
  | h0 => exact fun _ => .inr (.inl ⟨rfl, rfl, by show spA 64 = -1; decide, by show spB 64 = 0; decide⟩)
  | h1 w y ih =>
    intro hw
    obtain ⟨hw1, hy⟩ := okW_snoc.1 hw
    have h := rd_step hG hk hw1 hy (ih hw1)
    have hb := rd_bd hk hw h
    rw [runG_snoc]
    have e : dW b N (runG (dW b N) 64 w) y.toNat = spN (stpW b N (spA (runG (dW b N) 64 w)) (spB (runG (dW b N) 64 w)) y).1 (stpW b N (spA (runG (dW b N) 64 w)) (spB (runG (dW b N) 64 w)) y).2 := by
      unfold dW; rw [show ((y.toNat : Nat) : Int) = y by omega]
    rw [e]
    have h2 := sp_back (a := (stpW b N (spA (runG (dW b N) 64 w)) (spB (runG (dW b N) 64 w)) y).1) (c := (stpW b N (spA (runG (dW b N) 64 w)) (spB (runG (dW b N) 64 w)) y).2) (by omega) (by omega) (by omega) (by omega)
    rw [h2.1, h2.2.1]
    exact h
theorem map_at {α β : Type} (f : α → β) (l : List α) (i : Nat) (d : α) (d' : β) (h : i < l.length) : (l.map f).getD i d' = f (l.getD i d) := by simp [List.getD, h]
/-- All spots are among these. -/
def spotK : List Nat := [spN (-2) 0, spN (-1) 0] ++ ((List.range 20).map fun i : Nat => spN (i : Int) 0) ++ (List.range 20).map fun i : Nat => spN (i : Int) 1
def rdL (b : Int) (N : List (List Int)) : List Nat := outG (dW b N) (kindsI b).toNat 64 spotM
def sayS (O : List Int) (s : Nat) : Int := if spA s = -2 then -1 else O.getD (bgn (spA s)).toNat 0
def rdN (b : Int) (N : List (List Int)) : List (List Int) := gN (dW b N) (kindsI b).toNat (rdL b N)
def rdO (b : Int) (N : List (List Int)) (O : List Int) : List Int := (rdL b N).map (sayS O)
theorem rd_mem {b : Int} {N : List (List Int)} {O : List Int} (h : outC b N O = 0) {i s : Nat} (hs : s ∈ outG (dW b N) (kindsI b).toNat 64 i) : ((spA s = -2 ∧ spB s = 0) ∨ (spA s = -1 ∧ spB s = 0) ∨ (0 ≤ spA s ∧ spA s < (N.length : Int) ∧ 0 ≤ spB s ∧ spB s ≤ 1)) ∧ s ∈ spotK := by
  obtain ⟨h1, h2, h20, hO, hG, -⟩ := outC_zero h
  obtain ⟨k1, k2, k3⟩ := kinds_nat h1 h2
  obtain ⟨w, hw, rfl⟩ := outG_reach hs
  have hb := rd_bd k3 hw (rd_run hG k3 h20 w hw)
  refine ⟨hb, ?_⟩
  have key : ∀ s a c, spA s = a → spB s = c → -2 ≤ a → a < 62 → 0 ≤ c → c < 64 → s = spN a c := fun s a c e1 e2 b1 b2 b3 b4 => by
    have hb := sp_back b1 b2 b3 b4
    exact sp_inj (e1.trans hb.1.symm) (e2.trans hb.2.1.symm)
  unfold spotK
  rcases hb with ⟨e1, e2⟩ | ⟨e1, e2⟩ | ⟨e1, e2, e3, e4⟩
  · rw [key _ _ _ e1 e2 (by decide) (by decide) (by decide) (by decide)]
    simp
  · rw [key _ _ _ e1 e2 (by decide) (by decide) (by decide) (by decide)]
    simp
  · obtain ⟨n, hn⟩ : ∃ n : Nat, spA (runG (dW b N) 64 w) = (n : Int) := ⟨(spA (runG (dW b N) 64 w)).toNat, by omega⟩
    rcases (show spB (runG (dW b N) 64 w) = 0 ∨ spB (runG (dW b N) 64 w) = 1 by omega) with e5 | e5
    · rw [key _ _ _ hn e5 (by omega) (by omega) (by decide) (by decide)]
      exact List.mem_append.2 (.inl (List.mem_append.2 (.inr (List.mem_map.2 ⟨n, List.mem_range.2 (by omega), rfl⟩))))
    · rw [key _ _ _ hn e5 (by omega) (by omega) (by decide) (by decide)]
      exact List.mem_append.2 (.inr (List.mem_map.2 ⟨n, List.mem_range.2 (by omega), rfl⟩))
theorem rd_lt {b : Int} {N : List (List Int)} {O : List Int} (h : outC b N O = 0) {i s : Nat} (hs : s ∈ outG (dW b N) (kindsI b).toNat 64 i) : s < 4096 := by
  have hk : ∀ x ∈ spotK, x < 4096 := by decide +kernel
  exact hk s (rd_mem h hs).2
theorem rd_few {b : Int} {N : List (List Int)} {O : List Int} (h : outC b N O = 0) (i : Nat) : (outG (dW b N) (kindsI b).toNat 64 i).length ≤ 42 :=
  nodup_sub (K := spotK) (outG_nodup _ _ _ i) (fun _ hx => (rd_mem h hx).2)
theorem rdN_len (b : Int) (N : List (List Int)) : (rdN b N).length = (rdL b N).length := by unfold rdN; exact gN_len _ _ _
theorem rdO_len (b : Int) (N : List (List Int)) (O : List Int) : (rdO b N O).length = (rdL b N).length := by simp [rdO]
theorem rd_open {b : Int} {N : List (List Int)} {O : List Int} (h : outC b N O = 0) : ClosedG (dW b N) (kindsI b).toNat (rdL b N) ∧ 0 < (rdL b N).length ∧ (rdL b N).length ≤ 42 ∧ (rdL b N).getD 0 0 = 64 := by
  have hf := rd_few h spotM
  obtain ⟨p0, p1⟩ := outG_pos (dW b N) (kindsI b).toNat 64 spotM
  have hc : ClosedG (dW b N) (kindsI b).toNat (outG (dW b N) (kindsI b).toNat 64 spotM) := outG_closed (Nat.le_trans hf (by rw [spotM_eq]; decide))
  unfold rdL
  exact ⟨hc, p0, hf, p1⟩
theorem rd_good {b : Int} {N : List (List Int)} {O : List Int} (h : outC b N O = 0) : GoodN (kindsI b).toNat (rdN b N).length (rdN b N) ∧ (rdN b N).length ≤ 42 := by
  obtain ⟨h1, h2, -⟩ := outC_zero h
  obtain ⟨k1, k2, k3⟩ := kinds_nat h1 h2
  obtain ⟨hc, p0, hf, -⟩ := rd_open h
  rw [rdN_len]
  refine ⟨?_, hf⟩
  unfold rdN
  generalize rdL b N = L at hc p0 hf ⊢
  exact gN_good hc p0 (Nat.le_trans hf (by decide)) (by omega) (by omega)
theorem say_at {N : List (List Int)} {O : List Int} {b : Int} {s : Nat} {w : List Int} (h : RdAt b N w (spA s) (spB s)) : sayS O s = if rightW b 1 w = true then sayW N O (dropZ w) else -1 := by
  rw [← bad_right (b := b) (t := 1) (tr := 1) rfl w]
  unfold sayS sayW
  rcases h with ⟨e1, e2, -⟩ | ⟨e1, e2, e3, -⟩ | ⟨e1, e2, e3, e4, -⟩
  · rw [e1, e2, if_pos rfl, if_neg (by simp)]
  · rw [e1, e3, if_neg (by decide), if_pos (by rfl), e2]; rfl
  · rw [e1, e3, if_neg (by omega), if_pos (by rfl)]
    unfold bgn
    rw [if_neg (by omega), Int.toNat_natCast]
theorem rd_say {b : Int} {N : List (List Int)} {O : List Int} (h : outC b N O = 0) (w : List Int) (hw : okW (kindsI b).toNat w) : (rdO b N O).getD (runL (rdN b N) w) 0 = if rightW b 1 w = true then sayW N O (dropZ w) else -1 := by
  obtain ⟨h1, h2, h20, hO, hG, -⟩ := outC_zero h
  obtain ⟨k1, k2, k3⟩ := kinds_nat h1 h2
  obtain ⟨hc, p0, hf, p1⟩ := rd_open h
  have hr := rd_run hG k3 h20 w hw
  rw [← say_at hr]
  unfold rdO rdN
  generalize rdL b N = L at hc p0 p1 ⊢
  obtain ⟨r1, r2⟩ := gN_run hc p0 w hw
  rw [p1] at r2
  rw [← r2]
  exact map_at _ _ _ 0 _ r1
theorem rd_all {b : Int} {N : List (List Int)} {O : List Int} (h : outC b N O = 0) : GoodN (kindsI b).toNat (rdN b N).length (rdN b N) ∧ (rdN b N).length ≤ 42 ∧ ∀ w, okW (kindsI b).toNat w → (rdO b N O).getD (runL (rdN b N) w) 0 = if rightW b 1 w = true then sayW N O (dropZ w) else -1 :=
  ⟨(rd_good h).1, (rd_good h).2, fun w hw => rd_say h w hw⟩
/-- Two side by side. -/
def dL (k : Nat) (R R2 : List (List Int)) (s l : Nat) : Nat := spN ((R.getD (spA s).toNat []).getD (l / k) 0) ((R2.getD (spB s).toNat []).getD (l % k) 0)
theorem lk_run {k n n2 : Nat} {R R2 : List (List Int)} (hk : 1 ≤ k) (hG : GoodN k n R) (hG2 : GoodN k n2 R2) (hn : n ≤ 42) (hn2 : n2 ≤ 42) (w : List Int) : okW (k * k) w → spA (runG (dL k R R2) 128 w) = (runL R (reW (dgA k) w) : Int) ∧ spB (runG (dL k R R2) 128 w) = (runL R2 (reW (dgB k) w) : Int) ∧ runL R (reW (dgA k) w) < n ∧ runL R2 (reW (dgB k) w) < n2 := by
  induction w using list_snoc_ind with
  | h0 => exact fun _ => ⟨by show spA 128 = 0; decide, by show spB 128 = 0; decide, hG.2.1, hG2.2.1⟩
  | h1 w y ih =>
    intro hw
    obtain ⟨hw1, hy⟩ := okW_snoc.1 hw
    obtain ⟨i1, i2, i3, i4⟩ := ih hw1
    have hl : y.toNat < k * k := by omega
    have ha : y.toNat / k < k := Nat.div_lt_of_lt_mul hl
    have hb : y.toNat % k < k := Nat.mod_lt _ (by omega)
    have g1 := (hG.2.2.2.2.2 _ i3).2 (y.toNat / k) ha
    have g2 := (hG2.2.2.2.2.2 _ i4).2 (y.toNat % k) hb
    have e1 : reW (dgA k) (w ++ [y]) = reW (dgA k) w ++ [((y.toNat / k : Nat) : Int)] := by unfold reW; rw [List.map_append, List.map_singleton, dgA_get hl]
    have e2 : reW (dgB k) (w ++ [y]) = reW (dgB k) w ++ [((y.toNat % k : Nat) : Int)] := by unfold reW; rw [List.map_append, List.map_singleton, dgB_get hl]
    rw [e1, e2, runL_snoc, runL_snoc, runG_snoc]
    have eD : dL k R R2 (runG (dL k R R2) 128 w) y.toNat = spN ((R.getD (spA (runG (dL k R R2) 128 w)).toNat []).getD (y.toNat / k) 0) ((R2.getD (spB (runG (dL k R R2) 128 w)).toNat []).getD (y.toNat % k) 0) := rfl
    rw [eD]
    unfold stepL
    rw [i1, i2, Int.toNat_natCast, Int.toNat_natCast, Int.toNat_natCast, Int.toNat_natCast]
    have hsp := sp_back (a := (R.getD (runL R (reW (dgA k) w)) []).getD (y.toNat / k) 0) (c := (R2.getD (runL R2 (reW (dgB k) w)) []).getD (y.toNat % k) 0) (by omega) (by omega) (by omega) (by omega)
    rw [hsp.1, hsp.2.1]
    omega
def lwL (b : Int) (N N2 : List (List Int)) : List Nat := outG (dL (kindsI b).toNat (rdN b N) (rdN b N2)) ((kindsI b).toNat * (kindsI b).toNat) 128 spotM
def lwN (b : Int) (N N2 : List (List Int)) : List (List Int) := gN (dL (kindsI b).toNat (rdN b N) (rdN b N2)) ((kindsI b).toNat * (kindsI b).toNat) (lwL b N N2)
def saidB (P P2 : List Int) (s : Nat) : Bool := decide (P.getD (spA s).toNat 0 ≠ -1) && decide (P.getD (spA s).toNat 0 = P2.getD (spB s).toNat 0)
def lwE (b : Int) (N : List (List Int)) (O : List Int) (N2 : List (List Int)) (O2 : List Int) : List Bool := gE (saidB (rdO b N O) (rdO b N2 O2)) (lwL b N N2)
theorem lwN_len (b : Int) (N N2 : List (List Int)) : (lwN b N N2).length = (lwL b N N2).length := by unfold lwN; exact gN_len _ _ _
section
variable {b : Int} {N : List (List Int)} {O : List Int} {N2 : List (List Int)} {O2 : List Int}
theorem lw_mem (h : outC b N O = 0) (h' : outC b N2 O2 = 0) {i s : Nat} (hs : s ∈ outG (dL (kindsI b).toNat (rdN b N) (rdN b N2)) ((kindsI b).toNat * (kindsI b).toNat) 128 i) : 0 ≤ spA s ∧ spA s < ((rdN b N).length : Int) ∧ 0 ≤ spB s ∧ spB s < ((rdN b N2).length : Int) ∧ s < 4096 := by
  obtain ⟨hG, hn, -⟩ := rd_all h
  obtain ⟨hG2, hn2, -⟩ := rd_all h'
  obtain ⟨h1, h2, -⟩ := outC_zero h
  obtain ⟨k1, k2, k3⟩ := kinds_nat h1 h2
  obtain ⟨w, hw, rfl⟩ := outG_reach hs
  obtain ⟨r1, r2, r3, r4⟩ := lk_run (by omega) hG hG2 hn hn2 w hw
  generalize runG (dL (kindsI b).toNat (rdN b N) (rdN b N2)) 128 w = s at r1 r2
  refine ⟨by omega, by omega, by omega, by omega, ?_⟩
  have h5 : spA s < 42 := by omega
  unfold spA at h5
  omega
theorem right_two {w : List Int} (h2 : b ≤ 6) : rightW b 2 w = (rightW b 1 (trackL b 2 w 0) && rightW b 1 (trackL b 2 w 1)) := by
  have key : ∀ i, trackL b 1 (trackL b 2 w i) 0 = trackL b 2 w i := fun i => by
    unfold trackL
    rw [List.map_map]
    refine List.map_congr_left fun x _ => ?_
    have hb := dOf_bd b h2 2 x i
    exact dOf_one hb.1 hb.2
  have e2 : rightW b 2 w = (rightB b (trackL b 2 w 0) && (rightB b (trackL b 2 w 1) && true)) := rfl
  have e1 : ∀ u, rightW b 1 u = (rightB b (trackL b 1 u 0) && true) := fun u => rfl
  rw [e2, e1, e1, key, key]; simp only [Bool.and_true]
theorem lw_all (h : outC b N O = 0) (h' : outC b N2 O2 = 0) : GoodN ((kindsI b).toNat * (kindsI b).toNat) (lwN b N N2).length (lwN b N N2) ∧ (lwN b N N2).length ≤ 4096 ∧ ∀ w, okW ((kindsI b).toNat * (kindsI b).toNat) w → tkB (lwN b N N2) (lwE b N O N2 O2) w = likeL b N O N2 O2 w := by
  obtain ⟨hG, hn, hs⟩ := rd_all h
  obtain ⟨hG2, hn2, hs2⟩ := rd_all h'
  obtain ⟨h1, h2, -⟩ := outC_zero h
  obtain ⟨k1, k2, k3⟩ := kinds_nat h1 h2
  have hkk : (kindsI b).toNat * (kindsI b).toNat ≤ 36 := Nat.le_trans (Nat.mul_le_mul k2 k2) (by decide)
  have hk1 : 1 ≤ (kindsI b).toNat * (kindsI b).toNat := Nat.le_trans (by decide) (Nat.mul_le_mul k1 k1)
  have hf : (lwL b N N2).length ≤ 4096 := by
    unfold lwL
    have := nodup_sub (K := List.range 4096) (outG_nodup (dL (kindsI b).toNat (rdN b N) (rdN b N2)) ((kindsI b).toNat * (kindsI b).toNat) 128 spotM) (fun x hx => List.mem_range.2 (lw_mem h h' hx).2.2.2.2)
    rwa [List.length_range] at this
  have hc : ClosedG (dL (kindsI b).toNat (rdN b N) (rdN b N2)) ((kindsI b).toNat * (kindsI b).toNat) (lwL b N N2) := by
    unfold lwL at hf ⊢
    exact outG_closed (by rw [spotM_eq] at hf ⊢; exact hf)
  obtain ⟨p0, p1⟩ := outG_pos (dL (kindsI b).toNat (rdN b N) (rdN b N2)) ((kindsI b).toNat * (kindsI b).toNat) 128 spotM
  have p1' : (lwL b N N2).getD 0 0 = 128 := by unfold lwL; exact p1
  have p0' : 0 < (lwL b N N2).length := by unfold lwL; exact p0
  rw [lwN_len]
  refine ⟨by unfold lwN; exact gN_good hc p0' (by omega) hk1 hkk, hf, fun w hw => ?_⟩
  have hg : tkB (lwN b N N2) (lwE b N O N2 O2) w = saidB (rdO b N O) (rdO b N2 O2) (runG (dL (kindsI b).toNat (rdN b N) (rdN b N2)) ((lwL b N N2).getD 0 0) w) := by
    unfold lwN lwE
    exact gN_tk hc p0' w hw
  rw [hg, p1']
  obtain ⟨r1, r2, r3, r4⟩ := lk_run (by omega) hG hG2 hn hn2 w hw
  obtain ⟨t0, t1⟩ := two_words h1 h2 hw
  have w0 : okW (kindsI b).toNat (reW (dgA (kindsI b).toNat) w) := reW_ok dgA_ok (by rw [dgA_len]; exact hw)
  have w1 : okW (kindsI b).toNat (reW (dgB (kindsI b).toNat) w) := reW_ok (dgB_ok (by omega)) (by rw [dgB_len]; exact hw)
  have s1 := hs _ w0
  have s2 := hs2 _ w1
  unfold saidB likeL
  rw [r1, r2, Int.toNat_natCast, Int.toNat_natCast, s1, s2, right_two h2, t0, t1]
  obtain ⟨-, -, -, hO, hGN, hOb⟩ := outC_zero h
  have hsay : 0 ≤ sayW N O (dropZ (trackL b 2 w 0)) := by
    rw [t0] at w0
    exact (hOb _ (run_lt hGN _ (okW_dropZ w0))).1
  obtain ⟨-, -, -, hO', hGN', hOb'⟩ := outC_zero h'
  have hsay' : 0 ≤ sayW N2 O2 (dropZ (trackL b 2 w 1)) := by
    rw [t1] at w1
    exact (hOb' _ (run_lt hGN' _ (okW_dropZ w1))).1
  generalize sayW N O (dropZ (trackL b 2 w 0)) = x at hsay ⊢
  generalize sayW N2 O2 (dropZ (trackL b 2 w 1)) = y at hsay' ⊢
  cases rightW b 1 (trackL b 2 w 0) <;> cases rightW b 1 (trackL b 2 w 1)
  · simp
  · simp
  · simp
  · simp; omega
end
end Go.Proofs.YtgbmemkoggogdaaDoor

/- The reference's OutFault, Said: contracts. -/
namespace Go.Proofs.YtgbmemkoggogdaaDoor
open Go.RowKit

theorem box3_cells {W : World} {B : Nat} {v0 v1 v2 : Value} {T : TypeId} (h : W.heap[B]? = some (.cells #[v0, v1, v2] T (0, 0))) : (W.cell? ⟨B, 0, none⟩ = some v0 ∧ W.cell? ⟨B, 1, none⟩ = some v1 ∧ W.cell? ⟨B, 2, none⟩ = some v2) ∧ ∀ i, W.frozen? ⟨B, i, none⟩ = false := by
  refine ⟨⟨by simp [World.cell?, h], by simp [World.cell?, h], by simp [World.cell?, h]⟩, fun i => by simp [World.frozen?, h]⟩
/-- An Out, by value. -/
def outV (b : Int) (a : Option Addr) (n cap : Nat) (ao : Option Addr) (no co : Nat) : Value := .agg #[.int .i64 b, .slice a n cap, .slice ao no co]
/-- .. in a box, as it stays. -/
theorem outBox (w : World) (b : Int) (a : Option Addr) (n cap : Nat) (ao : Option Addr) (no co : Nat) {N : List (List Int)} {O : List Int} (T : TypeId) (hs : Sl2 w a n N) (ho : Sl w ao no O) :
    ∀ W, Below (w.alloc (.cells #[.int .i64 b, .slice a n cap, .slice ao no co] T)).heap.size (w.alloc (.cells #[.int .i64 b, .slice a n cap, .slice ao no co] T)) W → (W.cell? ⟨w.heap.size, 0, none⟩ = some (.int .i64 b) ∧ W.cell? ⟨w.heap.size, 1, none⟩ = some (.slice a n cap) ∧ W.cell? ⟨w.heap.size, 2, none⟩ = some (.slice ao no co)) ∧ Sl2 W a n N ∧ Sl W ao no O ∧ Below w.heap.size w W := fun W hW => by
  have hb := (Below.refl w.heap.size w).alloc (Nat.le_refl _) (.cells #[.int .i64 b, .slice a n cap, .slice ao no co] T)
  have hx := heap_alloc_last w (.cells #[.int .i64 b, .slice a n cap, .slice ao no co] T)
  have hbw := below_step hb hW
  exact ⟨(box3_cells ((hW.block _ (Array.getElem?_eq_some_iff.1 hx).1).trans hx)).1, sl2_below hs hbw, sl_below ho hbw, hbw⟩
set_option maxHeartbeats 8000000 in
set_option maxRecDepth 4000 in
theorem outFault_any (b : Int) (a : Option Addr) (n cap : Nat) (ao : Option Addr) (no co : Nat) (N : List (List Int)) (O : List Int) (w : World) (hs : Sl2 w a n N) (ho : Sl w ao no O) :
    Calls Tryd.prog 5 #[outV b a n cap ao no co] w fun e w' => e = .returned (.int .i64 (outC b N O)) ∧ Below w.heap.size w w' := by
  have hL := hs.1
  have hLo := ho.1
  have hmx := hs.2.1
  have hmo := ho.2.1
  unfold maxLen at hmx hmo
  have HBX := hide (outBox w b a n cap ao no co 25 hs ho)
  have HC : Hid (outC b N O = if 1 ≤ b ∧ b ≤ 6 then (if n = 0 then 4 else if 20 < n then 3 else if no = n then firstC (outRs (kindsI b).toNat N O) else 2) else 1) := by show _ = _; unfold outC; rw [hL, hLo]
  have HAT : Hid (∀ s, s < n → (∀ j, j < s → outR (kindsI b).toNat n (N.getD j []) (O.getD j 0) = 0) → outR (kindsI b).toNat n (N.getD s []) (O.getD s 0) ≠ 0 → firstC (outRs (kindsI b).toNat N O) = outR (kindsI b).toNat n (N.getD s []) (O.getD s 0)) := fun s hs2 hj hc => by
    have h := firstC_pre (outRs (kindsI b).toNat N O) s (fun j hjs => by rw [outRs_get (by omega), hL]; exact hj j hjs) (by rw [outRs_len, hL]; exact hs2) (by rw [outRs_get (by omega), hL]; exact hc)
    rw [outRs_get (by omega), hL] at h
    exact h
  have HALL : Hid ((∀ j, j < n → outR (kindsI b).toNat n (N.getD j []) (O.getD j 0) = 0) → firstC (outRs (kindsI b).toNat N O) = 0) := fun h => firstC_all _ fun j hj => by
    rw [outRs_len] at hj
    rw [outRs_get hj, hL]
    exact h j (by omega)
  clear hs ho hL hLo
  generalize firstC (outRs (kindsI b).toNat N O) = F at HC HAT HALL
  generalize outC b N O = c at HC ⊢
  unfold outV
  by_cases hb : 1 ≤ b ∧ b ≤ 6
  · have HRX := hide (fun W => radix_yes b W hb.1 hb.2)
    have hcc := HC.out
    rw [if_pos hb] at hcc
    have hk := kinds_nat hb.1 hb.2
    rw [← hk.2.2] at HRX
    have hk0 : (((kindsI b).toNat : Int) == 0) = false := by simp; omega
    generalize (kindsI b).toNat = k at HRX HAT HALL hk hk0
    by_cases h0 : n = 0
    · subst h0
      rw [if_pos rfl] at hcc
      subst hcc
      obtain ⟨⟨c0, c1, c2⟩, -⟩ := HBX.out _ (Below.refl _ _)
      have HB1 := hide ((Below.refl w.heap.size w).alloc (Nat.le_refl _) (.cells #[.int .i64 b, .slice a 0 cap, .slice ao no co] 25))
      go_enter Tryd.func5, Tryd.ntmps5
      go_wp2_with (go_at_call 12; refine (HRX.out _).mono ?_; rintro e w' ⟨rfl, hw'⟩; rw [hw']; clear hw' w')
      go_ret
      exact ⟨by simp, HB1.out⟩
    · rw [if_neg h0] at hcc
      have h0i : ((n : Int) == 0) = false := by simp; omega
      by_cases h20 : 20 < n
      · rw [if_pos h20] at hcc
        subst hcc
        have h20i : (n : Int) > 20 := by omega
        obtain ⟨⟨c0, c1, c2⟩, -⟩ := HBX.out _ (Below.refl _ _)
        have HB1 := hide ((Below.refl w.heap.size w).alloc (Nat.le_refl _) (.cells #[.int .i64 b, .slice a n cap, .slice ao no co] 25))
        go_enter Tryd.func5, Tryd.ntmps5
        go_wp2_with (go_at_call 12; refine (HRX.out _).mono ?_; rintro e w' ⟨rfl, hw'⟩; rw [hw']; clear hw' w')
        go_ret
        exact ⟨by simp, HB1.out⟩
      · rw [if_neg h20] at hcc
        have h20i : ¬ (n : Int) > 20 := by omega
        by_cases hno : no = n
        · subst hno
          rw [if_pos rfl] at hcc
          subst hcc
          obtain ⟨⟨c0, c1, c2⟩, -⟩ := HBX.out _ (Below.refl _ _)
          go_enter Tryd.func5, Tryd.ntmps5
          go_wp2_with (go_at_call 12; refine (HRX.out _).mono ?_; rintro e w' ⟨rfl, hw'⟩; rw [hw']; clear hw' w')
          generalize w.alloc (.cells #[.int .i64 b, .slice a no cap, .slice ao no co] 25) = wb at HBX c0 c1 c2 ⊢
          clear c0 c1 c2
          go_loopw [4] (fun iv wx => ∃ s : Nat, s ≤ no ∧ iv = .int .i64 s ∧ (∀ j, j < s → outR k no (N.getD j []) (O.getD j 0) = 0) ∧ Below wb.heap.size wb wx) (fun iv _ => no - (intOf iv).toNat)
          case atStart => exact ⟨0, by omega, rfl, fun j hj => by omega, Below.refl _ _⟩
          case round =>
            obtain ⟨s, hsn, rfl, hall, hbr⟩ := hrel
            have HALLS := hide hall
            have HBR := hide hbr
            obtain ⟨⟨c0, c1, c2⟩, hs2, ho2, hbw⟩ := HBX.out wr hbr
            have HBW := hide hbw
            clear hall hbr hbw
            by_cases hlt : s < no
            · have hlti : (s : Int) < (no : Int) := by omega
              obtain ⟨bb, o, a1, cc1, rfl, hck, hsl⟩ := sl2_cell hs2 s hlt
              obtain ⟨bo, oo, rfl, hco⟩ := sl_cell ho2 s hlt
              have HATs := hide (HAT.out s hlt HALLS.out)
              have HNX : Hid (outR k no (N.getD s []) (O.getD s 0) = 0 → ∀ j, j < s + 1 → outR k no (N.getD j []) (O.getD j 0) = 0) := fun h j hj => by
                by_cases e : j = s
                · subst e; exact h
                · exact HALLS.out j (by omega)
              have HSL := hide hsl
              have hrm := hsl.2.1
              unfold maxLen at hrm
              clear hs2 ho2 hsl
              generalize hrl : N.getD s [] = r at hck HATs HNX HSL hrm
              generalize hov : O.getD s 0 = ov at hco HATs HNX
              clear hrl hov
              by_cases hlen : r.length = k
              · have hlen' : ((r.length : Int) == (k : Int)) = true := by simp; omega
                rw [hlen] at hck HSL hrm
                have HR1 : Hid (∀ q, q < k → ¬ (0 ≤ r.getD q 0 ∧ r.getD q 0 < (no : Int)) → c = 1) := fun q hq hx => by
                  have e1 : outR k no r ov = 1 := by unfold outR; rw [rowC_bad hlen q hq hx]; rfl
                  have := HATs.out (by rw [e1]; decide)
                  rw [this, e1]
                have HR2 : Hid ((∀ q, q < k → 0 ≤ r.getD q 0 ∧ r.getD q 0 < (no : Int)) → (0 ≤ ov ∧ ov ≤ 9 → outR k no r ov = 0) ∧ (¬ (0 ≤ ov ∧ ov ≤ 9) → c = 1)) := fun h => by
                  have e0 := rowC_good (n := no) hlen h
                  refine ⟨fun h9 => by unfold outR; rw [if_pos e0, if_pos h9], fun h9 => ?_⟩
                  have e1 : outR k no r ov = 1 := by unfold outR; rw [if_pos e0, if_neg h9]
                  have := HATs.out (by rw [e1]; decide)
                  rw [this, e1]
                clear HATs hlen
                go_wp2
                obtain ⟨wo, hwo⟩ : ∃ wo : World, wo = wr := ⟨_, rfl⟩
                rw [← hwo] at HBR HBW c0 c1 c2 hck hco HSL ⊢
                clear hwo wr
                have HC1 := hide c1
                have HC2 := hide c2
                have HCK := hide hck
                have HCO := hide hco
                clear c0 c1 c2 hck hco
                go_loopw [5] (fun iv wx => ∃ q : Nat, q ≤ k ∧ iv = .int .i64 q ∧ (∀ j, j < q → 0 ≤ r.getD j 0 ∧ r.getD j 0 < (no : Int)) ∧ Below wo.heap.size wo wx) (fun iv _ => k - (intOf iv).toNat)
                case atStart => exact ⟨0, by omega, rfl, fun j hj => by omega, Below.refl _ _⟩
                case round =>
                  obtain ⟨q, hq, rfl, hgood, hbq⟩ := hrel
                  have HGD := hide hgood
                  have HBQ := hide hbq
                  have c1 := (hbq.cell (p := ⟨w.heap.size, 1, none⟩) (World.block_lt_of_cell? wo _ HC1.out)).trans HC1.out
                  have c2 := (hbq.cell (p := ⟨w.heap.size, 2, none⟩) (World.block_lt_of_cell? wo _ HC2.out)).trans HC2.out
                  have hck := (hbq.cell (p := ⟨bb, o + s, none⟩) (World.block_lt_of_cell? wo _ HCK.out)).trans HCK.out
                  have hco := (hbq.cell (p := ⟨bo, oo + s, none⟩) (World.block_lt_of_cell? wo _ HCO.out)).trans HCO.out
                  have HSLq := hide (sl_below HSL.out hbq)
                  clear hgood hbq
                  by_cases hqt : q < k
                  · have hqti : (q : Int) < (k : Int) := by omega
                    obtain ⟨b1, o1, rfl, hxc⟩ := sl_cell HSLq.out q hqt
                    have HR1q := hide (HR1.out q hqt)
                    have HGN : Hid (0 ≤ r.getD q 0 ∧ r.getD q 0 < (no : Int) → ∀ j, j < q + 1 → 0 ≤ r.getD j 0 ∧ r.getD j 0 < (no : Int)) := fun h j hj => by
                      by_cases e : j = q
                      · subst e; exact h
                      · exact HGD.out j (by omega)
                    generalize r.getD q 0 = x at hxc HR1q HGN
                    by_cases hx : 0 ≤ x ∧ x < (no : Int)
                    · have HG2 := hide (HGN.out hx)
                      obtain ⟨hx1, hx2⟩ := hx
                      have hxd : decide (x < 0) = false := by simp; omega
                      go_wp2
                      go_quiet (fail)
                      go_wp2
                      go_roundw
                      case rel => exact ⟨q + 1, by omega, by go_num, HG2.out, below_drewN HBQ.out nq⟩
                      case measure => simp [intOf]; omega
                    · have hF := HR1q.out hx
                      subst hF
                      have hx' : x < 0 ∨ (decide (x < 0) = false ∧ (no : Int) ≤ x) := by
                        by_cases e : x < 0
                        · exact Or.inl e
                        · exact Or.inr ⟨by simp; omega, by omega⟩
                      have HBZ := hide (below_step HBW.out HBQ.out)
                      clear hx HALL HAT HR1 HR1q HR2
                      rcases hx' with hx | ⟨hx1, hx2⟩
                      all_goals
                        go_wp2
                        go_quiet (fail)
                        go_wp2
                        go_ret
                        exact ⟨by simp, below_drewN HBZ.out nq⟩
                  · have hqti : ¬ (q : Int) < (k : Int) := by omega
                    obtain ⟨hr0, hr1⟩ := HR2.out (fun j hj => HGD.out j (by omega))
                    have HBZ := hide (below_step HBW.out HBQ.out)
                    have HBY := hide (below_step HBR.out HBQ.out)
                    by_cases h9 : ov < 0
                    · have hF := hr1 (by omega)
                      subst hF
                      clear HALL HAT HR1 HR2 hr0 hr1
                      go_wp2
                      go_ret
                      exact ⟨by simp, HBZ.out⟩
                    · have h9' : decide (ov < 0) = false := by simp; omega
                      by_cases h10 : ov > 9
                      · have hF := hr1 (by omega)
                        subst hF
                        clear HALL HAT HR1 HR2 hr0 hr1
                        go_wp2
                        go_ret
                        exact ⟨by simp, HBZ.out⟩
                      · have h10' : decide (ov > 9) = false := by simp; omega
                        have HN2 := hide (HNX.out (hr0 (by omega)))
                        clear hr0 hr1
                        go_wp2
                        go_roundw
                        case rel => exact ⟨s + 1, by omega, by go_num, HN2.out, HBY.out⟩
                        case measure => simp [intOf]; omega
              · have hlen' : ((r.length : Int) == (k : Int)) = false := by simp; omega
                have e2 : outR k no r ov = 2 := by unfold outR; rw [rowC_long hlen]; rfl
                have hF := HATs.out (by rw [e2]; decide)
                rw [e2] at hF
                subst hF
                clear HALL HAT HATs HNX e2
                go_wp2
                go_ret
                exact ⟨by simp, HBW.out⟩
            · have hlti : ¬ (s : Int) < (no : Int) := by omega
              have hF := HALL.out (fun j hj => HALLS.out j (by omega))
              subst hF
              clear HAT
              go_wp2
              go_ret
              exact ⟨by simp, HBW.out⟩
        · rw [if_neg hno] at hcc
          subst hcc
          have hnoi : ((no : Int) == (n : Int)) = false := by simp; omega
          obtain ⟨⟨c0, c1, c2⟩, -⟩ := HBX.out _ (Below.refl _ _)
          have HB1 := hide ((Below.refl w.heap.size w).alloc (Nat.le_refl _) (.cells #[.int .i64 b, .slice a n cap, .slice ao no co] 25))
          go_enter Tryd.func5, Tryd.ntmps5
          go_wp2_with (go_at_call 12; refine (HRX.out _).mono ?_; rintro e w' ⟨rfl, hw'⟩; rw [hw']; clear hw' w')
          go_ret
          exact ⟨by simp, HB1.out⟩
  · have HRX := hide (fun W => radix_no b W (by omega))
    have hcc := HC.out
    rw [if_neg hb] at hcc
    subst hcc
    obtain ⟨⟨c0, c1, c2⟩, -⟩ := HBX.out _ (Below.refl _ _)
    have HB1 := hide ((Below.refl w.heap.size w).alloc (Nat.le_refl _) (.cells #[.int .i64 b, .slice a n cap, .slice ao no co] 25))
    go_enter Tryd.func5, Tryd.ntmps5
    go_wp2_with (go_at_call 12; refine (HRX.out _).mono ?_; rintro e w' ⟨rfl, hw'⟩; rw [hw']; clear hw' w')
    go_ret
    exact ⟨by simp, HB1.out⟩

end Go.Proofs.YtgbmemkoggogdaaDoor

/- The reference's MorphOf: contract. -/
namespace Go.Proofs.YtgbmemkoggogdaaDoor
open Go.RowKit

theorem box3_set {W : World} {B : Nat} {u0 u1 u2 v0 v1 v2 : Value} {T : TypeId} (h : W.heap[B]? = some (.cells #[u0, u1, u2] T (0, 0))) {W' : World} (e : W' = ((W.setCell ⟨B, 0, none⟩ v0).setCell ⟨B, 1, none⟩ v1).setCell ⟨B, 2, none⟩ v2) :
    W'.heap[B]? = some (.cells #[v0, v1, v2] T (0, 0)) ∧ ∀ (w : World) (k : Nat), Below k w W → k ≤ B → Below k w W' := by
  subst e
  refine ⟨?_, fun w k hb hk => ((hb.setCell hk _).setCell hk _).setCell hk _⟩
  simp [World.setCell, Array.getElem?_modify, h]
end Go.Proofs.YtgbmemkoggogdaaDoor

/- filbertsame.Outs at two that are the same; what package word's Check, At, Head, Is answer. -/
namespace Go.Proofs.YtgbmemkoggogdaaDoor
open Go.RowKit

def CheckSays : Prop := ∀ (b : Int) (a : Option Addr) (n cap : Nat) (ao : Option Addr) (no co : Nat) (N : List (List Int)) (O : List Int) (W : World), Sl2 W a n N → Sl W ao no O → Calls Tryd.prog 34 #[outV b a n cap ao no co] W fun e w' => e = .returned (errV (outC b N O)) ∧ Below W.heap.size W w'
end Go.Proofs.YtgbmemkoggogdaaDoor

/- word.Agree: what is met, two words read along one another; mathematics. -/
namespace Go.Proofs.YtgbmemkoggogdaaDoor
open Go.RowKit

/-- Two read along one another, by two letters each. -/
def dUV (u v : Nat → Nat) (R R2 : List (List Int)) (s l : Nat) : Nat := spN ((R.getD (spA s).toNat []).getD (u l) 0) ((R2.getD (spB s).toNat []).getD (v l) 0)
section
variable {b : Int} {N : List (List Int)} {O : List Int} {N2 : List (List Int)} {O2 : List Int}
end
end Go.Proofs.YtgbmemkoggogdaaDoor
