/- 8 texts in one. -/
import Derived.Deep.RegionHeldLaw
import Derived.Deep.RegionLaw
import Derived.Laws.AppendOwnNone
import Derived.BigQuiet
import Derived.BigRegion
import Derived.Deep.RegionWith
import Derived.Test.YtcpnfbjcgaonkafDoorZNx
import Derived.Test.YtcpnfbjcgaonkafDoorBx
import Derived.Test.YtcpnfbjcgaonkafDoorBy
import Derived.Test.YtcpnfbjcgaonkafDoorZCf
import Derived.Test.YtcpnfbjcgaonkafDoorCm
import Derived.Test.YtcpnfbjcgaonkafDoorZCi
import Derived.Test.YtcpnfbjcgaonkafDoorDd
import Derived.Test.YtcpnfbjcgaonkafDoorZCe
import Derived.Test.YtcpnfbjcgaonkafDoorZGc
import Derived.Test.YtcpnfbjcgaonkafDoorZLp
import Derived.Test.YtcpnfbjcgaonkafDoorRe
import Derived.Test.YtcpnfbjcgaonkafDoorZMp
import Derived.Test.YtcpnfbjcgaonkafDoorZG
/- Right words: the automaton of them; mathematics. -/
namespace Go.Proofs.YtcpnfbjcgaonkafDoor
open Go.RowKit

/-- Letters that may not follow: a 1 below a 1, in base 1 (Fibonacci's). -/
def hitB (b : Int) (tr : Nat) (x y : Int) : Bool := (List.range tr).any fun k => decide (b = 1) && decide (dOf b tr x k = 1) && decide (dOf b tr y k = 1)
/-- Where letter l leads from state s: 0: none was read; s + 1: letter s was; m + 1: it went wrong. -/
def arT (b : Int) (tr m s l : Nat) : Nat := if s = m + 1 then m + 1 else if 0 < s ∧ hitB b tr ((s : Int) - 1) (l : Int) = true then m + 1 else l + 1
def arN (b : Int) (tr m : Nat) : List (List Int) := (List.range (m + 2)).map fun s => (List.range m).map fun l => ((arT b tr m s l : Nat) : Int)
def arE (m : Nat) : List Bool := (List.range (m + 2)).map fun s => decide (s ≤ m)
theorem arN_len (b : Int) (tr m : Nat) : (arN b tr m).length = m + 2 := by simp [arN]
theorem arE_len (m : Nat) : (arE m).length = m + 2 := by simp [arE]
theorem arN_row {b : Int} {tr m s : Nat} (hs : s < m + 2) : (arN b tr m).getD s [] = (List.range m).map fun l => ((arT b tr m s l : Nat) : Int) := by simp [arN, List.getD, hs]
theorem arN_cell {b : Int} {tr m s l : Nat} (hs : s < m + 2) (hl : l < m) : ((arN b tr m).getD s []).getD l 0 = ((arT b tr m s l : Nat) : Int) := by rw [arN_row hs]; simp [List.getD, hl]
theorem arE_get {m s : Nat} (hs : s < m + 2) : (arE m).getD s false = decide (s ≤ m) := by simp [arE, List.getD, hs]
theorem arT_lt {b : Int} {tr m s l : Nat} (hl : l < m) : arT b tr m s l < m + 2 := by unfold arT; split; omega; split <;> omega
theorem ar_good (b : Int) (tr : Nat) {m : Nat} (h1 : 1 ≤ m) (h36 : m ≤ 36) : GoodN m (m + 2) (arN b tr m) := by
  refine ⟨arN_len _ _ _, by omega, by omega, h36, h1, fun s hs => ⟨by rw [arN_row hs]; simp, fun j hj => ?_⟩⟩
  rw [arN_cell hs hj]
  have := arT_lt (b := b) (tr := tr) (s := s) hj
  omega
/-- Has it gone wrong somewhere? -/
def badL (b : Int) (tr : Nat) : List Int → Bool
  | x :: y :: r => hitB b tr x y || badL b tr (y :: r)
  | _ => false
theorem badL_snoc (b : Int) (tr : Nat) (w : List Int) (x y : Int) : badL b tr (w ++ [x] ++ [y]) = (badL b tr (w ++ [x]) || hitB b tr x y) := by
  induction w with
  | nil => simp [badL]
  | cons z w ih =>
    cases w with
    | nil => simp [badL]
    | cons z' w =>
      show (hitB b tr z z' || badL b tr (z' :: w ++ [x] ++ [y])) = _
      rw [ih]
      show _ = ((hitB b tr z z' || badL b tr (z' :: w ++ [x])) || hitB b tr x y)
      rw [Bool.or_assoc]
theorem ar_step {b : Int} {tr m s : Nat} (hs : s < m + 2) {x : Int} (hx : 0 ≤ x ∧ x < (m : Int)) : stepL (arN b tr m) s x = arT b tr m s x.toNat := by
  unfold stepL
  rw [arN_cell hs (by omega), Int.toNat_natCast]
/-- Where a word leads. -/
theorem ar_run {b : Int} {tr m : Nat} (w : List Int) : okW m w → (badL b tr w = true → runL (arN b tr m) w = m + 1) ∧ (badL b tr w = false → (w = [] ∧ runL (arN b tr m) w = 0) ∨ ∃ v x, w = v ++ [x] ∧ runL (arN b tr m) w = x.toNat + 1) := by
  induction w using list_snoc_ind with
  | h0 => exact fun _ => ⟨fun h => by simp [badL] at h, fun _ => .inl ⟨rfl, rfl⟩⟩
  | h1 w y ih =>
    intro hw
    obtain ⟨hw1, hw2⟩ := okW_append.1 hw
    have hy := hw2 y (by simp)
    obtain ⟨i1, i2⟩ := ih hw1
    rw [runL_snoc]
    by_cases hb : badL b tr w = true
    · rw [i1 hb, ar_step (by omega) hy]
      have hbad : badL b tr (w ++ [y]) = true := by
        cases w using list_snoc_ind with
        | h0 => simp [badL] at hb
        | h1 v z _ => rw [badL_snoc, hb]; rfl
      refine ⟨fun _ => by unfold arT; rw [if_pos rfl], fun h => by rw [hbad] at h; cases h⟩
    · have hb' : badL b tr w = false := by simpa using hb
      rcases i2 hb' with ⟨rfl, h0⟩ | ⟨v, x, rfl, h1⟩
      · rw [h0, ar_step (by omega) hy]
        refine ⟨fun h => by simp [badL] at h, fun _ => .inr ⟨[], y, rfl, ?_⟩⟩
        unfold arT
        rw [if_neg (by omega), if_neg (by omega)]
      · have hx := hw1 x (by simp)
        rw [h1, ar_step (by omega) hy, badL_snoc, hb', Bool.false_or]
        have e1 : ((x.toNat + 1 : Nat) : Int) - 1 = x := by omega
        have e2 : ((y.toNat : Nat) : Int) = y := by omega
        unfold arT
        rw [if_neg (by omega), e1, e2]
        by_cases hh : hitB b tr x y = true
        · rw [if_pos ⟨by omega, hh⟩]
          exact ⟨fun _ => rfl, fun h => by rw [hh] at h; cases h⟩
        · rw [if_neg (fun h => hh h.2)]
          exact ⟨fun h => absurd h hh, fun _ => .inr ⟨v ++ [x], y, rfl, rfl⟩⟩
theorem ar_tk {b : Int} {tr m : Nat} {w : List Int} (hw : okW m w) : tkB (arN b tr m) (arE m) w = !badL b tr w := by
  obtain ⟨h1, h2⟩ := ar_run (b := b) (tr := tr) w hw
  unfold tkB
  cases hb : badL b tr w with
  | true =>
    rw [h1 hb, arE_get (by omega)]
    simp
  | false =>
    rcases h2 hb with ⟨_, h0⟩ | ⟨v, x, rfl, hr⟩
    · rw [h0, arE_get (by omega)]; simp
    · have hx := hw x (by simp)
      rw [hr, arE_get (by omega)]
      simp; omega
theorem ones_snoc (w : List Int) (x y : Int) : onesB (w ++ [x] ++ [y]) = (onesB (w ++ [x]) || (x == 1 && y == 1)) := by
  induction w with
  | nil => simp [onesB]
  | cons z w ih =>
    cases w with
    | nil => simp [onesB]
    | cons z' w =>
      show ((z == 1 && z' == 1) || onesB (z' :: w ++ [x] ++ [y])) = _
      rw [ih]
      show _ = (((z == 1 && z' == 1) || onesB (z' :: w ++ [x])) || (x == 1 && y == 1))
      rw [Bool.or_assoc]
/-- A word has not gone wrong, just if it is right. -/
theorem bad_right {b t : Int} {tr : Nat} (ht : t = (tr : Int)) (w : List Int) : (!badL b tr w) = rightW b t w := by
  subst ht
  have key : badL b tr w = (List.range tr).any fun k => decide (b = 1) && onesB (trackL b tr w k) := by
    induction w using list_snoc_ind with
    | h0 => simp [badL, trackL, onesB]
    | h1 w y ih =>
      cases w using list_snoc_ind with
      | h0 => simp [badL, trackL, onesB]
      | h1 v x _ =>
        rw [badL_snoc, ih]
        have e : ∀ k, onesB (trackL b tr (v ++ [x] ++ [y]) k) = (onesB (trackL b tr (v ++ [x]) k) || (dOf b tr x k == 1 && dOf b tr y k == 1)) := fun k => by
          have := ones_snoc (trackL b tr v k) (dOf b tr x k) (dOf b tr y k)
          simpa [trackL, List.map_append] using this
        rw [Bool.eq_iff_iff, Bool.or_eq_true]
        unfold hitB
        simp only [List.any_eq_true, Bool.and_eq_true, decide_eq_true_eq, e, Bool.or_eq_true, beq_iff_eq]
        constructor
        · rintro (⟨k, h1, h2, h3⟩ | ⟨k, h1, ⟨h2, h3⟩, h4⟩)
          · exact ⟨k, h1, h2, .inl h3⟩
          · exact ⟨k, h1, h2, .inr ⟨h3, h4⟩⟩
        · rintro ⟨k, h1, h2, h3 | ⟨h3, h4⟩⟩
          · exact .inl ⟨k, h1, h2, h3⟩
          · exact .inr ⟨k, h1, ⟨h2, h3⟩, h4⟩
  rw [key]
  unfold rightW tracksL rightB
  rw [Int.toNat_natCast, Bool.eq_iff_iff]
  simp only [Bool.not_eq_true', List.all_map, List.all_eq_true, Function.comp, Bool.or_eq_true, bne_iff_ne, ne_eq]
  rw [← Bool.not_eq_true, List.any_eq_true]
  constructor
  · intro h k hk
    by_cases hb : b = 1
    · refine .inr ?_
      cases ho : onesB (trackL b tr w k) with
      | false => rfl
      | true => exact absurd ⟨k, hk, by simp [hb] at ho ⊢; exact ho⟩ h
    · exact .inl hb
  · rintro h ⟨k, hk, hh⟩
    rw [Bool.and_eq_true, decide_eq_true_eq] at hh
    rcases h k hk with h1 | h1
    · exact h1 hh.1
    · rw [hh.2] at h1; cases h1

/-- All: the automaton. -/
def alN (b t : Int) : List (List Int) := if codeM b t = 0 then leastN (arN b t.toNat (manyU b t).toNat) (arE (manyU b t).toNat) (manyU b t).toNat else []
def alE (b t : Int) : List Bool := if codeM b t = 0 then leastE (arN b t.toNat (manyU b t).toNat) (arE (manyU b t).toNat) (manyU b t).toNat else []
/-- All's automaton, where there is one. -/
structure AlWell (b t : Int) (m : Nat) (MN : List (List Int)) (ME : List Bool) : Prop where
  auto : autoC b t MN MN.length = 0
  len : ME.length = MN.length
  good : GoodN m MN.length MN
  many : (manyU b t).toNat = m
  least : leastN MN ME m = MN ∧ leastE MN ME m = ME
  lang : ∀ w, okW m w → tkB MN ME w = rightW b t w
theorem manyU_bd {b t : Int} (h : codeM b t = 0) : 1 ≤ (manyU b t).toNat ∧ (manyU b t).toNat ≤ 36 := by
  obtain ⟨h1, h2, h3, h4, h5, h6⟩ := codeM_zero h
  have hk := kinds_bd2 b h2
  have hp : 1 ≤ pw (kindsI b) t.toNat := pw_pos _ (by omega) _
  omega
theorem al_well {b t : Int} (h : codeM b t = 0) : AlWell b t (manyU b t).toNat (alN b t) (alE b t) := by
  obtain ⟨m1, m36⟩ := manyU_bd h
  obtain ⟨h1, h2, h3, h4, h5, h6⟩ := codeM_zero h
  have hG := ar_good b t.toNat m1 m36
  have hLG := least_good hG (arE (manyU b t).toNat)
  have hK := leastK_80 hG (arE (manyU b t).toNat) (by omega)
  have e1 : alN b t = leastN (arN b t.toNat (manyU b t).toNat) (arE (manyU b t).toNat) (manyU b t).toNat := by unfold alN; rw [if_pos h]
  have e2 : alE b t = leastE (arN b t.toNat (manyU b t).toNat) (arE (manyU b t).toNat) (manyU b t).toNat := by unfold alE; rw [if_pos h]
  refine ⟨?_, by rw [e1, e2, leastN_len, leastE_len], by rw [e1, leastN_len]; exact hLG, rfl, by rw [e1, e2]; exact least_again hG _, fun w hw => ?_⟩
  · rw [e1, leastN_len]
    exact autoC_fine h hLG hK
  · rw [e1, e2, tk_least hG _ w hw, ar_tk hw]
    exact bad_right (by omega) w
end Go.Proofs.YtcpnfbjcgaonkafDoor

/- Right words that are taken, and the others: mathematics of RightTakes. -/
namespace Go.Proofs.YtcpnfbjcgaonkafDoor
open Go.RowKit

theorem how_and (x y : Bool) : howB 8 x y = (x && y) := by cases x <;> cases y <;> rfl
end Go.Proofs.YtcpnfbjcgaonkafDoor

/- Automata with outputs: what is wrong with one, what it says; mathematics. -/
namespace Go.Proofs.YtcpnfbjcgaonkafDoor
open Go.RowKit

/-- What is wrong with one state; with all. -/
def outR (k n : Nat) (r : List Int) (o : Int) : Int := if rowC k n r = 0 then (if 0 ≤ o ∧ o ≤ 9 then 0 else 1) else rowC k n r
def outRs (k : Nat) (N : List (List Int)) (O : List Int) : List Int := (List.range N.length).map fun s => outR k N.length (N.getD s []) (O.getD s 0)
def outC (b : Int) (N : List (List Int)) (O : List Int) : Int :=
  if 1 ≤ b ∧ b ≤ 6 then (if N.length = 0 then 4 else if 20 < N.length then 3 else if O.length = N.length then firstC (outRs (kindsI b).toNat N O) else 2) else 1
theorem outRs_len (k : Nat) (N : List (List Int)) (O : List Int) : (outRs k N O).length = N.length := by simp [outRs]
theorem outRs_get {k : Nat} {N : List (List Int)} {O : List Int} {s : Nat} (hs : s < N.length) : (outRs k N O).getD s 0 = outR k N.length (N.getD s []) (O.getD s 0) := by simp [outRs, List.getD, hs]
theorem outR_zero {k n : Nat} {r : List Int} {o : Int} (h : outR k n r o = 0) : rowC k n r = 0 ∧ 0 ≤ o ∧ o ≤ 9 := by
  unfold outR at h
  by_cases h1 : rowC k n r = 0
  · rw [if_pos h1] at h
    by_cases h2 : 0 ≤ o ∧ o ≤ 9
    · exact ⟨h1, h2⟩
    · rw [if_neg h2] at h; omega
  · rw [if_neg h1] at h; exact absurd h h1
theorem kinds_nat {b : Int} (h1 : 1 ≤ b) (h2 : b ≤ 6) : 2 ≤ (kindsI b).toNat ∧ (kindsI b).toNat ≤ 6 ∧ ((kindsI b).toNat : Int) = kindsI b := by
  unfold kindsI; split <;> omega
theorem one_track {b : Int} (h1 : 1 ≤ b) (h2 : b ≤ 6) : codeM b 1 = 0 ∧ manyU b 1 = kindsI b := by
  have hk := kinds_nat h1 h2
  have hc : codeM b 1 = 0 := by
    unfold codeM
    rw [if_pos ⟨⟨h1, h2⟩, by decide, by decide⟩, if_pos]
    show pw (kindsI b) 1 ≤ 36
    simp [pw]; omega
  refine ⟨hc, ?_⟩
  unfold manyU
  rw [if_pos hc]
  show pw (kindsI b) 1 = _
  simp [pw]
theorem outC_zero {b : Int} {N : List (List Int)} {O : List Int} (h : outC b N O = 0) : 1 ≤ b ∧ b ≤ 6 ∧ N.length ≤ 20 ∧ O.length = N.length ∧ GoodN (kindsI b).toNat N.length N ∧ ∀ s, s < N.length → 0 ≤ O.getD s 0 ∧ O.getD s 0 ≤ 9 := by
  unfold outC at h
  by_cases hb : 1 ≤ b ∧ b ≤ 6
  · rw [if_pos hb] at h
    have hk := kinds_nat hb.1 hb.2
    by_cases h0 : N.length = 0
    · rw [if_pos h0] at h; omega
    · rw [if_neg h0] at h
      by_cases h20 : 20 < N.length
      · rw [if_pos h20] at h; omega
      · rw [if_neg h20] at h
        by_cases hl : O.length = N.length
        · rw [if_pos hl] at h
          have hs : ∀ s, s < N.length → rowC (kindsI b).toNat N.length (N.getD s []) = 0 ∧ 0 ≤ O.getD s 0 ∧ O.getD s 0 ≤ 9 := fun s hs => by
            have := firstC_get0 _ h s (by rw [outRs_len]; exact hs)
            rw [outRs_get hs] at this
            exact outR_zero this
          exact ⟨hb.1, hb.2, by omega, hl, ⟨rfl, by omega, by omega, by omega, by omega, fun s h => rowC_zero (hs s h).1⟩, fun s h => (hs s h).2⟩
        · rw [if_neg hl] at h; omega
  · rw [if_neg hb] at h; omega
/-- What is said behind a word; at a number. -/
def sayW (N : List (List Int)) (O : List Int) (w : List Int) : Int := O.getD (runL N w) 0
def sayN (b : Int) (N : List (List Int)) (O : List Int) (n : Int) : Int := sayW N O (dgs b n)
/-- With a state ahead that waits for a digit that is not 0. -/
def upR (r : List Int) : List Int := r.map fun x => x + 1
def wN (N : List (List Int)) : List (List Int) := (upR (N.getD 0 [])).set 0 0 :: N.map upR
def wO (O : List Int) : List Int := O.getD 0 0 :: O
theorem wN_len (N : List (List Int)) : (wN N).length = N.length + 1 := by simp [wN]
theorem wO_len (O : List Int) : (wO O).length = O.length + 1 := by simp [wO]
theorem upR_len (r : List Int) : (upR r).length = r.length := by simp [upR]
theorem upR_get {r : List Int} {j : Nat} (hj : j < r.length) : (upR r).getD j 0 = r.getD j 0 + 1 := by simp [upR, List.getD, hj]
theorem wN_succ {N : List (List Int)} {s : Nat} (hs : s < N.length) : (wN N).getD (s + 1) [] = upR (N.getD s []) := by simp [wN, List.getD, hs]
theorem wN_zero (N : List (List Int)) : (wN N).getD 0 [] = (upR (N.getD 0 [])).set 0 0 := rfl
theorem wN_zero_get {N : List (List Int)} {j : Nat} (hj : j < (N.getD 0 []).length) : ((wN N).getD 0 []).getD j 0 = if j = 0 then 0 else (N.getD 0 []).getD j 0 + 1 := by
  rw [wN_zero]
  by_cases e : j = 0
  · subst e
    rw [if_pos rfl]
    have h0 : 0 < (upR (N.getD 0 [])).length := by rw [upR_len]; exact hj
    generalize upR (N.getD 0 []) = r at h0
    cases r with
    | nil => simp at h0
    | cons x r => rfl
  · rw [if_neg e, ← upR_get hj]
    simp [List.getD, Ne.symm e]
theorem wN_good {k : Nat} {N : List (List Int)} (hG : GoodN k N.length N) (hn : N.length ≤ 20) : GoodN k (N.length + 1) (wN N) := by
  refine ⟨wN_len N, by omega, by omega, hG.2.2.2.1, hG.2.2.2.2.1, fun s hs => ?_⟩
  cases s with
  | zero =>
    have h0 := hG.2.2.2.2.2 0 hG.2.1
    refine ⟨by rw [wN_zero, List.length_set, upR_len]; exact h0.1, fun j hj => ?_⟩
    rw [wN_zero_get (by rw [h0.1]; exact hj)]
    have := h0.2 j hj
    split <;> omega
  | succ s =>
    have h1 := hG.2.2.2.2.2 s (by omega)
    rw [wN_succ (by omega)]
    refine ⟨by rw [upR_len]; exact h1.1, fun j hj => ?_⟩
    rw [upR_get (by rw [h1.1]; exact hj)]
    have := h1.2 j hj
    omega
/-- Where a word leads. -/
theorem wN_run {k : Nat} {N : List (List Int)} (hG : GoodN k N.length N) (w : List Int) : okW k w → runL N (dropZ w) < N.length ∧ runL (wN N) w = if dropZ w = [] then 0 else runL N (dropZ w) + 1 := by
  induction w using list_snoc_ind with
  | h0 => exact fun _ => ⟨hG.2.1, rfl⟩
  | h1 w y ih =>
    intro hw
    obtain ⟨hw1, hw2⟩ := okW_append.1 hw
    have hy := hw2 y (by simp)
    obtain ⟨i1, i2⟩ := ih hw1
    have hst : ∀ s, s < N.length → stepL N s y < N.length ∧ stepL (wN N) (s + 1) y = stepL N s y + 1 := fun s hs => by
      have h1 := hG.2.2.2.2.2 s hs
      have h2 := h1.2 y.toNat (by omega)
      unfold stepL
      rw [wN_succ hs, upR_get (by rw [h1.1]; omega)]
      omega
    rw [runL_snoc, i2, dropZ_end]
    by_cases hd : dropZ w = []
    · rw [if_pos hd, if_pos hd]
      have h0 := hG.2.2.2.2.2 0 hG.2.1
      have e0 : stepL (wN N) 0 y = if y = 0 then 0 else stepL N 0 y + 1 := by
        unfold stepL
        rw [wN_zero_get (by rw [h0.1]; omega)]
        have := h0.2 y.toNat (by omega)
        by_cases e : y = 0
        · subst e; rfl
        · rw [if_neg (by omega), if_neg e]; omega
      rw [e0]
      by_cases e : y = 0
      · rw [if_pos e, if_pos e]
        exact ⟨hG.2.1, rfl⟩
      · rw [if_neg e, if_neg e, if_neg (by simp)]
        have e1 : runL N [y] = stepL N 0 y := rfl
        rw [e1]
        exact ⟨(hst 0 hG.2.1).1, rfl⟩
    · rw [if_neg hd, if_neg hd, if_neg (by simp), runL_snoc]
      exact ⟨(hst _ i1).1, (hst _ i1).2⟩
theorem wO_say {k : Nat} {N : List (List Int)} {O : List Int} (hG : GoodN k N.length N) (w : List Int) (hw : okW k w) : (wO O).getD (runL (wN N) w) 0 = sayW N O (dropZ w) := by
  obtain ⟨h1, h2⟩ := wN_run hG w hw
  rw [h2]
  unfold sayW
  by_cases hd : dropZ w = []
  · rw [if_pos hd, hd]
    rfl
  · rw [if_neg hd]
    simp [wO, List.getD]
/-- Right words of one track at which v is said. -/
def isL (b : Int) (N : List (List Int)) (O : List Int) (v : Int) (w : List Int) : Bool := rightW b 1 w && decide (sayW N O (dropZ w) = v)
def wE (O : List Int) (v : Int) : List Bool := (wO O).map fun x => decide (x = v)
theorem wE_len (O : List Int) (v : Int) : (wE O v).length = O.length + 1 := by simp [wE, wO]
theorem wE_get {O : List Int} {v : Int} {s : Nat} (hs : s < O.length + 1) : (wE O v).getD s false = decide ((wO O).getD s 0 = v) := by
  have : s < (wO O).length := by rw [wO_len]; exact hs
  simp [wE, List.getD, this]
/-- The reference's automaton. -/
def isP (b : Int) (N : List (List Int)) : List (List Int) := prodN (wN N) (alN b 1) (kindsI b).toNat
def isQ (b : Int) (O : List Int) (v : Int) : List Bool := prodE 8 (O.length + 1) (alN b 1).length (wE O v) (alE b 1)
def isF (b : Int) (N : List (List Int)) (O : List Int) (v : Int) : Int := if outC b N O = 0 then (if 0 ≤ v ∧ v ≤ 9 then 0 else 1) else outC b N O
def isC (b : Int) (N : List (List Int)) (O : List Int) (v : Int) : Int := if isF b N O v = 0 then (if leastK (isP b N) (isQ b O v) (kindsI b).toNat ≤ 80 then 0 else 3) else isF b N O v
def isN (b : Int) (N : List (List Int)) (O : List Int) (v : Int) : List (List Int) := if isC b N O v = 0 then leastN (isP b N) (isQ b O v) (kindsI b).toNat else []
def isE (b : Int) (N : List (List Int)) (O : List Int) (v : Int) : List Bool := if isC b N O v = 0 then leastE (isP b N) (isQ b O v) (kindsI b).toNat else []
theorem isF_zero {b : Int} {N : List (List Int)} {O : List Int} {v : Int} (h : isF b N O v = 0) : outC b N O = 0 ∧ 0 ≤ v ∧ v ≤ 9 := by
  unfold isF at h
  by_cases h1 : outC b N O = 0
  · rw [if_pos h1] at h
    by_cases h2 : 0 ≤ v ∧ v ≤ 9
    · exact ⟨h1, h2⟩
    · rw [if_neg h2] at h; omega
  · rw [if_neg h1] at h; exact absurd h h1
theorem isP_ok {b : Int} {N : List (List Int)} {O : List Int} (h : outC b N O = 0) (v : Int) : GoodN (kindsI b).toNat ((N.length + 1) * (alN b 1).length) (isP b N) ∧ ∀ w, okW (kindsI b).toNat w → tkB (isP b N) (isQ b O v) w = isL b N O v w := by
  obtain ⟨h1, h2, h20, hO, hG, -⟩ := outC_zero h
  obtain ⟨hM, hm⟩ := one_track h1 h2
  have hL := al_well hM
  have hmn : (manyU b 1).toNat = (kindsI b).toNat := by rw [hm]
  have hW := wN_good hG h20
  have hG2 := hL.good
  rw [hmn] at hG2
  have h80 := autoC_80 hL.auto
  have hn : (N.length + 1) * (alN b 1).length ≤ 4000000 := Nat.le_trans (Nat.mul_le_mul (show N.length + 1 ≤ 21 by omega) h80) (by decide)
  refine ⟨prod_good hW hG2 hn, fun w hw => ?_⟩
  have hp := tk_prod hW hG2 8 (wE O v) (alE b 1) w hw
  have hr := run_lt hW w hw
  have h3 : tkB (wN N) (wE O v) w = decide (sayW N O (dropZ w) = v) := by
    unfold tkB
    rw [wE_get (by rw [hO]; exact hr), wO_say hG w hw]
  have h4 := hL.lang w (by rw [hmn]; exact hw)
  rw [h3, h4, how_and] at hp
  unfold isQ isL
  rw [hO, Bool.and_comm]
  exact hp
end Go.Proofs.YtcpnfbjcgaonkafDoor

/- The reference's OutFault, Said: contracts. -/
namespace Go.Proofs.YtcpnfbjcgaonkafDoor
open Go.RowKit

theorem box3_cells {W : World} {B : Nat} {v0 v1 v2 : Value} {T : TypeId} (h : W.heap[B]? = some (.cells #[v0, v1, v2] T (0, 0))) : (W.cell? ⟨B, 0, none⟩ = some v0 ∧ W.cell? ⟨B, 1, none⟩ = some v1 ∧ W.cell? ⟨B, 2, none⟩ = some v2) ∧ ∀ i, W.frozen? ⟨B, i, none⟩ = false := by
  refine ⟨⟨by simp [World.cell?, h], by simp [World.cell?, h], by simp [World.cell?, h]⟩, fun i => by simp [World.frozen?, h]⟩
/-- An Out, by value. -/
def outV (b : Int) (a : Option Addr) (n cap : Nat) (ao : Option Addr) (no co : Nat) : Value := .agg #[.int .i64 b, .slice a n cap, .slice ao no co]
/-- .. in a box, as it stays. -/
theorem outBox (w : World) (b : Int) (a : Option Addr) (n cap : Nat) (ao : Option Addr) (no co : Nat) {N : List (List Int)} {O : List Int} (T : TypeId) (hs : Sl2 w a n N) (ho : Sl w ao no O) :
    ∀ W, Below (w.alloc (.cells #[.int .i64 b, .slice a n cap, .slice ao no co] T)).heap.size (w.alloc (.cells #[.int .i64 b, .slice a n cap, .slice ao no co] T)) W → (W.cell? ⟨w.heap.size, 0, none⟩ = some (.int .i64 b) ∧ W.cell? ⟨w.heap.size, 1, none⟩ = some (.slice a n cap) ∧ W.cell? ⟨w.heap.size, 2, none⟩ = some (.slice ao no co)) ∧ Sl2 W a n N ∧ Sl W ao no O ∧ Below w.heap.size w W := fun W hW => by
  have hb := (Below.refl w.heap.size w).alloc (Nat.le_refl _) (.cells #[.int .i64 b, .slice a n cap, .slice ao no co] T)
  have hx := heap_alloc_last w (.cells #[.int .i64 b, .slice a n cap, .slice ao no co] T)
  have hbw := below_step hb hW
  exact ⟨(box3_cells ((hW.block _ (Array.getElem?_eq_some_iff.1 hx).1).trans hx)).1, sl2_below hs hbw, sl_below ho hbw, hbw⟩
set_option maxHeartbeats 8000000 in
set_option maxRecDepth 4000 in
theorem outFault_any (b : Int) (a : Option Addr) (n cap : Nat) (ao : Option Addr) (no co : Nat) (N : List (List Int)) (O : List Int) (w : World) (hs : Sl2 w a n N) (ho : Sl w ao no O) :
    Calls Tryd.prog 7 #[outV b a n cap ao no co] w fun e w' => e = .returned (.int .i64 (outC b N O)) ∧ Below w.heap.size w w' := by
  have hL := hs.1
  have hLo := ho.1
  have hmx := hs.2.1
  have hmo := ho.2.1
  unfold maxLen at hmx hmo
  have HBX := hide (outBox w b a n cap ao no co 25 hs ho)
  have HC : Hid (outC b N O = if 1 ≤ b ∧ b ≤ 6 then (if n = 0 then 4 else if 20 < n then 3 else if no = n then firstC (outRs (kindsI b).toNat N O) else 2) else 1) := by show _ = _; unfold outC; rw [hL, hLo]
  have HAT : Hid (∀ s, s < n → (∀ j, j < s → outR (kindsI b).toNat n (N.getD j []) (O.getD j 0) = 0) → outR (kindsI b).toNat n (N.getD s []) (O.getD s 0) ≠ 0 → firstC (outRs (kindsI b).toNat N O) = outR (kindsI b).toNat n (N.getD s []) (O.getD s 0)) := fun s hs2 hj hc => by
    have h := firstC_pre (outRs (kindsI b).toNat N O) s (fun j hjs => by rw [outRs_get (by omega), hL]; exact hj j hjs) (by rw [outRs_len, hL]; exact hs2) (by rw [outRs_get (by omega), hL]; exact hc)
    rw [outRs_get (by omega), hL] at h
    exact h
  have HALL : Hid ((∀ j, j < n → outR (kindsI b).toNat n (N.getD j []) (O.getD j 0) = 0) → firstC (outRs (kindsI b).toNat N O) = 0) := fun h => firstC_all _ fun j hj => by
    rw [outRs_len] at hj
    rw [outRs_get hj, hL]
    exact h j (by omega)
  clear hs ho hL hLo
  generalize firstC (outRs (kindsI b).toNat N O) = F at HC HAT HALL
  generalize outC b N O = c at HC ⊢
  unfold outV
  by_cases hb : 1 ≤ b ∧ b ≤ 6
  · have HRX := hide (fun W => radix_yes b W hb.1 hb.2)
    have hcc := HC.out
    rw [if_pos hb] at hcc
    have hk := kinds_nat hb.1 hb.2
    rw [← hk.2.2] at HRX
    have hk0 : (((kindsI b).toNat : Int) == 0) = false := by simp; omega
    generalize (kindsI b).toNat = k at HRX HAT HALL hk hk0
    by_cases h0 : n = 0
    · subst h0
      rw [if_pos rfl] at hcc
      subst hcc
      obtain ⟨⟨c0, c1, c2⟩, -⟩ := HBX.out _ (Below.refl _ _)
      have HB1 := hide ((Below.refl w.heap.size w).alloc (Nat.le_refl _) (.cells #[.int .i64 b, .slice a 0 cap, .slice ao no co] 25))
      go_enter Tryd.func7, Tryd.ntmps7
      go_wp2_with (go_at_call 24; refine (HRX.out _).mono ?_; rintro e w' ⟨rfl, hw'⟩; rw [hw']; clear hw' w')
      go_ret
      exact ⟨by simp, HB1.out⟩
    · rw [if_neg h0] at hcc
      have h0i : ((n : Int) == 0) = false := by simp; omega
      by_cases h20 : 20 < n
      · rw [if_pos h20] at hcc
        subst hcc
        have h20i : (n : Int) > 20 := by omega
        obtain ⟨⟨c0, c1, c2⟩, -⟩ := HBX.out _ (Below.refl _ _)
        have HB1 := hide ((Below.refl w.heap.size w).alloc (Nat.le_refl _) (.cells #[.int .i64 b, .slice a n cap, .slice ao no co] 25))
        go_enter Tryd.func7, Tryd.ntmps7
        go_wp2_with (go_at_call 24; refine (HRX.out _).mono ?_; rintro e w' ⟨rfl, hw'⟩; rw [hw']; clear hw' w')
        go_ret
        exact ⟨by simp, HB1.out⟩
      · rw [if_neg h20] at hcc
        have h20i : ¬ (n : Int) > 20 := by omega
        by_cases hno : no = n
        · subst hno
          rw [if_pos rfl] at hcc
          subst hcc
          obtain ⟨⟨c0, c1, c2⟩, -⟩ := HBX.out _ (Below.refl _ _)
          go_enter Tryd.func7, Tryd.ntmps7
          go_wp2_with (go_at_call 24; refine (HRX.out _).mono ?_; rintro e w' ⟨rfl, hw'⟩; rw [hw']; clear hw' w')
          generalize w.alloc (.cells #[.int .i64 b, .slice a no cap, .slice ao no co] 25) = wb at HBX c0 c1 c2 ⊢
          clear c0 c1 c2
          go_loopw [4] (fun iv wx => ∃ s : Nat, s ≤ no ∧ iv = .int .i64 s ∧ (∀ j, j < s → outR k no (N.getD j []) (O.getD j 0) = 0) ∧ Below wb.heap.size wb wx) (fun iv _ => no - (intOf iv).toNat)
          case atStart => exact ⟨0, by omega, rfl, fun j hj => by omega, Below.refl _ _⟩
          case round =>
            obtain ⟨s, hsn, rfl, hall, hbr⟩ := hrel
            have HALLS := hide hall
            have HBR := hide hbr
            obtain ⟨⟨c0, c1, c2⟩, hs2, ho2, hbw⟩ := HBX.out wr hbr
            have HBW := hide hbw
            clear hall hbr hbw
            by_cases hlt : s < no
            · have hlti : (s : Int) < (no : Int) := by omega
              obtain ⟨bb, o, a1, cc1, rfl, hck, hsl⟩ := sl2_cell hs2 s hlt
              obtain ⟨bo, oo, rfl, hco⟩ := sl_cell ho2 s hlt
              have HATs := hide (HAT.out s hlt HALLS.out)
              have HNX : Hid (outR k no (N.getD s []) (O.getD s 0) = 0 → ∀ j, j < s + 1 → outR k no (N.getD j []) (O.getD j 0) = 0) := fun h j hj => by
                by_cases e : j = s
                · subst e; exact h
                · exact HALLS.out j (by omega)
              have HSL := hide hsl
              have hrm := hsl.2.1
              unfold maxLen at hrm
              clear hs2 ho2 hsl
              generalize hrl : N.getD s [] = r at hck HATs HNX HSL hrm
              generalize hov : O.getD s 0 = ov at hco HATs HNX
              clear hrl hov
              by_cases hlen : r.length = k
              · have hlen' : ((r.length : Int) == (k : Int)) = true := by simp; omega
                rw [hlen] at hck HSL hrm
                have HR1 : Hid (∀ q, q < k → ¬ (0 ≤ r.getD q 0 ∧ r.getD q 0 < (no : Int)) → c = 1) := fun q hq hx => by
                  have e1 : outR k no r ov = 1 := by unfold outR; rw [rowC_bad hlen q hq hx]; rfl
                  have := HATs.out (by rw [e1]; decide)
                  rw [this, e1]
                have HR2 : Hid ((∀ q, q < k → 0 ≤ r.getD q 0 ∧ r.getD q 0 < (no : Int)) → (0 ≤ ov ∧ ov ≤ 9 → outR k no r ov = 0) ∧ (¬ (0 ≤ ov ∧ ov ≤ 9) → c = 1)) := fun h => by
                  have e0 := rowC_good (n := no) hlen h
                  refine ⟨fun h9 => by unfold outR; rw [if_pos e0, if_pos h9], fun h9 => ?_⟩
                  have e1 : outR k no r ov = 1 := by unfold outR; rw [if_pos e0, if_neg h9]
                  have := HATs.out (by rw [e1]; decide)
                  rw [this, e1]
                clear HATs hlen
                go_wp2
                obtain ⟨wo, hwo⟩ : ∃ wo : World, wo = wr := ⟨_, rfl⟩
                rw [← hwo] at HBR HBW c0 c1 c2 hck hco HSL ⊢
                clear hwo wr
                have HC1 := hide c1
                have HC2 := hide c2
                have HCK := hide hck
                have HCO := hide hco
                clear c0 c1 c2 hck hco
                go_loopw [5] (fun iv wx => ∃ q : Nat, q ≤ k ∧ iv = .int .i64 q ∧ (∀ j, j < q → 0 ≤ r.getD j 0 ∧ r.getD j 0 < (no : Int)) ∧ Below wo.heap.size wo wx) (fun iv _ => k - (intOf iv).toNat)
                case atStart => exact ⟨0, by omega, rfl, fun j hj => by omega, Below.refl _ _⟩
                case round =>
                  obtain ⟨q, hq, rfl, hgood, hbq⟩ := hrel
                  have HGD := hide hgood
                  have HBQ := hide hbq
                  have c1 := (hbq.cell (p := ⟨w.heap.size, 1, none⟩) (World.block_lt_of_cell? wo _ HC1.out)).trans HC1.out
                  have c2 := (hbq.cell (p := ⟨w.heap.size, 2, none⟩) (World.block_lt_of_cell? wo _ HC2.out)).trans HC2.out
                  have hck := (hbq.cell (p := ⟨bb, o + s, none⟩) (World.block_lt_of_cell? wo _ HCK.out)).trans HCK.out
                  have hco := (hbq.cell (p := ⟨bo, oo + s, none⟩) (World.block_lt_of_cell? wo _ HCO.out)).trans HCO.out
                  have HSLq := hide (sl_below HSL.out hbq)
                  clear hgood hbq
                  by_cases hqt : q < k
                  · have hqti : (q : Int) < (k : Int) := by omega
                    obtain ⟨b1, o1, rfl, hxc⟩ := sl_cell HSLq.out q hqt
                    have HR1q := hide (HR1.out q hqt)
                    have HGN : Hid (0 ≤ r.getD q 0 ∧ r.getD q 0 < (no : Int) → ∀ j, j < q + 1 → 0 ≤ r.getD j 0 ∧ r.getD j 0 < (no : Int)) := fun h j hj => by
                      by_cases e : j = q
                      · subst e; exact h
                      · exact HGD.out j (by omega)
                    generalize r.getD q 0 = x at hxc HR1q HGN
                    by_cases hx : 0 ≤ x ∧ x < (no : Int)
                    · have HG2 := hide (HGN.out hx)
                      obtain ⟨hx1, hx2⟩ := hx
                      have hxd : decide (x < 0) = false := by simp; omega
                      go_wp2
                      go_quiet (fail)
                      go_wp2
                      go_roundw
                      case rel => exact ⟨q + 1, by omega, by go_num, HG2.out, below_drewN HBQ.out nq⟩
                      case measure => simp [intOf]; omega
                    · have hF := HR1q.out hx
                      subst hF
                      have hx' : x < 0 ∨ (decide (x < 0) = false ∧ (no : Int) ≤ x) := by
                        by_cases e : x < 0
                        · exact Or.inl e
                        · exact Or.inr ⟨by simp; omega, by omega⟩
                      have HBZ := hide (below_step HBW.out HBQ.out)
                      clear hx HALL HAT HR1 HR1q HR2
                      rcases hx' with hx | ⟨hx1, hx2⟩
                      all_goals
                        go_wp2
                        go_quiet (fail)
                        go_wp2
                        go_ret
                        exact ⟨by simp, below_drewN HBZ.out nq⟩
                  · have hqti : ¬ (q : Int) < (k : Int) := by omega
                    obtain ⟨hr0, hr1⟩ := HR2.out (fun j hj => HGD.out j (by omega))
                    have HBZ := hide (below_step HBW.out HBQ.out)
                    have HBY := hide (below_step HBR.out HBQ.out)
                    by_cases h9 : ov < 0
                    · have hF := hr1 (by omega)
                      subst hF
                      clear HALL HAT HR1 HR2 hr0 hr1
                      go_wp2
                      go_ret
                      exact ⟨by simp, HBZ.out⟩
                    · have h9' : decide (ov < 0) = false := by simp; omega
                      by_cases h10 : ov > 9
                      · have hF := hr1 (by omega)
                        subst hF
                        clear HALL HAT HR1 HR2 hr0 hr1
                        go_wp2
                        go_ret
                        exact ⟨by simp, HBZ.out⟩
                      · have h10' : decide (ov > 9) = false := by simp; omega
                        have HN2 := hide (HNX.out (hr0 (by omega)))
                        clear hr0 hr1
                        go_wp2
                        go_roundw
                        case rel => exact ⟨s + 1, by omega, by go_num, HN2.out, HBY.out⟩
                        case measure => simp [intOf]; omega
              · have hlen' : ((r.length : Int) == (k : Int)) = false := by simp; omega
                have e2 : outR k no r ov = 2 := by unfold outR; rw [rowC_long hlen]; rfl
                have hF := HATs.out (by rw [e2]; decide)
                rw [e2] at hF
                subst hF
                clear HALL HAT HATs HNX e2
                go_wp2
                go_ret
                exact ⟨by simp, HBW.out⟩
            · have hlti : ¬ (s : Int) < (no : Int) := by omega
              have hF := HALL.out (fun j hj => HALLS.out j (by omega))
              subst hF
              clear HAT
              go_wp2
              go_ret
              exact ⟨by simp, HBW.out⟩
        · rw [if_neg hno] at hcc
          subst hcc
          have hnoi : ((no : Int) == (n : Int)) = false := by simp; omega
          obtain ⟨⟨c0, c1, c2⟩, -⟩ := HBX.out _ (Below.refl _ _)
          have HB1 := hide ((Below.refl w.heap.size w).alloc (Nat.le_refl _) (.cells #[.int .i64 b, .slice a n cap, .slice ao no co] 25))
          go_enter Tryd.func7, Tryd.ntmps7
          go_wp2_with (go_at_call 24; refine (HRX.out _).mono ?_; rintro e w' ⟨rfl, hw'⟩; rw [hw']; clear hw' w')
          go_ret
          exact ⟨by simp, HB1.out⟩
  · have HRX := hide (fun W => radix_no b W (by omega))
    have hcc := HC.out
    rw [if_neg hb] at hcc
    subst hcc
    obtain ⟨⟨c0, c1, c2⟩, -⟩ := HBX.out _ (Below.refl _ _)
    have HB1 := hide ((Below.refl w.heap.size w).alloc (Nat.le_refl _) (.cells #[.int .i64 b, .slice a n cap, .slice ao no co] 25))
    go_enter Tryd.func7, Tryd.ntmps7
    go_wp2_with (go_at_call 24; refine (HRX.out _).mono ?_; rintro e w' ⟨rfl, hw'⟩; rw [hw']; clear hw' w')
    go_ret
    exact ⟨by simp, HB1.out⟩

set_option maxHeartbeats 4000000 in
set_option maxRecDepth 4000 in
theorem said_any (b : Int) (a : Option Addr) (n cap : Nat) (ao : Option Addr) (no co : Nat) (N : List (List Int)) (O : List Int) (x : Int) (w : World) (hs : Sl2 w a n N) (ho : Sl w ao no O) (hC : outC b N O = 0) (hx : 0 ≤ x ∧ x ≤ 1099511627776) :
    Calls Tryd.prog 10 #[outV b a n cap ao no co, .int .i64 x] w fun e w' => e = .returned (.int .i64 (sayN b N O x)) ∧ Below w.heap.size w w' := by
  obtain ⟨h1, h2, h20, hO, hG, hrange⟩ := outC_zero hC
  have hL := hs.1
  have hLo := ho.1
  obtain ⟨k1, k2, k3⟩ := kinds_nat h1 h2
  have HBX := hide (outBox w b a n cap ao no co 25 hs ho)
  have HDG := hide (fun W => digitsOf_u b x W)
  have hnl : numL b x = dgs b x := by unfold numL; rw [if_pos ⟨⟨h1, h2⟩, hx⟩]
  have hcn : codeN b x = 0 := by unfold codeN; rw [if_pos ⟨⟨h1, h2⟩, hx⟩]
  rw [hnl, hcn] at HDG
  unfold OfU at HDG
  have hdig := dgs_digB b x h1 h2 hx.1 hx.2
  have h60 := dgs_length b x
  have HDD : Hid (∀ j, j < (dgs b x).length → 0 ≤ (dgs b x).getD j 0 ∧ (dgs b x).getD j 0 < (((kindsI b).toNat : Nat) : Int)) := fun j hj => by
    unfold digB at hdig
    rw [List.all_eq_true] at hdig
    have := hdig ((dgs b x).getD j 0) (by rw [getD_at _ j hj]; exact List.getElem_mem hj)
    rw [k3]
    simpa using this
  have HRUN : Hid (∀ j, j ≤ (dgs b x).length → runL N ((dgs b x).take j) < n) := fun j hj => by
    have := runL_lt hG (dgs b x) j hj (fun i hi => HDD.out i (by omega))
    rw [hL] at this
    exact this
  have HSUC : Hid (∀ j, j < (dgs b x).length → ((runL N ((dgs b x).take (j + 1)) : Nat) : Int) = (N.getD (runL N ((dgs b x).take j)) []).getD ((dgs b x).getD j 0).toNat 0) := fun j hj => by
    rw [runL_take_succ N _ j hj]
    exact (goodN_step hG _ (by rw [hL]; exact HRUN.out j (by omega)) _ (HDD.out j hj)).2
  have HROW : Hid (∀ s, s < n → (N.getD s []).length = (kindsI b).toNat) := fun s hsn => (hG.2.2.2.2.2 s (by omega)).1
  have HSAY : Hid (sayN b N O x = O.getD (runL N ((dgs b x).take (dgs b x).length)) 0) := by show _ = _; rw [List.take_length]; rfl
  have HNO : Hid (no = n) := by show _ = _; omega
  have hn20 : n ≤ 20 := by omega
  clear hs ho hC hnl hcn hdig hG hrange hO hL hLo h20
  generalize dgs b x = D at HDG h60 HDD HRUN HSUC HSAY
  generalize sayN b N O x = SV at HSAY ⊢
  generalize (kindsI b).toNat = k at HDD HROW k1 k2 k3
  unfold outV
  obtain ⟨⟨c0, c1, c2⟩, -⟩ := HBX.out _ (Below.refl _ _)
  go_enter Tryd.func10, Tryd.ntmps10
  go_wp2_with fail
  generalize w.alloc (.cells #[.int .i64 b, .slice a n cap, .slice ao no co] 25) = wb at HBX c0 c1 c2 ⊢
  clear c0 c1 c2
  refine (HDG.out wb).mono ?_
  rintro e w1 ⟨ad, cd, rfl, hsd, hb1⟩
  have HSD := hide hsd.1
  have HB1 := hide hb1
  clear hsd hb1 HDG
  go_wp2_with fail
  go_loopw [7, 8] (fun sv iv wx => ∃ j : Nat, j ≤ D.length ∧ iv = .int .i64 j ∧ sv = .int .i64 ((runL N (D.take j) : Nat) : Int) ∧ Below w1.heap.size w1 wx) (fun _ iv _ => D.length - (intOf iv).toNat)
  case atStart => exact ⟨0, by omega, rfl, rfl, Below.refl _ _⟩
  case round =>
    obtain ⟨j, hj, rfl, rfl, hbr⟩ := hrel
    have HBR := hide hbr
    obtain ⟨⟨c0, c1, c2⟩, hs2, ho2, hbw⟩ := HBX.out wr (below_step HB1.out hbr)
    have HBW := hide hbw
    have hrun := HRUN.out j hj
    have hruni : ((runL N (D.take j) : Nat) : Int) < (n : Int) := by omega
    by_cases hlt : j < D.length
    · have hlti : (j : Int) < (D.length : Int) := by omega
      obtain ⟨bb, o, a1, cc1, rfl, hck, hsl⟩ := sl2_cell hs2 (runL N (D.take j)) hrun
      obtain ⟨bd, od, rfl, hcd⟩ := sl_cell (sl_below HSD.out hbr) j hlt
      have hd := HDD.out j hlt
      have HSU := hide (HSUC.out j hlt)
      have hrl := HROW.out _ hrun
      obtain ⟨dn, hdn⟩ : ∃ dn : Nat, D.getD j 0 = (dn : Int) := ⟨(D.getD j 0).toNat, by omega⟩
      rw [hdn] at hcd hd HSU
      rw [Int.toNat_natCast] at HSU
      rw [hrl] at hck hsl
      have hdk : dn < k := by omega
      have hdki : (dn : Int) < (k : Int) := by omega
      obtain ⟨b1, o1, rfl, hcx⟩ := sl_cell hsl dn hdk
      rw [← HSU.out] at hcx
      clear hs2 ho2 hbw hbr hsl hrl hdn hd
      generalize hR : runL N (D.take j) = R at hck hrun hruni
      clear hR
      go_wp2
      go_quiet (fail)
      go_wp2
      go_roundw
      case rel => exact ⟨j + 1, by omega, by go_num, rfl, below_drewN HBR.out nq⟩
      case measure => simp [intOf]; omega
    · have hlti : ¬ (j : Int) < (D.length : Int) := by omega
      have hjd : D.length = j := by omega
      rw [hjd] at HSAY
      obtain ⟨bo, oo, rfl, hco⟩ := sl_cell ho2 (runL N (D.take j)) (by rw [HNO.out]; exact hrun)
      rw [← HSAY.out] at hco
      have hruno : ((runL N (D.take j) : Nat) : Int) < (no : Int) := by rw [HNO.out]; exact hruni
      clear hs2 ho2 hbw hbr HSAY
      generalize hR : runL N (D.take j) = R at hco hrun hruni hruno
      clear hR
      go_wp2
      go_ret
      exact ⟨by simp, HBW.out⟩
end Go.Proofs.YtcpnfbjcgaonkafDoor

/- Automata with outputs: where one says v, where two say the same; mathematics. -/
namespace Go.Proofs.YtcpnfbjcgaonkafDoor
open Go.RowKit

section
variable {b : Int} {N : List (List Int)} {O : List Int} {v : Int}
/-- Whatever takes these words has this least automaton. -/
theorem is_same (h : outC b N O = 0) (v : Int) {n : Nat} {M : List (List Int)} {ME : List Bool} (hG : GoodN (kindsI b).toNat n M) (hl : ∀ w, okW (kindsI b).toNat w → tkB M ME w = isL b N O v w) : leastN M ME (kindsI b).toNat = leastN (isP b N) (isQ b O v) (kindsI b).toNat ∧ leastE M ME (kindsI b).toNat = leastE (isP b N) (isQ b O v) (kindsI b).toNat := by
  obtain ⟨hP, hlP⟩ := isP_ok h v
  refine least_same hG hP ME _ fun w hw => ?_
  have h1 := hl w hw
  have h2 := hlP w hw
  unfold tkB at h1 h2
  rw [h1, h2]
end
section
variable {b : Int} {N : List (List Int)} {O : List Int} {N2 : List (List Int)} {O2 : List Int}
end
end Go.Proofs.YtcpnfbjcgaonkafDoor

/- filbertsame.Outs at two that are the same; what package word's Check, At, Head, Is answer. -/
namespace Go.Proofs.YtcpnfbjcgaonkafDoor
open Go.RowKit

/-- What Check, At, Head, Is answer. -/
def atF (b : Int) (N : List (List Int)) (O : List Int) (x hi : Int) : Int := if outC b N O = 0 then (if 0 ≤ x ∧ x ≤ hi then 0 else 1) else outC b N O
def atV (b : Int) (N : List (List Int)) (O : List Int) (x : Int) : Int := if atF b N O x 1099511627776 = 0 then sayN b N O x else 0
def headL (b : Int) (N : List (List Int)) (O : List Int) (x : Int) : List Int := if atF b N O x 200 = 0 then (List.range x.toNat).map fun i : Nat => sayN b N O (i : Int) else []
def CheckSays : Prop := ∀ (b : Int) (a : Option Addr) (n cap : Nat) (ao : Option Addr) (no co : Nat) (N : List (List Int)) (O : List Int) (W : World), Sl2 W a n N → Sl W ao no O → Calls Tryd.prog 9 #[outV b a n cap ao no co] W fun e w' => e = .returned (errV (outC b N O)) ∧ Below W.heap.size W w'
def AtSays : Prop := ∀ (b : Int) (a : Option Addr) (n cap : Nat) (ao : Option Addr) (no co : Nat) (N : List (List Int)) (O : List Int) (x : Int) (W : World), Sl2 W a n N → Sl W ao no O → Calls Tryd.prog 11 #[outV b a n cap ao no co, .int .i64 x] W fun e w' => e = .returned (.tuple #[.int .i64 (atV b N O x), errV (atF b N O x 1099511627776)]) ∧ Below W.heap.size W w'
def HeadR (W : World) (l : List Int) (c : Int) (e : Ending) (w' : World) : Prop := ∃ ah ch, e = .returned (.tuple #[.slice ah l.length ch, errV c]) ∧ Sl w' ah l.length l ∧ Below W.heap.size W w'
def HeadSays : Prop := ∀ (b : Int) (a : Option Addr) (n cap : Nat) (ao : Option Addr) (no co : Nat) (N : List (List Int)) (O : List Int) (x : Int) (W : World), Sl2 W a n N → Sl W ao no O → Calls Tryd.prog 12 #[outV b a n cap ao no co, .int .i64 x] W (HeadR W (headL b N O x) (atF b N O x 200))
def IsSays : Prop := ∀ (b : Int) (a : Option Addr) (n cap : Nat) (ao : Option Addr) (no co : Nat) (N : List (List Int)) (O : List Int) (v : Int) (W : World), Sl2 W a n N → Sl W ao no O → Calls Tryd.prog 15 #[outV b a n cap ao no co, .int .i64 v] W (PairR W (okI (isC b N O v) b) (okI (isC b N O v) 1) (isN b N O v) (isE b N O v) (isC b N O v))
end Go.Proofs.YtcpnfbjcgaonkafDoor

/- word.ofAllWords, Is, Like: what is read; mathematics. -/
namespace Go.Proofs.YtcpnfbjcgaonkafDoor
open Go.RowKit

/-- One step of what reads all words. -/
def bgn (a : Int) : Int := if a = -1 then 0 else a
def stpW (b : Int) (N : List (List Int)) (a c x : Int) : Int × Int :=
  if a = -2 ∨ (c = 1 ∧ x = 1) then (-2, 0) else if a = -1 ∧ x = 0 then (a, c) else ((N.getD (bgn a).toNat []).getD x.toNat 0, if b = 1 then x else 0)
def dW (b : Int) (N : List (List Int)) (s l : Nat) : Nat := spN (stpW b N (spA s) (spB s) (l : Int)).1 (stpW b N (spA s) (spB s) (l : Int)).2
theorem dOf_one {b x : Int} (h0 : 0 ≤ x) (h1 : x < kindsI b) : dOf b 1 x 0 = x := by
  have e1 : pw (kindsI b) (1 - 1 - 0) = 1 := by simp [pw]
  unfold dOf
  rw [e1, Int.ediv_one, Int.emod_eq_of_lt h0 h1]
theorem hit_one {b x y : Int} (h0 : 0 ≤ x) (h1 : x < kindsI b) (h2 : 0 ≤ y) (h3 : y < kindsI b) : hitB b 1 x y = decide (b = 1 ∧ x = 1 ∧ y = 1) := by
  unfold hitB
  have e : List.range 1 = [0] := rfl
  rw [e]
  simp only [List.any_cons, List.any_nil, Bool.or_false]
  rw [dOf_one h0 h1, dOf_one h2 h3]
  by_cases e1 : b = 1 <;> by_cases e2 : x = 1 <;> by_cases e3 : y = 1 <;> simp [e1, e2, e3]
/-- Where it stands behind a word. -/
def RdAt (b : Int) (N : List (List Int)) (w : List Int) (a c : Int) : Prop :=
  (badL b 1 w = true ∧ a = -2 ∧ c = 0) ∨ (badL b 1 w = false ∧ dropZ w = [] ∧ a = -1 ∧ c = 0) ∨ (badL b 1 w = false ∧ dropZ w ≠ [] ∧ a = (runL N (dropZ w) : Int) ∧ runL N (dropZ w) < N.length ∧ ∃ v y, w = v ++ [y] ∧ c = if b = 1 then y else 0)
theorem zero_last {v : List Int} {y : Int} (h : dropZ (v ++ [y]) = []) : y = 0 := by
  rw [dropZ_end] at h
  by_cases e : dropZ v = []
  · rw [if_pos e] at h
    by_cases e2 : y = 0
    · exact e2
    · rw [if_neg e2] at h; cases h
  · rw [if_neg e] at h; simp at h
theorem snoc_cases (w : List Int) : w = [] ∨ ∃ v y, w = v ++ [y] := by
  induction w using list_snoc_ind with
  | h0 => exact .inl rfl
  | h1 l x _ => exact .inr ⟨l, x, rfl⟩
theorem rd_step {b : Int} {k : Nat} {N : List (List Int)} (hG : GoodN k N.length N) (hk : (k : Int) = kindsI b) {w : List Int} {a c y : Int} (hw : okW k w) (hy : 0 ≤ y ∧ y < (k : Int)) (h : RdAt b N w a c) : RdAt b N (w ++ [y]) (stpW b N a c y).1 (stpW b N a c y).2 := by
  have hst : ∀ s, s < N.length → (((N.getD s []).getD y.toNat 0 = (stepL N s y : Int)) ∧ stepL N s y < N.length) := fun s hs => by
    have h1 := hG.2.2.2.2.2 s hs
    have h2 := h1.2 y.toNat (by omega)
    unfold stepL
    omega
  rcases h with ⟨h1, rfl, rfl⟩ | ⟨h1, h2, rfl, rfl⟩ | ⟨h1, h2, rfl, h3, v, x, rfl, rfl⟩
  · refine .inl ⟨?_, ?_, ?_⟩
    · rcases snoc_cases w with rfl | ⟨v, x, rfl⟩
      · simp [badL] at h1
      · rw [badL_snoc, h1]; rfl
    · simp [stpW]
    · simp [stpW]
  · have hbad : badL b 1 (w ++ [y]) = false := by
      rcases snoc_cases w with rfl | ⟨v, x, rfl⟩
      · simp [badL]
      · obtain rfl := zero_last h2
        rw [badL_snoc, h1, hit_one (by omega) (by omega) (by omega) (by omega)]
        simp
    by_cases e : y = 0
    · subst e
      refine .inr (.inl ⟨hbad, by rw [dropZ_end, if_pos h2, if_pos rfl], by simp [stpW], by simp [stpW]⟩)
    · have hd : dropZ (w ++ [y]) = [y] := by rw [dropZ_end, if_pos h2, if_neg e]
      have e0 : stpW b N (-1) 0 y = ((N.getD 0 []).getD y.toNat 0, if b = 1 then y else 0) := by simp [stpW, bgn, e]
      have h4 := hst 0 hG.2.1
      have e1 : runL N [y] = stepL N 0 y := rfl
      refine .inr (.inr ⟨hbad, by rw [hd]; simp, ?_, by rw [hd, e1]; exact h4.2, w, y, rfl, by rw [e0]⟩)
      rw [hd, e0, e1]
      exact h4.1
  · obtain ⟨hw1, hx0, hx1⟩ := okW_snoc.1 hw
    have hbad : badL b 1 (v ++ [x] ++ [y]) = decide (b = 1 ∧ x = 1 ∧ y = 1) := by
      rw [badL_snoc, h1, hit_one (by omega) (by omega) (by omega) (by omega)]; rfl
    have hd : dropZ (v ++ [x] ++ [y]) = dropZ (v ++ [x]) ++ [y] := by rw [dropZ_end, if_neg h2]
    by_cases e : b = 1 ∧ x = 1 ∧ y = 1
    · refine .inl ⟨by rw [hbad]; simpa using e, ?_, ?_⟩
      · simp [stpW, e]
      · simp [stpW, e]
    · have e0 : stpW b N (runL N (dropZ (v ++ [x])) : Int) (if b = 1 then x else 0) y = ((N.getD (runL N (dropZ (v ++ [x]))) []).getD y.toNat 0, if b = 1 then y else 0) := by
        have n1 : ¬ ((runL N (dropZ (v ++ [x])) : Int) = -2 ∨ ((if b = 1 then x else 0) = 1 ∧ y = 1)) := by
          rintro (h | ⟨h, hy1⟩)
          · omega
          · by_cases hb : b = 1
            · rw [if_pos hb] at h; exact e ⟨hb, h, hy1⟩
            · rw [if_neg hb] at h; omega
        unfold stpW bgn
        rw [if_neg n1, if_neg (by omega), if_neg (by omega), Int.toNat_natCast]
      have h4 := hst _ h3
      refine .inr (.inr ⟨by rw [hbad]; simpa using e, by rw [hd]; simp, ?_, by rw [hd, runL_snoc]; exact h4.2, v ++ [x], y, rfl, by rw [e0]⟩)
      rw [hd, e0, runL_snoc]
      exact h4.1
theorem rd_bd {b : Int} {k : Nat} {N : List (List Int)} (hk : (k : Int) = kindsI b) {w : List Int} {a c : Int} (hw : okW k w) (h : RdAt b N w a c) : (a = -2 ∧ c = 0) ∨ (a = -1 ∧ c = 0) ∨ (0 ≤ a ∧ a < (N.length : Int) ∧ 0 ≤ c ∧ c ≤ 1) := by
  rcases h with ⟨h1, rfl, rfl⟩ | ⟨h1, h2, rfl, rfl⟩ | ⟨h1, h2, rfl, h3, v, x, rfl, rfl⟩
  · exact .inl ⟨rfl, rfl⟩
  · exact .inr (.inl ⟨rfl, rfl⟩)
  · obtain ⟨hw1, hx0, hx1⟩ := okW_snoc.1 hw
    refine .inr (.inr ⟨by omega, by omega, ?_⟩)
    by_cases hb : b = 1
    · rw [if_pos hb]
      subst hb
      rw [hk] at hx1
      have : kindsI 1 = 2 := rfl
      omega
    · rw [if_neg hb]; omega
theorem rd_run {b : Int} {k : Nat} {N : List (List Int)} (hG : GoodN k N.length N) (hk : (k : Int) = kindsI b) (hN : N.length ≤ 20) (w : List Int) : okW k w → RdAt b N w (spA (runG (dW b N) 64 w)) (spB (runG (dW b N) 64 w)) := by
  induction w using list_snoc_ind with
  | h0 => exact fun _ => .inr (.inl ⟨rfl, rfl, by show spA 64 = -1; decide, by show spB 64 = 0; decide⟩)
  | h1 w y ih =>
    intro hw
    obtain ⟨hw1, hy⟩ := okW_snoc.1 hw
    have h := rd_step hG hk hw1 hy (ih hw1)
    have hb := rd_bd hk hw h
    rw [runG_snoc]
    have e : dW b N (runG (dW b N) 64 w) y.toNat = spN (stpW b N (spA (runG (dW b N) 64 w)) (spB (runG (dW b N) 64 w)) y).1 (stpW b N (spA (runG (dW b N) 64 w)) (spB (runG (dW b N) 64 w)) y).2 := by
      unfold dW; rw [show ((y.toNat : Nat) : Int) = y by omega]
    rw [e]
    have h2 := sp_back (a := (stpW b N (spA (runG (dW b N) 64 w)) (spB (runG (dW b N) 64 w)) y).1) (c := (stpW b N (spA (runG (dW b N) 64 w)) (spB (runG (dW b N) 64 w)) y).2) (by omega) (by omega) (by omega) (by omega)
    rw [h2.1, h2.2.1]
    exact h
theorem map_at {α β : Type} (f : α → β) (l : List α) (i : Nat) (d : α) (d' : β) (h : i < l.length) : (l.map f).getD i d' = f (l.getD i d) := by simp [List.getD, h]
/-- All spots are among these. -/
def spotK : List Nat := [spN (-2) 0, spN (-1) 0] ++ ((List.range 20).map fun i : Nat => spN (i : Int) 0) ++ (List.range 20).map fun i : Nat => spN (i : Int) 1
def rdL (b : Int) (N : List (List Int)) : List Nat := outG (dW b N) (kindsI b).toNat 64 spotM
def sayS (O : List Int) (s : Nat) : Int := if spA s = -2 then -1 else O.getD (bgn (spA s)).toNat 0
def rdN (b : Int) (N : List (List Int)) : List (List Int) := gN (dW b N) (kindsI b).toNat (rdL b N)
def rdO (b : Int) (N : List (List Int)) (O : List Int) : List Int := (rdL b N).map (sayS O)
theorem rd_mem {b : Int} {N : List (List Int)} {O : List Int} (h : outC b N O = 0) {i s : Nat} (hs : s ∈ outG (dW b N) (kindsI b).toNat 64 i) : ((spA s = -2 ∧ spB s = 0) ∨ (spA s = -1 ∧ spB s = 0) ∨ (0 ≤ spA s ∧ spA s < (N.length : Int) ∧ 0 ≤ spB s ∧ spB s ≤ 1)) ∧ s ∈ spotK := by
  obtain ⟨h1, h2, h20, hO, hG, -⟩ := outC_zero h
  obtain ⟨k1, k2, k3⟩ := kinds_nat h1 h2
  obtain ⟨w, hw, rfl⟩ := outG_reach hs
  have hb := rd_bd k3 hw (rd_run hG k3 h20 w hw)
  refine ⟨hb, ?_⟩
  have key : ∀ s a c, spA s = a → spB s = c → -2 ≤ a → a < 62 → 0 ≤ c → c < 64 → s = spN a c := fun s a c e1 e2 b1 b2 b3 b4 => by
    have hb := sp_back b1 b2 b3 b4
    exact sp_inj (e1.trans hb.1.symm) (e2.trans hb.2.1.symm)
  unfold spotK
  rcases hb with ⟨e1, e2⟩ | ⟨e1, e2⟩ | ⟨e1, e2, e3, e4⟩
  · rw [key _ _ _ e1 e2 (by decide) (by decide) (by decide) (by decide)]
    simp
  · rw [key _ _ _ e1 e2 (by decide) (by decide) (by decide) (by decide)]
    simp
  · obtain ⟨n, hn⟩ : ∃ n : Nat, spA (runG (dW b N) 64 w) = (n : Int) := ⟨(spA (runG (dW b N) 64 w)).toNat, by omega⟩
    rcases (show spB (runG (dW b N) 64 w) = 0 ∨ spB (runG (dW b N) 64 w) = 1 by omega) with e5 | e5
    · rw [key _ _ _ hn e5 (by omega) (by omega) (by decide) (by decide)]
      exact List.mem_append.2 (.inl (List.mem_append.2 (.inr (List.mem_map.2 ⟨n, List.mem_range.2 (by omega), rfl⟩))))
    · rw [key _ _ _ hn e5 (by omega) (by omega) (by decide) (by decide)]
      exact List.mem_append.2 (.inr (List.mem_map.2 ⟨n, List.mem_range.2 (by omega), rfl⟩))
theorem rd_lt {b : Int} {N : List (List Int)} {O : List Int} (h : outC b N O = 0) {i s : Nat} (hs : s ∈ outG (dW b N) (kindsI b).toNat 64 i) : s < 4096 := by
  have hk : ∀ x ∈ spotK, x < 4096 := by decide +kernel
  exact hk s (rd_mem h hs).2
theorem rd_few {b : Int} {N : List (List Int)} {O : List Int} (h : outC b N O = 0) (i : Nat) : (outG (dW b N) (kindsI b).toNat 64 i).length ≤ 42 :=
  nodup_sub (K := spotK) (outG_nodup _ _ _ i) (fun _ hx => (rd_mem h hx).2)
theorem rdN_len (b : Int) (N : List (List Int)) : (rdN b N).length = (rdL b N).length := by unfold rdN; exact gN_len _ _ _
theorem rdO_len (b : Int) (N : List (List Int)) (O : List Int) : (rdO b N O).length = (rdL b N).length := by simp [rdO]
theorem rd_open {b : Int} {N : List (List Int)} {O : List Int} (h : outC b N O = 0) : ClosedG (dW b N) (kindsI b).toNat (rdL b N) ∧ 0 < (rdL b N).length ∧ (rdL b N).length ≤ 42 ∧ (rdL b N).getD 0 0 = 64 := by
  have hf := rd_few h spotM
  obtain ⟨p0, p1⟩ := outG_pos (dW b N) (kindsI b).toNat 64 spotM
  have hc : ClosedG (dW b N) (kindsI b).toNat (outG (dW b N) (kindsI b).toNat 64 spotM) := outG_closed (Nat.le_trans hf (by rw [spotM_eq]; decide))
  unfold rdL
  exact ⟨hc, p0, hf, p1⟩
theorem rd_good {b : Int} {N : List (List Int)} {O : List Int} (h : outC b N O = 0) : GoodN (kindsI b).toNat (rdN b N).length (rdN b N) ∧ (rdN b N).length ≤ 42 := by
  obtain ⟨h1, h2, -⟩ := outC_zero h
  obtain ⟨k1, k2, k3⟩ := kinds_nat h1 h2
  obtain ⟨hc, p0, hf, -⟩ := rd_open h
  rw [rdN_len]
  refine ⟨?_, hf⟩
  unfold rdN
  generalize rdL b N = L at hc p0 hf ⊢
  exact gN_good hc p0 (Nat.le_trans hf (by decide)) (by omega) (by omega)
theorem say_at {N : List (List Int)} {O : List Int} {b : Int} {s : Nat} {w : List Int} (h : RdAt b N w (spA s) (spB s)) : sayS O s = if rightW b 1 w = true then sayW N O (dropZ w) else -1 := by
  rw [← bad_right (b := b) (t := 1) (tr := 1) rfl w]
  unfold sayS sayW
  rcases h with ⟨e1, e2, -⟩ | ⟨e1, e2, e3, -⟩ | ⟨e1, e2, e3, e4, -⟩
  · rw [e1, e2, if_pos rfl, if_neg (by simp)]
  · rw [e1, e3, if_neg (by decide), if_pos (by rfl), e2]; rfl
  · rw [e1, e3, if_neg (by omega), if_pos (by rfl)]
    unfold bgn
    rw [if_neg (by omega), Int.toNat_natCast]
theorem rd_say {b : Int} {N : List (List Int)} {O : List Int} (h : outC b N O = 0) (w : List Int) (hw : okW (kindsI b).toNat w) : (rdO b N O).getD (runL (rdN b N) w) 0 = if rightW b 1 w = true then sayW N O (dropZ w) else -1 := by
  obtain ⟨h1, h2, h20, hO, hG, -⟩ := outC_zero h
  obtain ⟨k1, k2, k3⟩ := kinds_nat h1 h2
  obtain ⟨hc, p0, hf, p1⟩ := rd_open h
  have hr := rd_run hG k3 h20 w hw
  rw [← say_at hr]
  unfold rdO rdN
  generalize rdL b N = L at hc p0 p1 ⊢
  obtain ⟨r1, r2⟩ := gN_run hc p0 w hw
  rw [p1] at r2
  rw [← r2]
  exact map_at _ _ _ 0 _ r1
theorem rd_all {b : Int} {N : List (List Int)} {O : List Int} (h : outC b N O = 0) : GoodN (kindsI b).toNat (rdN b N).length (rdN b N) ∧ (rdN b N).length ≤ 42 ∧ ∀ w, okW (kindsI b).toNat w → (rdO b N O).getD (runL (rdN b N) w) 0 = if rightW b 1 w = true then sayW N O (dropZ w) else -1 :=
  ⟨(rd_good h).1, (rd_good h).2, fun w hw => rd_say h w hw⟩
/-- Where v is said. -/
def rdE (b : Int) (N : List (List Int)) (O : List Int) (v : Int) : List Bool := (rdO b N O).map fun x => decide (x = v)
theorem rdE_len (b : Int) (N : List (List Int)) (O : List Int) (v : Int) : (rdE b N O v).length = (rdL b N).length := by simp [rdE, rdO]
theorem rd_is {b : Int} {N : List (List Int)} {O : List Int} {v : Int} (h : outC b N O = 0) (hv : 0 ≤ v) (w : List Int) (hw : okW (kindsI b).toNat w) : tkB (rdN b N) (rdE b N O v) w = isL b N O v w := by
  obtain ⟨hG, hf, hs⟩ := rd_all h
  have hr := run_lt hG w hw
  have h1 := hs w hw
  rw [rdN_len, ← rdO_len b N O] at hr
  unfold tkB rdE isL
  have e : ((rdO b N O).map fun x => decide (x = v)).getD (runL (rdN b N) w) false = decide ((rdO b N O).getD (runL (rdN b N) w) 0 = v) := by
    exact map_at _ _ _ 0 _ hr
  rw [e, h1]
  by_cases hR : rightW b 1 w = true
  · rw [if_pos hR, hR, Bool.true_and]
  · rw [if_neg hR]
    have : rightW b 1 w = false := by simpa using hR
    rw [this, Bool.false_and]
    exact decide_eq_false (by omega)
section
variable {b : Int} {N : List (List Int)} {O : List Int} {N2 : List (List Int)} {O2 : List Int}
end
end Go.Proofs.YtcpnfbjcgaonkafDoor

/- The reference's MorphOf: contract. -/
namespace Go.Proofs.YtcpnfbjcgaonkafDoor
open Go.RowKit

theorem box3_set {W : World} {B : Nat} {u0 u1 u2 v0 v1 v2 : Value} {T : TypeId} (h : W.heap[B]? = some (.cells #[u0, u1, u2] T (0, 0))) {W' : World} (e : W' = ((W.setCell ⟨B, 0, none⟩ v0).setCell ⟨B, 1, none⟩ v1).setCell ⟨B, 2, none⟩ v2) :
    W'.heap[B]? = some (.cells #[v0, v1, v2] T (0, 0)) ∧ ∀ (w : World) (k : Nat), Below k w W → k ≤ B → Below k w W' := by
  subst e
  refine ⟨?_, fun w k hb hk => ((hb.setCell hk _).setCell hk _).setCell hk _⟩
  simp [World.setCell, Array.getElem?_modify, h]
end Go.Proofs.YtcpnfbjcgaonkafDoor
