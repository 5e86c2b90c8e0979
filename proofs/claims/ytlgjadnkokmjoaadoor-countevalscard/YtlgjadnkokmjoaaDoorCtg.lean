/- What Eval answers: mathematics; count.areCounts, isShaped: contracts. -/
import Derived.Test.YtlgjadnkokmjoaaDoorAc
import Derived.Test.YtlgjadnkokmjoaaDoorCte
import Derived.Test.YtlgjadnkokmjoaaDoorCtf
namespace Go.Proofs.YtlgjadnkokmjoaaDoor
open Go.RowKit

def amtB (x : Int) : Bool := decide (0 ≤ x ∧ x ≤ 1152921504606846976)
def shpB (n : Nat) (s : List (List Int)) : Bool := decide (s.length = n) && s.all (fun r => decide (r.length = n))
def shapeB (n m : Nat) (S : List (List (List Int))) (L : List Int) : Bool := (decide (L.length = n) && decide (S.length = m)) && S.all (shpB n)
def cntsB (F : List Int) (S : List (List (List Int))) (L : List Int) : Bool := (F.all amtB && L.all amtB) && S.all (fun s => s.all (fun r => r.all amtB))
/-- What is wrong with what counts by matrices. -/
def repC (b t : Int) (F : List Int) (S : List (List (List Int))) (L : List Int) : Int :=
  if codeM b t = 0 then (if F.length = 0 then 4 else if 80 < F.length then 3 else if shapeB F.length (manyU b t).toNat S L = true then (if cntsB F S L = true then 0 else 1) else 2) else codeM b t
/-- The row behind a word, if nothing that comes up is too great. -/
def evGo (S : List (List (List Int))) : List Int → List Int → Option (List Int)
  | row, [] => some row
  | row, x :: v => if (thrL row (S.getD x.toNat [])).all amtB = true then evGo S (thrL row (S.getD x.toNat [])) v else none
def evS (row L : List Int) : Int := capI (csum (fun i => row.getD i 0 * L.getD i 0) row.length)
def evlX (F : List Int) (S : List (List (List Int))) (L w : List Int) : Option Int := match evGo S F w with
  | none => none
  | some row => if evS row L ≤ 1152921504606846976 then some (evS row L) else none
def evlC (b t : Int) (F : List Int) (S : List (List (List Int))) (L w : List Int) : Int :=
  if repC b t F S L = 0 then (if wordC S.length w = 0 then (if (evlX F S L w).isSome = true then 0 else 3) else wordC S.length w) else repC b t F S L
def evlV (b t : Int) (F : List Int) (S : List (List (List Int))) (L w : List Int) : Int :=
  if evlC b t F S L w = 0 then (evlX F S L w).getD 0 else 0
def retQ (q : Bool) (w : World) (e : Ending) (w' : World) : Prop := e = .returned (.bool q) ∧ w' = w
def retQB (q : Bool) (w : World) (e : Ending) (w' : World) : Prop := e = .returned (.bool q) ∧ Below w.heap.size w w'
theorem allD_yes {α : Type} {l : List α} {p : α → Bool} {d : α} (h : ∀ i, i < l.length → p (l.getD i d) = true) : l.all p = true := by
  rw [List.all_eq_true]
  intro x hx
  obtain ⟨i, hi, rfl⟩ := List.getElem_of_mem hx
  have := h i hi
  simpa [List.getD, hi] using this
theorem allD_no {α : Type} {l : List α} {p : α → Bool} {d : α} (i : Nat) (hi : i < l.length) (h : p (l.getD i d) = false) : l.all p = false := by
  rw [List.all_eq_false]
  refine ⟨l[i], List.getElem_mem _, ?_⟩
  have e : l.getD i d = l[i] := by simp [List.getD, hi]
  rw [← e, h]
  exact Bool.false_ne_true
theorem allD_at {α : Type} {l : List α} {p : α → Bool} {d : α} (h : l.all p = true) {i : Nat} (hi : i < l.length) : p (l.getD i d) = true := by
  have e : l.getD i d = l[i] := by simp [List.getD, hi]
  rw [e]
  exact List.all_eq_true.1 h _ (List.getElem_mem _)
set_option maxHeartbeats 2000000 in
set_option maxRecDepth 4000 in
theorem areCounts_any (a : Option Addr) (n c : Nat) (l : List Int) (w : World) (hs : Sl w a n l) : Calls Tryd.prog 27 #[.slice a n c] w (retQ (l.all amtB) w) := by
  have hL := hs.1
  have hnm := hs.2.1
  unfold maxLen at hnm
  have HS := hide hs
  have HY := hide (@allD_yes Int l amtB 0)
  have HN := hide (@allD_no Int l amtB 0)
  rw [hL] at HY HN
  generalize l.all amtB = R at HY HN ⊢
  clear hs hL
  go_enter Tryd.func27, Tryd.ntmps27
  go_wp2
  go_loop [7] (fun u => ∃ k : Nat, k ≤ n ∧ u = .int .i64 k ∧ ∀ i, i < k → amtB (l.getD i 0) = true) (fun u => n - (intOf u).toNat)
  case atStart => exact ⟨0, by omega, rfl, fun i hi => by omega⟩
  case round =>
    obtain ⟨k, hk, rfl, hd⟩ := hrel
    have HD := hide hd
    clear hd
    by_cases hlt : k < n
    · have hlti : (k : Int) < (n : Int) := by omega
      obtain ⟨b1, o1, rfl, hc⟩ := sl_cell HS.out k hlt
      have HB := hide (HN.out k hlt)
      have HD2 : Hid (amtB (l.getD k 0) = true → ∀ i, i < k + 1 → amtB (l.getD i 0) = true) := fun h i hi => by
        by_cases e : i = k
        · subst e; exact h
        · exact HD.out i (by omega)
      generalize l.getD k 0 = x at hc HB HD2
      by_cases hx : 0 ≤ x ∧ x ≤ 1152921504606846976
      · have HD3 := hide (HD2.out (decide_eq_true hx))
        obtain ⟨h1, h2⟩ := hx
        go_wp2
        go_round
        case rel => exact ⟨k + 1, by omega, by go_num, HD3.out⟩
        case measure => simp [intOf]; omega
      · have HB2 := hide (HB.out (decide_eq_false hx))
        have hx' : x < 0 ∨ (¬ x < 0 ∧ 1152921504606846976 < x) := by omega
        clear hx
        rcases hx' with hx | ⟨h1, h2⟩
        all_goals
          go_wp2
          go_ret
          exact ⟨by rw [HB2.out]; rfl, rfl⟩
    · have hlti : ¬ (k : Int) < (n : Int) := by omega
      obtain rfl : k = n := by omega
      have HR := hide (HY.out HD.out)
      go_wp2
      go_ret
      exact ⟨by rw [HR.out]; rfl, rfl⟩
set_option maxHeartbeats 4000000 in
set_option maxRecDepth 4000 in
theorem isShaped_any (b t : Int) (a1 : Option Addr) (n1 c1 : Nat) (a2 : Option Addr) (n2 c2 : Nat) (a3 : Option Addr) (n3 c3 : Nat) (S : List (List (List Int))) (L : List Int) (m n : Nat) (w : World) (hS : Sl3 w a2 n2 S) (hL : Sl w a3 n3 L) (hm : m ≤ 36) (hn : n ≤ 80) :
    Calls Tryd.prog 66 #[.agg #[.int .i64 b, .int .i64 t, .slice a1 n1 c1, .slice a2 n2 c2, .slice a3 n3 c3], .int .i64 (m : Int), .int .i64 (n : Int)] w (retQB (shapeB n m S L) w) := by
  have hBX : Below w.heap.size w (w.alloc (.cells #[.int .i64 b, .int .i64 t, .slice a1 n1 c1, .slice a2 n2 c2, .slice a3 n3 c3] 38)) := (Below.refl _ _).alloc (Nat.le_refl _) _
  have HBX := hide hBX
  obtain ⟨p0, p1, p2, p3, p4⟩ := @box5R w _ (.int .i64 b) (.int .i64 t) (.slice a1 n1 c1) (.slice a2 n2 c2) (.slice a3 n3 c3) 38 (Below.refl _ _)
  have HS := hide (sl3_below hS hBX)
  have hSl := hS.1
  have hLl := hL.1
  have hm2 := hS.2.1
  unfold maxLen at hm2
  have HSB : Hid (shapeB n m S L = ((decide (n3 = n) && decide (n2 = m)) && S.all (shpB n))) := by show _ = _; unfold shapeB; rw [hSl, hLl]
  have HY := hide (@allD_yes _ S (shpB n) [])
  have HN := hide (@allD_no _ S (shpB n) [])
  rw [hSl] at HY HN
  generalize hwb : w.alloc (.cells #[.int .i64 b, .int .i64 t, .slice a1 n1 c1, .slice a2 n2 c2, .slice a3 n3 c3] 38) = wb at HBX p0 p1 p2 p3 p4 HS
  generalize S.all (shpB n) = R at HSB HY HN
  generalize shapeB n m S L = Q at HSB ⊢
  clear hS hL hSl hLl hBX
  have hcase : n3 ≠ n ∨ (n3 = n ∧ n2 ≠ m) ∨ (n3 = n ∧ n2 = m) := by omega
  rcases hcase with h3 | ⟨rfl, h2⟩ | ⟨rfl, rfl⟩
  · have hne : ((n3 : Int) != (n : Int)) = true := by simp; omega
    have HQ : Hid (Q = false) := by show _ = _; rw [HSB.out, decide_eq_false h3]; rfl
    go_enter Tryd.func66, Tryd.ntmps66
    go_wp2
    go_ret
    exact ⟨by rw [HQ.out]; rfl, HBX.out⟩
  · have hne : ((n3 : Int) != (n3 : Int)) = false := by simp
    have hne2 : ((n2 : Int) != (m : Int)) = true := by simp; omega
    have HQ : Hid (Q = false) := by show _ = _; rw [HSB.out, decide_eq_false h2, Bool.and_false]; rfl
    go_enter Tryd.func66, Tryd.ntmps66
    go_wp2
    go_ret
    exact ⟨by rw [HQ.out]; rfl, HBX.out⟩
  · have hne : ((n3 : Int) != (n3 : Int)) = false := by simp
    have hne2 : ((n2 : Int) != (n2 : Int)) = false := by simp
    have HQ : Hid (Q = R) := by show _ = _; rw [HSB.out]; simp
    clear HSB
    go_enter Tryd.func66, Tryd.ntmps66
    go_wp2
    clear hwb p0 p1 p2 p3 p4
    go_loop [26] (fun u => ∃ k : Nat, k ≤ n2 ∧ u = .int .i64 k ∧ ∀ i, i < k → shpB n3 (S.getD i []) = true) (fun u => n2 - (intOf u).toNat)
    case atStart => exact ⟨0, by omega, rfl, fun i hi => by omega⟩
    case round =>
      obtain ⟨k, hk, rfl, hd⟩ := hrel
      have HD := hide hd
      clear hd
      by_cases hlt : k < n2
      · have hlti : (k : Int) < (n2 : Int) := by omega
        obtain ⟨b1, o1, a4, c4, rfl, hc, hs4⟩ := sl3_cell HS.out k hlt
        have HB := hide (HN.out k hlt)
        have HD2 : Hid (shpB n3 (S.getD k []) = true → ∀ i, i < k + 1 → shpB n3 (S.getD i []) = true) := fun h i hi => by
          by_cases e : i = k
          · subst e; exact h
          · exact HD.out i (by omega)
        generalize S.getD k [] = s at hc hs4 HB HD2
        have hsl : s.length ≤ maxLen := hs4.2.1
        unfold maxLen at hsl
        have HS4 := hide hs4
        have HSP : Hid (shpB n3 s = (decide (s.length = n3) && s.all (fun r => decide (r.length = n3)))) := rfl
        have HY2 := hide (@allD_yes _ s (fun r => decide (r.length = n3)) [])
        have HN2 := hide (@allD_no _ s (fun r => decide (r.length = n3)) [])
        generalize s.all (fun r => decide (r.length = n3)) = R2 at HSP HY2 HN2
        generalize hsn : s.length = ns at hc HS4 hsl HSP HY2 HN2
        clear hs4 hsn
        by_cases hns : ns = n3
        · subst hns
          have hne3 : ((ns : Int) != (ns : Int)) = false := by simp
          go_wp2
          go_loop [36] (fun u => ∃ j : Nat, j ≤ ns ∧ u = .int .i64 j ∧ ∀ i, i < j → (s.getD i []).length = ns) (fun u => ns - (intOf u).toNat)
          case atStart => exact ⟨0, by omega, rfl, fun i hi => by omega⟩
          case round =>
            obtain ⟨j, hj, rfl, hd⟩ := hrel
            have HDJ := hide hd
            clear hd
            by_cases hltj : j < ns
            · have hltji : (j : Int) < (ns : Int) := by omega
              obtain ⟨b5, o5, a5, c5, rfl, hc5, -⟩ := sl2_cell HS4.out j hltj
              have HBJ := hide (HN2.out j hltj)
              have HDJ2 : Hid ((s.getD j []).length = ns → ∀ i, i < j + 1 → (s.getD i []).length = ns) := fun h i hi => by
                by_cases e : i = j
                · subst e; exact h
                · exact HDJ.out i (by omega)
              generalize (s.getD j []).length = nr at hc5 HBJ HDJ2
              by_cases hnr : nr = ns
              · subst hnr
                have HDJ3 := hide (HDJ2.out rfl)
                go_wp2
                go_round
                case rel => exact ⟨j + 1, by omega, by go_num, HDJ3.out⟩
                case measure => simp [intOf]; omega
              · have hne4 : ((nr : Int) != (ns : Int)) = true := by simp; omega
                have HF : Hid (Q = false) := by
                  show _ = _
                  rw [HQ.out]
                  exact HB.out (by rw [HSP.out, HBJ.out (decide_eq_false hnr), Bool.and_false])
                go_wp2
                go_ret
                exact ⟨by rw [HF.out]; rfl, HBX.out⟩
            · have hltji : ¬ (j : Int) < (ns : Int) := by omega
              obtain rfl : j = ns := by omega
              have HD3 := hide (HD2.out (by rw [HSP.out, HY2.out (fun i hi => decide_eq_true (HDJ.out i hi))]; simp))
              go_wp2
              go_round
              case rel => exact ⟨k + 1, by omega, by go_num, HD3.out⟩
              case measure => simp [intOf]; omega
        · have hne3 : ((ns : Int) != (n3 : Int)) = true := by simp; omega
          have HF : Hid (Q = false) := by
            show _ = _
            rw [HQ.out]
            exact HB.out (by rw [HSP.out, decide_eq_false hns]; rfl)
          go_wp2
          go_ret
          exact ⟨by rw [HF.out]; rfl, HBX.out⟩
      · have hlti : ¬ (k : Int) < (n2 : Int) := by omega
        obtain rfl : k = n2 := by omega
        have HR := hide (HQ.out.trans (HY.out HD.out))
        go_wp2
        go_ret
        exact ⟨by rw [HR.out]; rfl, HBX.out⟩
end Go.Proofs.YtlgjadnkokmjoaaDoor
