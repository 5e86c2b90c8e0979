/- 13 texts in one. -/
import Derived.Deep.AppendLies
import Derived.Deep.LoopGhost
import Derived.Deep.RegionHeldLaw
import Derived.Deep.RegionLaw
import Derived.Deep.RegionWith
import Derived.DeepKeys4
import Derived.Laws.AppendOwnNone
import Derived.Maps.OwnSet
import Derived.Shelf.Abstract
import Derived.ArgAppend
import Derived.BigRegion
import Derived.Deep.MidRow
import Derived.LoopIn
import Derived.LoopNIn
import Derived.OwnWalkIn
import Derived.RangeFuncBound
import Derived.RangeFuncCalls
import Derived.RangeFuncLeaves
import Derived.RangeFuncNested
import Derived.Shelf.RegionOpen
import Derived.Sort.LoopGhostIn
import Derived.TacticsInMore
import Derived.WalkKit
import Derived.BigQuiet
import Derived.Test.YtgbmemkoggogdaaDoorZNx
import Derived.Test.YtgbmemkoggogdaaDoorZG
import Derived.Test.YtgbmemkoggogdaaDoorZCf
import Derived.Test.YtgbmemkoggogdaaDoorCi
import Derived.Test.YtgbmemkoggogdaaDoorLq
import Derived.Test.YtgbmemkoggogdaaDoorRe
import Derived.Test.YtgbmemkoggogdaaDoorMa
import Derived.Test.YtgbmemkoggogdaaDoorZF
/- The reference's Without: contract. -/
namespace Go.Proofs.YtgbmemkoggogdaaDoor
open Go.RowKit

/-- A part of what a slice reads as. -/
theorem sl_front {w : World} {ad : Option Addr} {len : Nat} {l : List Int} (h : Sl w ad len l) {t : Nat} (ht : t ≤ len) : Sl w ad t (l.take t) := by
  obtain ⟨h1, h2, h3, h4⟩ := h
  refine ⟨by rw [List.length_take]; omega, by omega, fun x hx => h3 x (List.mem_of_mem_take hx), ?_⟩
  rcases h4 with h4 | ⟨b, o, rfl, hc⟩
  · exact .inl (by omega)
  · refine .inr ⟨b, o, rfl, fun i hi => ?_⟩
    rw [hc i (by omega)]
    simp [List.getD, hi]
end Go.Proofs.YtgbmemkoggogdaaDoor

/- Sums of numbers: an automaton that counts along, cut off where it is too far; mathematics. -/
namespace Go.Proofs.YtgbmemkoggogdaaDoor
open Go.RowKit

/-- The first k of coefficients, each times what stands beside it, together. -/
def sumT (C : List Int) (f : Nat → Int) : Nat → Int
  | 0 => 0
  | k + 1 => sumT C f k + C.getD k 0 * f k
/-- .. without signs. -/
def absI (x : Int) : Int := if x < 0 then -x else x
def absT (C : List Int) : Nat → Int
  | 0 => 0
  | k + 1 => absT C k + absI (C.getD k 0)
theorem absI_nn (x : Int) : 0 ≤ absI x := by unfold absI; split <;> omega
theorem absT_nn (C : List Int) (k : Nat) : 0 ≤ absT C k := by
  induction k with
  | zero => exact Int.le_refl 0
  | succ k ih => have := absI_nn (C.getD k 0); show 0 ≤ absT C k + absI (C.getD k 0); omega
theorem absT_mono (C : List Int) {j k : Nat} (h : j ≤ k) : absT C j ≤ absT C k := by
  induction k with
  | zero =>
    obtain rfl : j = 0 := by omega
    exact Int.le_refl _
  | succ k ih =>
    by_cases e : j = k + 1
    · subst e; exact Int.le_refl _
    · have := ih (by omega)
      have := absI_nn (C.getD k 0)
      show _ ≤ absT C k + absI (C.getD k 0)
      omega
theorem absT_at (C : List Int) {j k : Nat} (h : j < k) : absI (C.getD j 0) ≤ absT C k := by
  have h1 := absT_mono C (show j + 1 ≤ k from h)
  have h2 := absT_nn C j
  have h3 : absT C (j + 1) = absT C j + absI (C.getD j 0) := rfl
  omega
theorem mul_bd {x y D : Int} (h0 : 0 ≤ y) (h1 : y ≤ D) : -(absI x * D) ≤ x * y ∧ x * y ≤ absI x * D := by
  unfold absI
  by_cases h : x < 0
  · rw [if_pos h]
    have h2 : x * D ≤ x * y := Int.mul_le_mul_of_nonpos_left (by omega) h1
    have h3 : x * y ≤ 0 := Int.mul_nonpos_of_nonpos_of_nonneg (by omega) h0
    have h4 : -x * D = -(x * D) := Int.neg_mul _ _
    have h5 : x * D ≤ 0 := Int.mul_nonpos_of_nonpos_of_nonneg (by omega) (by omega)
    omega
  · rw [if_neg h]
    have h2 : x * y ≤ x * D := Int.mul_le_mul_of_nonneg_left h1 (by omega)
    have h3 : 0 ≤ x * y := Int.mul_nonneg (by omega) h0
    omega
theorem sumT_bd (C : List Int) (f : Nat → Int) (D : Int) (k : Nat) (hf : ∀ i, i < k → 0 ≤ f i ∧ f i ≤ D) : -(absT C k * D) ≤ sumT C f k ∧ sumT C f k ≤ absT C k * D := by
  induction k with
  | zero => simp [sumT, absT]
  | succ k ih =>
    have h1 := ih (fun i hi => hf i (by omega))
    have h2 := mul_bd (x := C.getD k 0) (hf k (by omega)).1 (hf k (by omega)).2
    have h3 : absT C (k + 1) * D = absT C k * D + absI (C.getD k 0) * D := Int.add_mul _ _ _
    have h4 : sumT C f (k + 1) = sumT C f k + C.getD k 0 * f k := rfl
    rw [h3, h4]
    omega
def lnEnd (c : Int) (less : Bool) (x : Int) : Bool := if less = true then decide (x + c < 0) else decide (x + c = 0)
end Go.Proofs.YtgbmemkoggogdaaDoor

/- Automata with outputs: what is wrong with one, what it says; mathematics. -/
namespace Go.Proofs.YtgbmemkoggogdaaDoor
open Go.RowKit

/-- What is wrong with one state; with all. -/
def outR (k n : Nat) (r : List Int) (o : Int) : Int := if rowC k n r = 0 then (if 0 ≤ o ∧ o ≤ 9 then 0 else 1) else rowC k n r
def outRs (k : Nat) (N : List (List Int)) (O : List Int) : List Int := (List.range N.length).map fun s => outR k N.length (N.getD s []) (O.getD s 0)
def outC (b : Int) (N : List (List Int)) (O : List Int) : Int :=
  if 1 ≤ b ∧ b ≤ 6 then (if N.length = 0 then 4 else if 20 < N.length then 3 else if O.length = N.length then firstC (outRs (kindsI b).toNat N O) else 2) else 1
theorem outRs_len (k : Nat) (N : List (List Int)) (O : List Int) : (outRs k N O).length = N.length := by simp [outRs]
theorem outRs_get {k : Nat} {N : List (List Int)} {O : List Int} {s : Nat} (hs : s < N.length) : (outRs k N O).getD s 0 = outR k N.length (N.getD s []) (O.getD s 0) := by simp [outRs, List.getD, hs]
theorem outR_zero {k n : Nat} {r : List Int} {o : Int} (h : outR k n r o = 0) : rowC k n r = 0 ∧ 0 ≤ o ∧ o ≤ 9 := by
  unfold outR at h
  by_cases h1 : rowC k n r = 0
  · rw [if_pos h1] at h
    by_cases h2 : 0 ≤ o ∧ o ≤ 9
    · exact ⟨h1, h2⟩
    · rw [if_neg h2] at h; omega
  · rw [if_neg h1] at h; exact absurd h h1
theorem kinds_nat {b : Int} (h1 : 1 ≤ b) (h2 : b ≤ 6) : 2 ≤ (kindsI b).toNat ∧ (kindsI b).toNat ≤ 6 ∧ ((kindsI b).toNat : Int) = kindsI b := by
  unfold kindsI; split <;> omega
theorem outC_zero {b : Int} {N : List (List Int)} {O : List Int} (h : outC b N O = 0) : 1 ≤ b ∧ b ≤ 6 ∧ N.length ≤ 20 ∧ O.length = N.length ∧ GoodN (kindsI b).toNat N.length N ∧ ∀ s, s < N.length → 0 ≤ O.getD s 0 ∧ O.getD s 0 ≤ 9 := by
  unfold outC at h
  by_cases hb : 1 ≤ b ∧ b ≤ 6
  · rw [if_pos hb] at h
    have hk := kinds_nat hb.1 hb.2
    by_cases h0 : N.length = 0
    · rw [if_pos h0] at h; omega
    · rw [if_neg h0] at h
      by_cases h20 : 20 < N.length
      · rw [if_pos h20] at h; omega
      · rw [if_neg h20] at h
        by_cases hl : O.length = N.length
        · rw [if_pos hl] at h
          have hs : ∀ s, s < N.length → rowC (kindsI b).toNat N.length (N.getD s []) = 0 ∧ 0 ≤ O.getD s 0 ∧ O.getD s 0 ≤ 9 := fun s hs => by
            have := firstC_get0 _ h s (by rw [outRs_len]; exact hs)
            rw [outRs_get hs] at this
            exact outR_zero this
          exact ⟨hb.1, hb.2, by omega, hl, ⟨rfl, by omega, by omega, by omega, by omega, fun s h => rowC_zero (hs s h).1⟩, fun s h => (hs s h).2⟩
        · rw [if_neg hl] at h; omega
  · rw [if_neg hb] at h; omega
/-- What is said behind a word; at a number. -/
def sayW (N : List (List Int)) (O : List Int) (w : List Int) : Int := O.getD (runL N w) 0
def sayN (b : Int) (N : List (List Int)) (O : List Int) (n : Int) : Int := sayW N O (dgs b n)
end Go.Proofs.YtgbmemkoggogdaaDoor

/- Formulas: mathematics: nodes, what is wrong with one, trees. -/
namespace Go.Proofs.YtgbmemkoggogdaaDoor
open Go.RowKit

/-- A node of a formula. -/
structure Nd where
  op : Int
  var : Int
  oth : Int
  wd : Int
  wd2 : Int
  num : Int
  cf : List Int
deriving DecidableEq
def zNd : Nd := ⟨0, 0, 0, 0, 0, 0, []⟩
/-- How many parts a node has. -/
def partsN (op : Int) : Nat := if op = 5 ∨ op = 8 ∨ op = 9 then 1 else if op = 6 ∨ op = 7 then 2 else 0
def lineP (n : Nd) : Prop := n.op = 1 ∨ n.op = 2
def varsP (n : Nd) : Prop := n.op = 3 ∨ n.op = 4 ∨ n.op = 8 ∨ n.op = 9
def wordsP (n : Nd) : Prop := n.op = 3 ∨ n.op = 4
instance (n : Nd) : Decidable (lineP n) := by unfold lineP; exact inferInstance
instance (n : Nd) : Decidable (varsP n) := by unfold varsP; exact inferInstance
instance (n : Nd) : Decidable (wordsP n) := by unfold wordsP; exact inferInstance
/-- A node is well formed. -/
def ndR (n : Nd) : Prop := (1 ≤ n.op ∧ n.op ≤ 9) ∧ (varsP n → 0 ≤ n.var ∧ n.var < 5) ∧ (n.op = 4 → 0 ≤ n.oth ∧ n.oth < 5) ∧ (wordsP n → 0 ≤ n.wd ∧ n.wd < 3) ∧ (n.op = 4 → 0 ≤ n.wd2 ∧ n.wd2 < 3) ∧ (n.op = 3 → 0 ≤ n.num ∧ n.num ≤ 9) ∧ (lineP n → n.cf.length ≤ 5 ∧ absT n.cf n.cf.length ≤ 12 ∧ -60 ≤ n.num ∧ n.num ≤ 60)
def ndS (n : Nd) : Prop := (¬ varsP n → n.var = 0) ∧ (n.op ≠ 4 → n.oth = 0 ∧ n.wd2 = 0) ∧ (¬ wordsP n → n.wd = 0) ∧ (¬ lineP n → n.op ≠ 3 → n.num = 0) ∧ (¬ lineP n → n.cf.length = 0) ∧ (0 < n.cf.length → n.cf.getD (n.cf.length - 1) 0 ≠ 0)
instance (n : Nd) : Decidable (ndR n) := by unfold ndR; exact inferInstance
instance (n : Nd) : Decidable (ndS n) := by unfold ndS; exact inferInstance
def ndF (n : Nd) : Int := if ndR n then (if ndS n then 0 else 2) else 1
theorem ndF_zero {n : Nd} (h : ndF n = 0) : ndR n ∧ ndS n := by
  unfold ndF at h
  by_cases h1 : ndR n
  · rw [if_pos h1] at h
    by_cases h2 : ndS n
    · exact ⟨h1, h2⟩
    · rw [if_neg h2] at h; omega
  · rw [if_neg h1] at h; omega
/-- Node by node: how many parts are open, where it is wrong. -/
def ffGo : List Nd → Nat → Nat → Nat × Int
  | [], i, o => if 0 < o then (i, 4) else (0, 0)
  | n :: t, i, o => if ndF n = 0 then (if o = 0 then (i, 2) else ffGo t (i + 1) (o - 1 + partsN n.op)) else (i, ndF n)
def formP (f : List Nd) : Nat × Int := if f.length = 0 then (0, 4) else if 40 < f.length then (0, 3) else ffGo f 0 1
/-- A formula as a tree. -/
inductive Fm where
  | at0 (n : Nd)
  | un (n : Nd) (f : Fm)
  | bin (n : Nd) (f g : Fm)
def Fm.flat : Fm → List Nd
  | .at0 n => [n]
  | .un n f => n :: f.flat
  | .bin n f g => n :: (f.flat ++ g.flat)
/-- Each node has as many parts as it should, and none is wrong. -/
def Fm.ok : Fm → Prop
  | .at0 n => ndF n = 0 ∧ partsN n.op = 0
  | .un n f => ndF n = 0 ∧ partsN n.op = 1 ∧ f.ok
  | .bin n f g => ndF n = 0 ∧ partsN n.op = 2 ∧ f.ok ∧ g.ok
def flatL (ts : List Fm) : List Nd := (ts.map Fm.flat).flatten
theorem ffGo_trees : ∀ (l : List Nd) (i o : Nat), (ffGo l i o).2 = 0 → ∃ ts : List Fm, ts.length = o ∧ l = flatL ts ∧ ∀ t ∈ ts, t.ok := by
  intro l
  induction l with
  | nil =>
    intro i o h
    unfold ffGo at h
    by_cases h0 : 0 < o
    · rw [if_pos h0] at h; simp at h
    · obtain rfl : o = 0 := by omega
      exact ⟨[], rfl, rfl, fun t ht => by cases ht⟩
  | cons n t ih =>
    intro i o h
    unfold ffGo at h
    by_cases hn : ndF n = 0
    · rw [if_pos hn] at h
      by_cases h0 : o = 0
      · rw [if_pos h0] at h; simp at h
      · rw [if_neg h0] at h
        obtain ⟨ts, h1, h2, h3⟩ := ih _ _ h
        obtain ⟨k, rfl⟩ : ∃ k, o = k + 1 := ⟨o - 1, by omega⟩
        rw [Nat.add_sub_cancel] at h1
        have hp : partsN n.op = 0 ∨ partsN n.op = 1 ∨ partsN n.op = 2 := by unfold partsN; split; exact .inr (.inl rfl); split; exact .inr (.inr rfl); exact .inl rfl
        rcases hp with hp | hp | hp
        · rw [hp] at h1
          refine ⟨.at0 n :: ts, by simp [h1], by rw [h2]; rfl, fun t ht => ?_⟩
          rcases List.mem_cons.1 ht with rfl | ht
          · exact ⟨hn, hp⟩
          · exact h3 t ht
        · rw [hp] at h1
          match ts, h1, h2, h3 with
          | f :: ts, h1, h2, h3 =>
            refine ⟨.un n f :: ts, by simpa using h1, by rw [h2]; rfl, fun t ht => ?_⟩
            rcases List.mem_cons.1 ht with rfl | ht
            · exact ⟨hn, hp, h3 f (by simp)⟩
            · exact h3 t (by simp [ht])
        · rw [hp] at h1
          match ts, h1, h2, h3 with
          | [f], h1, h2, h3 => simp at h1
          | f :: g :: ts, h1, h2, h3 =>
            refine ⟨.bin n f g :: ts, by simp at h1 ⊢; omega, by rw [h2]; simp [flatL, Fm.flat], fun t ht => ?_⟩
            rcases List.mem_cons.1 ht with rfl | ht
            · exact ⟨hn, hp, h3 f (by simp), h3 g (by simp)⟩
            · exact h3 t (by simp [ht])
    · rw [if_neg hn] at h
      exact absurd h hn
/-- What is right is a tree. -/
theorem form_tree {f : List Nd} (h : (formP f).2 = 0) : ∃ t : Fm, f = t.flat ∧ t.ok ∧ f.length ≤ 40 ∧ 0 < f.length := by
  unfold formP at h
  by_cases h0 : f.length = 0
  · rw [if_pos h0] at h; simp at h
  · rw [if_neg h0] at h
    by_cases h1 : 40 < f.length
    · rw [if_pos h1] at h; simp at h
    · rw [if_neg h1] at h
      obtain ⟨ts, g1, g2, g3⟩ := ffGo_trees _ _ _ h
      match ts, g1, g2, g3 with
      | [t], g1, g2, g3 => exact ⟨t, by rw [g2]; simp [flatL], g3 t (by simp), by omega, by omega⟩
theorem flat_pos (t : Fm) : 0 < t.flat.length := by cases t <;> simp [Fm.flat]
/-- Does a node itself use a variable? -/
def useB (n : Nd) (v : Int) : Bool := if n.op = 1 ∨ n.op = 2 then decide (v < (n.cf.length : Int)) && decide (n.cf.getD v.toNat 0 ≠ 0) else (decide (n.op = 3 ∨ n.op = 4) && decide (n.var = v)) || (decide (n.op = 4) && decide (n.oth = v))
/-- Does it stand free? -/
def Fm.fre : Fm → Int → Bool
  | .at0 n, v => if (n.op = 8 ∨ n.op = 9) ∧ n.var = v then false else useB n v
  | .un n f, v => if (n.op = 8 ∨ n.op = 9) ∧ n.var = v then false else useB n v || f.fre v
  | .bin n f g, v => if (n.op = 8 ∨ n.op = 9) ∧ n.var = v then false else useB n v || f.fre v || g.fre v
def Fm.node : Fm → Nd
  | .at0 n => n
  | .un n _ => n
  | .bin n _ _ => n
def Fm.kids : Fm → List Fm
  | .at0 _ => []
  | .un _ f => [f]
  | .bin _ f g => [f, g]
theorem flat_node (t : Fm) : t.flat = t.node :: flatL t.kids := by cases t <;> simp [Fm.flat, Fm.node, Fm.kids, flatL]
theorem ok_node {t : Fm} (h : t.ok) : ndF t.node = 0 ∧ t.kids.length = partsN t.node.op ∧ ∀ c ∈ t.kids, c.ok := by
  cases t with
  | at0 n => exact ⟨h.1, h.2.symm, fun c hc => by cases hc⟩
  | un n f => exact ⟨h.1, h.2.1.symm, fun c hc => by simp [Fm.kids] at hc; subst hc; exact h.2.2⟩
  | bin n f g =>
    refine ⟨h.1, h.2.1.symm, fun c hc => ?_⟩
    simp [Fm.kids] at hc
    rcases hc with rfl | rfl
    · exact h.2.2.1
    · exact h.2.2.2
theorem fre_node (t : Fm) (v : Int) : t.fre v = if (t.node.op = 8 ∨ t.node.op = 9) ∧ t.node.var = v then false else useB t.node v || t.kids.any (fun c => c.fre v) := by
  cases t with
  | at0 n => simp [Fm.fre, Fm.node, Fm.kids]
  | un n f => simp [Fm.fre, Fm.node, Fm.kids]
  | bin n f g => simp [Fm.fre, Fm.node, Fm.kids, Bool.or_assoc]
theorem flatL_cons (t : Fm) (ts : List Fm) : flatL (t :: ts) = t.flat ++ flatL ts := by simp [flatL]
theorem flatL_append (ts us : List Fm) : flatL (ts ++ us) = flatL ts ++ flatL us := by simp [flatL]
/-- One node on, of parts that are open. -/
theorem trees_step {t : Fm} {ts : List Fm} (h : ∀ c ∈ t :: ts, c.ok) : flatL (t :: ts) = t.node :: flatL (t.kids ++ ts) ∧ (t.kids ++ ts).length = ts.length + partsN t.node.op ∧ ∀ c ∈ t.kids ++ ts, c.ok := by
  obtain ⟨-, h2, h3⟩ := ok_node (h t (by simp))
  refine ⟨by rw [flatL_cons, flatL_append, flat_node]; rfl, by rw [List.length_append, h2]; omega, fun c hc => ?_⟩
  rcases List.mem_append.1 hc with hc | hc
  · exact h3 c hc
  · exact h c (by simp [hc])
theorem kid_lt {t c : Fm} (h : c ∈ t.kids) : c.flat.length < t.flat.length := by
  cases t with
  | at0 n => cases h
  | un n f => simp [Fm.kids] at h; subst h; simp [Fm.flat]
  | bin n f g =>
    simp [Fm.kids] at h
    rcases h with rfl | rfl <;> simp [Fm.flat] <;> omega
def freL (t : Fm) : List Int := ([0, 1, 2, 3, 4] : List Int).filter fun v => t.fre v
end Go.Proofs.YtgbmemkoggogdaaDoor

/- Formulas in memory: a slice of nodes reads as a list. -/
namespace Go.Proofs.YtgbmemkoggogdaaDoor
open Go.RowKit

/-- Seven cells are a node. -/
def NdC (W : World) (b o : Nat) (n : Nd) (a : Option Addr) (c : Nat) : Prop :=
  W.cell? ⟨b, o, none⟩ = some (.int .i64 n.op) ∧ W.cell? ⟨b, o + 1, none⟩ = some (.int .i64 n.var) ∧ W.cell? ⟨b, o + 2, none⟩ = some (.int .i64 n.oth) ∧ W.cell? ⟨b, o + 3, none⟩ = some (.int .i64 n.wd) ∧ W.cell? ⟨b, o + 4, none⟩ = some (.int .i64 n.wd2) ∧ W.cell? ⟨b, o + 5, none⟩ = some (.int .i64 n.num) ∧ W.cell? ⟨b, o + 6, none⟩ = some (.slice a n.cf.length c) ∧ Sl W a n.cf.length n.cf
def ndWf (n : Nd) : Prop := ∀ x ∈ [n.op, n.var, n.oth, n.wd, n.wd2, n.num], (Lit.int .i64 x).wf = true
def SlF (W : World) (a : Option Addr) (len : Nat) (ns : List Nd) : Prop :=
  ns.length = len ∧ len ≤ maxLen ∧ (∀ n ∈ ns, ndWf n) ∧ (len = 0 ∨ ∃ b o, a = some ⟨b, o, none⟩ ∧ ∀ i, i < len → ∃ a' c', NdC W b (o + i * 7) (ns.getD i zNd) a' c')
theorem ndC_below {W W' : World} {b o : Nat} {n : Nd} {a : Option Addr} {c : Nat} (h : NdC W b o n a c) (hb : Below W.heap.size W W') : NdC W' b o n a c := by
  obtain ⟨h0, h1, h2, h3, h4, h5, h6, h7⟩ := h
  have hk : ∀ (k : Nat) (v : Value), W.cell? ⟨b, k, none⟩ = some v → W'.cell? ⟨b, k, none⟩ = some v := fun k v h => (hb.cell (p := ⟨b, k, none⟩) (World.block_lt_of_cell? W _ h)).trans h
  exact ⟨hk _ _ h0, hk _ _ h1, hk _ _ h2, hk _ _ h3, hk _ _ h4, hk _ _ h5, hk _ _ h6, sl_below h7 hb⟩
theorem slF_below {W W' : World} {a : Option Addr} {len : Nat} {ns : List Nd} (h : SlF W a len ns) (hb : Below W.heap.size W W') : SlF W' a len ns := by
  obtain ⟨h1, h2, h3, h4⟩ := h
  refine ⟨h1, h2, h3, ?_⟩
  rcases h4 with h4 | ⟨b, o, e, h4⟩
  · exact .inl h4
  · refine .inr ⟨b, o, e, fun i hi => ?_⟩
    obtain ⟨a', c', hc⟩ := h4 i hi
    exact ⟨a', c', ndC_below hc hb⟩
theorem slF_cell {W : World} {a : Option Addr} {len : Nat} {ns : List Nd} (h : SlF W a len ns) (i : Nat) (hi : i < len) : ∃ b o a' c', a = some ⟨b, o, none⟩ ∧ NdC W b (o + i * 7) (ns.getD i zNd) a' c' := by
  rcases h.2.2.2 with h4 | ⟨b, o, e, h4⟩
  · omega
  · obtain ⟨a', c', hc⟩ := h4 i hi
    exact ⟨b, o, a', c', e, hc⟩
end Go.Proofs.YtgbmemkoggogdaaDoor

/- The reference's PartsOf, FormFault, EndOf: contracts. -/
namespace Go.Proofs.YtgbmemkoggogdaaDoor
open Go.RowKit

set_option maxHeartbeats 2000000 in
set_option maxRecDepth 4000 in
theorem partsOf_any (op : Int) (w : World) : Calls Tryd.prog 43 #[.int .i64 op] w fun e w' => e = .returned (.int .i64 ((partsN op : Nat) : Int)) ∧ w' = w := by
  by_cases h5 : op = 5
  · subst h5
    go_enter Tryd.func43, Tryd.ntmps43
    go_wp2
    go_ret
    exact ⟨rfl, rfl⟩
  by_cases h8 : op = 8
  · subst h8
    go_enter Tryd.func43, Tryd.ntmps43
    go_wp2
    go_ret
    exact ⟨rfl, rfl⟩
  by_cases h9 : op = 9
  · subst h9
    go_enter Tryd.func43, Tryd.ntmps43
    go_wp2
    go_ret
    exact ⟨rfl, rfl⟩
  by_cases h6 : op = 6
  · subst h6
    go_enter Tryd.func43, Tryd.ntmps43
    go_wp2
    go_ret
    exact ⟨rfl, rfl⟩
  by_cases h7 : op = 7
  · subst h7
    go_enter Tryd.func43, Tryd.ntmps43
    go_wp2
    go_ret
    exact ⟨rfl, rfl⟩
  have hp : partsN op = 0 := by unfold partsN; rw [if_neg (by omega), if_neg (by omega)]
  rw [hp]
  have e5 : (op == 5) = false := by simpa using h5
  have e6 : (op == 6) = false := by simpa using h6
  have e7 : (op == 7) = false := by simpa using h7
  have e8 : (op == 8) = false := by simpa using h8
  have e9 : (op == 9) = false := by simpa using h9
  clear h5 h6 h7 h8 h9 hp
  go_enter Tryd.func43, Tryd.ntmps43
  go_wp2
  go_ret
  exact ⟨rfl, rfl⟩
/-- A node as a value. -/
def ndV (n : Nd) (a : Option Addr) (c : Nat) : Value := .agg #[.int .i64 n.op, .int .i64 n.var, .int .i64 n.oth, .int .i64 n.wd, .int .i64 n.wd2, .int .i64 n.num, .slice a n.cf.length c]
def NodeSays : Prop := ∀ (n : Nd) (a : Option Addr) (c : Nat) (W : World), Sl W a n.cf.length n.cf → Calls Tryd.prog 42 #[ndV n a c] W fun e w' => e = .returned (.int .i64 (ndF n)) ∧ Below W.heap.size W w'
theorem partsN_le (op : Int) : partsN op ≤ 2 := by unfold partsN; split; decide; split <;> decide
theorem drop_nd {l : List Nd} {k : Nat} (h : k < l.length) : l.drop k = l.getD k zNd :: l.drop (k + 1) := by
  rw [List.drop_eq_getElem_cons h]
  simp [List.getD, h]
set_option maxHeartbeats 4000000 in
set_option maxRecDepth 4000 in
theorem formFault_of (a : Option Addr) (n cap : Nat) (ns : List Nd) (w : World) (hs : SlF w a n ns) (hNS : NodeSays) : Calls Tryd.prog 21 #[.slice a n cap] w fun e w' => e = .returned (.tuple #[.int .i64 ((formP ns).1 : Nat), .int .i64 (formP ns).2]) ∧ Below w.heap.size w w' := by
  have hL := hs.1
  have hmx := hs.2.1
  unfold maxLen at hmx
  by_cases h0 : n = 0
  · have e : formP ns = (0, 4) := by unfold formP; rw [if_pos (by omega)]
    rw [e]
    subst h0
    clear hs hNS e
    go_enter Tryd.func21, Tryd.ntmps21
    go_wp2
    go_ret2
    exact ⟨rfl, Below.refl _ _⟩
  have h0' : ((n : Int) == 0) = false := by simp; omega
  by_cases h40 : (n : Int) > 40
  · have e : formP ns = (0, 3) := by unfold formP; rw [if_neg (by omega), if_pos (by omega)]
    rw [e]
    clear hs hNS e hL
    go_enter Tryd.func21, Tryd.ntmps21
    go_wp2
    go_ret2
    exact ⟨rfl, Below.refl _ _⟩
  have HE : Hid (formP ns = ffGo (ns.drop 0) 0 1) := by show _ = _; unfold formP; rw [if_neg (by omega), if_neg (by omega)]; rfl
  have HS := hide hs
  have HPO := hide (fun op W => partsOf_any op W)
  have HN := hide hNS
  unfold NodeSays ndV at HN
  have HDR := hide (fun k (hk : k < n) => drop_nd (l := ns) (k := k) (by omega))
  have HEND : Hid (ns.drop n = []) := by show _ = _; rw [← hL]; exact List.drop_length
  clear hs hNS hL
  generalize formP ns = R at HE ⊢
  go_enter Tryd.func21, Tryd.ntmps21
  go_wp2
  go_loopw [4, 5] (fun ov iv wx => ∃ k o : Nat, k ≤ n ∧ o ≤ 1 + 2 * k ∧ ov = .int .i64 o ∧ iv = .int .i64 k ∧ R = ffGo (ns.drop k) k o ∧ Below w.heap.size w wx) (fun _ iv _ => n - (intOf iv).toNat)
  case atStart => exact ⟨0, 1, by omega, by omega, rfl, rfl, HE.out, Below.refl _ _⟩
  case round =>
    obtain ⟨k, o, hk, ho, rfl, rfl, hR, hb⟩ := hrel
    have HR := hide hR
    have HB := hide hb
    clear hR hb HE
    by_cases hlt : k < n
    · have hlti : (k : Int) < (n : Int) := by omega
      obtain ⟨bb, oo, a', c', rfl, x0, x1, x2, x3, x4, x5, x6, hsl⟩ := slF_cell (slF_below HS.out HB.out) k hlt
      have HD := hide (HDR.out k hlt)
      generalize ns.getD k zNd = nd at x0 x1 x2 x3 x4 x5 x6 hsl HD
      have HNF := hide (HN.out nd a' c' wr hsl)
      have HRS : Hid (R = if ndF nd = 0 then (if o = 0 then (k, 2) else ffGo (ns.drop (k + 1)) (k + 1) (o - 1 + partsN nd.op)) else (k, ndF nd)) := by show _ = _; rw [HR.out, HD.out]; rfl
      have HP2 := hide (partsN_le nd.op)
      have HX1 : Hid (∀ W, Below wr.heap.size wr W → W.cell? ⟨bb, oo + k * 7, none⟩ = some (.int .i64 nd.op) ∧ True) := fun W h => ⟨(h.cell (p := ⟨bb, oo + k * 7, none⟩) (World.block_lt_of_cell? wr _ x0)).trans x0, trivial⟩
      clear hsl HR HD
      go_wp2_with fail
      refine HNF.out.mono ?_
      rintro e w1 ⟨rfl, hb1⟩
      have HB1 := hide (below_step HB.out hb1)
      clear x0 x1 x2 x3 x4 x5 x6
      by_cases hz : ndF nd = 0
      · have hz' := HRS.out
        rw [if_pos hz] at hz'
        rw [hz]
        by_cases hoz : o = 0
        · rw [if_pos hoz] at hz'
          have HRZ := hide hz'
          subst hoz
          clear hz hz' HRS
          go_wp2
          go_ret2
          exact ⟨by rw [HRZ.out]; rfl, HB1.out⟩
        · rw [if_neg hoz] at hz'
          have hoz' : ((o : Int) == 0) = false := by simp; omega
          have HRZ := hide hz'
          have hp2 := HP2.out
          have ho1 : 1 ≤ o := by omega
          obtain ⟨x0, -⟩ := HX1.out w1 hb1
          have HPP := hide (HPO.out nd.op)
          clear hz hoz hz' HRS hb1
          generalize partsN nd.op = pn at HRZ hp2 HPP
          go_wp2_with (go_at_call 43; refine (HPP.out _).mono ?_; rintro e w' ⟨rfl, hw'⟩; rw [hw']; clear hw' w')
          go_roundw
          case rel => exact ⟨k + 1, o - 1 + pn, by omega, by omega, by go_num, by go_num, HRZ.out, HB1.out⟩
          case measure => simp [intOf]; omega
      · have hz' := HRS.out
        rw [if_neg hz] at hz'
        have HRZ := hide hz'
        have hzb : (ndF nd == 0) = false := by simpa using hz
        clear hz hz' HRS hb1
        generalize ndF nd = z at HRZ hzb ⊢
        go_wp2
        go_ret2
        exact ⟨by rw [HRZ.out]; rfl, HB1.out⟩
    · have hlti : ¬ (k : Int) < (n : Int) := by omega
      obtain rfl : k = n := by omega
      have hz' := HR.out
      rw [HEND.out] at hz'
      unfold ffGo at hz'
      by_cases ho0 : (o : Int) > 0
      · rw [if_pos (by omega)] at hz'
        have HRZ := hide hz'
        clear hz' HR
        go_wp2
        go_ret2
        exact ⟨by rw [HRZ.out]; rfl, HB.out⟩
      · rw [if_neg (by omega)] at hz'
        have HRZ := hide hz'
        clear hz' HR
        go_wp2
        go_ret2
        exact ⟨by rw [HRZ.out]; rfl, HB.out⟩

theorem flatL_pos {ts : List Fm} (h : 0 < ts.length) : 0 < (flatL ts).length := by
  match ts, h with
  | t :: ts, _ => rw [flatL_cons, List.length_append]; have := flat_pos t; omega
set_option maxHeartbeats 4000000 in
set_option maxRecDepth 4000 in
theorem endOf_any (a : Option Addr) (n cap : Nat) (ns : List Nd) (w : World) (hs : SlF w a n ns) (hn : n ≤ 40) (pre post : List Nd) (t : Fm) (ht : t.ok) (he : ns = pre ++ (t.flat ++ post)) : Calls Tryd.prog 46 #[.slice a n cap, .int .i64 (pre.length : Int)] w fun e w' => e = .returned (.int .i64 ((pre.length + t.flat.length : Nat) : Int)) ∧ w' = w := by
  have hL := hs.1
  have hpt : pre.length + t.flat.length + post.length = n := by rw [← hL, he]; simp; omega
  have HS := hide hs
  have HPO := hide (fun op W => partsOf_any op W)
  have H0 : Hid (ns.drop pre.length = flatL [t] ++ post) := by show _ = _; rw [he, List.drop_left]; simp [flatL]
  have HOK : Hid (∀ c ∈ [t], c.ok) := fun c hc => by simp at hc; subst hc; exact ht
  have HFL : Hid ((flatL [t]).length = t.flat.length) := by show _ = _; simp [flatL]
  have HDR := hide (fun k (hk : k < n) => drop_nd (l := ns) (k := k) (by omega))
  clear hs ht he
  generalize t.flat.length = tl at *
  generalize pre.length = p at *
  go_enter Tryd.func46, Tryd.ntmps46
  go_wp2
  go_loop [1, 5] (fun jv ov => ∃ (j : Nat) (ts : List Fm), j ≤ n ∧ jv = .int .i64 j ∧ ov = .int .i64 (ts.length : Nat) ∧ ns.drop j = flatL ts ++ post ∧ (∀ c ∈ ts, c.ok) ∧ j + (flatL ts).length = p + tl ∧ ts.length ≤ 1 + 2 * j) (fun jv _ => n - (intOf jv).toNat)
  case atStart => exact ⟨p, [t], by omega, rfl, rfl, H0.out, HOK.out, by rw [HFL.out], by simp⟩
  case round =>
    obtain ⟨j, ts, hj, rfl, rfl, hd, hok, hlen, htl⟩ := hrel
    by_cases ho : ts.length = 0
    · obtain rfl : ts = [] := List.eq_nil_of_length_eq_zero ho
      have hjp : j = p + tl := by simpa [flatL] using hlen
      clear hd hok hlen htl ho
      subst hjp
      go_wp2
      go_ret
      exact ⟨rfl, rfl⟩
    · match ts, ho with
      | t :: ts, _ =>
        obtain ⟨g1, g2, g3⟩ := trees_step hok
        have hfp := flatL_pos (ts := t :: ts) (by simp)
        have hjn : j < n := by omega
        have hd1 := HDR.out j hjn
        rw [hd, g1, List.cons_append] at hd1
        injection hd1 with e1 e2
        obtain ⟨bb, oo, a', c', rfl, x0, -⟩ := slF_cell HS.out j hjn
        rw [← e1] at x0
        have HPP := hide (HPO.out t.node.op)
        have hp2 := partsN_le t.node.op
        rw [g1, List.length_cons] at hlen
        have HG3 := hide g3
        have HE2 := hide e2
        have hjl : ((t :: ts).length : Int) > 0 := by simp only [List.length_cons]; omega
        rw [List.length_cons] at hjl htl ⊢
        have HG2 := hide g2
        clear hd hok g1 g2 g3 e1 e2 hfp
        generalize partsN t.node.op = pn at HPP hp2 HG2
        generalize t.node.op = op at x0 HPP
        generalize t.kids ++ ts = us at HG2 HG3 HE2 hlen
        generalize ts.length = tn at HG2 hjl htl ⊢
        go_wp2_with (go_at_call 43; refine (HPP.out _).mono ?_; rintro e w' ⟨rfl, hw'⟩; rw [hw']; clear hw' w')
        exact ⟨⟨j + 1, us, by omega, by simp, by rw [HG2.out]; simp, HE2.out.symm, HG3.out, by omega, by rw [HG2.out]; omega⟩, by simp [intOf]; omega⟩
end Go.Proofs.YtgbmemkoggogdaaDoor

/- The developers' automaton of a sum: points whose fate is open, or no longer; mathematics. -/
namespace Go.Proofs.YtgbmemkoggogdaaDoor
open Go.RowKit

/-- What raises a sum, and, without a sign, what lowers it. -/
def upT (C : List Int) (f : Nat → Int) : Nat → Int
  | 0 => 0
  | k + 1 => if 0 < C.getD k 0 then upT C f k + C.getD k 0 * f k else upT C f k
def dnT (C : List Int) (f : Nat → Int) : Nat → Int
  | 0 => 0
  | k + 1 => if 0 < C.getD k 0 then dnT C f k else dnT C f k - C.getD k 0 * f k
theorem ud_sum (C : List Int) (f : Nat → Int) (k : Nat) : upT C f k - dnT C f k = sumT C f k := by
  induction k with
  | zero => rfl
  | succ k ih =>
    unfold upT dnT sumT
    by_cases h : 0 < C.getD k 0
    · rw [if_pos h, if_pos h]; omega
    · rw [if_neg h, if_neg h]; omega
theorem ud_abs (C : List Int) (k : Nat) : upT C (fun _ => 1) k + dnT C (fun _ => 1) k = absT C k := by
  induction k with
  | zero => rfl
  | succ k ih =>
    unfold upT dnT absT absI
    by_cases h : 0 < C.getD k 0
    · rw [if_pos h, if_pos h, if_neg (by omega)]; omega
    · rw [if_neg h, if_neg h]
      split <;> omega
theorem ud_mono {C : List Int} {f g : Nat → Int} : ∀ {k : Nat}, (∀ i, i < k → f i ≤ g i) → upT C f k ≤ upT C g k ∧ dnT C f k ≤ dnT C g k
  | 0, _ => ⟨Int.le_refl _, Int.le_refl _⟩
  | k + 1, h => by
    have ih := ud_mono (C := C) (k := k) (fun i hi => h i (by omega))
    have hk := h k (by omega)
    unfold upT dnT
    by_cases hc : 0 < C.getD k 0
    · rw [if_pos hc, if_pos hc, if_pos hc, if_pos hc]
      have := Int.mul_le_mul_of_nonneg_left hk (Int.le_of_lt hc)
      omega
    · rw [if_neg hc, if_neg hc, if_neg hc, if_neg hc]
      have := Int.mul_le_mul_of_nonpos_left (a := C.getD k 0) (by omega) hk
      omega
theorem ud_zero (C : List Int) (k : Nat) : upT C (fun _ => 0) k = 0 ∧ dnT C (fun _ => 0) k = 0 := by
  induction k with
  | zero => exact ⟨rfl, rfl⟩
  | succ k ih =>
    unfold upT dnT
    by_cases hc : 0 < C.getD k 0
    · rw [if_pos hc, if_pos hc]; omega
    · rw [if_neg hc, if_neg hc]; omega
theorem ud_mul (C : List Int) (K : Int) (k : Nat) : upT C (fun _ => K) k = K * upT C (fun _ => 1) k ∧ dnT C (fun _ => K) k = K * dnT C (fun _ => 1) k := by
  induction k with
  | zero => exact ⟨by simp [upT], by simp [dnT]⟩
  | succ k ih =>
    unfold upT dnT
    by_cases hc : 0 < C.getD k 0
    · rw [if_pos hc, if_pos hc, if_pos hc, if_pos hc, Int.mul_add, Int.mul_one, Int.mul_comm (C.getD k 0) K]
      omega
    · rw [if_neg hc, if_neg hc, if_neg hc, if_neg hc, Int.mul_sub, Int.mul_one, Int.mul_comm (C.getD k 0) K]
      omega
theorem ud_nn {C : List Int} {f : Nat → Int} {k : Nat} (h : ∀ i, i < k → 0 ≤ f i) : 0 ≤ upT C f k ∧ 0 ≤ dnT C f k := by
  have h1 := ud_mono (C := C) (f := fun _ => 0) (g := f) h
  have h2 := ud_zero C k
  omega
end Go.Proofs.YtgbmemkoggogdaaDoor

/- What package line answers. -/
namespace Go.Proofs.YtgbmemkoggogdaaDoor
open Go.RowKit

/-- Numbers that may be handed in. -/
def numOk (nums : List Int) : Bool := nums.all fun x => decide (0 ≤ x ∧ x ≤ 1099511627776)
def hdC (C : List Int) (c : Int) (nums : List Int) : Int := if (C.length ≤ 5 ∧ absT C C.length ≤ 12) ∧ -60 ≤ c ∧ c ≤ 60 then (if nums.length = C.length then (if numOk nums = true then 0 else 1) else 2) else 1
def hdB (C : List Int) (c : Int) (less : Bool) (nums : List Int) : Bool := if hdC C c nums = 0 then lnEnd c less (sumT C (fun i => nums.getD i 0) C.length) else false
def HoldsSays : Prop := ∀ (a : Option Addr) (n cap : Nat) (C : List Int) (c : Int) (less : Bool) (a2 : Option Addr) (n2 cap2 : Nat) (nums : List Int) (W : World), Sl W a n C → Sl W a2 n2 nums → Calls Tryd.prog 51 #[.slice a n cap, .int .i64 c, .bool less, .slice a2 n2 cap2] W fun e w' => e = .returned (.tuple #[.bool (hdB C c less nums), errV (hdC C c nums)]) ∧ Below W.heap.size W w'
theorem numOk_at {nums : List Int} (h : numOk nums = true) {i : Nat} (hi : i < nums.length) : 0 ≤ nums.getD i 0 ∧ nums.getD i 0 ≤ 1099511627776 := by
  unfold numOk at h
  rw [List.all_eq_true] at h
  have := h (nums.getD i 0) (by rw [getD_at _ i hi]; exact List.getElem_mem hi)
  simpa using this
theorem numOk_of {nums : List Int} (h : ∀ i, i < nums.length → 0 ≤ nums.getD i 0 ∧ nums.getD i 0 ≤ 1099511627776) : numOk nums = true := by
  unfold numOk
  rw [List.all_eq_true]
  intro x hx
  obtain ⟨i, hi, rfl⟩ := List.getElem_of_mem hx
  have := h i hi
  rw [getD_at _ i hi] at this
  simpa using this
theorem numOk_not {nums : List Int} {i : Nat} (hi : i < nums.length) (h : ¬ (0 ≤ nums.getD i 0 ∧ nums.getD i 0 ≤ 1099511627776)) : numOk nums ≠ true := fun e => h (numOk_at e hi)
theorem mul_far {C : List Int} (h12 : absT C C.length ≤ 12) {k : Nat} (hk : k < C.length) {y : Int} (h0 : 0 ≤ y) (h1 : y ≤ 1099511627776) : -13194139533312 ≤ C.getD k 0 * y ∧ C.getD k 0 * y ≤ 13194139533312 := by
  have h := mul_bd (x := C.getD k 0) h0 h1
  have h2 := absT_at C hk
  have h3 : absI (C.getD k 0) * 1099511627776 ≤ 13194139533312 := by omega
  omega
end Go.Proofs.YtgbmemkoggogdaaDoor

/- The reference's OutFault, Said: contracts. -/
namespace Go.Proofs.YtgbmemkoggogdaaDoor
open Go.RowKit

theorem box3_cells {W : World} {B : Nat} {v0 v1 v2 : Value} {T : TypeId} (h : W.heap[B]? = some (.cells #[v0, v1, v2] T (0, 0))) : (W.cell? ⟨B, 0, none⟩ = some v0 ∧ W.cell? ⟨B, 1, none⟩ = some v1 ∧ W.cell? ⟨B, 2, none⟩ = some v2) ∧ ∀ i, W.frozen? ⟨B, i, none⟩ = false := by
  refine ⟨⟨by simp [World.cell?, h], by simp [World.cell?, h], by simp [World.cell?, h]⟩, fun i => by simp [World.frozen?, h]⟩
/-- An Out, by value. -/
def outV (b : Int) (a : Option Addr) (n cap : Nat) (ao : Option Addr) (no co : Nat) : Value := .agg #[.int .i64 b, .slice a n cap, .slice ao no co]
/-- .. in a box, as it stays. -/
theorem outBox (w : World) (b : Int) (a : Option Addr) (n cap : Nat) (ao : Option Addr) (no co : Nat) {N : List (List Int)} {O : List Int} (T : TypeId) (hs : Sl2 w a n N) (ho : Sl w ao no O) :
    ∀ W, Below (w.alloc (.cells #[.int .i64 b, .slice a n cap, .slice ao no co] T)).heap.size (w.alloc (.cells #[.int .i64 b, .slice a n cap, .slice ao no co] T)) W → (W.cell? ⟨w.heap.size, 0, none⟩ = some (.int .i64 b) ∧ W.cell? ⟨w.heap.size, 1, none⟩ = some (.slice a n cap) ∧ W.cell? ⟨w.heap.size, 2, none⟩ = some (.slice ao no co)) ∧ Sl2 W a n N ∧ Sl W ao no O ∧ Below w.heap.size w W := fun W hW => by
  have hb := (Below.refl w.heap.size w).alloc (Nat.le_refl _) (.cells #[.int .i64 b, .slice a n cap, .slice ao no co] T)
  have hx := heap_alloc_last w (.cells #[.int .i64 b, .slice a n cap, .slice ao no co] T)
  have hbw := below_step hb hW
  exact ⟨(box3_cells ((hW.block _ (Array.getElem?_eq_some_iff.1 hx).1).trans hx)).1, sl2_below hs hbw, sl_below ho hbw, hbw⟩
set_option maxHeartbeats 8000000 in
set_option maxRecDepth 4000 in
theorem outFault_any (b : Int) (a : Option Addr) (n cap : Nat) (ao : Option Addr) (no co : Nat) (N : List (List Int)) (O : List Int) (w : World) (hs : Sl2 w a n N) (ho : Sl w ao no O) :
    Calls Tryd.prog 5 #[outV b a n cap ao no co] w fun e w' => e = .returned (.int .i64 (outC b N O)) ∧ Below w.heap.size w w' := by
  have hL := hs.1
  have hLo := ho.1
  have hmx := hs.2.1
  have hmo := ho.2.1
  unfold maxLen at hmx hmo
  have HBX := hide (outBox w b a n cap ao no co 25 hs ho)
  have HC : Hid (outC b N O = if 1 ≤ b ∧ b ≤ 6 then (if n = 0 then 4 else if 20 < n then 3 else if no = n then firstC (outRs (kindsI b).toNat N O) else 2) else 1) := by show _ = _; unfold outC; rw [hL, hLo]
  have HAT : Hid (∀ s, s < n → (∀ j, j < s → outR (kindsI b).toNat n (N.getD j []) (O.getD j 0) = 0) → outR (kindsI b).toNat n (N.getD s []) (O.getD s 0) ≠ 0 → firstC (outRs (kindsI b).toNat N O) = outR (kindsI b).toNat n (N.getD s []) (O.getD s 0)) := fun s hs2 hj hc => by
    have h := firstC_pre (outRs (kindsI b).toNat N O) s (fun j hjs => by rw [outRs_get (by omega), hL]; exact hj j hjs) (by rw [outRs_len, hL]; exact hs2) (by rw [outRs_get (by omega), hL]; exact hc)
    rw [outRs_get (by omega), hL] at h
    exact h
  have HALL : Hid ((∀ j, j < n → outR (kindsI b).toNat n (N.getD j []) (O.getD j 0) = 0) → firstC (outRs (kindsI b).toNat N O) = 0) := fun h => firstC_all _ fun j hj => by
    rw [outRs_len] at hj
    rw [outRs_get hj, hL]
    exact h j (by omega)
  clear hs ho hL hLo
  generalize firstC (outRs (kindsI b).toNat N O) = F at HC HAT HALL
  generalize outC b N O = c at HC ⊢
  unfold outV
  by_cases hb : 1 ≤ b ∧ b ≤ 6
  · have HRX := hide (fun W => radix_yes b W hb.1 hb.2)
    have hcc := HC.out
    rw [if_pos hb] at hcc
    have hk := kinds_nat hb.1 hb.2
    rw [← hk.2.2] at HRX
    have hk0 : (((kindsI b).toNat : Int) == 0) = false := by simp; omega
    generalize (kindsI b).toNat = k at HRX HAT HALL hk hk0
    by_cases h0 : n = 0
    · subst h0
      rw [if_pos rfl] at hcc
      subst hcc
      obtain ⟨⟨c0, c1, c2⟩, -⟩ := HBX.out _ (Below.refl _ _)
      have HB1 := hide ((Below.refl w.heap.size w).alloc (Nat.le_refl _) (.cells #[.int .i64 b, .slice a 0 cap, .slice ao no co] 25))
      go_enter Tryd.func5, Tryd.ntmps5
      go_wp2_with (go_at_call 12; refine (HRX.out _).mono ?_; rintro e w' ⟨rfl, hw'⟩; rw [hw']; clear hw' w')
      go_ret
      exact ⟨by simp, HB1.out⟩
    · rw [if_neg h0] at hcc
      have h0i : ((n : Int) == 0) = false := by simp; omega
      by_cases h20 : 20 < n
      · rw [if_pos h20] at hcc
        subst hcc
        have h20i : (n : Int) > 20 := by omega
        obtain ⟨⟨c0, c1, c2⟩, -⟩ := HBX.out _ (Below.refl _ _)
        have HB1 := hide ((Below.refl w.heap.size w).alloc (Nat.le_refl _) (.cells #[.int .i64 b, .slice a n cap, .slice ao no co] 25))
        go_enter Tryd.func5, Tryd.ntmps5
        go_wp2_with (go_at_call 12; refine (HRX.out _).mono ?_; rintro e w' ⟨rfl, hw'⟩; rw [hw']; clear hw' w')
        go_ret
        exact ⟨by simp, HB1.out⟩
      · rw [if_neg h20] at hcc
        have h20i : ¬ (n : Int) > 20 := by omega
        by_cases hno : no = n
        · subst hno
          rw [if_pos rfl] at hcc
          subst hcc
          obtain ⟨⟨c0, c1, c2⟩, -⟩ := HBX.out _ (Below.refl _ _)
          go_enter Tryd.func5, Tryd.ntmps5
          go_wp2_with (go_at_call 12; refine (HRX.out _).mono ?_; rintro e w' ⟨rfl, hw'⟩; rw [hw']; clear hw' w')
          generalize w.alloc (.cells #[.int .i64 b, .slice a no cap, .slice ao no co] 25) = wb at HBX c0 c1 c2 ⊢
          clear c0 c1 c2
          go_loopw [4] (fun iv wx => ∃ s : Nat, s ≤ no ∧ iv = .int .i64 s ∧ (∀ j, j < s → outR k no (N.getD j []) (O.getD j 0) = 0) ∧ Below wb.heap.size wb wx) (fun iv _ => no - (intOf iv).toNat)
          case atStart => exact ⟨0, by omega, rfl, fun j hj => by omega, Below.refl _ _⟩
          case round =>
            obtain ⟨s, hsn, rfl, hall, hbr⟩ := hrel
            have HALLS := hide hall
            have HBR := hide hbr
            obtain ⟨⟨c0, c1, c2⟩, hs2, ho2, hbw⟩ := HBX.out wr hbr
            have HBW := hide hbw
            clear hall hbr hbw
            by_cases hlt : s < no
            · have hlti : (s : Int) < (no : Int) := by omega
              obtain ⟨bb, o, a1, cc1, rfl, hck, hsl⟩ := sl2_cell hs2 s hlt
              obtain ⟨bo, oo, rfl, hco⟩ := sl_cell ho2 s hlt
              have HATs := hide (HAT.out s hlt HALLS.out)
              have HNX : Hid (outR k no (N.getD s []) (O.getD s 0) = 0 → ∀ j, j < s + 1 → outR k no (N.getD j []) (O.getD j 0) = 0) := fun h j hj => by
                by_cases e : j = s
                · subst e; exact h
                · exact HALLS.out j (by omega)
              have HSL := hide hsl
              have hrm := hsl.2.1
              unfold maxLen at hrm
              clear hs2 ho2 hsl
              generalize hrl : N.getD s [] = r at hck HATs HNX HSL hrm
              generalize hov : O.getD s 0 = ov at hco HATs HNX
              clear hrl hov
              by_cases hlen : r.length = k
              · have hlen' : ((r.length : Int) == (k : Int)) = true := by simp; omega
                rw [hlen] at hck HSL hrm
                have HR1 : Hid (∀ q, q < k → ¬ (0 ≤ r.getD q 0 ∧ r.getD q 0 < (no : Int)) → c = 1) := fun q hq hx => by
                  have e1 : outR k no r ov = 1 := by unfold outR; rw [rowC_bad hlen q hq hx]; rfl
                  have := HATs.out (by rw [e1]; decide)
                  rw [this, e1]
                have HR2 : Hid ((∀ q, q < k → 0 ≤ r.getD q 0 ∧ r.getD q 0 < (no : Int)) → (0 ≤ ov ∧ ov ≤ 9 → outR k no r ov = 0) ∧ (¬ (0 ≤ ov ∧ ov ≤ 9) → c = 1)) := fun h => by
                  have e0 := rowC_good (n := no) hlen h
                  refine ⟨fun h9 => by unfold outR; rw [if_pos e0, if_pos h9], fun h9 => ?_⟩
                  have e1 : outR k no r ov = 1 := by unfold outR; rw [if_pos e0, if_neg h9]
                  have := HATs.out (by rw [e1]; decide)
                  rw [this, e1]
                clear HATs hlen
                go_wp2
                obtain ⟨wo, hwo⟩ : ∃ wo : World, wo = wr := ⟨_, rfl⟩
                rw [← hwo] at HBR HBW c0 c1 c2 hck hco HSL ⊢
                clear hwo wr
                have HC1 := hide c1
                have HC2 := hide c2
                have HCK := hide hck
                have HCO := hide hco
                clear c0 c1 c2 hck hco
                go_loopw [5] (fun iv wx => ∃ q : Nat, q ≤ k ∧ iv = .int .i64 q ∧ (∀ j, j < q → 0 ≤ r.getD j 0 ∧ r.getD j 0 < (no : Int)) ∧ Below wo.heap.size wo wx) (fun iv _ => k - (intOf iv).toNat)
                case atStart => exact ⟨0, by omega, rfl, fun j hj => by omega, Below.refl _ _⟩
                case round =>
                  obtain ⟨q, hq, rfl, hgood, hbq⟩ := hrel
                  have HGD := hide hgood
                  have HBQ := hide hbq
                  have c1 := (hbq.cell (p := ⟨w.heap.size, 1, none⟩) (World.block_lt_of_cell? wo _ HC1.out)).trans HC1.out
                  have c2 := (hbq.cell (p := ⟨w.heap.size, 2, none⟩) (World.block_lt_of_cell? wo _ HC2.out)).trans HC2.out
                  have hck := (hbq.cell (p := ⟨bb, o + s, none⟩) (World.block_lt_of_cell? wo _ HCK.out)).trans HCK.out
                  have hco := (hbq.cell (p := ⟨bo, oo + s, none⟩) (World.block_lt_of_cell? wo _ HCO.out)).trans HCO.out
                  have HSLq := hide (sl_below HSL.out hbq)
                  clear hgood hbq
                  by_cases hqt : q < k
                  · have hqti : (q : Int) < (k : Int) := by omega
                    obtain ⟨b1, o1, rfl, hxc⟩ := sl_cell HSLq.out q hqt
                    have HR1q := hide (HR1.out q hqt)
                    have HGN : Hid (0 ≤ r.getD q 0 ∧ r.getD q 0 < (no : Int) → ∀ j, j < q + 1 → 0 ≤ r.getD j 0 ∧ r.getD j 0 < (no : Int)) := fun h j hj => by
                      by_cases e : j = q
                      · subst e; exact h
                      · exact HGD.out j (by omega)
                    generalize r.getD q 0 = x at hxc HR1q HGN
                    by_cases hx : 0 ≤ x ∧ x < (no : Int)
                    · have HG2 := hide (HGN.out hx)
                      obtain ⟨hx1, hx2⟩ := hx
                      have hxd : decide (x < 0) = false := by simp; omega
                      go_wp2
                      go_quiet (fail)
                      go_wp2
                      go_roundw
                      case rel => exact ⟨q + 1, by omega, by go_num, HG2.out, below_drewN HBQ.out nq⟩
                      case measure => simp [intOf]; omega
                    · have hF := HR1q.out hx
                      subst hF
                      have hx' : x < 0 ∨ (decide (x < 0) = false ∧ (no : Int) ≤ x) := by
                        by_cases e : x < 0
                        · exact Or.inl e
                        · exact Or.inr ⟨by simp; omega, by omega⟩
                      have HBZ := hide (below_step HBW.out HBQ.out)
                      clear hx HALL HAT HR1 HR1q HR2
                      rcases hx' with hx | ⟨hx1, hx2⟩
                      all_goals
                        go_wp2
                        go_quiet (fail)
                        go_wp2
                        go_ret
                        exact ⟨by simp, below_drewN HBZ.out nq⟩
                  · have hqti : ¬ (q : Int) < (k : Int) := by omega
                    obtain ⟨hr0, hr1⟩ := HR2.out (fun j hj => HGD.out j (by omega))
                    have HBZ := hide (below_step HBW.out HBQ.out)
                    have HBY := hide (below_step HBR.out HBQ.out)
                    by_cases h9 : ov < 0
                    · have hF := hr1 (by omega)
                      subst hF
                      clear HALL HAT HR1 HR2 hr0 hr1
                      go_wp2
                      go_ret
                      exact ⟨by simp, HBZ.out⟩
                    · have h9' : decide (ov < 0) = false := by simp; omega
                      by_cases h10 : ov > 9
                      · have hF := hr1 (by omega)
                        subst hF
                        clear HALL HAT HR1 HR2 hr0 hr1
                        go_wp2
                        go_ret
                        exact ⟨by simp, HBZ.out⟩
                      · have h10' : decide (ov > 9) = false := by simp; omega
                        have HN2 := hide (HNX.out (hr0 (by omega)))
                        clear hr0 hr1
                        go_wp2
                        go_roundw
                        case rel => exact ⟨s + 1, by omega, by go_num, HN2.out, HBY.out⟩
                        case measure => simp [intOf]; omega
              · have hlen' : ((r.length : Int) == (k : Int)) = false := by simp; omega
                have e2 : outR k no r ov = 2 := by unfold outR; rw [rowC_long hlen]; rfl
                have hF := HATs.out (by rw [e2]; decide)
                rw [e2] at hF
                subst hF
                clear HALL HAT HATs HNX e2
                go_wp2
                go_ret
                exact ⟨by simp, HBW.out⟩
            · have hlti : ¬ (s : Int) < (no : Int) := by omega
              have hF := HALL.out (fun j hj => HALLS.out j (by omega))
              subst hF
              clear HAT
              go_wp2
              go_ret
              exact ⟨by simp, HBW.out⟩
        · rw [if_neg hno] at hcc
          subst hcc
          have hnoi : ((no : Int) == (n : Int)) = false := by simp; omega
          obtain ⟨⟨c0, c1, c2⟩, -⟩ := HBX.out _ (Below.refl _ _)
          have HB1 := hide ((Below.refl w.heap.size w).alloc (Nat.le_refl _) (.cells #[.int .i64 b, .slice a n cap, .slice ao no co] 25))
          go_enter Tryd.func5, Tryd.ntmps5
          go_wp2_with (go_at_call 12; refine (HRX.out _).mono ?_; rintro e w' ⟨rfl, hw'⟩; rw [hw']; clear hw' w')
          go_ret
          exact ⟨by simp, HB1.out⟩
  · have HRX := hide (fun W => radix_no b W (by omega))
    have hcc := HC.out
    rw [if_neg hb] at hcc
    subst hcc
    obtain ⟨⟨c0, c1, c2⟩, -⟩ := HBX.out _ (Below.refl _ _)
    have HB1 := hide ((Below.refl w.heap.size w).alloc (Nat.le_refl _) (.cells #[.int .i64 b, .slice a n cap, .slice ao no co] 25))
    go_enter Tryd.func5, Tryd.ntmps5
    go_wp2_with (go_at_call 12; refine (HRX.out _).mono ?_; rintro e w' ⟨rfl, hw'⟩; rw [hw']; clear hw' w')
    go_ret
    exact ⟨by simp, HB1.out⟩

set_option maxHeartbeats 4000000 in
set_option maxRecDepth 4000 in
theorem said_any (b : Int) (a : Option Addr) (n cap : Nat) (ao : Option Addr) (no co : Nat) (N : List (List Int)) (O : List Int) (x : Int) (w : World) (hs : Sl2 w a n N) (ho : Sl w ao no O) (hC : outC b N O = 0) (hx : 0 ≤ x ∧ x ≤ 1099511627776) :
    Calls Tryd.prog 45 #[outV b a n cap ao no co, .int .i64 x] w fun e w' => e = .returned (.int .i64 (sayN b N O x)) ∧ Below w.heap.size w w' := by
  obtain ⟨h1, h2, h20, hO, hG, hrange⟩ := outC_zero hC
  have hL := hs.1
  have hLo := ho.1
  obtain ⟨k1, k2, k3⟩ := kinds_nat h1 h2
  have HBX := hide (outBox w b a n cap ao no co 25 hs ho)
  have HDG := hide (fun W => digitsOf_u b x W)
  have hnl : numL b x = dgs b x := by unfold numL; rw [if_pos ⟨⟨h1, h2⟩, hx⟩]
  have hcn : codeN b x = 0 := by unfold codeN; rw [if_pos ⟨⟨h1, h2⟩, hx⟩]
  rw [hnl, hcn] at HDG
  unfold OfU at HDG
  have hdig := dgs_digB b x h1 h2 hx.1 hx.2
  have h60 := dgs_length b x
  have HDD : Hid (∀ j, j < (dgs b x).length → 0 ≤ (dgs b x).getD j 0 ∧ (dgs b x).getD j 0 < (((kindsI b).toNat : Nat) : Int)) := fun j hj => by
    unfold digB at hdig
    rw [List.all_eq_true] at hdig
    have := hdig ((dgs b x).getD j 0) (by rw [getD_at _ j hj]; exact List.getElem_mem hj)
    rw [k3]
    simpa using this
  have HRUN : Hid (∀ j, j ≤ (dgs b x).length → runL N ((dgs b x).take j) < n) := fun j hj => by
    have := runL_lt hG (dgs b x) j hj (fun i hi => HDD.out i (by omega))
    rw [hL] at this
    exact this
  have HSUC : Hid (∀ j, j < (dgs b x).length → ((runL N ((dgs b x).take (j + 1)) : Nat) : Int) = (N.getD (runL N ((dgs b x).take j)) []).getD ((dgs b x).getD j 0).toNat 0) := fun j hj => by
    rw [runL_take_succ N _ j hj]
    exact (goodN_step hG _ (by rw [hL]; exact HRUN.out j (by omega)) _ (HDD.out j hj)).2
  have HROW : Hid (∀ s, s < n → (N.getD s []).length = (kindsI b).toNat) := fun s hsn => (hG.2.2.2.2.2 s (by omega)).1
  have HSAY : Hid (sayN b N O x = O.getD (runL N ((dgs b x).take (dgs b x).length)) 0) := by show _ = _; rw [List.take_length]; rfl
  have HNO : Hid (no = n) := by show _ = _; omega
  have hn20 : n ≤ 20 := by omega
  clear hs ho hC hnl hcn hdig hG hrange hO hL hLo h20
  generalize dgs b x = D at HDG h60 HDD HRUN HSUC HSAY
  generalize sayN b N O x = SV at HSAY ⊢
  generalize (kindsI b).toNat = k at HDD HROW k1 k2 k3
  unfold outV
  obtain ⟨⟨c0, c1, c2⟩, -⟩ := HBX.out _ (Below.refl _ _)
  go_enter Tryd.func45, Tryd.ntmps45
  go_wp2_with fail
  generalize w.alloc (.cells #[.int .i64 b, .slice a n cap, .slice ao no co] 25) = wb at HBX c0 c1 c2 ⊢
  clear c0 c1 c2
  refine (HDG.out wb).mono ?_
  rintro e w1 ⟨ad, cd, rfl, hsd, hb1⟩
  have HSD := hide hsd.1
  have HB1 := hide hb1
  clear hsd hb1 HDG
  go_wp2_with fail
  go_loopw [7, 8] (fun sv iv wx => ∃ j : Nat, j ≤ D.length ∧ iv = .int .i64 j ∧ sv = .int .i64 ((runL N (D.take j) : Nat) : Int) ∧ Below w1.heap.size w1 wx) (fun _ iv _ => D.length - (intOf iv).toNat)
  case atStart => exact ⟨0, by omega, rfl, rfl, Below.refl _ _⟩
  case round =>
    obtain ⟨j, hj, rfl, rfl, hbr⟩ := hrel
    have HBR := hide hbr
    obtain ⟨⟨c0, c1, c2⟩, hs2, ho2, hbw⟩ := HBX.out wr (below_step HB1.out hbr)
    have HBW := hide hbw
    have hrun := HRUN.out j hj
    have hruni : ((runL N (D.take j) : Nat) : Int) < (n : Int) := by omega
    by_cases hlt : j < D.length
    · have hlti : (j : Int) < (D.length : Int) := by omega
      obtain ⟨bb, o, a1, cc1, rfl, hck, hsl⟩ := sl2_cell hs2 (runL N (D.take j)) hrun
      obtain ⟨bd, od, rfl, hcd⟩ := sl_cell (sl_below HSD.out hbr) j hlt
      have hd := HDD.out j hlt
      have HSU := hide (HSUC.out j hlt)
      have hrl := HROW.out _ hrun
      obtain ⟨dn, hdn⟩ : ∃ dn : Nat, D.getD j 0 = (dn : Int) := ⟨(D.getD j 0).toNat, by omega⟩
      rw [hdn] at hcd hd HSU
      rw [Int.toNat_natCast] at HSU
      rw [hrl] at hck hsl
      have hdk : dn < k := by omega
      have hdki : (dn : Int) < (k : Int) := by omega
      obtain ⟨b1, o1, rfl, hcx⟩ := sl_cell hsl dn hdk
      rw [← HSU.out] at hcx
      clear hs2 ho2 hbw hbr hsl hrl hdn hd
      generalize hR : runL N (D.take j) = R at hck hrun hruni
      clear hR
      go_wp2
      go_quiet (fail)
      go_wp2
      go_roundw
      case rel => exact ⟨j + 1, by omega, by go_num, rfl, below_drewN HBR.out nq⟩
      case measure => simp [intOf]; omega
    · have hlti : ¬ (j : Int) < (D.length : Int) := by omega
      have hjd : D.length = j := by omega
      rw [hjd] at HSAY
      obtain ⟨bo, oo, rfl, hco⟩ := sl_cell ho2 (runL N (D.take j)) (by rw [HNO.out]; exact hrun)
      rw [← HSAY.out] at hco
      have hruno : ((runL N (D.take j) : Nat) : Int) < (no : Int) := by rw [HNO.out]; exact hruni
      clear hs2 ho2 hbw hbr HSAY
      generalize hR : runL N (D.take j) = R at hco hrun hruni hruno
      clear hR
      go_wp2
      go_ret
      exact ⟨by simp, HBW.out⟩
end Go.Proofs.YtgbmemkoggogdaaDoor

/- filbertsame.Outs at two that are the same; what package word's Check, At, Head, Is answer. -/
namespace Go.Proofs.YtgbmemkoggogdaaDoor
open Go.RowKit

/-- What Check, At, Head, Is answer. -/
def atF (b : Int) (N : List (List Int)) (O : List Int) (x hi : Int) : Int := if outC b N O = 0 then (if 0 ≤ x ∧ x ≤ hi then 0 else 1) else outC b N O
def atV (b : Int) (N : List (List Int)) (O : List Int) (x : Int) : Int := if atF b N O x 1099511627776 = 0 then sayN b N O x else 0
def CheckSays : Prop := ∀ (b : Int) (a : Option Addr) (n cap : Nat) (ao : Option Addr) (no co : Nat) (N : List (List Int)) (O : List Int) (W : World), Sl2 W a n N → Sl W ao no O → Calls Tryd.prog 34 #[outV b a n cap ao no co] W fun e w' => e = .returned (errV (outC b N O)) ∧ Below W.heap.size W w'
def AtSays : Prop := ∀ (b : Int) (a : Option Addr) (n cap : Nat) (ao : Option Addr) (no co : Nat) (N : List (List Int)) (O : List Int) (x : Int) (W : World), Sl2 W a n N → Sl W ao no O → Calls Tryd.prog 52 #[outV b a n cap ao no co, .int .i64 x] W fun e w' => e = .returned (.tuple #[.int .i64 (atV b N O x), errV (atF b N O x 1099511627776)]) ∧ Below W.heap.size W w'
end Go.Proofs.YtgbmemkoggogdaaDoor

/- A sum's coefficients are no more than its numbers. -/
namespace Go.Proofs.YtgbmemkoggogdaaDoor
open Go.RowKit

theorem cf_le {n : Nd} {l : Nat} (hok : ndF n = 0) (h : n.op = 1 ∨ n.op = 2) (hus : ∀ v : Nat, v < 5 → useB n ((v : Nat) : Int) = true → v < l) : n.cf.length ≤ l := by
  obtain ⟨hr, hs⟩ := ndF_zero hok
  have h5 := (hr.2.2.2.2.2.2 h).1
  by_cases h0 : n.cf.length = 0
  · omega
  · have := hus (n.cf.length - 1) (by omega) (by
      unfold useB
      rw [if_pos h, Int.toNat_natCast, decide_eq_true (by omega), decide_eq_true (hs.2.2.2.2.2 (by omega))]
      rfl)
    omega
end Go.Proofs.YtgbmemkoggogdaaDoor

/- The reference's SizeOf, LineFault: contracts. -/
namespace Go.Proofs.YtgbmemkoggogdaaDoor
open Go.RowKit

/-- One above 12: it is more. -/
def sizeI (C : List Int) : Int := if absT C C.length ≤ 12 then absT C C.length else 13
theorem sizeI_more (C : List Int) {k : Nat} (hk : k ≤ C.length) (h : 12 < absT C k) : sizeI C = 13 := by
  have := absT_mono C hk
  unfold sizeI
  rw [if_neg (by omega)]
theorem sizeI_12 (C : List Int) : (sizeI C ≤ 12 ↔ absT C C.length ≤ 12) ∧ 0 ≤ sizeI C ∧ sizeI C ≤ 13 := by
  have := absT_nn C C.length
  unfold sizeI
  split <;> omega
set_option maxHeartbeats 4000000 in
set_option maxRecDepth 4000 in
theorem sizeOf_any (a : Option Addr) (n cap : Nat) (C : List Int) (w : World) (hs : Sl w a n C) :
    Calls Tryd.prog 69 #[.slice a n cap] w fun e w' => e = .returned (.int .i64 (sizeI C)) ∧ w' = w := by
  have hL := hs.1
  have hML := hs.2.1
  unfold maxLen at hML
  have HS := hide hs
  have HMO := hide (fun k hk h => @sizeI_more C k hk h)
  have HSUC : Hid (∀ k, absT C (k + 1) = absT C k + absI (C.getD k 0)) := fun k => rfl
  have HNN := hide (fun k => absT_nn C k)
  have HEND : Hid (absT C C.length ≤ 12 → sizeI C = absT C C.length) := fun h => by unfold sizeI; rw [if_pos h]
  have HZ : Hid (absT C 0 = 0) := rfl
  rw [hL] at HMO HEND
  clear hs hL
  generalize hA : absT C = A at HMO HSUC HNN HEND HZ
  clear hA
  generalize sizeI C = sz at HMO HEND ⊢
  go_enter Tryd.func69, Tryd.ntmps69
  go_wp2
  go_loop [3, 4] (fun sv iv => ∃ k : Nat, k ≤ n ∧ iv = .int .i64 k ∧ sv = .int .i64 (A k) ∧ A k ≤ 12) (fun _ iv => n - (intOf iv).toNat)
  case atStart => exact ⟨0, by omega, rfl, by rw [HZ.out], by rw [HZ.out]; decide⟩
  case round =>
    obtain ⟨k, hk, rfl, rfl, h12⟩ := hrel
    have hnn := HNN.out k
    by_cases hlt : k < n
    · have hlti : (k : Int) < (n : Int) := by omega
      obtain ⟨b1, o1, rfl, hc⟩ := sl_cell HS.out k hlt
      have hsuc := HSUC.out k
      have HM := hide (HMO.out (k + 1) hlt)
      have hnn2 := HNN.out (k + 1)
      generalize C.getD k 0 = x at hc hsuc
      generalize A k = z at hsuc h12 hnn
      unfold absI at hsuc
      by_cases h1 : x < -12
      · obtain rfl : sz = 13 := HM.out (by rw [if_pos (by omega)] at hsuc; omega)
        clear hsuc hnn hnn2
        go_wp2
        go_ret
        exact ⟨by simp, rfl⟩
      · have h1' : decide (x < -12) = false := by simp; omega
        by_cases h2 : x > 12
        · obtain rfl : sz = 13 := HM.out (by rw [if_neg (by omega)] at hsuc; omega)
          clear hsuc hnn hnn2
          go_wp2
          go_ret
          exact ⟨by simp, rfl⟩
        · have h2' : decide (x > 12) = false := by simp; omega
          by_cases h3 : x < 0
          · rw [if_pos h3] at hsuc
            by_cases h4 : z + -x > 12
            · obtain rfl : sz = 13 := HM.out (by omega)
              clear hsuc hnn2
              go_wp2
              go_ret
              exact ⟨by simp, rfl⟩
            · have HY := hide hsuc
              clear hsuc hnn2
              go_wp2
              go_round
              case rel => exact ⟨k + 1, by omega, by go_num, by rw [HY.out], by have := HY.out; omega⟩
              case measure => simp [intOf]; omega
          · rw [if_neg h3] at hsuc
            by_cases h4 : z + x > 12
            · obtain rfl : sz = 13 := HM.out (by omega)
              clear hsuc hnn2
              go_wp2
              go_ret
              exact ⟨by simp, rfl⟩
            · have HY := hide hsuc
              clear hsuc hnn2
              go_wp2
              go_round
              case rel => exact ⟨k + 1, by omega, by go_num, by rw [HY.out], by have := HY.out; omega⟩
              case measure => simp [intOf]; omega
    · have hlti : ¬ (k : Int) < (n : Int) := by omega
      obtain rfl : k = n := by omega
      have he := HEND.out h12
      go_wp2
      go_ret
      exact ⟨by simp, rfl⟩

end Go.Proofs.YtgbmemkoggogdaaDoor

/- Sums of numbers: what was read counts what the tracks count; mathematics of LineMeans. -/
namespace Go.Proofs.YtgbmemkoggogdaaDoor
open Go.RowKit

theorem sumT_congr {C : List Int} {f g : Nat → Int} {k : Nat} (h : ∀ i, i < k → f i = g i) : sumT C f k = sumT C g k := by
  induction k with
  | zero => rfl
  | succ k ih =>
    show sumT C f k + C.getD k 0 * f k = sumT C g k + C.getD k 0 * g k
    rw [ih (fun i hi => h i (by omega)), h k (by omega)]
end Go.Proofs.YtgbmemkoggogdaaDoor
