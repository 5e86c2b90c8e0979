/- 15 texts in one. -/
import Derived.Test.YtgbmemkoggogdaaRows
import Derived.Below
import Derived.Deep.AppendLies
import Derived.Deep.LoopGhost
import Derived.Deep.RegionHeldLaw
import Derived.Deep.RegionLaw
import Derived.Deep.RegionWith
import Derived.DeepKeys4
import Derived.LaidEql
import Derived.Laws.AppendOwnNone
import Derived.Maps.OwnSet
import Derived.OwnWalk
import Derived.RowKitTokens
import Derived.Shelf.Abstract
import Derived.Stop.Asserts
import Derived.WalkKit
import Derived.ArgAppend
import Derived.BigRegion
import Derived.Deep.MidRow
import Derived.LoopIn
import Derived.LoopNIn
import Derived.OwnWalkIn
import Derived.RangeFuncBound
import Derived.RangeFuncCalls
import Derived.RangeFuncLeaves
import Derived.RangeFuncNested
import Derived.Shelf.RegionOpen
import Derived.Sort.LoopGhostIn
import Derived.TacticsInMore
import Derived.BigQuiet
import Derived.Test.YtgbmemkoggogdaaZNx
import Derived.Test.YtgbmemkoggogdaaZG
import Derived.Test.YtgbmemkoggogdaaZCf
import Derived.Test.YtgbmemkoggogdaaCi
import Derived.Test.YtgbmemkoggogdaaZC
import Derived.Test.YtgbmemkoggogdaaLq
import Derived.Test.YtgbmemkoggogdaaZF
import Derived.Test.YtgbmemkoggogdaaMa
/- The reference's Without: contract. -/
namespace Go.Proofs.Ytgbmemkoggogdaa
open Go.RowKit

/-- A part of what a slice reads as. -/
theorem sl_front {w : World} {ad : Option Addr} {len : Nat} {l : List Int} (h : Sl w ad len l) {t : Nat} (ht : t ≤ len) : Sl w ad t (l.take t) := by
  obtain ⟨h1, h2, h3, h4⟩ := h
  refine ⟨by rw [List.length_take]; omega, by omega, fun x hx => h3 x (List.mem_of_mem_take hx), ?_⟩
  rcases h4 with h4 | ⟨b, o, rfl, hc⟩
  · exact .inl (by omega)
  · refine .inr ⟨b, o, rfl, fun i hi => ?_⟩
    rw [hc i (by omega)]
    simp [List.getD, hi]
end Go.Proofs.Ytgbmemkoggogdaa

/- Sums of numbers: an automaton that counts along, cut off where it is too far; mathematics. -/
namespace Go.Proofs.Ytgbmemkoggogdaa
open Go.RowKit

/-- The first k of coefficients, each times what stands beside it, together. -/
def sumT (C : List Int) (f : Nat → Int) : Nat → Int
  | 0 => 0
  | k + 1 => sumT C f k + C.getD k 0 * f k
/-- .. without signs. -/
def absI (x : Int) : Int := if x < 0 then -x else x
def absT (C : List Int) : Nat → Int
  | 0 => 0
  | k + 1 => absT C k + absI (C.getD k 0)
theorem absI_nn (x : Int) : 0 ≤ absI x := by unfold absI; split <;> omega
theorem absT_nn (C : List Int) (k : Nat) : 0 ≤ absT C k := by
  induction k with
  | zero => exact Int.le_refl 0
  | succ k ih => have := absI_nn (C.getD k 0); show 0 ≤ absT C k + absI (C.getD k 0); omega
theorem absT_mono (C : List Int) {j k : Nat} (h : j ≤ k) : absT C j ≤ absT C k := by
  induction k with
  | zero =>
    obtain rfl : j = 0 := by omega
    exact Int.le_refl _
  | succ k ih =>
    by_cases e : j = k + 1
    · subst e; exact Int.le_refl _
    · have := ih (by omega)
      have := absI_nn (C.getD k 0)
      show _ ≤ absT C k + absI (C.getD k 0)
      omega
theorem absT_at (C : List Int) {j k : Nat} (h : j < k) : absI (C.getD j 0) ≤ absT C k := by
  have h1 := absT_mono C (show j + 1 ≤ k from h)
  have h2 := absT_nn C j
  have h3 : absT C (j + 1) = absT C j + absI (C.getD j 0) := rfl
  omega
theorem mul_bd {x y D : Int} (h0 : 0 ≤ y) (h1 : y ≤ D) : -(absI x * D) ≤ x * y ∧ x * y ≤ absI x * D := by
  unfold absI
  by_cases h : x < 0
  · rw [if_pos h]
    have h2 : x * D ≤ x * y := Int.mul_le_mul_of_nonpos_left (by omega) h1
    have h3 : x * y ≤ 0 := Int.mul_nonpos_of_nonpos_of_nonneg (by omega) h0
    have h4 : -x * D = -(x * D) := Int.neg_mul _ _
    have h5 : x * D ≤ 0 := Int.mul_nonpos_of_nonpos_of_nonneg (by omega) (by omega)
    omega
  · rw [if_neg h]
    have h2 : x * y ≤ x * D := Int.mul_le_mul_of_nonneg_left h1 (by omega)
    have h3 : 0 ≤ x * y := Int.mul_nonneg (by omega) h0
    omega
def lnEnd (c : Int) (less : Bool) (x : Int) : Bool := if less = true then decide (x + c < 0) else decide (x + c = 0)
end Go.Proofs.Ytgbmemkoggogdaa

/- Automata with outputs: what is wrong with one, what it says; mathematics. -/
namespace Go.Proofs.Ytgbmemkoggogdaa
open Go.RowKit

/-- What is wrong with one state; with all. -/
def outR (k n : Nat) (r : List Int) (o : Int) : Int := if rowC k n r = 0 then (if 0 ≤ o ∧ o ≤ 9 then 0 else 1) else rowC k n r
def outRs (k : Nat) (N : List (List Int)) (O : List Int) : List Int := (List.range N.length).map fun s => outR k N.length (N.getD s []) (O.getD s 0)
def outC (b : Int) (N : List (List Int)) (O : List Int) : Int :=
  if 1 ≤ b ∧ b ≤ 6 then (if N.length = 0 then 4 else if 20 < N.length then 3 else if O.length = N.length then firstC (outRs (kindsI b).toNat N O) else 2) else 1
theorem outRs_len (k : Nat) (N : List (List Int)) (O : List Int) : (outRs k N O).length = N.length := by simp [outRs]
theorem outRs_get {k : Nat} {N : List (List Int)} {O : List Int} {s : Nat} (hs : s < N.length) : (outRs k N O).getD s 0 = outR k N.length (N.getD s []) (O.getD s 0) := by simp [outRs, List.getD, hs]
theorem outR_zero {k n : Nat} {r : List Int} {o : Int} (h : outR k n r o = 0) : rowC k n r = 0 ∧ 0 ≤ o ∧ o ≤ 9 := by
  unfold outR at h
  by_cases h1 : rowC k n r = 0
  · rw [if_pos h1] at h
    by_cases h2 : 0 ≤ o ∧ o ≤ 9
    · exact ⟨h1, h2⟩
    · rw [if_neg h2] at h; omega
  · rw [if_neg h1] at h; exact absurd h h1
theorem kinds_nat {b : Int} (h1 : 1 ≤ b) (h2 : b ≤ 6) : 2 ≤ (kindsI b).toNat ∧ (kindsI b).toNat ≤ 6 ∧ ((kindsI b).toNat : Int) = kindsI b := by
  unfold kindsI; split <;> omega
theorem outC_zero {b : Int} {N : List (List Int)} {O : List Int} (h : outC b N O = 0) : 1 ≤ b ∧ b ≤ 6 ∧ N.length ≤ 20 ∧ O.length = N.length ∧ GoodN (kindsI b).toNat N.length N ∧ ∀ s, s < N.length → 0 ≤ O.getD s 0 ∧ O.getD s 0 ≤ 9 := by
  unfold outC at h
  by_cases hb : 1 ≤ b ∧ b ≤ 6
  · rw [if_pos hb] at h
    have hk := kinds_nat hb.1 hb.2
    by_cases h0 : N.length = 0
    · rw [if_pos h0] at h; omega
    · rw [if_neg h0] at h
      by_cases h20 : 20 < N.length
      · rw [if_pos h20] at h; omega
      · rw [if_neg h20] at h
        by_cases hl : O.length = N.length
        · rw [if_pos hl] at h
          have hs : ∀ s, s < N.length → rowC (kindsI b).toNat N.length (N.getD s []) = 0 ∧ 0 ≤ O.getD s 0 ∧ O.getD s 0 ≤ 9 := fun s hs => by
            have := firstC_get0 _ h s (by rw [outRs_len]; exact hs)
            rw [outRs_get hs] at this
            exact outR_zero this
          exact ⟨hb.1, hb.2, by omega, hl, ⟨rfl, by omega, by omega, by omega, by omega, fun s h => rowC_zero (hs s h).1⟩, fun s h => (hs s h).2⟩
        · rw [if_neg hl] at h; omega
  · rw [if_neg hb] at h; omega
/-- What is said behind a word; at a number. -/
def sayW (N : List (List Int)) (O : List Int) (w : List Int) : Int := O.getD (runL N w) 0
def sayN (b : Int) (N : List (List Int)) (O : List Int) (n : Int) : Int := sayW N O (dgs b n)
end Go.Proofs.Ytgbmemkoggogdaa

/- Formulas: mathematics: nodes, what is wrong with one, trees. -/
namespace Go.Proofs.Ytgbmemkoggogdaa
open Go.RowKit

/-- A node of a formula. -/
structure Nd where
  op : Int
  var : Int
  oth : Int
  wd : Int
  wd2 : Int
  num : Int
  cf : List Int
deriving DecidableEq
def zNd : Nd := ⟨0, 0, 0, 0, 0, 0, []⟩
/-- How many parts a node has. -/
def partsN (op : Int) : Nat := if op = 5 ∨ op = 8 ∨ op = 9 then 1 else if op = 6 ∨ op = 7 then 2 else 0
def lineP (n : Nd) : Prop := n.op = 1 ∨ n.op = 2
def varsP (n : Nd) : Prop := n.op = 3 ∨ n.op = 4 ∨ n.op = 8 ∨ n.op = 9
def wordsP (n : Nd) : Prop := n.op = 3 ∨ n.op = 4
instance (n : Nd) : Decidable (lineP n) := by unfold lineP; exact inferInstance
instance (n : Nd) : Decidable (varsP n) := by unfold varsP; exact inferInstance
instance (n : Nd) : Decidable (wordsP n) := by unfold wordsP; exact inferInstance
/-- A node is well formed. -/
def ndR (n : Nd) : Prop := (1 ≤ n.op ∧ n.op ≤ 9) ∧ (varsP n → 0 ≤ n.var ∧ n.var < 5) ∧ (n.op = 4 → 0 ≤ n.oth ∧ n.oth < 5) ∧ (wordsP n → 0 ≤ n.wd ∧ n.wd < 3) ∧ (n.op = 4 → 0 ≤ n.wd2 ∧ n.wd2 < 3) ∧ (n.op = 3 → 0 ≤ n.num ∧ n.num ≤ 9) ∧ (lineP n → n.cf.length ≤ 5 ∧ absT n.cf n.cf.length ≤ 12 ∧ -60 ≤ n.num ∧ n.num ≤ 60)
def ndS (n : Nd) : Prop := (¬ varsP n → n.var = 0) ∧ (n.op ≠ 4 → n.oth = 0 ∧ n.wd2 = 0) ∧ (¬ wordsP n → n.wd = 0) ∧ (¬ lineP n → n.op ≠ 3 → n.num = 0) ∧ (¬ lineP n → n.cf.length = 0) ∧ (0 < n.cf.length → n.cf.getD (n.cf.length - 1) 0 ≠ 0)
instance (n : Nd) : Decidable (ndR n) := by unfold ndR; exact inferInstance
instance (n : Nd) : Decidable (ndS n) := by unfold ndS; exact inferInstance
def ndF (n : Nd) : Int := if ndR n then (if ndS n then 0 else 2) else 1
theorem ndF_zero {n : Nd} (h : ndF n = 0) : ndR n ∧ ndS n := by
  unfold ndF at h
  by_cases h1 : ndR n
  · rw [if_pos h1] at h
    by_cases h2 : ndS n
    · exact ⟨h1, h2⟩
    · rw [if_neg h2] at h; omega
  · rw [if_neg h1] at h; omega
/-- Node by node: how many parts are open, where it is wrong. -/
def ffGo : List Nd → Nat → Nat → Nat × Int
  | [], i, o => if 0 < o then (i, 4) else (0, 0)
  | n :: t, i, o => if ndF n = 0 then (if o = 0 then (i, 2) else ffGo t (i + 1) (o - 1 + partsN n.op)) else (i, ndF n)
def formP (f : List Nd) : Nat × Int := if f.length = 0 then (0, 4) else if 40 < f.length then (0, 3) else ffGo f 0 1
/-- A formula as a tree. -/
inductive Fm where
  | at0 (n : Nd)
  | un (n : Nd) (f : Fm)
  | bin (n : Nd) (f g : Fm)
def Fm.flat : Fm → List Nd
  | .at0 n => [n]
  | .un n f => n :: f.flat
  | .bin n f g => n :: (f.flat ++ g.flat)
/-- Each node has as many parts as it should, and none is wrong. -/
def Fm.ok : Fm → Prop
  | .at0 n => ndF n = 0 ∧ partsN n.op = 0
  | .un n f => ndF n = 0 ∧ partsN n.op = 1 ∧ f.ok
  | .bin n f g => ndF n = 0 ∧ partsN n.op = 2 ∧ f.ok ∧ g.ok
def flatL (ts : List Fm) : List Nd := (ts.map Fm.flat).flatten
theorem ffGo_trees : ∀ (l : List Nd) (i o : Nat), (ffGo l i o).2 = 0 → ∃ ts : List Fm, ts.length = o ∧ l = flatL ts ∧ ∀ t ∈ ts, t.ok := by
  intro l
  induction l with
  | nil =>
    intro i o h
    unfold ffGo at h
    by_cases h0 : 0 < o
    · rw [if_pos h0] at h; simp at h
    · obtain rfl : o = 0 := by omega
      exact ⟨[], rfl, rfl, fun t ht => by cases ht⟩
  | cons n t ih =>
    intro i o h
    unfold ffGo at h
    by_cases hn : ndF n = 0
    · rw [if_pos hn] at h
      by_cases h0 : o = 0
      · rw [if_pos h0] at h; simp at h
      · rw [if_neg h0] at h
        obtain ⟨ts, h1, h2, h3⟩ := ih _ _ h
        obtain ⟨k, rfl⟩ : ∃ k, o = k + 1 := ⟨o - 1, by omega⟩
        rw [Nat.add_sub_cancel] at h1
        have hp : partsN n.op = 0 ∨ partsN n.op = 1 ∨ partsN n.op = 2 := by unfold partsN; split; exact .inr (.inl rfl); split; exact .inr (.inr rfl); exact .inl rfl
        rcases hp with hp | hp | hp
        · rw [hp] at h1
          refine ⟨.at0 n :: ts, by simp [h1], by rw [h2]; rfl, fun t ht => ?_⟩
          rcases List.mem_cons.1 ht with rfl | ht
          · exact ⟨hn, hp⟩
          · exact h3 t ht
        · rw [hp] at h1
          match ts, h1, h2, h3 with
          | f :: ts, h1, h2, h3 =>
            refine ⟨.un n f :: ts, by simpa using h1, by rw [h2]; rfl, fun t ht => ?_⟩
            rcases List.mem_cons.1 ht with rfl | ht
            · exact ⟨hn, hp, h3 f (by simp)⟩
            · exact h3 t (by simp [ht])
        · rw [hp] at h1
          match ts, h1, h2, h3 with
          | [f], h1, h2, h3 => simp at h1
          | f :: g :: ts, h1, h2, h3 =>
            refine ⟨.bin n f g :: ts, by simp at h1 ⊢; omega, by rw [h2]; simp [flatL, Fm.flat], fun t ht => ?_⟩
            rcases List.mem_cons.1 ht with rfl | ht
            · exact ⟨hn, hp, h3 f (by simp), h3 g (by simp)⟩
            · exact h3 t (by simp [ht])
    · rw [if_neg hn] at h
      exact absurd h hn
/-- What is right is a tree. -/
theorem form_tree {f : List Nd} (h : (formP f).2 = 0) : ∃ t : Fm, f = t.flat ∧ t.ok ∧ f.length ≤ 40 ∧ 0 < f.length := by
  unfold formP at h
  by_cases h0 : f.length = 0
  · rw [if_pos h0] at h; simp at h
  · rw [if_neg h0] at h
    by_cases h1 : 40 < f.length
    · rw [if_pos h1] at h; simp at h
    · rw [if_neg h1] at h
      obtain ⟨ts, g1, g2, g3⟩ := ffGo_trees _ _ _ h
      match ts, g1, g2, g3 with
      | [t], g1, g2, g3 => exact ⟨t, by rw [g2]; simp [flatL], g3 t (by simp), by omega, by omega⟩
theorem flat_pos (t : Fm) : 0 < t.flat.length := by cases t <;> simp [Fm.flat]
/-- Does a node itself use a variable? -/
def useB (n : Nd) (v : Int) : Bool := if n.op = 1 ∨ n.op = 2 then decide (v < (n.cf.length : Int)) && decide (n.cf.getD v.toNat 0 ≠ 0) else (decide (n.op = 3 ∨ n.op = 4) && decide (n.var = v)) || (decide (n.op = 4) && decide (n.oth = v))
/-- Does it stand free? -/
def Fm.fre : Fm → Int → Bool
  | .at0 n, v => if (n.op = 8 ∨ n.op = 9) ∧ n.var = v then false else useB n v
  | .un n f, v => if (n.op = 8 ∨ n.op = 9) ∧ n.var = v then false else useB n v || f.fre v
  | .bin n f g, v => if (n.op = 8 ∨ n.op = 9) ∧ n.var = v then false else useB n v || f.fre v || g.fre v
def Fm.node : Fm → Nd
  | .at0 n => n
  | .un n _ => n
  | .bin n _ _ => n
def Fm.kids : Fm → List Fm
  | .at0 _ => []
  | .un _ f => [f]
  | .bin _ f g => [f, g]
theorem flat_node (t : Fm) : t.flat = t.node :: flatL t.kids := by cases t <;> simp [Fm.flat, Fm.node, Fm.kids, flatL]
theorem ok_node {t : Fm} (h : t.ok) : ndF t.node = 0 ∧ t.kids.length = partsN t.node.op ∧ ∀ c ∈ t.kids, c.ok := by
  cases t with
  | at0 n => exact ⟨h.1, h.2.symm, fun c hc => by cases hc⟩
  | un n f => exact ⟨h.1, h.2.1.symm, fun c hc => by simp [Fm.kids] at hc; subst hc; exact h.2.2⟩
  | bin n f g =>
    refine ⟨h.1, h.2.1.symm, fun c hc => ?_⟩
    simp [Fm.kids] at hc
    rcases hc with rfl | rfl
    · exact h.2.2.1
    · exact h.2.2.2
theorem fre_node (t : Fm) (v : Int) : t.fre v = if (t.node.op = 8 ∨ t.node.op = 9) ∧ t.node.var = v then false else useB t.node v || t.kids.any (fun c => c.fre v) := by
  cases t with
  | at0 n => simp [Fm.fre, Fm.node, Fm.kids]
  | un n f => simp [Fm.fre, Fm.node, Fm.kids]
  | bin n f g => simp [Fm.fre, Fm.node, Fm.kids, Bool.or_assoc]
theorem flatL_cons (t : Fm) (ts : List Fm) : flatL (t :: ts) = t.flat ++ flatL ts := by simp [flatL]
theorem flatL_append (ts us : List Fm) : flatL (ts ++ us) = flatL ts ++ flatL us := by simp [flatL]
/-- One node on, of parts that are open. -/
theorem trees_step {t : Fm} {ts : List Fm} (h : ∀ c ∈ t :: ts, c.ok) : flatL (t :: ts) = t.node :: flatL (t.kids ++ ts) ∧ (t.kids ++ ts).length = ts.length + partsN t.node.op ∧ ∀ c ∈ t.kids ++ ts, c.ok := by
  obtain ⟨-, h2, h3⟩ := ok_node (h t (by simp))
  refine ⟨by rw [flatL_cons, flatL_append, flat_node]; rfl, by rw [List.length_append, h2]; omega, fun c hc => ?_⟩
  rcases List.mem_append.1 hc with hc | hc
  · exact h3 c hc
  · exact h c (by simp [hc])
theorem kid_lt {t c : Fm} (h : c ∈ t.kids) : c.flat.length < t.flat.length := by
  cases t with
  | at0 n => cases h
  | un n f => simp [Fm.kids] at h; subst h; simp [Fm.flat]
  | bin n f g =>
    simp [Fm.kids] at h
    rcases h with rfl | rfl <;> simp [Fm.flat] <;> omega
def freL (t : Fm) : List Int := ([0, 1, 2, 3, 4] : List Int).filter fun v => t.fre v
end Go.Proofs.Ytgbmemkoggogdaa

/- Formulas in memory: a slice of nodes reads as a list. -/
namespace Go.Proofs.Ytgbmemkoggogdaa
open Go.RowKit

/-- Seven cells are a node. -/
def NdC (W : World) (b o : Nat) (n : Nd) (a : Option Addr) (c : Nat) : Prop :=
  W.cell? ⟨b, o, none⟩ = some (.int .i64 n.op) ∧ W.cell? ⟨b, o + 1, none⟩ = some (.int .i64 n.var) ∧ W.cell? ⟨b, o + 2, none⟩ = some (.int .i64 n.oth) ∧ W.cell? ⟨b, o + 3, none⟩ = some (.int .i64 n.wd) ∧ W.cell? ⟨b, o + 4, none⟩ = some (.int .i64 n.wd2) ∧ W.cell? ⟨b, o + 5, none⟩ = some (.int .i64 n.num) ∧ W.cell? ⟨b, o + 6, none⟩ = some (.slice a n.cf.length c) ∧ Sl W a n.cf.length n.cf
def ndWf (n : Nd) : Prop := ∀ x ∈ [n.op, n.var, n.oth, n.wd, n.wd2, n.num], (Lit.int .i64 x).wf = true
def SlF (W : World) (a : Option Addr) (len : Nat) (ns : List Nd) : Prop :=
  ns.length = len ∧ len ≤ maxLen ∧ (∀ n ∈ ns, ndWf n) ∧ (len = 0 ∨ ∃ b o, a = some ⟨b, o, none⟩ ∧ ∀ i, i < len → ∃ a' c', NdC W b (o + i * 7) (ns.getD i zNd) a' c')
theorem ndC_below {W W' : World} {b o : Nat} {n : Nd} {a : Option Addr} {c : Nat} (h : NdC W b o n a c) (hb : Below W.heap.size W W') : NdC W' b o n a c := by
  obtain ⟨h0, h1, h2, h3, h4, h5, h6, h7⟩ := h
  have hk : ∀ (k : Nat) (v : Value), W.cell? ⟨b, k, none⟩ = some v → W'.cell? ⟨b, k, none⟩ = some v := fun k v h => (hb.cell (p := ⟨b, k, none⟩) (World.block_lt_of_cell? W _ h)).trans h
  exact ⟨hk _ _ h0, hk _ _ h1, hk _ _ h2, hk _ _ h3, hk _ _ h4, hk _ _ h5, hk _ _ h6, sl_below h7 hb⟩
theorem slF_below {W W' : World} {a : Option Addr} {len : Nat} {ns : List Nd} (h : SlF W a len ns) (hb : Below W.heap.size W W') : SlF W' a len ns := by
  obtain ⟨h1, h2, h3, h4⟩ := h
  refine ⟨h1, h2, h3, ?_⟩
  rcases h4 with h4 | ⟨b, o, e, h4⟩
  · exact .inl h4
  · refine .inr ⟨b, o, e, fun i hi => ?_⟩
    obtain ⟨a', c', hc⟩ := h4 i hi
    exact ⟨a', c', ndC_below hc hb⟩
theorem slF_cell {W : World} {a : Option Addr} {len : Nat} {ns : List Nd} (h : SlF W a len ns) (i : Nat) (hi : i < len) : ∃ b o a' c', a = some ⟨b, o, none⟩ ∧ NdC W b (o + i * 7) (ns.getD i zNd) a' c' := by
  rcases h.2.2.2 with h4 | ⟨b, o, e, h4⟩
  · omega
  · obtain ⟨a', c', hc⟩ := h4 i hi
    exact ⟨b, o, a', c', e, hc⟩
end Go.Proofs.Ytgbmemkoggogdaa

/- The reference's PartsOf, FormFault, EndOf: contracts. -/
namespace Go.Proofs.Ytgbmemkoggogdaa
open Go.RowKit

/-- A node as a value. -/
def ndV (n : Nd) (a : Option Addr) (c : Nat) : Value := .agg #[.int .i64 n.op, .int .i64 n.var, .int .i64 n.oth, .int .i64 n.wd, .int .i64 n.wd2, .int .i64 n.num, .slice a n.cf.length c]
theorem partsN_le (op : Int) : partsN op ≤ 2 := by unfold partsN; split; decide; split <;> decide
theorem drop_nd {l : List Nd} {k : Nat} (h : k < l.length) : l.drop k = l.getD k zNd :: l.drop (k + 1) := by
  rw [List.drop_eq_getElem_cons h]
  simp [List.getD, h]
end Go.Proofs.Ytgbmemkoggogdaa

/- The developers' automaton of a sum: points whose fate is open, or no longer; mathematics. -/
namespace Go.Proofs.Ytgbmemkoggogdaa
open Go.RowKit

/-- What raises a sum, and, without a sign, what lowers it. -/
def upT (C : List Int) (f : Nat → Int) : Nat → Int
  | 0 => 0
  | k + 1 => if 0 < C.getD k 0 then upT C f k + C.getD k 0 * f k else upT C f k
def dnT (C : List Int) (f : Nat → Int) : Nat → Int
  | 0 => 0
  | k + 1 => if 0 < C.getD k 0 then dnT C f k else dnT C f k - C.getD k 0 * f k
theorem ud_sum (C : List Int) (f : Nat → Int) (k : Nat) : upT C f k - dnT C f k = sumT C f k := by
  induction k with
  | zero => rfl
  | succ k ih =>
    unfold upT dnT sumT
    by_cases h : 0 < C.getD k 0
    · rw [if_pos h, if_pos h]; omega
    · rw [if_neg h, if_neg h]; omega
theorem ud_abs (C : List Int) (k : Nat) : upT C (fun _ => 1) k + dnT C (fun _ => 1) k = absT C k := by
  induction k with
  | zero => rfl
  | succ k ih =>
    unfold upT dnT absT absI
    by_cases h : 0 < C.getD k 0
    · rw [if_pos h, if_pos h, if_neg (by omega)]; omega
    · rw [if_neg h, if_neg h]
      split <;> omega
theorem ud_mono {C : List Int} {f g : Nat → Int} : ∀ {k : Nat}, (∀ i, i < k → f i ≤ g i) → upT C f k ≤ upT C g k ∧ dnT C f k ≤ dnT C g k
  | 0, _ => ⟨Int.le_refl _, Int.le_refl _⟩
  | k + 1, h => by
    have ih := ud_mono (C := C) (k := k) (fun i hi => h i (by omega))
    have hk := h k (by omega)
    unfold upT dnT
    by_cases hc : 0 < C.getD k 0
    · rw [if_pos hc, if_pos hc, if_pos hc, if_pos hc]
      have := Int.mul_le_mul_of_nonneg_left hk (Int.le_of_lt hc)
      omega
    · rw [if_neg hc, if_neg hc, if_neg hc, if_neg hc]
      have := Int.mul_le_mul_of_nonpos_left (a := C.getD k 0) (by omega) hk
      omega
theorem ud_zero (C : List Int) (k : Nat) : upT C (fun _ => 0) k = 0 ∧ dnT C (fun _ => 0) k = 0 := by
  induction k with
  | zero => exact ⟨rfl, rfl⟩
  | succ k ih =>
    unfold upT dnT
    by_cases hc : 0 < C.getD k 0
    · rw [if_pos hc, if_pos hc]; omega
    · rw [if_neg hc, if_neg hc]; omega
theorem ud_mul (C : List Int) (K : Int) (k : Nat) : upT C (fun _ => K) k = K * upT C (fun _ => 1) k ∧ dnT C (fun _ => K) k = K * dnT C (fun _ => 1) k := by
  induction k with
  | zero => exact ⟨by simp [upT], by simp [dnT]⟩
  | succ k ih =>
    unfold upT dnT
    by_cases hc : 0 < C.getD k 0
    · rw [if_pos hc, if_pos hc, if_pos hc, if_pos hc, Int.mul_add, Int.mul_one, Int.mul_comm (C.getD k 0) K]
      omega
    · rw [if_neg hc, if_neg hc, if_neg hc, if_neg hc, Int.mul_sub, Int.mul_one, Int.mul_comm (C.getD k 0) K]
      omega
theorem ud_nn {C : List Int} {f : Nat → Int} {k : Nat} (h : ∀ i, i < k → 0 ≤ f i) : 0 ≤ upT C f k ∧ 0 ≤ dnT C f k := by
  have h1 := ud_mono (C := C) (f := fun _ => 0) (g := f) h
  have h2 := ud_zero C k
  omega
end Go.Proofs.Ytgbmemkoggogdaa

/- What package line answers. -/
namespace Go.Proofs.Ytgbmemkoggogdaa
open Go.RowKit

/-- Numbers that may be handed in. -/
def numOk (nums : List Int) : Bool := nums.all fun x => decide (0 ≤ x ∧ x ≤ 1099511627776)
def hdC (C : List Int) (c : Int) (nums : List Int) : Int := if (C.length ≤ 5 ∧ absT C C.length ≤ 12) ∧ -60 ≤ c ∧ c ≤ 60 then (if nums.length = C.length then (if numOk nums = true then 0 else 1) else 2) else 1
def hdB (C : List Int) (c : Int) (less : Bool) (nums : List Int) : Bool := if hdC C c nums = 0 then lnEnd c less (sumT C (fun i => nums.getD i 0) C.length) else false
def HoldsSays : Prop := ∀ (a : Option Addr) (n cap : Nat) (C : List Int) (c : Int) (less : Bool) (a2 : Option Addr) (n2 cap2 : Nat) (nums : List Int) (W : World), Sl W a n C → Sl W a2 n2 nums → Calls Try.prog 57 #[.slice a n cap, .int .i64 c, .bool less, .slice a2 n2 cap2] W fun e w' => e = .returned (.tuple #[.bool (hdB C c less nums), errV (hdC C c nums)]) ∧ Below W.heap.size W w'
theorem numOk_at {nums : List Int} (h : numOk nums = true) {i : Nat} (hi : i < nums.length) : 0 ≤ nums.getD i 0 ∧ nums.getD i 0 ≤ 1099511627776 := by
  unfold numOk at h
  rw [List.all_eq_true] at h
  have := h (nums.getD i 0) (by rw [getD_at _ i hi]; exact List.getElem_mem hi)
  simpa using this
theorem numOk_of {nums : List Int} (h : ∀ i, i < nums.length → 0 ≤ nums.getD i 0 ∧ nums.getD i 0 ≤ 1099511627776) : numOk nums = true := by
  unfold numOk
  rw [List.all_eq_true]
  intro x hx
  obtain ⟨i, hi, rfl⟩ := List.getElem_of_mem hx
  have := h i hi
  rw [getD_at _ i hi] at this
  simpa using this
theorem numOk_not {nums : List Int} {i : Nat} (hi : i < nums.length) (h : ¬ (0 ≤ nums.getD i 0 ∧ nums.getD i 0 ≤ 1099511627776)) : numOk nums ≠ true := fun e => h (numOk_at e hi)
theorem mul_far {C : List Int} (h12 : absT C C.length ≤ 12) {k : Nat} (hk : k < C.length) {y : Int} (h0 : 0 ≤ y) (h1 : y ≤ 1099511627776) : -13194139533312 ≤ C.getD k 0 * y ∧ C.getD k 0 * y ≤ 13194139533312 := by
  have h := mul_bd (x := C.getD k 0) h0 h1
  have h2 := absT_at C hk
  have h3 : absI (C.getD k 0) * 1099511627776 ≤ 13194139533312 := by omega
  omega
end Go.Proofs.Ytgbmemkoggogdaa

/- The reference's OutFault, Said: contracts. -/
namespace Go.Proofs.Ytgbmemkoggogdaa
open Go.RowKit

theorem box3_cells {W : World} {B : Nat} {v0 v1 v2 : Value} {T : TypeId} (h : W.heap[B]? = some (.cells #[v0, v1, v2] T (0, 0))) : (W.cell? ⟨B, 0, none⟩ = some v0 ∧ W.cell? ⟨B, 1, none⟩ = some v1 ∧ W.cell? ⟨B, 2, none⟩ = some v2) ∧ ∀ i, W.frozen? ⟨B, i, none⟩ = false := by
  refine ⟨⟨by simp [World.cell?, h], by simp [World.cell?, h], by simp [World.cell?, h]⟩, fun i => by simp [World.frozen?, h]⟩
/-- An Out, by value. -/
def outV (b : Int) (a : Option Addr) (n cap : Nat) (ao : Option Addr) (no co : Nat) : Value := .agg #[.int .i64 b, .slice a n cap, .slice ao no co]
/-- .. in a box, as it stays. -/
theorem outBox (w : World) (b : Int) (a : Option Addr) (n cap : Nat) (ao : Option Addr) (no co : Nat) {N : List (List Int)} {O : List Int} (T : TypeId) (hs : Sl2 w a n N) (ho : Sl w ao no O) :
    ∀ W, Below (w.alloc (.cells #[.int .i64 b, .slice a n cap, .slice ao no co] T)).heap.size (w.alloc (.cells #[.int .i64 b, .slice a n cap, .slice ao no co] T)) W → (W.cell? ⟨w.heap.size, 0, none⟩ = some (.int .i64 b) ∧ W.cell? ⟨w.heap.size, 1, none⟩ = some (.slice a n cap) ∧ W.cell? ⟨w.heap.size, 2, none⟩ = some (.slice ao no co)) ∧ Sl2 W a n N ∧ Sl W ao no O ∧ Below w.heap.size w W := fun W hW => by
  have hb := (Below.refl w.heap.size w).alloc (Nat.le_refl _) (.cells #[.int .i64 b, .slice a n cap, .slice ao no co] T)
  have hx := heap_alloc_last w (.cells #[.int .i64 b, .slice a n cap, .slice ao no co] T)
  have hbw := below_step hb hW
  exact ⟨(box3_cells ((hW.block _ (Array.getElem?_eq_some_iff.1 hx).1).trans hx)).1, sl2_below hs hbw, sl_below ho hbw, hbw⟩
end Go.Proofs.Ytgbmemkoggogdaa

/- filbertsame.Outs at two that are the same; what package word's Check, At, Head, Is answer. -/
namespace Go.Proofs.Ytgbmemkoggogdaa
open Go.RowKit

/-- What Check, At, Head, Is answer. -/
def atF (b : Int) (N : List (List Int)) (O : List Int) (x hi : Int) : Int := if outC b N O = 0 then (if 0 ≤ x ∧ x ≤ hi then 0 else 1) else outC b N O
def atV (b : Int) (N : List (List Int)) (O : List Int) (x : Int) : Int := if atF b N O x 1099511627776 = 0 then sayN b N O x else 0
def CheckSays : Prop := ∀ (b : Int) (a : Option Addr) (n cap : Nat) (ao : Option Addr) (no co : Nat) (N : List (List Int)) (O : List Int) (W : World), Sl2 W a n N → Sl W ao no O → Calls Try.prog 16 #[outV b a n cap ao no co] W fun e w' => e = .returned (errV (outC b N O)) ∧ Below W.heap.size W w'
def AtSays : Prop := ∀ (b : Int) (a : Option Addr) (n cap : Nat) (ao : Option Addr) (no co : Nat) (N : List (List Int)) (O : List Int) (x : Int) (W : World), Sl2 W a n N → Sl W ao no O → Calls Try.prog 5 #[outV b a n cap ao no co, .int .i64 x] W fun e w' => e = .returned (.tuple #[.int .i64 (atV b N O x), errV (atF b N O x 1099511627776)]) ∧ Below W.heap.size W w'
def HeadR (W : World) (l : List Int) (c : Int) (e : Ending) (w' : World) : Prop := ∃ ah ch, e = .returned (.tuple #[.slice ah l.length ch, errV c]) ∧ Sl w' ah l.length l ∧ Below W.heap.size W w'
end Go.Proofs.Ytgbmemkoggogdaa

/- Package formula: rows of nodes that a call builds by append. -/
namespace Go.Proofs.Ytgbmemkoggogdaa
open Go.RowKit

def ndL (n : Nd) (a : Option Addr) (c : Nat) : List Value := [.int .i64 n.op, .int .i64 n.var, .int .i64 n.oth, .int .i64 n.wd, .int .i64 n.wd2, .int .i64 n.num, .slice a n.cf.length c]
theorem infoNd : (Try.prog.info? 68).map (fun i => (i.zero, i.size, i.bytes)) = some (some (.agg #[.int .i64 0, .int .i64 0, .int .i64 0, .int .i64 0, .int .i64 0, .int .i64 0, .slice none 0 0]), 7, 72) := by kernel_rfl
theorem news_new (w : World) (l : List Value) (T : TypeId) : ∀ j u, l[j]? = some u → (w.alloc (.cells l.toArray T)).cell? ((⟨w.heap.size, 0, none⟩ : Addr).add j) = some u := fun j u hu => by
  have hadd : (⟨w.heap.size, 0, none⟩ : Addr).add j = ⟨w.heap.size, j, none⟩ := by unfold Addr.add; split <;> simp_all
  rw [hadd, cell_of_row _ _ j l.toArray T (0, 0) (heap_alloc_last w _), ← hu]
  simp
/-- Nodes gathered by append, behind k of them. -/
def NwAt (w : World) (nf : Nat → Nd) (k : Nat) (v : Value) (wr : World) : Prop :=
  ∃ vals : List Value, wr.ownsRow w.heap.size 68 7 v k vals ∧ (∀ j, j < k → ∃ a cap, (∀ i, i < 7 → vals[j * 7 + i]? = (ndL (nf j) a cap)[i]?) ∧ Sl wr a (nf j).cf.length (nf j).cf ∧ ∀ x, slB a (nf j).cf.length x → v.ownBlock ≠ some x) ∧ Below w.heap.size w wr
theorem nwAt_nil (w : World) (nf : Nat → Nd) : NwAt w nf 0 (.slice none 0 0) w := ⟨[], World.ownsRow_nil _ _ _ _, fun j hj => by omega, Below.refl _ _⟩
theorem nwAt_below {w wr w2 : World} {nf : Nat → Nd} {k : Nat} {v : Value} (h : NwAt w nf k v wr) (hb : Below wr.heap.size wr w2) : NwAt w nf k v w2 := by
  obtain ⟨vals, h1, h2, h3⟩ := h
  refine ⟨vals, ownsRow_of_block h1 (fun x hx => hb.block _ (h1.lt x hx).2), fun j hj => ?_, below_step h3 hb⟩
  obtain ⟨a, cap, e1, e2, e3⟩ := h2 j hj
  exact ⟨a, cap, e1, sl_below e2 hb, e3⟩
theorem nwAt_push {w wr w2 : World} {nf : Nat → Nd} {k : Nat} {v : Value} {a : Option Addr} {cap : Nat} (h : NwAt w nf k v wr) (hb : Below wr.heap.size wr w2) (hs : SlN wr.heap.size w2 a (nf k).cf.length (nf k).cf) :
    ∃ vals : List Value, w2.ownsRow w.heap.size 68 7 v k vals ∧ w.heap.size ≤ w2.heap.size ∧
      ∀ (w3 : World) (o : Obj) (g' cap' : Nat), w3.ownsRow w.heap.size 68 7 (.slice (some ⟨g', 0, none⟩) (k + 1) cap') (k + 1) (vals ++ ndL (nf k) a cap) → (w2.alloc o).grownBy w3 v.ownBlock → (v.ownBlock = some g' ∨ g' = (w2.alloc o).heap.size) → NwAt w nf (k + 1) (.slice (some ⟨g', 0, none⟩) (k + 1) cap') w3 := by
  obtain ⟨vals, h1, h2, h3⟩ := h
  have h1' : w2.ownsRow w.heap.size 68 7 v k vals := ownsRow_of_block h1 (fun x hx => hb.block _ (h1.lt x hx).2)
  have hvl : vals.length = k * 7 := by have := h1.1; omega
  refine ⟨vals, h1', Nat.le_trans h3.size hb.size, fun w3 o g' cap' hown hgrow hat => ?_⟩
  have hsz : (w2.alloc o).heap.size = w2.heap.size + 1 := by simp
  have keep : ∀ {a' len' l'}, Sl w2 a' len' l' → (∀ x, slB a' len' x → v.ownBlock ≠ some x) → Sl w3 a' len' l' := fun {a' len' l'} hs' hne => sl_keep hs' fun x hx => by
    have hlt := slB_lt hs' hx
    rw [hgrow.block x (by omega) (fun e => hne x hx e.symm), Below.heap_alloc _ _ _ hlt]
  have far : ∀ {a' len' l'}, Sl w2 a' len' l' → (∀ x, slB a' len' x → v.ownBlock ≠ some x) → ∀ x, slB a' len' x → Value.ownBlock (.slice (some ⟨g', 0, none⟩) (k + 1) cap') ≠ some x := fun {a' len' l'} hs' hne x hx e => by
    have hlt := slB_lt hs' hx
    have e' : g' = x := by simpa [Value.ownBlock] using e
    subst e'
    rcases hat with h | h
    · exact hne _ hx h
    · omega
  have hnew : ∀ x, slB a (nf k).cf.length x → v.ownBlock ≠ some x := fun x hx e => by
    obtain ⟨_, ad, e1, rfl⟩ := hx
    have := hs.2 ad e1
    have := (h1.lt _ e).2
    omega
  refine ⟨vals ++ ndL (nf k) a cap, hown, fun j hj => ?_, Below.grown ((below_step h3 hb).alloc (below_step h3 hb).size o) hgrow (by have := (below_step h3 hb).size; omega) (fun x hx => (h1.lt x hx).1)⟩
  by_cases e : j = k
  · subst e
    exact ⟨a, cap, fun i hi => by rw [List.getElem?_append_right (by omega), hvl]; congr 1; omega, keep hs.1 hnew, far hs.1 hnew⟩
  · obtain ⟨a', cap', e1, e2, e3⟩ := h2 j (by omega)
    exact ⟨a', cap', fun i hi => by rw [List.getElem?_append_left (by omega)]; exact e1 i hi, keep (sl_below e2 hb) e3, far (sl_below e2 hb) e3⟩
theorem nwAt_end {w wr : World} {nf : Nat → Nd} {k : Nat} {v : Value} (h : NwAt w nf k v wr) (hk : k ≤ maxLen) (L : List Nd) (hL : L.length = k) (hl : ∀ j, j < k → L.getD j zNd = nf j) (hw : ∀ n ∈ L, ndWf n) : ∃ a cap, v = .slice a k cap ∧ SlF wr a k L := by
  obtain ⟨vals, ⟨h0, h1⟩, h2, h3⟩ := h
  rcases h1 with ⟨rfl, rfl⟩ | ⟨g, cap, cur, rfl, hg, hh, hc, hcm, hcs, ht⟩
  · exact ⟨none, 0, rfl, hL, hk, hw, Or.inl rfl⟩
  · refine ⟨_, cap, rfl, hL, hk, hw, Or.inr ⟨g, 0, rfl, fun i hi => ?_⟩⟩
    obtain ⟨a', cap', e1, e2, _⟩ := h2 i hi
    rw [hl i hi]
    have key : ∀ j, j < 7 → wr.cell? ⟨g, 0 + i * 7 + j, none⟩ = (ndL (nf i) a' cap')[j]? := fun j hj => by
      rw [cell_of_row wr g (0 + i * 7 + j) cur 68 (0, 0) hh, Nat.zero_add]
      have h3 : (cur.toList.take (k * 7))[i * 7 + j]? = vals[i * 7 + j]? := by rw [ht]
      rw [List.getElem?_take, if_pos (by omega), Array.getElem?_toList] at h3
      rw [h3]
      exact e1 j hj
    exact ⟨a', cap', key 0 (by decide), key 1 (by decide), key 2 (by decide), key 3 (by decide), key 4 (by decide), key 5 (by decide), key 6 (by decide), e2⟩
def NodesR (w : World) (L : List Nd) (c : Int) (e : Ending) (w' : World) : Prop := ∃ a cp, e = .returned (.tuple #[.slice a L.length cp, errV c]) ∧ SlF w' a L.length L ∧ Below w.heap.size w w'
end Go.Proofs.Ytgbmemkoggogdaa

/- What the law TrackTakes says: mathematics; two rows that grow side by side. -/
namespace Go.Proofs.Ytgbmemkoggogdaa
open Go.RowKit

/-- Two rows of the call's own, side by side. -/
def TwoR (w : World) (xs ys : List Int) (v v' : Value) (W : World) : Prop :=
  W.ownsRow w.heap.size 3 1 v xs.length (xs.map (Value.int .i64)) ∧ W.ownsRow w.heap.size 3 1 v' ys.length (ys.map (Value.int .i64)) ∧ (∀ z, v.ownBlock = some z → v'.ownBlock ≠ some z) ∧ Below w.heap.size w W
theorem twoR_nil (w : World) : TwoR w [] [] (.slice none 0 0) (.slice none 0 0) w := ⟨World.ownsRow_nil _ _ _ _, World.ownsRow_nil _ _ _ _, fun z h => by simp [Value.ownBlock] at h, Below.refl _ _⟩
theorem twoR_swap {w : World} {xs ys : List Int} {v v' : Value} {W : World} (h : TwoR w xs ys v v' W) : TwoR w ys xs v' v W := ⟨h.2.1, h.1, fun z h1 h2 => h.2.2.1 z h2 h1, h.2.2.2⟩
end Go.Proofs.Ytgbmemkoggogdaa

/- A formula is one tree. -/
namespace Go.Proofs.Ytgbmemkoggogdaa
open Go.RowKit

theorem tree_one : ∀ {t t' : Fm}, t.ok → t'.ok → t.flat = t'.flat → t' = t := by
  have key : ∀ (N : Nat) (ts ts' : List Fm), (flatL ts).length ≤ N → (∀ c ∈ ts, c.ok) → (∀ c ∈ ts', c.ok) → ts.length = ts'.length → flatL ts = flatL ts' → ts' = ts := by
    intro N
    induction N with
    | zero =>
      intro ts ts' hN h1 h2 hl he
      match ts, ts', hl with
      | [], [], _ => rfl
      | t :: ts, t' :: ts', _ => rw [flatL_cons, List.length_append] at hN; have := flat_pos t; omega
    | succ N ih =>
      intro ts ts' hN h1 h2 hl he
      match ts, ts', hl with
      | [], [], _ => rfl
      | t :: ts, t' :: ts', hl =>
        obtain ⟨a1, a2, a3⟩ := trees_step h1
        obtain ⟨b1, b2, b3⟩ := trees_step h2
        rw [a1, b1] at he
        injection he with e1 e2
        have hlen : (t.kids ++ ts).length = (t'.kids ++ ts').length := by rw [a2, b2, e1]; simp at hl; omega
        have hh := ih (t.kids ++ ts) (t'.kids ++ ts') (by rw [a1] at hN; simpa using hN) a3 b3 hlen e2
        have hk : t'.kids.length = t.kids.length := by rw [(ok_node (h1 t (by simp))).2.1, (ok_node (h2 t' (by simp))).2.1, e1]
        obtain ⟨k1, k2⟩ := List.append_inj hh hk
        have ht : t' = t := by
          have g1 := ok_node (h1 t (by simp))
          have g2 := ok_node (h2 t' (by simp))
          cases t with
          | at0 x => cases t' with
            | at0 y => simp [Fm.node] at e1; rw [e1]
            | un y f => simp [Fm.kids] at hk
            | bin y f g => simp [Fm.kids] at hk
          | un x f => cases t' with
            | at0 y => simp [Fm.kids] at hk
            | un y f' => simp [Fm.node] at e1; simp [Fm.kids] at k1; rw [e1, k1]
            | bin y f' g => simp [Fm.kids] at hk
          | bin x f g => cases t' with
            | at0 y => simp [Fm.kids] at hk
            | un y f' => simp [Fm.kids] at hk
            | bin y f' g' => simp [Fm.node] at e1; simp [Fm.kids] at k1; rw [e1, k1.1, k1.2]
        rw [ht, k2]
  intro t t' h1 h2 he
  have := key _ [t] [t'] (Nat.le_refl _) (by simpa using h1) (by simpa using h2) rfl (by simpa [flatL] using he)
  simpa using this
end Go.Proofs.Ytgbmemkoggogdaa

/- A sum's coefficients are no more than its numbers. -/
namespace Go.Proofs.Ytgbmemkoggogdaa
open Go.RowKit

theorem cf_le {n : Nd} {l : Nat} (hok : ndF n = 0) (h : n.op = 1 ∨ n.op = 2) (hus : ∀ v : Nat, v < 5 → useB n ((v : Nat) : Int) = true → v < l) : n.cf.length ≤ l := by
  obtain ⟨hr, hs⟩ := ndF_zero hok
  have h5 := (hr.2.2.2.2.2.2 h).1
  by_cases h0 : n.cf.length = 0
  · omega
  · have := hus (n.cf.length - 1) (by omega) (by
      unfold useB
      rw [if_pos h, Int.toNat_natCast, decide_eq_true (by omega), decide_eq_true (hs.2.2.2.2.2 (by omega))]
      rfl)
    omega
end Go.Proofs.Ytgbmemkoggogdaa

/- Sums of numbers: what was read counts what the tracks count; mathematics of LineMeans. -/
namespace Go.Proofs.Ytgbmemkoggogdaa
open Go.RowKit

theorem sumT_congr {C : List Int} {f g : Nat → Int} {k : Nat} (h : ∀ i, i < k → f i = g i) : sumT C f k = sumT C g k := by
  induction k with
  | zero => rfl
  | succ k ih =>
    show sumT C f k + C.getD k 0 * f k = sumT C g k + C.getD k 0 * g k
    rw [ih (fun i hi => h i (by omega)), h k (by omega)]
end Go.Proofs.Ytgbmemkoggogdaa
