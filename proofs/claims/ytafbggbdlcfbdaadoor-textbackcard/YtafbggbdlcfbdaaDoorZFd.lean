/- 9 texts in one. -/
import Derived.Deep.Slices
import Derived.ArgAppend
import Derived.BigQuiet
import Derived.BigRegion
import Derived.Deep.AppendLies
import Derived.Deep.LoopGhost
import Derived.Deep.MidRow
import Derived.Deep.RegionHeldLaw
import Derived.Deep.RegionLaw
import Derived.Deep.RegionWith
import Derived.DeepKeys4
import Derived.Laws.AppendOwnNone
import Derived.LoopIn
import Derived.LoopNIn
import Derived.Maps.OwnSet
import Derived.OwnWalk
import Derived.OwnWalkIn
import Derived.RangeFuncBound
import Derived.RangeFuncCalls
import Derived.RangeFuncLeaves
import Derived.RangeFuncNested
import Derived.Shelf.Abstract
import Derived.Shelf.RegionOpen
import Derived.Sort.LoopGhostIn
import Derived.TacticsInMore
import Derived.WalkKit
import Derived.Test.YtafbggbdlcfbdaaDoorFb
import Derived.Test.YtafbggbdlcfbdaaDoorZPa
import Derived.Test.YtafbggbdlcfbdaaDoorZMa
import Derived.Test.YtafbggbdlcfbdaaDoorZG
import Derived.Test.YtafbggbdlcfbdaaDoorB
import Derived.Test.YtafbggbdlcfbdaaDoorCf
import Derived.Test.YtafbggbdlcfbdaaDoorZLb
import Derived.Test.YtafbggbdlcfbdaaDoorZNx
import Derived.Test.YtafbggbdlcfbdaaDoorZF
/- Automata with outputs, in a slice, that came in: opened. -/
namespace Go.Proofs.YtafbggbdlcfbdaaDoor
open Go.ChangeShapes Go.WideShapes Go.ChangeAt Go.RowKit Go.Joins Go.Deep

/-- An automaton with outputs. -/
structure Om where
  b : Int
  N : List (List Int)
  O : List Int
instance : Inhabited Om := ⟨⟨0, [], []⟩⟩
def zOm : Om := ⟨0, [], []⟩
end Go.Proofs.YtafbggbdlcfbdaaDoor

/- Formulas: mathematics: renaming, bounding, truth. -/
namespace Go.Proofs.YtafbggbdlcfbdaaDoor
open Go.RowKit

/-- Behind the last one that is not 0. -/
def lastN (l : List Int) : Nat → Nat
  | 0 => 0
  | k + 1 => if l.getD k 0 = 0 then lastN l k else k + 1
def trimL (l : List Int) : List Int := l.take (lastN l l.length)
def zer5 : List Int := [0, 0, 0, 0, 0]
theorem lastN_le (l : List Int) (k : Nat) : lastN l k ≤ k := by
  induction k with
  | zero => exact Nat.le_refl _
  | succ k ih => unfold lastN; split <;> omega
theorem lastN_zero (l : List Int) (k : Nat) : ∀ i, lastN l k ≤ i → i < k → l.getD i 0 = 0 := by
  induction k with
  | zero => intro i h1 h2; omega
  | succ k ih =>
    intro i h1 h2
    unfold lastN at h1
    by_cases h : l.getD k 0 = 0
    · rw [if_pos h] at h1
      by_cases e : i = k
      · subst e; exact h
      · exact ih i h1 (by omega)
    · rw [if_neg h] at h1; omega
theorem lastN_last (l : List Int) (k : Nat) (h : 0 < lastN l k) : l.getD (lastN l k - 1) 0 ≠ 0 := by
  induction k with
  | zero => unfold lastN at h; omega
  | succ k ih =>
    unfold lastN at h ⊢
    by_cases e : l.getD k 0 = 0
    · rw [if_pos e] at h ⊢; exact ih h
    · rw [if_neg e] at h ⊢; exact e
theorem lastN_is {l : List Int} {k m : Nat} (hm : m ≤ k) (h1 : ∀ i, m ≤ i → i < k → l.getD i 0 = 0) (h2 : 0 < m → l.getD (m - 1) 0 ≠ 0) : lastN l k = m := by
  by_cases h : lastN l k < m
  · exact absurd (lastN_zero l k (m - 1) (by omega) (by omega)) (h2 (by omega))
  · by_cases h' : m < lastN l k
    · exact absurd (h1 (lastN l k - 1) (by omega) (by have := lastN_le l k; omega)) (lastN_last l k (by omega))
    · omega
theorem getD_big {l : List Int} {i : Nat} (h : l.length ≤ i) : l.getD i 0 = 0 := by simp [List.getD, h]
theorem take_getD (l : List Int) (m i : Nat) : (l.take m).getD i 0 = if i < m then l.getD i 0 else 0 := by
  by_cases h : i < m
  · rw [if_pos h]; simp [List.getD, h]
  · rw [if_neg h]; exact getD_big (by rw [List.length_take]; omega)
theorem trim_getD (l : List Int) (i : Nat) : (trimL l).getD i 0 = l.getD i 0 := by
  unfold trimL
  rw [take_getD]
  by_cases h : i < lastN l l.length
  · rw [if_pos h]
  · rw [if_neg h]
    by_cases h' : i < l.length
    · exact (lastN_zero l l.length i (by omega) h').symm
    · simp [List.getD, Nat.le_of_not_lt h']
theorem trim_len (l : List Int) : (trimL l).length = lastN l l.length := by
  unfold trimL
  rw [List.length_take]
  have := lastN_le l l.length
  omega
theorem list_ext0 {l m : List Int} (hl : l.length = m.length) (h : ∀ i, i < l.length → l.getD i 0 = m.getD i 0) : l = m := by
  apply List.ext_getElem hl
  intro i h1 h2
  have := h i h1
  simpa [List.getD, h1, h2] using this
theorem trim_eq {l m : List Int} (hle : m.length ≤ l.length) (h : ∀ i, l.getD i 0 = m.getD i 0) (hm : 0 < m.length → m.getD (m.length - 1) 0 ≠ 0) : trimL l = m := by
  have hl : lastN l l.length = m.length := lastN_is hle (fun i h1 h2 => by rw [h]; simp [List.getD, h1]) (fun h0 => by rw [h]; exact hm h0)
  exact list_ext0 (by rw [trim_len, hl]) (fun i _ => by rw [trim_getD, h])
/-- Is a node without parts so? -/
def holdB (os : List Om) (nums : List Int) (n : Nd) : Bool :=
  if n.op = 1 then lnEnd n.num false (sumT n.cf (fun i => nums.getD i 0) n.cf.length)
  else if n.op = 2 then lnEnd n.num true (sumT n.cf (fun i => nums.getD i 0) n.cf.length)
  else if n.op = 3 then decide (sayN (os.getD n.wd.toNat zOm).b (os.getD n.wd.toNat zOm).N (os.getD n.wd.toNat zOm).O (nums.getD n.var.toNat 0) = n.num)
  else if n.op = 4 then decide (sayN (os.getD n.wd.toNat zOm).b (os.getD n.wd.toNat zOm).N (os.getD n.wd.toNat zOm).O (nums.getD n.var.toNat 0) = sayN (os.getD n.wd2.toNat zOm).b (os.getD n.wd2.toNat zOm).N (os.getD n.wd2.toNat zOm).O (nums.getD n.oth.toNat 0))
  else false
def Fm.tru (os : List Om) (nums : List Int) : Fm → Bool
  | .at0 n => holdB os nums n
  | .un _ f => !f.tru os nums
  | .bin n f g => if n.op = 6 then f.tru os nums && g.tru os nums else f.tru os nums || g.tru os nums
end Go.Proofs.YtafbggbdlcfbdaaDoor

/- Texts read as claims: mathematics. -/
namespace Go.Proofs.YtafbggbdlcfbdaaDoor
open Go.RowKit

/-- The byte at a place; 0: the text is over. -/
def bt (s : List UInt8) (i : Nat) : UInt8 := s.getD i 0
def isDg (c : UInt8) : Bool := decide (48 ≤ c.toNat) && decide (c.toNat ≤ 57)
def isLt (c : UInt8) : Bool := decide (97 ≤ c.toNat) && decide (c.toNat < 102)
theorem bt_over {s : List UInt8} {i : Nat} (h : s.length ≤ i) : bt s i = 0 := by unfold bt; simp [List.getD, List.getElem?_eq_none h]
theorem bt_in {s : List UInt8} {i : Nat} (h : bt s i ≠ 0) : i < s.length := by
  by_cases h1 : i < s.length
  · exact h1
  · exact absurd (bt_over (Nat.le_of_not_lt h1)) h
theorem dg_in {s : List UInt8} {i : Nat} (h : isDg (bt s i) = true) : i < s.length := bt_in fun e => by rw [e] at h; revert h; decide
theorem lt_in {s : List UInt8} {i : Nat} (h : isLt (bt s i) = true) : i < s.length := bt_in fun e => by rw [e] at h; revert h; decide
theorem dg_bd {c : UInt8} (h : isDg c = true) : 48 ≤ c.toNat ∧ c.toNat ≤ 57 := by unfold isDg at h; simp at h; exact h
theorem lt_bd {c : UInt8} (h : isLt c = true) : 97 ≤ c.toNat ∧ c.toNat < 102 := by unfold isLt at h; simp at h; exact h
theorem lt_dg {c : UInt8} (h : isLt c = true) : isDg c = false := by
  have := lt_bd h
  unfold isDg
  simp
  omega
/-- A number: up to three digits. -/
def numGo (s : List UInt8) : Nat → Nat → Nat → Nat × Nat
  | 0, i, n => (n, i)
  | k + 1, i, n => if isDg (bt s i) = true then numGo s k (i + 1) (n * 10 + ((bt s i).toNat - 48)) else (n, i)
def numA (s : List UInt8) (i : Nat) : Nat × Nat := if bt s i = 48 then (0, i + 1) else numGo s 3 i 0
theorem numGo_bd (s : List UInt8) : ∀ (k i n m : Nat), n < 10 ^ m → i ≤ s.length → (numGo s k i n).1 < 10 ^ (m + k) ∧ i ≤ (numGo s k i n).2 ∧ (numGo s k i n).2 ≤ s.length := by
  intro k
  induction k with
  | zero => intro i n m h hi; exact ⟨h, Nat.le_refl _, hi⟩
  | succ k ih =>
    intro i n m h hi
    rw [numGo]
    split
    · rename_i hd
      have hb := dg_bd hd
      have hl := dg_in hd
      obtain ⟨h1, h2, h3⟩ := ih (i + 1) (n * 10 + ((bt s i).toNat - 48)) (m + 1) (by rw [Nat.pow_succ]; omega) hl
      exact ⟨by rw [show m + (k + 1) = m + 1 + k by omega]; exact h1, by omega, h3⟩
    · exact ⟨Nat.lt_of_lt_of_le h (Nat.pow_le_pow_right (by decide) (by omega)), Nat.le_refl _, hi⟩
theorem numA_bd {s : List UInt8} {i : Nat} (h : isDg (bt s i) = true) : (numA s i).1 ≤ 999 ∧ i < (numA s i).2 ∧ (numA s i).2 ≤ s.length := by
  have hl := dg_in h
  unfold numA
  split
  · exact ⟨by simp, by simp, hl⟩
  · rw [show (3 : Nat) = 2 + 1 from rfl, numGo, if_pos h]
    have hb := dg_bd h
    obtain ⟨h1, h2, h3⟩ := numGo_bd s 2 (i + 1) (0 * 10 + ((bt s i).toNat - 48)) 1 (by omega) hl
    exact ⟨by have : (10 : Nat) ^ (1 + 2) = 1000 := rfl; omega, by omega, h3⟩
/-- One part of a sum: its variable, how many, its end. -/
def partA (s : List UInt8) (i : Nat) : Option (Option Nat × Nat × Nat) :=
  if isDg (bt s i) = true then
    if isLt (bt s (numA s i).2) = true then some (some ((bt s (numA s i).2).toNat - 97), (numA s i).1, (numA s i).2 + 1) else some (none, (numA s i).1, (numA s i).2)
  else if isLt (bt s i) = true then some (some ((bt s i).toNat - 97), 1, i + 1) else none
theorem partA_bd {s : List UInt8} {i : Nat} {v : Option Nat} {m j : Nat} (h : partA s i = some (v, m, j)) : m ≤ 999 ∧ i < j ∧ j ≤ s.length ∧ ∀ q, v = some q → q < 5 := by
  unfold partA at h
  by_cases h1 : isDg (bt s i) = true
  · rw [if_pos h1] at h
    obtain ⟨b1, b2, b3⟩ := numA_bd h1
    by_cases h2 : isLt (bt s (numA s i).2) = true
    · rw [if_pos h2] at h
      have hl := lt_in h2
      have hb := lt_bd h2
      simp only [Option.some.injEq, Prod.mk.injEq] at h
      obtain ⟨rfl, rfl, rfl⟩ := h
      exact ⟨b1, by omega, hl, fun q hq => by injection hq with hq; omega⟩
    · rw [if_neg h2] at h
      simp only [Option.some.injEq, Prod.mk.injEq] at h
      obtain ⟨rfl, rfl, rfl⟩ := h
      exact ⟨b1, b2, b3, fun q hq => by cases hq⟩
  · rw [if_neg h1] at h
    by_cases h2 : isLt (bt s i) = true
    · rw [if_pos h2] at h
      have hl := lt_in h2
      have hb := lt_bd h2
      simp only [Option.some.injEq, Prod.mk.injEq] at h
      obtain ⟨rfl, rfl, rfl⟩ := h
      exact ⟨by omega, by omega, hl, fun q hq => by injection hq with hq; omega⟩
    · rw [if_neg h2] at h
      cases h
def putC (sg : Int) (v : Option Nat) (m : Nat) (cf : List Int) : List Int := match v with | none => cf | some q => cf.set q (cf.getD q 0 + sg * m)
def putN (sg : Int) (v : Option Nat) (m : Nat) (nm : Int) : Int := match v with | none => nm + sg * m | some _ => nm
theorem putC_len (sg : Int) (v : Option Nat) (m : Nat) (cf : List Int) : (putC sg v m cf).length = cf.length := by unfold putC; split <;> simp
/-- What a sum's reading comes to. -/
structure SumO where
  cf : List Int
  nm : Int
  e : Nat
  ok : Bool
def sumA (s : List UInt8) (sg : Int) : Nat → Nat → List Int → Int → SumO
  | 0, i, cf, nm => ⟨cf, nm, i, false⟩
  | f + 1, i, cf, nm => match partA s i with
    | none => ⟨cf, nm, i, false⟩
    | some (v, m, j) => if bt s j = 43 then sumA s sg f (j + 1) (putC sg v m cf) (putN sg v m nm) else ⟨putC sg v m cf, putN sg v m nm, j, true⟩
theorem sumA_none {s : List UInt8} {sg : Int} {f i : Nat} {cf : List Int} {nm : Int} (h : partA s i = none) : sumA s sg (f + 1) i cf nm = ⟨cf, nm, i, false⟩ := by rw [sumA, h]
theorem sumA_some {s : List UInt8} {sg : Int} {f i : Nat} {cf : List Int} {nm : Int} {v : Option Nat} {m j : Nat} (h : partA s i = some (v, m, j)) : sumA s sg (f + 1) i cf nm = if bt s j = 43 then sumA s sg f (j + 1) (putC sg v m cf) (putN sg v m nm) else ⟨putC sg v m cf, putN sg v m nm, j, true⟩ := by rw [sumA, h]
theorem sumA_bd (s : List UInt8) (sg : Int) : ∀ (f i : Nat) (cf : List Int) (nm : Int), i ≤ s.length → cf.length = 5 → i ≤ (sumA s sg f i cf nm).e ∧ (sumA s sg f i cf nm).e ≤ s.length ∧ (sumA s sg f i cf nm).cf.length = 5 := by
  intro f
  induction f with
  | zero => intro i cf nm hi hc; exact ⟨Nat.le_refl _, hi, hc⟩
  | succ f ih =>
    intro i cf nm hi hc
    rcases hp : partA s i with _ | ⟨v, m, j⟩
    · rw [sumA_none hp]
      exact ⟨Nat.le_refl _, hi, hc⟩
    · obtain ⟨-, b2, b3, -⟩ := partA_bd hp
      rw [sumA_some hp]
      split
      · rename_i h43
        have hl : j < s.length := bt_in (by rw [h43]; decide)
        obtain ⟨h1, h2, h3⟩ := ih (j + 1) (putC sg v m cf) (putN sg v m nm) hl (by rw [putC_len]; exact hc)
        exact ⟨by omega, h2, h3⟩
      · exact ⟨by show i ≤ j; omega, b3, by show (putC sg v m cf).length = 5; rw [putC_len]; exact hc⟩
/-- A word and a variable. -/
structure SpO where
  w : Nat
  v : Nat
  e : Nat
  ok : Bool
def spotA (s : List UInt8) (i : Nat) : SpO :=
  if bt s i = 64 then
    if isDg (bt s (i + 1)) = true then
      if bt s (numA s (i + 1)).2 = 91 then
        if isLt (bt s ((numA s (i + 1)).2 + 1)) = true then
          if bt s ((numA s (i + 1)).2 + 2) = 93 then ⟨(numA s (i + 1)).1, (bt s ((numA s (i + 1)).2 + 1)).toNat - 97, (numA s (i + 1)).2 + 3, true⟩
          else ⟨(numA s (i + 1)).1, (bt s ((numA s (i + 1)).2 + 1)).toNat - 97, (numA s (i + 1)).2 + 2, false⟩
        else ⟨0, 0, (numA s (i + 1)).2 + 1, false⟩
      else ⟨0, 0, (numA s (i + 1)).2, false⟩
    else ⟨0, 0, i + 1, false⟩
  else ⟨0, 0, i, false⟩
theorem spotA_bd {s : List UInt8} {i : Nat} (hi : i ≤ s.length) : i ≤ (spotA s i).e ∧ (spotA s i).e ≤ s.length ∧ (spotA s i).w ≤ 999 ∧ (spotA s i).v < 5 := by
  unfold spotA
  by_cases h1 : bt s i = 64
  · have l1 : i < s.length := bt_in (by rw [h1]; decide)
    rw [if_pos h1]
    by_cases h2 : isDg (bt s (i + 1)) = true
    · rw [if_pos h2]
      obtain ⟨b1, b2, b3⟩ := numA_bd h2
      by_cases h3 : bt s (numA s (i + 1)).2 = 91
      · have l3 : (numA s (i + 1)).2 < s.length := bt_in (by rw [h3]; decide)
        rw [if_pos h3]
        by_cases h4 : isLt (bt s ((numA s (i + 1)).2 + 1)) = true
        · have l4 := lt_in h4
          have b4 := lt_bd h4
          rw [if_pos h4]
          by_cases h5 : bt s ((numA s (i + 1)).2 + 2) = 93
          · have l5 : (numA s (i + 1)).2 + 2 < s.length := bt_in (by rw [h5]; decide)
            rw [if_pos h5]
            refine ⟨?_, ?_, b1, ?_⟩ <;> simp only [] <;> omega
          · rw [if_neg h5]
            refine ⟨?_, ?_, b1, ?_⟩ <;> simp only [] <;> omega
        · rw [if_neg h4]
          refine ⟨?_, ?_, ?_, ?_⟩ <;> simp only [] <;> omega
      · rw [if_neg h3]
        refine ⟨?_, ?_, ?_, ?_⟩ <;> simp only [] <;> omega
    · rw [if_neg h2]
      refine ⟨?_, ?_, ?_, ?_⟩ <;> simp only [] <;> omega
  · rw [if_neg h1]
    refine ⟨?_, ?_, ?_, ?_⟩ <;> simp only [] <;> omega
/-- What has no parts. -/
def atomA (s : List UInt8) (i : Nat) : Option Nd × Nat :=
  if bt s i = 64 then
    if (spotA s i).ok = true then
      if bt s (spotA s i).e = 61 then
        if bt s ((spotA s i).e + 1) = 64 then
          if (spotA s ((spotA s i).e + 1)).ok = true then (some ⟨4, (spotA s i).v, (spotA s ((spotA s i).e + 1)).v, (spotA s i).w, (spotA s ((spotA s i).e + 1)).w, 0, []⟩, (spotA s ((spotA s i).e + 1)).e)
          else (none, (spotA s ((spotA s i).e + 1)).e)
        else if isDg (bt s ((spotA s i).e + 1)) = true then (some ⟨3, (spotA s i).v, 0, (spotA s i).w, 0, (numA s ((spotA s i).e + 1)).1, []⟩, (numA s ((spotA s i).e + 1)).2)
        else (none, (spotA s i).e + 1)
      else (none, (spotA s i).e)
    else (none, (spotA s i).e)
  else
    let a := sumA s 1 (s.length + 1) i zer5 0
    if a.ok = true then
      if bt s a.e = 60 ∨ bt s a.e = 61 then
        let b := sumA s (-1) (s.length + 1) (a.e + 1) a.cf a.nm
        if b.ok = true then (some ⟨if bt s a.e = 60 then 2 else 1, 0, 0, 0, 0, b.nm, trimL b.cf⟩, b.e) else (none, b.e)
      else (none, a.e)
    else (none, a.e)
/-- A formula at a place, and its end. -/
def formA (s : List UInt8) : Nat → Nat → Option (List Nd) × Nat
  | 0, i => (none, i)
  | f + 1, i =>
    if bt s i = 126 then ((formA s f (i + 1)).1.map (fun x => ⟨5, 0, 0, 0, 0, 0, []⟩ :: x), (formA s f (i + 1)).2)
    else if bt s i = 69 ∨ bt s i = 65 then
      if isLt (bt s (i + 1)) = true then
        if bt s (i + 2) = 58 then ((formA s f (i + 3)).1.map (fun x => ⟨if bt s i = 65 then 9 else 8, ((bt s (i + 1)).toNat - 97 : Nat), 0, 0, 0, 0, []⟩ :: x), (formA s f (i + 3)).2)
        else (none, i + 2)
      else (none, i + 1)
    else if bt s i = 40 then
      match formA s f (i + 1) with
      | (none, e) => (none, e)
      | (some x, e) =>
        if bt s e = 124 ∨ bt s e = 38 then
          match formA s f (e + 1) with
          | (none, e2) => (none, e2)
          | (some y, e2) => if bt s e2 = 41 then (some (⟨if bt s e = 124 then 7 else 6, 0, 0, 0, 0, 0, []⟩ :: (x ++ y)), e2 + 1) else (none, e2)
        else (none, e)
    else match atomA s i with
      | (none, e) => (none, e)
      | (some n, e) => (some [n], e)
/-- A text: nodes, the place, the fault. -/
structure PaO where
  f : List Nd
  e : Nat
  c : Int
def parsA (s : List UInt8) : PaO :=
  if 2000 < s.length then ⟨[], 0, 3⟩
  else match formA s (s.length + 1) 0 with
    | (none, e) => ⟨[], e, 5⟩
    | (some f, e) => if e < s.length then ⟨[], e, 5⟩ else if (formP f).2 = 0 then ⟨f, 0, 0⟩ else ⟨[], s.length, (formP f).2⟩
theorem atomA_bd {s : List UInt8} {i : Nat} (hi : i ≤ s.length) : i ≤ (atomA s i).2 ∧ (atomA s i).2 ≤ s.length := by
  unfold atomA
  by_cases h1 : bt s i = 64
  · rw [if_pos h1]
    obtain ⟨p1, p2, -, -⟩ := spotA_bd (s := s) hi
    by_cases h2 : (spotA s i).ok = true
    · rw [if_pos h2]
      by_cases h3 : bt s (spotA s i).e = 61
      · have l3 : (spotA s i).e < s.length := bt_in (by rw [h3]; decide)
        rw [if_pos h3]
        by_cases h4 : bt s ((spotA s i).e + 1) = 64
        · rw [if_pos h4]
          obtain ⟨q1, q2, -, -⟩ := spotA_bd (s := s) (i := (spotA s i).e + 1) l3
          split <;> exact ⟨by omega, q2⟩
        · rw [if_neg h4]
          by_cases h5 : isDg (bt s ((spotA s i).e + 1)) = true
          · rw [if_pos h5]
            obtain ⟨-, b2, b3⟩ := numA_bd h5
            exact ⟨by omega, b3⟩
          · rw [if_neg h5]
            exact ⟨by omega, l3⟩
      · rw [if_neg h3]
        exact ⟨p1, p2⟩
    · rw [if_neg h2]
      exact ⟨p1, p2⟩
  · rw [if_neg h1]
    obtain ⟨a1, a2, a3⟩ := sumA_bd s 1 (s.length + 1) i zer5 0 hi rfl
    simp only []
    generalize sumA s 1 (s.length + 1) i zer5 0 = a at *
    split
    · split
      · rename_i hh
        have l3 : a.e < s.length := bt_in (by rcases hh with h | h <;> rw [h] <;> decide)
        obtain ⟨b1, b2, -⟩ := sumA_bd s (-1) (s.length + 1) (a.e + 1) a.cf a.nm l3 a3
        split <;> exact ⟨by omega, b2⟩
      · exact ⟨a1, a2⟩
    · exact ⟨a1, a2⟩
theorem formA_bd (s : List UInt8) : ∀ (f i : Nat), i ≤ s.length → i ≤ (formA s f i).2 ∧ (formA s f i).2 ≤ s.length := by
  intro f
  induction f with
  | zero => intro i hi; exact ⟨Nat.le_refl _, hi⟩
  | succ f ih =>
    intro i hi
    rw [formA]
    by_cases h1 : bt s i = 126
    · rw [if_pos h1]
      have l1 : i < s.length := bt_in (by rw [h1]; decide)
      obtain ⟨q1, q2⟩ := ih (i + 1) l1
      exact ⟨by simp only []; omega, q2⟩
    · rw [if_neg h1]
      by_cases h2 : bt s i = 69 ∨ bt s i = 65
      · rw [if_pos h2]
        have l1 : i < s.length := bt_in (by rcases h2 with h | h <;> rw [h] <;> decide)
        by_cases h3 : isLt (bt s (i + 1)) = true
        · rw [if_pos h3]
          have l2 := lt_in h3
          by_cases h4 : bt s (i + 2) = 58
          · rw [if_pos h4]
            have l4 : i + 2 < s.length := bt_in (by rw [h4]; decide)
            obtain ⟨q1, q2⟩ := ih (i + 3) l4
            exact ⟨by simp only []; omega, q2⟩
          · rw [if_neg h4]
            exact ⟨by simp only []; omega, l2⟩
        · rw [if_neg h3]
          exact ⟨by simp only []; omega, l1⟩
      · rw [if_neg h2]
        by_cases h3 : bt s i = 40
        · rw [if_pos h3]
          have l1 : i < s.length := bt_in (by rw [h3]; decide)
          obtain ⟨q1, q2⟩ := ih (i + 1) l1
          rcases hx : formA s f (i + 1) with ⟨_ | x, e⟩
          · rw [hx] at q1 q2
            exact ⟨by simp only [] at *; omega, q2⟩
          · rw [hx] at q1 q2
            simp only [] at *
            by_cases h4 : bt s e = 124 ∨ bt s e = 38
            · rw [if_pos h4]
              have l4 : e < s.length := bt_in (by rcases h4 with h | h <;> rw [h] <;> decide)
              obtain ⟨r1, r2⟩ := ih (e + 1) l4
              rcases hy : formA s f (e + 1) with ⟨_ | y, e2⟩
              · rw [hy] at r1 r2
                exact ⟨by simp only [] at *; omega, r2⟩
              · rw [hy] at r1 r2
                simp only [] at *
                by_cases h5 : bt s e2 = 41
                · rw [if_pos h5]
                  have l5 : e2 < s.length := bt_in (by rw [h5]; decide)
                  exact ⟨by simp only []; omega, l5⟩
                · rw [if_neg h5]
                  exact ⟨by simp only []; omega, r2⟩
            · rw [if_neg h4]
              exact ⟨by simp only []; omega, q2⟩
        · rw [if_neg h3]
          obtain ⟨q1, q2⟩ := atomA_bd hi
          rcases hx : atomA s i with ⟨_ | x, e⟩
          · rw [hx] at q1 q2
            exact ⟨q1, q2⟩
          · rw [hx] at q1 q2
            exact ⟨q1, q2⟩
end Go.Proofs.YtafbggbdlcfbdaaDoor

/- What package text answers. -/
namespace Go.Proofs.YtafbggbdlcfbdaaDoor
open Go.RowKit

/-- What text.Print answers. -/
def PrintSays : Prop := ∀ (a : Option Addr) (n cap : Nat) (ns : List Nd) (W : World), SlF W a n ns → n ≤ cap → (∀ t : Fm, ns = t.flat → t.ok → (formP ns).2 = 0 → Calls Tryd.prog 4 #[.slice a n cap] W fun e w' => e = .returned (.tuple #[.string (bs t.txt), errV 0]) ∧ Below W.heap.size W w') ∧ ((formP ns).2 ≠ 0 → Calls Tryd.prog 4 #[.slice a n cap] W fun e w' => e = .returned (.tuple #[.string (bs []), errV (formP ns).2]) ∧ Below W.heap.size W w')
/-- What text.Parse hands back. -/
def PaR (w : World) (o : PaO) (e : Ending) (w' : World) : Prop := ∃ (a : Option Addr) (c : Nat), e = .returned (.tuple #[.slice a o.f.length c, .int .i64 (o.e : Int), errV o.c]) ∧ SlF w' a o.f.length o.f ∧ Below w.heap.size w w'
/-- What text.Parse answers, in worlds of which H holds. -/
def ParseSays (H : World → Prop) : Prop := ∀ (s : List UInt8) (W : World), H W → Calls Tryd.prog 6 #[.string (bs s)] W (PaR W (parsA s))
end Go.Proofs.YtafbggbdlcfbdaaDoor

/- The reference's byteAt, digit, letter, numberAt, sureAt: contracts. -/
namespace Go.Proofs.YtafbggbdlcfbdaaDoor
open Go.RowKit

theorem bs_get (s : List UInt8) (i : Nat) (h : i < (bs s).size) : (bs s)[i]'h = bt s i := by
  have hl : i < s.length := by rw [bs_size] at h; exact h
  unfold bt
  simp only [List.getD, List.getElem?_eq_getElem hl, Option.getD_some]
  rfl
theorem bs_at (s : List UInt8) (i : Nat) (h : i < s.length) (W : World) : (Instr.index 9 (.string (bs s)) (.int .i64 (i : Int))).run Tryd.prog W = .ok (.int .u8 ((bt s i).toNat : Int)) W := by
  rw [run_index_string W 9 _ _ _ Tryd.underlying9, dif_pos ⟨by omega, by rw [bs_size]; omega⟩]
  simp only [Int.toNat_natCast, bs_get]
end Go.Proofs.YtafbggbdlcfbdaaDoor

/- What is written is read: mathematics. -/
namespace Go.Proofs.YtafbggbdlcfbdaaDoor
open Go.RowKit

/-- At a place some bytes stand. -/
def HasAt (s : List UInt8) (i : Nat) (x : List UInt8) : Prop := ∀ k, k < x.length → bt s (i + k) = x.getD k 0
theorem hasAt_app {s : List UInt8} {i : Nat} {x y : List UInt8} (h : HasAt s i (x ++ y)) : HasAt s i x ∧ HasAt s (i + x.length) y := by
  refine ⟨fun k hk => ?_, fun k hk => ?_⟩
  · rw [h k (by rw [List.length_append]; omega), List.getD_eq_getElem?_getD, List.getD_eq_getElem?_getD, List.getElem?_append_left hk]
  · have h1 := h (x.length + k) (by rw [List.length_append]; omega)
    rw [Nat.add_assoc, h1, List.getD_eq_getElem?_getD, List.getD_eq_getElem?_getD, List.getElem?_append_right (by omega), Nat.add_sub_cancel_left]
theorem hasAt_cons {s : List UInt8} {i : Nat} {c : UInt8} {y : List UInt8} (h : HasAt s i (c :: y)) : bt s i = c ∧ HasAt s (i + 1) y := by
  obtain ⟨h1, h2⟩ := hasAt_app (x := [c]) (y := y) h
  exact ⟨h1 0 (by simp), h2⟩
theorem hasAt_self (s : List UInt8) : HasAt s 0 s := fun k _ => by rw [Nat.zero_add]; rfl
theorem dg_dgC {d : Nat} (h : d < 10) : isDg (dgC d) = true := by
  unfold isDg
  rw [dgC_nat h]
  simp
  omega
theorem lt_ltC {v : Nat} (h : v < 5) : isLt (ltC v) = true := by
  unfold isLt
  rw [ltC_nat (by omega)]
  simp
  omega
theorem dg_ltC {v : Nat} (h : v < 5) : isDg (ltC v) = false := lt_dg (lt_ltC h)
theorem dgC_ne {d : Nat} (h : d < 10) (h0 : d ≠ 0) : dgC d ≠ 48 := fun e => by
  have := dgC_nat h
  rw [e] at this
  have h2 : (48 : UInt8).toNat = 48 := rfl
  omega
theorem numA_dec {s : List UInt8} {i n : Nat} (hn : n ≤ 99) (h : HasAt s i (decL n)) (hd : isDg (bt s (i + (decL n).length)) = false) : numA s i = (n, i + (decL n).length) := by
  by_cases h1 : n < 10
  · rw [decL_small h1] at h hd ⊢
    obtain ⟨e1, -⟩ := hasAt_cons h
    have hd' : isDg (bt s (i + 1)) = false := hd
    show numA s i = (n, i + 1)
    unfold numA
    by_cases h0 : n = 0
    · subst h0
      rw [if_pos (by rw [e1]; rfl)]
    · rw [if_neg (by rw [e1]; exact dgC_ne h1 h0), numGo, if_pos (by rw [e1]; exact dg_dgC h1), numGo, if_neg (by rw [hd']; decide), e1, dgC_nat h1]
      congr 1
      omega
  · have hs : decL n = [dgC (n / 10), dgC (n % 10)] := by rw [decL_step h1 (by omega), decL_small (by omega)]; rfl
    rw [hs] at h hd ⊢
    obtain ⟨e1, h⟩ := hasAt_cons h
    obtain ⟨e2, -⟩ := hasAt_cons h
    have hd' : isDg (bt s (i + 2)) = false := hd
    show numA s i = (n, i + 2)
    unfold numA
    rw [if_neg (by rw [e1]; exact dgC_ne (by omega) (by omega)), numGo, if_pos (by rw [e1]; exact dg_dgC (by omega)), numGo, if_pos (by rw [e2]; exact dg_dgC (by omega)), numGo, if_neg (by rw [show i + 1 + 1 = i + 2 from rfl, hd']; decide), e1, e2, dgC_nat (by omega), dgC_nat (by omega)]
    congr 1
    omega
theorem dec_first {s : List UInt8} {i n : Nat} (hn : n ≤ 99) (h : HasAt s i (decL n)) : isDg (bt s i) = true := by
  by_cases h1 : n < 10
  · rw [decL_small h1] at h
    rw [(hasAt_cons h).1]
    exact dg_dgC h1
  · have hs : decL n = [dgC (n / 10), dgC (n % 10)] := by rw [decL_step h1 (by omega), decL_small (by omega)]; rfl
    rw [hs] at h
    rw [(hasAt_cons h).1]
    exact dg_dgC (by omega)
theorem partA_var {s : List UInt8} {i v : Nat} {c : Int} (hc : 1 ≤ c ∧ c ≤ 99) (hv : v < 5) (h : HasAt s i (partT v c)) : partA s i = some (some v, c.toNat, i + (partT v c).length) := by
  unfold partT at h ⊢
  unfold partA
  by_cases h1 : c > 1
  · rw [if_pos h1] at h ⊢
    obtain ⟨g1, g2⟩ := hasAt_app h
    obtain ⟨e1, -⟩ := hasAt_cons g2
    have hN := numA_dec (by omega) g1 (by rw [e1]; exact dg_ltC hv)
    rw [if_pos (dec_first (by omega) g1), hN]
    simp only []
    rw [if_pos (by rw [e1]; exact lt_ltC hv), e1, ltC_nat (by omega)]
    simp
    omega
  · rw [if_neg h1] at h ⊢
    obtain ⟨e1, -⟩ := hasAt_cons h
    rw [if_neg (by rw [e1, dg_ltC hv]; decide), if_pos (by rw [e1]; exact lt_ltC hv), e1, ltC_nat (by omega)]
    simp
    omega
theorem partA_num {s : List UInt8} {i n : Nat} (hn : n ≤ 99) (h : HasAt s i (decL n)) (hd : isDg (bt s (i + (decL n).length)) = false) (hl : isLt (bt s (i + (decL n).length)) = false) : partA s i = some (none, n, i + (decL n).length) := by
  unfold partA
  rw [if_pos (dec_first hn h), numA_dec hn h hd]
  simp only []
  rw [if_neg (by rw [hl]; decide)]
/-- A text is read as what it adds. -/
def RdS (s : List UInt8) (sg : Int) (x : List UInt8) (cf : List Int) (nm : Int) (cf' : List Int) (nm' : Int) : Prop := ∀ i f, HasAt s i x → isDg (bt s (i + x.length)) = false → isLt (bt s (i + x.length)) = false → x.length < f → ∃ f', f ≤ f' + x.length ∧ sumA s sg f i cf nm = if bt s (i + x.length) = 43 then sumA s sg f' (i + x.length + 1) cf' nm' else ⟨cf', nm', i + x.length, true⟩
theorem rdS_one {s : List UInt8} {sg : Int} {p : List UInt8} {cf : List Int} {nm : Int} {v : Option Nat} {m : Nat} (hp : 1 ≤ p.length) (h : ∀ i, HasAt s i p → isDg (bt s (i + p.length)) = false → isLt (bt s (i + p.length)) = false → partA s i = some (v, m, i + p.length)) : RdS s sg p cf nm (putC sg v m cf) (putN sg v m nm) := by
  intro i f h1 h2 h3 hf
  obtain ⟨f, rfl⟩ : ∃ f', f = f' + 1 := ⟨f - 1, by omega⟩
  exact ⟨f, by omega, sumA_some (h i h1 h2 h3)⟩
theorem rdS_join {s : List UInt8} {sg : Int} {x p : List UInt8} {cf cf' cf2 : List Int} {nm nm' nm2 : Int} (hx : x.length ≠ 0) (hp : 1 ≤ p.length) (h1 : RdS s sg x cf nm cf' nm') (h2 : RdS s sg p cf' nm' cf2 nm2) : RdS s sg (joinT x p) cf nm cf2 nm2 := by
  unfold joinT
  rw [if_neg hx]
  intro i f g1 g2 g3 hf
  obtain ⟨a1, a2⟩ := hasAt_app g1
  obtain ⟨b1, b2⟩ := hasAt_app a1
  obtain ⟨c1, -⟩ := hasAt_cons b2
  simp only [List.length_append, List.length_cons, List.length_nil] at a2 g2 g3 hf
  obtain ⟨f1, e1, e2⟩ := h1 i f b1 (by rw [c1]; decide) (by rw [c1]; decide) (by omega)
  rw [if_pos c1] at e2
  have q : i + (x.length + (0 + 1)) = i + x.length + 1 := by omega
  have q2 : i + (x.length + (0 + 1) + p.length) = i + x.length + 1 + p.length := by omega
  rw [q] at a2
  rw [q2] at g2 g3
  obtain ⟨f2, e3, e4⟩ := h2 (i + x.length + 1) f1 a2 g2 g3 (by omega)
  refine ⟨f2, ?_, ?_⟩
  · simp only [List.length_append, List.length_cons, List.length_nil]; omega
  · simp only [List.length_append, List.length_cons, List.length_nil]
    rw [e2, e4, q2]
def effK (sg : Int) (cf : List Int) : Nat → List Int → List Int
  | 0, c => c
  | k + 1, c => if sg * cf.getD k 0 < 1 then effK sg cf k c else putC sg (some k) (sg * cf.getD k 0).toNat (effK sg cf k c)
theorem effK_len (sg : Int) (cf : List Int) (k : Nat) (c : List Int) : (effK sg cf k c).length = c.length := by
  induction k with
  | zero => rfl
  | succ k ih => rw [effK]; split; exact ih; rw [putC_len]; exact ih
theorem effK_get {sg : Int} (hsg : sg = 1 ∨ sg = -1) (cf : List Int) (c : List Int) (hc : c.length = 5) : ∀ k, k ≤ 5 → ∀ j, (effK sg cf k c).getD j 0 = c.getD j 0 + if j < k ∧ 1 ≤ sg * cf.getD j 0 then cf.getD j 0 else 0 := by
  intro k
  induction k with
  | zero => intro _ j; rw [effK, if_neg (by omega)]; omega
  | succ k ih =>
    intro hk j
    rw [effK]
    by_cases h1 : sg * cf.getD k 0 < 1
    · rw [if_pos h1, ih (by omega) j]
      by_cases hj : j = k
      · subst hj
        rw [if_neg (by omega), if_neg (by omega)]
      · by_cases hjk : j < k
        · by_cases q : 1 ≤ sg * cf.getD j 0
          · rw [if_pos ⟨hjk, q⟩, if_pos ⟨by omega, q⟩]
          · rw [if_neg (fun h => q h.2), if_neg (fun h => q h.2)]
        · rw [if_neg (fun h => hjk h.1), if_neg (fun h => by omega)]
    · rw [if_neg h1]
      unfold putC
      simp only []
      rw [List.getD_eq_getElem?_getD, List.getElem?_set, effK_len]
      by_cases hj : k = j
      · subst hj
        rw [if_pos rfl, if_pos (by omega), Option.getD_some, ih (by omega) k, if_neg (by omega), if_pos ⟨by omega, by omega⟩]
        rcases hsg with rfl | rfl <;> omega
      · rw [if_neg hj, ← List.getD_eq_getElem?_getD, ih (by omega) j]
        by_cases hjk : j < k
        · by_cases q : 1 ≤ sg * cf.getD j 0
          · rw [if_pos ⟨hjk, q⟩, if_pos ⟨by omega, q⟩]
          · rw [if_neg (fun h => q h.2), if_neg (fun h => q h.2)]
        · rw [if_neg (fun h => hjk h.1), if_neg (fun h => by omega)]
theorem side_reads (s : List UInt8) {sg : Int} {cf : List Int} (hb : ∀ j, sg * cf.getD j 0 ≤ 99) : ∀ k, k ≤ 5 → ((sideK cf sg k).length = 0 ∧ ∀ c, effK sg cf k c = c) ∨ ((sideK cf sg k).length ≠ 0 ∧ ∀ c nm, RdS s sg (sideK cf sg k) c nm (effK sg cf k c) nm) := by
  intro k
  induction k with
  | zero => intro _; exact .inl ⟨rfl, fun _ => rfl⟩
  | succ k ih =>
    intro hk
    rw [sideK]
    by_cases h1 : sg * cf.getD k 0 < 1
    · rw [if_pos h1]
      have e : ∀ c, effK sg cf (k + 1) c = effK sg cf k c := fun c => by rw [effK, if_pos h1]
      rcases ih (by omega) with ⟨g1, g2⟩ | ⟨g1, g2⟩
      · exact .inl ⟨g1, fun c => by rw [e, g2]⟩
      · exact .inr ⟨g1, fun c nm => by rw [e]; exact g2 c nm⟩
    · rw [if_neg h1]
      have e : ∀ c, effK sg cf (k + 1) c = putC sg (some k) (sg * cf.getD k 0).toNat (effK sg cf k c) := fun c => by rw [effK, if_neg h1]
      have hl := partT_len k (sg * cf.getD k 0)
      have one : ∀ c nm, RdS s sg (partT k (sg * cf.getD k 0)) c nm (putC sg (some k) (sg * cf.getD k 0).toNat c) nm := fun c nm => rdS_one (v := some k) hl.1 fun i g1 _ _ => partA_var ⟨by omega, hb k⟩ (by omega) g1
      right
      rcases ih (by omega) with ⟨g1, g2⟩ | ⟨g1, g2⟩
      · have ej : joinT (sideK cf sg k) (partT k (sg * cf.getD k 0)) = partT k (sg * cf.getD k 0) := by unfold joinT; rw [if_pos g1]
        rw [ej]
        exact ⟨by omega, fun c nm => by rw [e, g2]; exact one c nm⟩
      · refine ⟨?_, fun c nm => by rw [e]; exact rdS_join g1 hl.1 (g2 c nm) (one _ nm)⟩
        unfold joinT
        rw [if_neg g1]
        simp
theorem sideT_reads (s : List UInt8) {sg : Int} (hsg : sg = 1 ∨ sg = -1) {cf : List Int} (hb : ∀ j, sg * cf.getD j 0 ≤ 99) (hl : cf.length ≤ 5) {num : Int} (hn : sg * num ≤ 99) (c : List Int) (nm : Int) : RdS s sg (sideT cf num sg) c nm (effK sg cf cf.length c) (nm + if 0 < sg * num then num else 0) := by
  have hK := side_reads s hb cf.length hl
  have hM : ((sideM cf num sg).length = 0 ∧ ∀ c, effK sg cf cf.length c = c ∧ ¬ 0 < sg * num) ∨ ((sideM cf num sg).length ≠ 0 ∧ ∀ c nm, RdS s sg (sideM cf num sg) c nm (effK sg cf cf.length c) (nm + if 0 < sg * num then num else 0)) := by
    unfold sideM
    by_cases h1 : sg * num > 0
    · rw [if_pos h1]
      have hd := decL_len (sg * num).toNat
      have en : ∀ nm : Int, nm + sg * ((sg * num).toNat : Int) = nm + num := fun nm => by rcases hsg with rfl | rfl <;> omega
      have one : ∀ c nm, RdS s sg (decL (sg * num).toNat) c nm c (nm + num) := fun c nm => by
        have h := rdS_one (sg := sg) (s := s) (cf := c) (nm := nm) (v := none) (m := (sg * num).toNat) hd.1 fun i g1 g2 g3 => partA_num (by omega) g1 g2 g3
        have e1 : putN sg none (sg * num).toNat nm = nm + num := en nm
        have e2 : putC sg none (sg * num).toNat c = c := rfl
        rw [e1, e2] at h
        exact h
      right
      rw [if_pos h1]
      rcases hK with ⟨g1, g2⟩ | ⟨g1, g2⟩
      · have ej : joinT (sideK cf sg cf.length) (decL (sg * num).toNat) = decL (sg * num).toNat := by unfold joinT; rw [if_pos g1]
        rw [ej]
        exact ⟨by omega, fun c nm => by rw [g2]; exact one c nm⟩
      · refine ⟨?_, fun c nm => rdS_join g1 hd.1 (g2 c nm) (one _ nm)⟩
        unfold joinT
        rw [if_neg g1]
        simp
    · rw [if_neg h1]
      rcases hK with ⟨g1, g2⟩ | ⟨g1, g2⟩
      · exact .inl ⟨g1, fun c => ⟨g2 c, h1⟩⟩
      · exact .inr ⟨g1, fun c nm => by rw [if_neg h1, Int.add_zero]; exact g2 c nm⟩
  unfold sideT
  rcases hM with ⟨g1, g2⟩ | ⟨g1, g2⟩
  · rw [if_pos g1, (g2 c).1, if_neg (g2 c).2]
    have h := rdS_one (sg := sg) (s := s) (cf := c) (nm := nm) (p := decL 0) (v := none) (m := 0) (by decide) fun i g1 g2 g3 => partA_num (by decide) g1 g2 g3
    have e1 : putN sg none 0 nm = nm + 0 := by show nm + sg * ((0 : Nat) : Int) = _; simp
    have e2 : putC sg none 0 c = c := rfl
    rw [e1, e2] at h
    exact h
  · rw [if_neg g1]
    exact g2 c nm
end Go.Proofs.YtafbggbdlcfbdaaDoor

/- What is written is read: formulas. -/
namespace Go.Proofs.YtafbggbdlcfbdaaDoor
open Go.RowKit

/-- What may stand behind a claim. -/
def StB (c : UInt8) : Prop := isDg c = false ∧ isLt c = false ∧ c ≠ 43
theorem sum_reads {s : List UInt8} {sg : Int} {x : List UInt8} {cf cf' : List Int} {nm nm' : Int} (h : RdS s sg x cf nm cf' nm') {i f : Nat} (hx : HasAt s i x) (hst : StB (bt s (i + x.length))) (hf : x.length < f) : sumA s sg f i cf nm = ⟨cf', nm', i + x.length, true⟩ := by
  obtain ⟨f', -, e⟩ := h i f hx hst.1 hst.2.1 hf
  rw [e, if_neg hst.2.2]
theorem eff_both {cf : List Int} (hl : cf.length ≤ 5) (hlast : 0 < cf.length → cf.getD (cf.length - 1) 0 ≠ 0) : trimL (effK (-1) cf cf.length (effK 1 cf cf.length zer5)) = cf := by
  have z : ∀ j, zer5.getD j 0 = 0 := fun j => by
    match j with
    | 0 => rfl
    | 1 => rfl
    | 2 => rfl
    | 3 => rfl
    | 4 => rfl
    | j + 5 => simp [zer5, List.getD]
  refine trim_eq (by rw [effK_len, effK_len]; exact hl) (fun j => ?_) hlast
  rw [effK_get (.inr rfl) cf _ (by rw [effK_len]; rfl) cf.length hl j, effK_get (.inl rfl) cf zer5 rfl cf.length hl j, z]
  by_cases hj : j < cf.length
  · by_cases h1 : 1 ≤ 1 * cf.getD j 0
    · rw [if_pos ⟨hj, h1⟩, if_neg (fun h => by have := h.2; omega)]; omega
    · by_cases h2 : 1 ≤ -1 * cf.getD j 0
      · rw [if_neg (fun h => h1 h.2), if_pos ⟨hj, h2⟩]; omega
      · rw [if_neg (fun h => h1 h.2), if_neg (fun h => h2 h.2)]; omega
  · rw [if_neg (fun h => hj h.1), if_neg (fun h => hj h.1)]
    simp [List.getD, List.getElem?_eq_none (Nat.le_of_not_lt hj)]
theorem spot_reads {s : List UInt8} {i w v : Nat} (hw : w ≤ 99) (hv : v < 5) (h : HasAt s i ([64] ++ decL w ++ [91] ++ [ltC v] ++ [93])) : spotA s i = ⟨w, v, i + ([64] ++ decL w ++ [91] ++ [ltC v] ++ [93]).length, true⟩ := by
  obtain ⟨h, h5⟩ := hasAt_app h
  obtain ⟨h, h4⟩ := hasAt_app h
  obtain ⟨h, h3⟩ := hasAt_app h
  obtain ⟨h1, h2⟩ := hasAt_app h
  have e1 := (hasAt_cons h1).1
  have e3 := (hasAt_cons h3).1
  have e4 := (hasAt_cons h4).1
  have e5 := (hasAt_cons h5).1
  simp only [List.length_append, List.length_cons, List.length_nil] at h2 e3 e4 e5 ⊢
  have q2 : i + (0 + 1) = i + 1 := by omega
  have q3 : i + (0 + 1 + (decL w).length) = i + 1 + (decL w).length := by omega
  have q4 : i + (0 + 1 + (decL w).length + (0 + 1)) = i + 1 + (decL w).length + 1 := by omega
  have q5 : i + (0 + 1 + (decL w).length + (0 + 1) + (0 + 1)) = i + 1 + (decL w).length + 2 := by omega
  rw [q2] at h2
  rw [q3] at e3
  rw [q4] at e4
  rw [q5] at e5
  have hN := numA_dec hw h2 (by rw [e3]; decide)
  unfold spotA
  rw [if_pos e1, if_pos (dec_first hw h2), hN]
  simp only []
  rw [if_pos e3, if_pos (by rw [e4]; exact lt_ltC hv), if_pos e5, e4, ltC_nat (by omega)]
  congr 1 <;> omega
theorem atom_line {s : List UInt8} {i : Nat} {op : Int} {num : Int} {cf : List Int} {sep : UInt8} (hop : (op = 1 ∧ sep = 61) ∨ (op = 2 ∧ sep = 60)) (hcf : ∀ j, -99 ≤ cf.getD j 0 ∧ cf.getD j 0 ≤ 99) (hl : cf.length ≤ 5) (hlast : 0 < cf.length → cf.getD (cf.length - 1) 0 ≠ 0) (hn : -99 ≤ num ∧ num ≤ 99) (h : HasAt s i (sideT cf num 1 ++ [sep] ++ sideT cf num (-1))) (hst : StB (bt s (i + (sideT cf num 1 ++ [sep] ++ sideT cf num (-1)).length))) (hi : i + (sideT cf num 1 ++ [sep] ++ sideT cf num (-1)).length ≤ s.length) : atomA s i = (some ⟨op, 0, 0, 0, 0, num, cf⟩, i + (sideT cf num 1 ++ [sep] ++ sideT cf num (-1)).length) := by
  obtain ⟨h12, h3⟩ := hasAt_app h
  obtain ⟨h1, h2⟩ := hasAt_app h12
  have e2 := (hasAt_cons h2).1
  simp only [List.length_append, List.length_cons, List.length_nil] at h3 hst hi ⊢
  have r1 := sideT_reads s (sg := 1) (.inl rfl) (cf := cf) (fun j => by have := hcf j; omega) hl (num := num) (by omega) zer5 0
  have r2 := sideT_reads s (sg := -1) (.inr rfl) (cf := cf) (fun j => by have := hcf j; omega) hl (num := num) (by omega) (effK 1 cf cf.length zer5) (0 + if 0 < 1 * num then num else 0)
  have q3 : i + ((sideT cf num 1).length + (0 + 1)) = i + (sideT cf num 1).length + 1 := by omega
  have q4 : i + ((sideT cf num 1).length + (0 + 1) + (sideT cf num (-1)).length) = i + (sideT cf num 1).length + 1 + (sideT cf num (-1)).length := by omega
  rw [q3] at h3
  rw [q4] at hst hi ⊢
  have hsep : StB (bt s (i + (sideT cf num 1).length)) := by
    rw [e2]
    rcases hop with ⟨-, rfl⟩ | ⟨-, rfl⟩
    · exact ⟨by decide, by decide, by decide⟩
    · exact ⟨by decide, by decide, by decide⟩
  have s1 := sum_reads r1 (f := s.length + 1) h1 hsep (by omega)
  have s2 := sum_reads r2 (f := s.length + 1) h3 hst (by omega)
  have h64 : ¬ bt s i = 64 := fun e => by
    have hp : partA s i = none := by unfold partA; rw [e]; rfl
    rw [sumA_none hp] at s1
    injection s1 with _ _ _ s1
    cases s1
  have hnm : (0 + (if 0 < 1 * num then num else 0)) + (if 0 < -1 * num then num else 0) = num := by
    by_cases a : 0 < 1 * num
    · rw [if_pos a, if_neg (by omega)]; omega
    · by_cases b : 0 < -1 * num
      · rw [if_neg a, if_pos b]; omega
      · rw [if_neg a, if_neg b]; omega
  unfold atomA
  rw [if_neg h64, s1]
  simp only []
  rw [if_pos trivial, s2]
  simp only []
  rw [if_pos trivial, eff_both hl hlast, hnm, e2]
  rcases hop with ⟨rfl, rfl⟩ | ⟨rfl, rfl⟩
  · rw [if_pos (.inr rfl), if_neg (by decide)]
  · rw [if_pos (.inl rfl), if_pos rfl]
theorem atom_at {s : List UInt8} {i w v m : Nat} (hw : w ≤ 99) (hv : v < 5) (hm : m ≤ 99) (h : HasAt s i ([64] ++ decL w ++ [91] ++ [ltC v] ++ [93, 61] ++ decL m)) (hst : StB (bt s (i + ([64] ++ decL w ++ [91] ++ [ltC v] ++ [93, 61] ++ decL m).length))) : atomA s i = (some ⟨3, v, 0, w, 0, m, []⟩, i + ([64] ++ decL w ++ [91] ++ [ltC v] ++ [93, 61] ++ decL m).length) := by
  have e : [64] ++ decL w ++ [91] ++ [ltC v] ++ [93, 61] ++ decL m = ([64] ++ decL w ++ [91] ++ [ltC v] ++ [93]) ++ [61] ++ decL m := by simp
  rw [e] at h hst ⊢
  obtain ⟨h12, h3⟩ := hasAt_app h
  obtain ⟨h1, h2⟩ := hasAt_app h12
  have hs := spot_reads hw hv h1
  have e2 := (hasAt_cons h2).1
  have e0 : bt s i = 64 := by
    obtain ⟨g, -⟩ := hasAt_app h1
    obtain ⟨g, -⟩ := hasAt_app g
    obtain ⟨g, -⟩ := hasAt_app g
    obtain ⟨g, -⟩ := hasAt_app g
    exact (hasAt_cons g).1
  generalize [64] ++ decL w ++ [91] ++ [ltC v] ++ [93] = x at *
  simp only [List.length_append, List.length_cons, List.length_nil] at h3 hst ⊢
  have q3 : i + (x.length + (0 + 1)) = i + x.length + 1 := by omega
  have q4 : i + (x.length + (0 + 1) + (decL m).length) = i + x.length + 1 + (decL m).length := by omega
  rw [q3] at h3
  rw [q4] at hst ⊢
  have hN := numA_dec hm h3 hst.1
  unfold atomA
  rw [if_pos e0, hs]
  simp only []
  have hd := dec_first hm h3
  rw [if_pos trivial, if_pos e2, if_neg (fun e => by rw [e] at hd; revert hd; decide), if_pos hd, hN]
theorem atom_like {s : List UInt8} {i w v w2 o : Nat} (hw : w ≤ 99) (hv : v < 5) (hw2 : w2 ≤ 99) (ho : o < 5) (h : HasAt s i ([64] ++ decL w ++ [91] ++ [ltC v] ++ [93, 61, 64] ++ decL w2 ++ [91] ++ [ltC o] ++ [93])) : atomA s i = (some ⟨4, v, o, w, w2, 0, []⟩, i + ([64] ++ decL w ++ [91] ++ [ltC v] ++ [93, 61, 64] ++ decL w2 ++ [91] ++ [ltC o] ++ [93]).length) := by
  have e : [64] ++ decL w ++ [91] ++ [ltC v] ++ [93, 61, 64] ++ decL w2 ++ [91] ++ [ltC o] ++ [93] = ([64] ++ decL w ++ [91] ++ [ltC v] ++ [93]) ++ [61] ++ ([64] ++ decL w2 ++ [91] ++ [ltC o] ++ [93]) := by simp
  rw [e] at h ⊢
  obtain ⟨h12, h3⟩ := hasAt_app h
  obtain ⟨h1, h2⟩ := hasAt_app h12
  have hs := spot_reads hw hv h1
  have hs2 := spot_reads hw2 ho h3
  have e2 := (hasAt_cons h2).1
  have e0 : ∀ {j w v}, HasAt s j ([64] ++ decL w ++ [91] ++ [ltC v] ++ [93]) → bt s j = 64 := fun h1 => by
    obtain ⟨g, -⟩ := hasAt_app h1
    obtain ⟨g, -⟩ := hasAt_app g
    obtain ⟨g, -⟩ := hasAt_app g
    obtain ⟨g, -⟩ := hasAt_app g
    exact (hasAt_cons g).1
  have e1 := e0 h1
  have e3 := e0 h3
  clear e0 h1 h3
  generalize [64] ++ decL w ++ [91] ++ [ltC v] ++ [93] = x at *
  generalize [64] ++ decL w2 ++ [91] ++ [ltC o] ++ [93] = y at *
  simp only [List.length_append, List.length_cons, List.length_nil] at hs2 e3 ⊢
  have q3 : i + (x.length + (0 + 1)) = i + x.length + 1 := by omega
  have q4 : i + (x.length + (0 + 1) + y.length) = i + x.length + 1 + y.length := by omega
  rw [q3] at hs2 e3
  rw [q4]
  unfold atomA
  rw [if_pos e1, hs]
  simp only []
  rw [if_pos trivial, if_pos e2, if_pos e3, hs2]
  simp only []
  rw [if_pos trivial]
theorem nd_un {n : Nd} (h : ndF n = 0) (hp : partsN n.op ≠ 0) : n = ⟨n.op, n.var, 0, 0, 0, 0, []⟩ ∧ (n.op = 5 ∨ n.op = 6 ∨ n.op = 7 → n.var = 0) ∧ (n.op = 8 ∨ n.op = 9 → 0 ≤ n.var ∧ n.var < 5) := by
  obtain ⟨hr, hs⟩ := ndF_zero h
  obtain ⟨s1, s2, s3, s4, s5, s6⟩ := hs
  have hop : n.op ≠ 1 ∧ n.op ≠ 2 ∧ n.op ≠ 3 ∧ n.op ≠ 4 := by
    unfold partsN at hp
    by_cases q : n.op = 5 ∨ n.op = 8 ∨ n.op = 9
    · omega
    · rw [if_neg q] at hp
      by_cases q2 : n.op = 6 ∨ n.op = 7
      · omega
      · rw [if_neg q2] at hp; exact absurd rfl hp
  have g2 := s2 hop.2.2.2
  have g3 := s3 (fun h => by rcases h with h | h <;> omega)
  have hnl : ¬ lineP n := fun h => by rcases h with h | h <;> omega
  have g4 := s4 hnl hop.2.2.1
  have g5 := List.eq_nil_of_length_eq_zero (s5 hnl)
  refine ⟨?_, fun hq => s1 (fun h => by rcases h with h | h | h | h <;> omega), fun hq => hr.2.1 (by rcases hq with h | h; exact .inr (.inr (.inl h)); exact .inr (.inr (.inr h)))⟩
  cases n
  simp only [] at *
  simp only [Nd.mk.injEq]
  exact ⟨trivial, trivial, g2.1, g3, g2.2, g4, g5⟩
theorem atom_reads {s : List UInt8} {i : Nat} {n : Nd} (h : ndF n = 0) (hp : partsN n.op = 0) (hx : HasAt s i (atomT n)) (hst : StB (bt s (i + (atomT n).length))) (hi : i + (atomT n).length ≤ s.length) : atomA s i = (some n, i + (atomT n).length) := by
  obtain ⟨hr, hs⟩ := ndF_zero h
  obtain ⟨s1, s2, s3, s4, s5, s6⟩ := hs
  have hop : n.op = 1 ∨ n.op = 2 ∨ n.op = 3 ∨ n.op = 4 := by
    have h1 := hr.1
    unfold partsN at hp
    by_cases q : n.op = 5 ∨ n.op = 8 ∨ n.op = 9
    · rw [if_pos q] at hp; omega
    · rw [if_neg q] at hp
      by_cases q2 : n.op = 6 ∨ n.op = 7
      · rw [if_pos q2] at hp; omega
      · omega
  by_cases h12 : n.op = 1 ∨ n.op = 2
  · have hl := hr.2.2.2.2.2.2 h12
    have hcf : ∀ j, -99 ≤ n.cf.getD j 0 ∧ n.cf.getD j 0 ≤ 99 := fun j => by
      by_cases hj : j < n.cf.length
      · have := absT_at n.cf hj
        unfold absI at this
        split at this <;> omega
      · simp [List.getD, List.getElem?_eq_none (Nat.le_of_not_lt hj)]
    have en : n = ⟨n.op, 0, 0, 0, 0, n.num, n.cf⟩ := by
      have g1 := s1 (fun h => by rcases h with h | h | h | h <;> omega)
      have g2 := s2 (by omega)
      have g3 := s3 (fun h => by rcases h with h | h <;> omega)
      cases n
      simp only [] at *
      simp only [Nd.mk.injEq]
      exact ⟨trivial, g1, g2.1, g3, g2.2, trivial, trivial⟩
    have et : ∃ sep : UInt8, ((n.op = 1 ∧ sep = 61) ∨ (n.op = 2 ∧ sep = 60)) ∧ atomT n = sideT n.cf n.num 1 ++ [sep] ++ sideT n.cf n.num (-1) := by
      rcases h12 with h | h
      · exact ⟨61, .inl ⟨h, rfl⟩, by unfold atomT; rw [if_pos h]⟩
      · exact ⟨60, .inr ⟨h, rfl⟩, by unfold atomT; rw [if_neg (by omega), if_pos h]⟩
    obtain ⟨sep, hsep, et⟩ := et
    rw [et] at hx hst hi ⊢
    have := atom_line hsep hcf hl.1 s6 ⟨by omega, by omega⟩ hx hst hi
    rw [← en] at this
    exact this
  · by_cases h3 : n.op = 3
    · have hv := hr.2.1 (.inl h3)
      have hw := hr.2.2.2.1 (.inl h3)
      have hm := hr.2.2.2.2.2.1 h3
      obtain ⟨v, ev⟩ : ∃ v : Nat, n.var = (v : Int) := ⟨n.var.toNat, by omega⟩
      obtain ⟨w, ew⟩ : ∃ v : Nat, n.wd = (v : Int) := ⟨n.wd.toNat, by omega⟩
      obtain ⟨m, em⟩ : ∃ v : Nat, n.num = (v : Int) := ⟨n.num.toNat, by omega⟩
      have et : atomT n = [64] ++ decL w ++ [91] ++ [ltC v] ++ [93, 61] ++ decL m := by
        unfold atomT
        rw [if_neg (by omega), if_neg (by omega), if_pos h3, ev, ew, em, Int.toNat_natCast, Int.toNat_natCast, Int.toNat_natCast]
      have en : n = ⟨3, v, 0, w, 0, m, []⟩ := by
        have g2 := s2 (by omega)
        have g5 := List.eq_nil_of_length_eq_zero (s5 (fun h => by rcases h with h | h <;> omega))
        cases n
        simp only [] at *
        simp only [Nd.mk.injEq]
        exact ⟨h3, ev, g2.1, ew, g2.2, em, g5⟩
      rw [et] at hx hst ⊢
      rw [en]
      exact atom_at (by omega) (by omega) (by omega) hx hst
    · have h4 : n.op = 4 := by omega
      have hv := hr.2.1 (.inr (.inl h4))
      have hw := hr.2.2.2.1 (.inr h4)
      have hv2 := hr.2.2.1 h4
      have hw2 := hr.2.2.2.2.1 h4
      obtain ⟨v, ev⟩ : ∃ v : Nat, n.var = (v : Int) := ⟨n.var.toNat, by omega⟩
      obtain ⟨w, ew⟩ : ∃ v : Nat, n.wd = (v : Int) := ⟨n.wd.toNat, by omega⟩
      obtain ⟨o, eo⟩ : ∃ v : Nat, n.oth = (v : Int) := ⟨n.oth.toNat, by omega⟩
      obtain ⟨w2, ew2⟩ : ∃ v : Nat, n.wd2 = (v : Int) := ⟨n.wd2.toNat, by omega⟩
      have et : atomT n = [64] ++ decL w ++ [91] ++ [ltC v] ++ [93, 61, 64] ++ decL w2 ++ [91] ++ [ltC o] ++ [93] := by
        unfold atomT
        rw [if_neg (by omega), if_neg (by omega), if_neg (by omega), ev, ew, eo, ew2, Int.toNat_natCast, Int.toNat_natCast, Int.toNat_natCast, Int.toNat_natCast]
      have en : n = ⟨4, v, o, w, w2, 0, []⟩ := by
        have hnl : ¬ lineP n := fun h => by rcases h with h | h <;> omega
        have g4 := s4 hnl (by omega)
        have g5 := List.eq_nil_of_length_eq_zero (s5 hnl)
        cases n
        simp only [] at *
        simp only [Nd.mk.injEq]
        exact ⟨h4, ev, eo, ew, ew2, g4, g5⟩
      rw [et] at hx hst ⊢
      rw [en]
      exact atom_like (by omega) (by omega) (by omega) (by omega) hx
end Go.Proofs.YtafbggbdlcfbdaaDoor

/- What is written is read: formulas as wholes. -/
namespace Go.Proofs.YtafbggbdlcfbdaaDoor
open Go.RowKit

theorem atom_none {s : List UInt8} {i : Nat} (h64 : bt s i ≠ 64) (hd : isDg (bt s i) = false) (hl : isLt (bt s i) = false) : (atomA s i).1 = none := by
  have hp : partA s i = none := by unfold partA; rw [if_neg (by rw [hd]; decide), if_neg (by rw [hl]; decide)]
  unfold atomA
  rw [if_neg h64, sumA_none hp]
  simp only []
  rw [if_neg (by decide)]
theorem form_reads (s : List UInt8) (t : Fm) : t.ok → ∀ (i f : Nat), HasAt s i t.txt → StB (bt s (i + t.txt.length)) → i + t.txt.length ≤ s.length → t.txt.length < f → formA s f i = (some t.flat, i + t.txt.length) := by
  induction t with
  | at0 n =>
    intro hok i f hx hst hi hf
    obtain ⟨f, rfl⟩ : ∃ f', f = f' + 1 := ⟨f - 1, by omega⟩
    have ha := atom_reads hok.1 hok.2 hx hst hi
    have hne : ∀ c : UInt8, c ≠ 64 → isDg c = false → isLt c = false → ¬ bt s i = c := fun c h1 h2 h3 e => by
      have := atom_none (s := s) (i := i) (by rw [e]; exact h1) (by rw [e]; exact h2) (by rw [e]; exact h3)
      rw [ha] at this
      cases this
    rw [formA, if_neg (hne 126 (by decide) (by decide) (by decide)), if_neg (fun h => h.elim (hne 69 (by decide) (by decide) (by decide)) (hne 65 (by decide) (by decide) (by decide))), if_neg (hne 40 (by decide) (by decide) (by decide)), ha]
    rfl
  | un n g ih =>
    intro hok i f hx hst hi hf
    obtain ⟨f, rfl⟩ : ∃ f', f = f' + 1 := ⟨f - 1, by omega⟩
    obtain ⟨hn, hp, hg⟩ := hok
    obtain ⟨en, e5, e89⟩ := nd_un hn (by rw [hp]; decide)
    have h589 : n.op = 5 ∨ n.op = 8 ∨ n.op = 9 := by
      unfold partsN at hp
      by_cases q : n.op = 5 ∨ n.op = 8 ∨ n.op = 9
      · exact q
      · rw [if_neg q] at hp; split at hp <;> omega
    simp only [Fm.txt] at hx hst hi hf ⊢
    unfold unT at hx hst hi hf ⊢
    by_cases h5 : n.op = 5
    · rw [if_pos h5] at hx hst hi hf ⊢
      obtain ⟨g1, g2⟩ := hasAt_app hx
      have b1 := (hasAt_cons g1).1
      simp only [List.length_append, List.length_cons, List.length_nil] at g2 hst hi hf ⊢
      have q1 : i + (0 + 1) = i + 1 := by omega
      have q2 : i + (0 + 1 + g.txt.length) = i + 1 + g.txt.length := by omega
      rw [q1] at g2
      rw [q2] at hst hi ⊢
      rw [formA, if_pos b1, ih hg (i + 1) f g2 hst hi (by omega)]
      simp only [Option.map_some, Fm.flat]
      rw [en, h5, e5 (.inl h5)]
    · rw [if_neg h5] at hx hst hi hf ⊢
      have hv := e89 (by omega)
      obtain ⟨v, ev⟩ : ∃ v : Nat, n.var = (v : Int) := ⟨n.var.toNat, by omega⟩
      have key : ∀ (c : UInt8) (op : Int), ((c = 69 ∧ op = 8) ∨ (c = 65 ∧ op = 9)) → n.op = op → HasAt s i ([c] ++ [ltC n.var.toNat] ++ [58] ++ g.txt) → StB (bt s (i + ([c] ++ [ltC n.var.toNat] ++ [58] ++ g.txt).length)) → i + ([c] ++ [ltC n.var.toNat] ++ [58] ++ g.txt).length ≤ s.length → ([c] ++ [ltC n.var.toNat] ++ [58] ++ g.txt).length < f + 1 → formA s (f + 1) i = (some (Fm.un n g).flat, i + ([c] ++ [ltC n.var.toNat] ++ [58] ++ g.txt).length) := by
        intro c op hc hop hx hst hi hf
        rw [ev, Int.toNat_natCast] at hx hst hi hf ⊢
        obtain ⟨g1, g4⟩ := hasAt_app hx
        obtain ⟨g1, g3⟩ := hasAt_app g1
        obtain ⟨g1, g2⟩ := hasAt_app g1
        have b1 := (hasAt_cons g1).1
        have b2 := (hasAt_cons g2).1
        have b3 := (hasAt_cons g3).1
        simp only [List.length_append, List.length_cons, List.length_nil] at b2 b3 g4 hst hi hf ⊢
        have q1 : i + (0 + 1) = i + 1 := by omega
        have q2 : i + (0 + 1 + (0 + 1)) = i + 2 := by omega
        have q3 : i + (0 + 1 + (0 + 1) + (0 + 1)) = i + 3 := by omega
        have q4 : i + (0 + 1 + (0 + 1) + (0 + 1) + g.txt.length) = i + 3 + g.txt.length := by omega
        rw [q1] at b2
        rw [q2] at b3
        rw [q3] at g4
        rw [q4] at hst hi ⊢
        have hne : ¬ bt s i = 126 := by rw [b1]; rcases hc with ⟨rfl, -⟩ | ⟨rfl, -⟩ <;> decide
        have hE : bt s i = 69 ∨ bt s i = 65 := by rw [b1]; rcases hc with ⟨rfl, -⟩ | ⟨rfl, -⟩; exact .inl rfl; exact .inr rfl
        have hop2 : (if bt s i = 65 then (9 : Int) else 8) = op := by rw [b1]; rcases hc with ⟨rfl, rfl⟩ | ⟨rfl, rfl⟩ <;> decide
        rw [formA, if_neg hne, if_pos hE, if_pos (by rw [b2]; exact lt_ltC (by omega)), if_pos b3, ih hg (i + 3) f g4 hst hi (by omega), b2, ltC_nat (by omega), hop2]
        simp only [Option.map_some, Fm.flat]
        rw [en, hop, ev, show 97 + v - 97 = v by omega]
      by_cases h8 : n.op = 8
      · rw [if_pos h8] at hx hst hi hf ⊢
        exact key 69 8 (.inl ⟨rfl, rfl⟩) h8 hx hst hi hf
      · rw [if_neg h8] at hx hst hi hf ⊢
        exact key 65 9 (.inr ⟨rfl, rfl⟩) (by omega) hx hst hi hf
  | bin n a b iha ihb =>
    intro hok i f hx hst hi hf
    obtain ⟨f, rfl⟩ : ∃ f', f = f' + 1 := ⟨f - 1, by omega⟩
    obtain ⟨hn, hp, ha, hb⟩ := hok
    obtain ⟨en, e5, -⟩ := nd_un hn (by rw [hp]; decide)
    have h67 : n.op = 6 ∨ n.op = 7 := by
      unfold partsN at hp
      by_cases q : n.op = 5 ∨ n.op = 8 ∨ n.op = 9
      · rw [if_pos q] at hp; omega
      · rw [if_neg q] at hp; split at hp <;> omega
    have key : ∀ (c : UInt8) (op : Int), ((c = 38 ∧ op = 6) ∨ (c = 124 ∧ op = 7)) → n.op = op → HasAt s i ([40] ++ a.txt ++ [c] ++ b.txt ++ [41]) → i + ([40] ++ a.txt ++ [c] ++ b.txt ++ [41]).length ≤ s.length → ([40] ++ a.txt ++ [c] ++ b.txt ++ [41]).length < f + 1 → formA s (f + 1) i = (some (Fm.bin n a b).flat, i + ([40] ++ a.txt ++ [c] ++ b.txt ++ [41]).length) := by
      intro c op hc hop hx hi hf
      obtain ⟨g1, g5⟩ := hasAt_app hx
      obtain ⟨g1, g4⟩ := hasAt_app g1
      obtain ⟨g1, g3⟩ := hasAt_app g1
      obtain ⟨g1, g2⟩ := hasAt_app g1
      have b1 := (hasAt_cons g1).1
      have b3 := (hasAt_cons g3).1
      have b5 := (hasAt_cons g5).1
      simp only [List.length_append, List.length_cons, List.length_nil] at g2 b3 g4 b5 hi hf ⊢
      have q1 : i + (0 + 1) = i + 1 := by omega
      have q2 : i + (0 + 1 + a.txt.length) = i + 1 + a.txt.length := by omega
      have q3 : i + (0 + 1 + a.txt.length + (0 + 1)) = i + 1 + a.txt.length + 1 := by omega
      have q4 : i + (0 + 1 + a.txt.length + (0 + 1) + b.txt.length) = i + 1 + a.txt.length + 1 + b.txt.length := by omega
      have q5 : i + (0 + 1 + a.txt.length + (0 + 1) + b.txt.length + (0 + 1)) = i + 1 + a.txt.length + 1 + b.txt.length + 1 := by omega
      rw [q1] at g2
      rw [q2] at b3
      rw [q3] at g4
      rw [q4] at b5
      rw [q5] at hi ⊢
      have st1 : StB (bt s (i + 1 + a.txt.length)) := by rw [b3]; rcases hc with ⟨rfl, -⟩ | ⟨rfl, -⟩ <;> exact ⟨by decide, by decide, by decide⟩
      have st2 : StB (bt s (i + 1 + a.txt.length + 1 + b.txt.length)) := by rw [b5]; exact ⟨by decide, by decide, by decide⟩
      have r1 := iha ha (i + 1) f g2 st1 (by omega) (by omega)
      have r2 := ihb hb (i + 1 + a.txt.length + 1) f g4 st2 (by omega) (by omega)
      have hsep : bt s (i + 1 + a.txt.length) = 124 ∨ bt s (i + 1 + a.txt.length) = 38 := by rw [b3]; rcases hc with ⟨rfl, -⟩ | ⟨rfl, -⟩; exact .inr rfl; exact .inl rfl
      have hop2 : (if bt s (i + 1 + a.txt.length) = 124 then (7 : Int) else 6) = op := by rw [b3]; rcases hc with ⟨rfl, rfl⟩ | ⟨rfl, rfl⟩ <;> decide
      rw [formA, if_neg (by rw [b1]; decide), if_neg (by rw [b1]; decide), if_pos b1, r1]
      simp only []
      rw [if_pos hsep, r2]
      simp only []
      rw [if_pos b5, hop2]
      simp only [Fm.flat]
      rw [en, hop, e5 (by omega)]
    simp only [Fm.txt] at hx hst hi hf ⊢
    unfold binT at hx hst hi hf ⊢
    by_cases h6 : n.op = 6
    · rw [if_pos h6] at hx hst hi hf ⊢
      exact key 38 6 (.inl ⟨rfl, rfl⟩) h6 hx hi hf
    · rw [if_neg h6] at hx hst hi hf ⊢
      exact key 124 7 (.inr ⟨rfl, rfl⟩) (by omega) hx hi hf
/-- What is written is read. -/
theorem pars_txt {t : Fm} (hok : t.ok) (hf : (formP t.flat).2 = 0) (hl : t.txt.length ≤ 2000) : parsA t.txt = ⟨t.flat, 0, 0⟩ := by
  have h := form_reads t.txt t hok 0 (t.txt.length + 1) (hasAt_self _) (by rw [bt_over (by omega)]; exact ⟨by decide, by decide, by decide⟩) (by omega) (by omega)
  unfold parsA
  rw [if_neg (by omega), h]
  simp only []
  rw [if_neg (by omega), if_pos hf]
theorem pars_e (s : List UInt8) : (parsA s).e ≤ s.length := by
  unfold parsA
  by_cases h : 2000 < s.length
  · rw [if_pos h]; exact Nat.zero_le _
  · rw [if_neg h]
    have := (formA_bd s (s.length + 1) 0 (by omega)).2
    generalize formA s (s.length + 1) 0 = x at this ⊢
    obtain ⟨_ | f, e⟩ := x
    · exact this
    · simp only [] at this ⊢
      split
      · exact this
      · split
        · exact Nat.zero_le _
        · exact Nat.le_refl _
def evenF : Fm := .un ⟨8, 1, 0, 0, 0, 0, []⟩ (.at0 ⟨1, 0, 0, 0, 0, 0, [1, -2]⟩)
theorem even_ok : evenF.ok := ⟨by decide, by decide, by decide, by decide⟩
theorem even_txt : evenF.txt = [69, 98, 58, 97, 61, 50, 98] := by decide +kernel
theorem even_fine : (formP evenF.flat).2 = 0 := by decide +kernel
end Go.Proofs.YtafbggbdlcfbdaaDoor

/- Formulas, and automata with outputs, that came in: opened. -/
namespace Go.Proofs.YtafbggbdlcfbdaaDoor
open Go.ChangeShapes Go.WideShapes Go.ChangeAt Go.RowKit Go.Joins Go.Deep

instance : Inhabited Nd := ⟨zNd⟩
set_option maxRecDepth 8000 in
theorem nodes_open {H : Type} {enc : TypeId × Value → H} {W : World} {base : Nat} {held : Bool} {fuel : Nat} {v : Value} {x : DataW H × List MemPlace} (h : DataW.trod enc Tryd.prog W base (fun _ => true) held fuel 22 [v] = some x) :
    ∃ a len cap ns, v = .slice a len cap ∧ SlF W a len ns := by
  rcases open_slice Tryd.underlying22 h with ⟨hcs, _⟩ | ⟨a, len, cap, m, n, D, Pl, hcs, hb, hl, hm, hmm, _, hx⟩
  · simp at hcs
    exact ⟨none, 0, 0, [], hcs, rfl, by decide, (fun n hn => by cases hn), Or.inl rfl⟩
  · simp at hcs
    have hmc : m = cap := by simpa using hmm
    subst hmc
    have each : ∀ i, i < m → ∃ q : Nd × Option Addr × Nat, ndWf q.1 ∧ (W.cell? (a.add (i * 7)) = some (.int .i64 q.1.op) ∧ W.cell? (a.add (i * 7 + 1)) = some (.int .i64 q.1.var) ∧ W.cell? (a.add (i * 7 + 2)) = some (.int .i64 q.1.oth) ∧ W.cell? (a.add (i * 7 + 3)) = some (.int .i64 q.1.wd) ∧ W.cell? (a.add (i * 7 + 4)) = some (.int .i64 q.1.wd2) ∧ W.cell? (a.add (i * 7 + 5)) = some (.int .i64 q.1.num) ∧ W.cell? (a.add (i * 7 + 6)) = some (.slice q.2.1 q.1.cf.length q.2.2)) ∧ Sl W q.2.1 q.1.cf.length q.1.cf := by
      intro i hi
      obtain ⟨cs', h1, h2⟩ := hx i hi
      rw [show Tryd.prog.cellsOf 39 = 7 by kernel_rfl] at h1
      obtain ⟨_, hlen, hcell⟩ := World.cells?_some h1
      obtain ⟨xs, k, hk, hxy, _, hxl, hf⟩ := DataW.trod_struct Tryd.underlying39 h2
      match xs, hxl, cs', hlen with
      | [y0, y1, y2, y3, y4, y5, y6], _, [c0, c1, c2, c3, c4, c5, c6], _ =>
        have g0 := hf 0 _ rfl
        have g1 := hf 1 _ rfl
        have g2 := hf 2 _ rfl
        have g3 := hf 3 _ rfl
        have g4 := hf 4 _ rfl
        have g5 := hf 5 _ rfl
        have g6 := hf 6 _ rfl
        have ci : Tryd.prog.cellsOf 3 = 1 := by kernel_rfl
        have cl : Tryd.prog.cellsOf 37 = 1 := by kernel_rfl
        simp [ci, cl] at g0 g1 g2 g3 g4 g5 g6
        obtain ⟨z0, e0, _, w0⟩ := DataW.trod_int Tryd.underlying3 g0
        obtain ⟨z1, e1, _, w1⟩ := DataW.trod_int Tryd.underlying3 g1
        obtain ⟨z2, e2, _, w2⟩ := DataW.trod_int Tryd.underlying3 g2
        obtain ⟨z3, e3, _, w3⟩ := DataW.trod_int Tryd.underlying3 g3
        obtain ⟨z4, e4, _, w4⟩ := DataW.trod_int Tryd.underlying3 g4
        obtain ⟨z5, e5, _, w5⟩ := DataW.trod_int Tryd.underlying3 g5
        obtain ⟨a', l', c', cf, e6, hs⟩ := ints_open g6
        simp at e0 e1 e2 e3 e4 e5
        subst e0 e1 e2 e3 e4 e5 e6
        have hl' := hs.1
        subst hl'
        have q0 := hcell 0 (by decide)
        have q1 := hcell 1 (by decide)
        have q2 := hcell 2 (by decide)
        have q3 := hcell 3 (by decide)
        have q4 := hcell 4 (by decide)
        have q5 := hcell 5 (by decide)
        have q6 := hcell 6 (by decide)
        rw [add_add] at q0 q1 q2 q3 q4 q5 q6
        refine ⟨(⟨z0, z1, z2, z3, z4, z5, cf⟩, a', c'), fun x hx => ?_, ⟨by simpa using q0, by simpa using q1, by simpa using q2, by simpa using q3, by simpa using q4, by simpa using q5, by simpa using q6⟩, hs⟩
        simp at hx
        rcases hx with rfl | rfl | rfl | rfl | rfl | rfl <;> assumption
    obtain ⟨q, hq⟩ := choose_lt each
    refine ⟨some a, len, m, (List.range len).map fun i => (q i).1, hcs, by simp, by omega, fun x hx => ?_, ?_⟩
    · obtain ⟨i, hi, rfl⟩ := List.mem_map.1 hx
      exact (hq i (by have := List.mem_range.1 hi; omega)).1
    · by_cases h0 : len = 0
      · exact .inl h0
      · obtain ⟨b, off, spot⟩ := a
        have hspot : spot = none := by simpa [Addr.add] using World.cell?_spot (hq 0 (by omega)).2.1.1
        subst hspot
        refine .inr ⟨b, off, rfl, fun i hi => ⟨(q i).2.1, (q i).2.2, ?_⟩⟩
        have hget : ((List.range len).map fun i => (q i).1).getD i zNd = (q i).1 := by simp [List.getD, hi]
        rw [hget]
        obtain ⟨-, ⟨e0, e1, e2, e3, e4, e5, e6⟩, hs⟩ := hq i (by omega)
        rw [Go.WideShapes.add_plain] at e0 e1 e2 e3 e4 e5 e6
        exact ⟨e0, by rw [Nat.add_assoc]; exact e1, by rw [Nat.add_assoc]; exact e2, by rw [Nat.add_assoc]; exact e3, by rw [Nat.add_assoc]; exact e4, by rw [Nat.add_assoc]; exact e5, by rw [Nat.add_assoc]; exact e6, hs⟩
theorem nodes_cap {H : Type} {enc : TypeId × Value → H} {W : World} {base : Nat} {held : Bool} {fuel : Nat} {a : Option Addr} {len cap : Nat} {x : DataW H × List MemPlace} (h : DataW.trod enc Tryd.prog W base (fun _ => true) held fuel 22 [.slice a len cap] = some x) : len ≤ cap := by
  rcases open_slice Tryd.underlying22 h with ⟨hcs, _⟩ | ⟨_, _, _, _, _, _, _, hcs, _, hl, _⟩
  · simp at hcs
    omega
  · simp at hcs
    omega
end Go.Proofs.YtafbggbdlcfbdaaDoor
