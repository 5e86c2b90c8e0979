/- 6 texts in one. -/
import Derived.Deep.Slices
import Derived.ArgAppend
import Derived.BigQuiet
import Derived.BigRegion
import Derived.Deep.AppendLies
import Derived.Deep.LoopGhost
import Derived.Deep.MidRow
import Derived.Deep.RegionHeldLaw
import Derived.Deep.RegionLaw
import Derived.Deep.RegionWith
import Derived.DeepKeys4
import Derived.Laws.AppendOwnNone
import Derived.LoopIn
import Derived.LoopNIn
import Derived.Maps.OwnSet
import Derived.OwnWalkIn
import Derived.RangeFuncBound
import Derived.RangeFuncCalls
import Derived.RangeFuncLeaves
import Derived.RangeFuncNested
import Derived.Shelf.Abstract
import Derived.Shelf.RegionOpen
import Derived.Sort.LoopGhostIn
import Derived.TacticsInMore
import Derived.WalkKit
import Derived.Test.YtafbggbdlcfbdaaGreatDoorFb
import Derived.Test.YtafbggbdlcfbdaaGreatDoorZPa
import Derived.Test.YtafbggbdlcfbdaaGreatDoorMa
import Derived.Test.YtafbggbdlcfbdaaGreatDoorZG
import Derived.Test.YtafbggbdlcfbdaaGreatDoorCf
import Derived.Test.YtafbggbdlcfbdaaGreatDoorLb
import Derived.Test.YtafbggbdlcfbdaaGreatDoorLq
import Derived.Test.YtafbggbdlcfbdaaGreatDoorNx
import Derived.Test.YtafbggbdlcfbdaaGreatDoorRe
/- Automata with outputs, in a slice, that came in: opened. -/
namespace Go.Proofs.YtafbggbdlcfbdaaGreatDoor
open Go.ChangeShapes Go.WideShapes Go.ChangeAt Go.RowKit Go.Joins Go.Deep

/-- An automaton with outputs. -/
structure Om where
  b : Int
  N : List (List Int)
  O : List Int
instance : Inhabited Om := ⟨⟨0, [], []⟩⟩
def zOm : Om := ⟨0, [], []⟩
end Go.Proofs.YtafbggbdlcfbdaaGreatDoor

/- Formulas: mathematics: renaming, bounding, truth. -/
namespace Go.Proofs.YtafbggbdlcfbdaaGreatDoor
open Go.RowKit

/-- Behind the last one that is not 0. -/
def lastN (l : List Int) : Nat → Nat
  | 0 => 0
  | k + 1 => if l.getD k 0 = 0 then lastN l k else k + 1
def trimL (l : List Int) : List Int := l.take (lastN l l.length)
def zer5 : List Int := [0, 0, 0, 0, 0]
theorem lastN_le (l : List Int) (k : Nat) : lastN l k ≤ k := by
  induction k with
  | zero => exact Nat.le_refl _
  | succ k ih => unfold lastN; split <;> omega
theorem trim_len (l : List Int) : (trimL l).length = lastN l l.length := by
  unfold trimL
  rw [List.length_take]
  have := lastN_le l l.length
  omega
/-- Is a node without parts so? -/
def holdB (os : List Om) (nums : List Int) (n : Nd) : Bool :=
  if n.op = 1 then lnEnd n.num false (sumT n.cf (fun i => nums.getD i 0) n.cf.length)
  else if n.op = 2 then lnEnd n.num true (sumT n.cf (fun i => nums.getD i 0) n.cf.length)
  else if n.op = 3 then decide (sayN (os.getD n.wd.toNat zOm).b (os.getD n.wd.toNat zOm).N (os.getD n.wd.toNat zOm).O (nums.getD n.var.toNat 0) = n.num)
  else if n.op = 4 then decide (sayN (os.getD n.wd.toNat zOm).b (os.getD n.wd.toNat zOm).N (os.getD n.wd.toNat zOm).O (nums.getD n.var.toNat 0) = sayN (os.getD n.wd2.toNat zOm).b (os.getD n.wd2.toNat zOm).N (os.getD n.wd2.toNat zOm).O (nums.getD n.oth.toNat 0))
  else false
def Fm.tru (os : List Om) (nums : List Int) : Fm → Bool
  | .at0 n => holdB os nums n
  | .un _ f => !f.tru os nums
  | .bin n f g => if n.op = 6 then f.tru os nums && g.tru os nums else f.tru os nums || g.tru os nums
end Go.Proofs.YtafbggbdlcfbdaaGreatDoor

/- Texts read as claims: mathematics. -/
namespace Go.Proofs.YtafbggbdlcfbdaaGreatDoor
open Go.RowKit

/-- The byte at a place; 0: the text is over. -/
def bt (s : List UInt8) (i : Nat) : UInt8 := s.getD i 0
def isDg (c : UInt8) : Bool := decide (48 ≤ c.toNat) && decide (c.toNat ≤ 57)
def isLt (c : UInt8) : Bool := decide (97 ≤ c.toNat) && decide (c.toNat < 102)
theorem bt_over {s : List UInt8} {i : Nat} (h : s.length ≤ i) : bt s i = 0 := by unfold bt; simp [List.getD, List.getElem?_eq_none h]
theorem bt_in {s : List UInt8} {i : Nat} (h : bt s i ≠ 0) : i < s.length := by
  by_cases h1 : i < s.length
  · exact h1
  · exact absurd (bt_over (Nat.le_of_not_lt h1)) h
theorem dg_in {s : List UInt8} {i : Nat} (h : isDg (bt s i) = true) : i < s.length := bt_in fun e => by rw [e] at h; revert h; decide
theorem lt_in {s : List UInt8} {i : Nat} (h : isLt (bt s i) = true) : i < s.length := bt_in fun e => by rw [e] at h; revert h; decide
theorem dg_bd {c : UInt8} (h : isDg c = true) : 48 ≤ c.toNat ∧ c.toNat ≤ 57 := by unfold isDg at h; simp at h; exact h
theorem lt_bd {c : UInt8} (h : isLt c = true) : 97 ≤ c.toNat ∧ c.toNat < 102 := by unfold isLt at h; simp at h; exact h
/-- A number: up to three digits. -/
def numGo (s : List UInt8) : Nat → Nat → Nat → Nat × Nat
  | 0, i, n => (n, i)
  | k + 1, i, n => if isDg (bt s i) = true then numGo s k (i + 1) (n * 10 + ((bt s i).toNat - 48)) else (n, i)
def numA (s : List UInt8) (i : Nat) : Nat × Nat := if bt s i = 48 then (0, i + 1) else numGo s 3 i 0
theorem numGo_bd (s : List UInt8) : ∀ (k i n m : Nat), n < 10 ^ m → i ≤ s.length → (numGo s k i n).1 < 10 ^ (m + k) ∧ i ≤ (numGo s k i n).2 ∧ (numGo s k i n).2 ≤ s.length := by
  intro k
  induction k with
  | zero => intro i n m h hi; exact ⟨h, Nat.le_refl _, hi⟩
  | succ k ih =>
    intro i n m h hi
    rw [numGo]
    split
    · rename_i hd
      have hb := dg_bd hd
      have hl := dg_in hd
      obtain ⟨h1, h2, h3⟩ := ih (i + 1) (n * 10 + ((bt s i).toNat - 48)) (m + 1) (by rw [Nat.pow_succ]; omega) hl
      exact ⟨by rw [show m + (k + 1) = m + 1 + k by omega]; exact h1, by omega, h3⟩
    · exact ⟨Nat.lt_of_lt_of_le h (Nat.pow_le_pow_right (by decide) (by omega)), Nat.le_refl _, hi⟩
theorem numA_bd {s : List UInt8} {i : Nat} (h : isDg (bt s i) = true) : (numA s i).1 ≤ 999 ∧ i < (numA s i).2 ∧ (numA s i).2 ≤ s.length := by
  have hl := dg_in h
  unfold numA
  split
  · exact ⟨by simp, by simp, hl⟩
  · rw [show (3 : Nat) = 2 + 1 from rfl, numGo, if_pos h]
    have hb := dg_bd h
    obtain ⟨h1, h2, h3⟩ := numGo_bd s 2 (i + 1) (0 * 10 + ((bt s i).toNat - 48)) 1 (by omega) hl
    exact ⟨by have : (10 : Nat) ^ (1 + 2) = 1000 := rfl; omega, by omega, h3⟩
/-- One part of a sum: its variable, how many, its end. -/
def partA (s : List UInt8) (i : Nat) : Option (Option Nat × Nat × Nat) :=
  if isDg (bt s i) = true then
    if isLt (bt s (numA s i).2) = true then some (some ((bt s (numA s i).2).toNat - 97), (numA s i).1, (numA s i).2 + 1) else some (none, (numA s i).1, (numA s i).2)
  else if isLt (bt s i) = true then some (some ((bt s i).toNat - 97), 1, i + 1) else none
theorem partA_bd {s : List UInt8} {i : Nat} {v : Option Nat} {m j : Nat} (h : partA s i = some (v, m, j)) : m ≤ 999 ∧ i < j ∧ j ≤ s.length ∧ ∀ q, v = some q → q < 5 := by
  unfold partA at h
  by_cases h1 : isDg (bt s i) = true
  · rw [if_pos h1] at h
    obtain ⟨b1, b2, b3⟩ := numA_bd h1
    by_cases h2 : isLt (bt s (numA s i).2) = true
    · rw [if_pos h2] at h
      have hl := lt_in h2
      have hb := lt_bd h2
      simp only [Option.some.injEq, Prod.mk.injEq] at h
      obtain ⟨rfl, rfl, rfl⟩ := h
      exact ⟨b1, by omega, hl, fun q hq => by injection hq with hq; omega⟩
    · rw [if_neg h2] at h
      simp only [Option.some.injEq, Prod.mk.injEq] at h
      obtain ⟨rfl, rfl, rfl⟩ := h
      exact ⟨b1, b2, b3, fun q hq => by cases hq⟩
  · rw [if_neg h1] at h
    by_cases h2 : isLt (bt s i) = true
    · rw [if_pos h2] at h
      have hl := lt_in h2
      have hb := lt_bd h2
      simp only [Option.some.injEq, Prod.mk.injEq] at h
      obtain ⟨rfl, rfl, rfl⟩ := h
      exact ⟨by omega, by omega, hl, fun q hq => by injection hq with hq; omega⟩
    · rw [if_neg h2] at h
      cases h
def putC (sg : Int) (v : Option Nat) (m : Nat) (cf : List Int) : List Int := match v with | none => cf | some q => cf.set q (cf.getD q 0 + sg * m)
def putN (sg : Int) (v : Option Nat) (m : Nat) (nm : Int) : Int := match v with | none => nm + sg * m | some _ => nm
theorem putC_len (sg : Int) (v : Option Nat) (m : Nat) (cf : List Int) : (putC sg v m cf).length = cf.length := by unfold putC; split <;> simp
/-- What a sum's reading comes to. -/
structure SumO where
  cf : List Int
  nm : Int
  e : Nat
  ok : Bool
def sumA (s : List UInt8) (sg : Int) : Nat → Nat → List Int → Int → SumO
  | 0, i, cf, nm => ⟨cf, nm, i, false⟩
  | f + 1, i, cf, nm => match partA s i with
    | none => ⟨cf, nm, i, false⟩
    | some (v, m, j) => if bt s j = 43 then sumA s sg f (j + 1) (putC sg v m cf) (putN sg v m nm) else ⟨putC sg v m cf, putN sg v m nm, j, true⟩
theorem sumA_none {s : List UInt8} {sg : Int} {f i : Nat} {cf : List Int} {nm : Int} (h : partA s i = none) : sumA s sg (f + 1) i cf nm = ⟨cf, nm, i, false⟩ := by rw [sumA, h]
theorem sumA_some {s : List UInt8} {sg : Int} {f i : Nat} {cf : List Int} {nm : Int} {v : Option Nat} {m j : Nat} (h : partA s i = some (v, m, j)) : sumA s sg (f + 1) i cf nm = if bt s j = 43 then sumA s sg f (j + 1) (putC sg v m cf) (putN sg v m nm) else ⟨putC sg v m cf, putN sg v m nm, j, true⟩ := by rw [sumA, h]
theorem sumA_bd (s : List UInt8) (sg : Int) : ∀ (f i : Nat) (cf : List Int) (nm : Int), i ≤ s.length → cf.length = 5 → i ≤ (sumA s sg f i cf nm).e ∧ (sumA s sg f i cf nm).e ≤ s.length ∧ (sumA s sg f i cf nm).cf.length = 5 := by
  intro f
  induction f with
  | zero => intro i cf nm hi hc; exact ⟨Nat.le_refl _, hi, hc⟩
  | succ f ih =>
    intro i cf nm hi hc
    rcases hp : partA s i with _ | ⟨v, m, j⟩
    · rw [sumA_none hp]
      exact ⟨Nat.le_refl _, hi, hc⟩
    · obtain ⟨-, b2, b3, -⟩ := partA_bd hp
      rw [sumA_some hp]
      split
      · rename_i h43
        have hl : j < s.length := bt_in (by rw [h43]; decide)
        obtain ⟨h1, h2, h3⟩ := ih (j + 1) (putC sg v m cf) (putN sg v m nm) hl (by rw [putC_len]; exact hc)
        exact ⟨by omega, h2, h3⟩
      · exact ⟨by show i ≤ j; omega, b3, by show (putC sg v m cf).length = 5; rw [putC_len]; exact hc⟩
/-- A word and a variable. -/
structure SpO where
  w : Nat
  v : Nat
  e : Nat
  ok : Bool
def spotA (s : List UInt8) (i : Nat) : SpO :=
  if bt s i = 64 then
    if isDg (bt s (i + 1)) = true then
      if bt s (numA s (i + 1)).2 = 91 then
        if isLt (bt s ((numA s (i + 1)).2 + 1)) = true then
          if bt s ((numA s (i + 1)).2 + 2) = 93 then ⟨(numA s (i + 1)).1, (bt s ((numA s (i + 1)).2 + 1)).toNat - 97, (numA s (i + 1)).2 + 3, true⟩
          else ⟨(numA s (i + 1)).1, (bt s ((numA s (i + 1)).2 + 1)).toNat - 97, (numA s (i + 1)).2 + 2, false⟩
        else ⟨0, 0, (numA s (i + 1)).2 + 1, false⟩
      else ⟨0, 0, (numA s (i + 1)).2, false⟩
    else ⟨0, 0, i + 1, false⟩
  else ⟨0, 0, i, false⟩
theorem spotA_bd {s : List UInt8} {i : Nat} (hi : i ≤ s.length) : i ≤ (spotA s i).e ∧ (spotA s i).e ≤ s.length ∧ (spotA s i).w ≤ 999 ∧ (spotA s i).v < 5 := by
  unfold spotA
  by_cases h1 : bt s i = 64
  · have l1 : i < s.length := bt_in (by rw [h1]; decide)
    rw [if_pos h1]
    by_cases h2 : isDg (bt s (i + 1)) = true
    · rw [if_pos h2]
      obtain ⟨b1, b2, b3⟩ := numA_bd h2
      by_cases h3 : bt s (numA s (i + 1)).2 = 91
      · have l3 : (numA s (i + 1)).2 < s.length := bt_in (by rw [h3]; decide)
        rw [if_pos h3]
        by_cases h4 : isLt (bt s ((numA s (i + 1)).2 + 1)) = true
        · have l4 := lt_in h4
          have b4 := lt_bd h4
          rw [if_pos h4]
          by_cases h5 : bt s ((numA s (i + 1)).2 + 2) = 93
          · have l5 : (numA s (i + 1)).2 + 2 < s.length := bt_in (by rw [h5]; decide)
            rw [if_pos h5]
            refine ⟨?_, ?_, b1, ?_⟩ <;> simp only [] <;> omega
          · rw [if_neg h5]
            refine ⟨?_, ?_, b1, ?_⟩ <;> simp only [] <;> omega
        · rw [if_neg h4]
          refine ⟨?_, ?_, ?_, ?_⟩ <;> simp only [] <;> omega
      · rw [if_neg h3]
        refine ⟨?_, ?_, ?_, ?_⟩ <;> simp only [] <;> omega
    · rw [if_neg h2]
      refine ⟨?_, ?_, ?_, ?_⟩ <;> simp only [] <;> omega
  · rw [if_neg h1]
    refine ⟨?_, ?_, ?_, ?_⟩ <;> simp only [] <;> omega
/-- What has no parts. -/
def atomA (s : List UInt8) (i : Nat) : Option Nd × Nat :=
  if bt s i = 64 then
    if (spotA s i).ok = true then
      if bt s (spotA s i).e = 61 then
        if bt s ((spotA s i).e + 1) = 64 then
          if (spotA s ((spotA s i).e + 1)).ok = true then (some ⟨4, (spotA s i).v, (spotA s ((spotA s i).e + 1)).v, (spotA s i).w, (spotA s ((spotA s i).e + 1)).w, 0, []⟩, (spotA s ((spotA s i).e + 1)).e)
          else (none, (spotA s ((spotA s i).e + 1)).e)
        else if isDg (bt s ((spotA s i).e + 1)) = true then (some ⟨3, (spotA s i).v, 0, (spotA s i).w, 0, (numA s ((spotA s i).e + 1)).1, []⟩, (numA s ((spotA s i).e + 1)).2)
        else (none, (spotA s i).e + 1)
      else (none, (spotA s i).e)
    else (none, (spotA s i).e)
  else
    let a := sumA s 1 (s.length + 1) i zer5 0
    if a.ok = true then
      if bt s a.e = 60 ∨ bt s a.e = 61 then
        let b := sumA s (-1) (s.length + 1) (a.e + 1) a.cf a.nm
        if b.ok = true then (some ⟨if bt s a.e = 60 then 2 else 1, 0, 0, 0, 0, b.nm, trimL b.cf⟩, b.e) else (none, b.e)
      else (none, a.e)
    else (none, a.e)
/-- A formula at a place, and its end. -/
def formA (s : List UInt8) : Nat → Nat → Option (List Nd) × Nat
  | 0, i => (none, i)
  | f + 1, i =>
    if bt s i = 126 then ((formA s f (i + 1)).1.map (fun x => ⟨5, 0, 0, 0, 0, 0, []⟩ :: x), (formA s f (i + 1)).2)
    else if bt s i = 69 ∨ bt s i = 65 then
      if isLt (bt s (i + 1)) = true then
        if bt s (i + 2) = 58 then ((formA s f (i + 3)).1.map (fun x => ⟨if bt s i = 65 then 9 else 8, ((bt s (i + 1)).toNat - 97 : Nat), 0, 0, 0, 0, []⟩ :: x), (formA s f (i + 3)).2)
        else (none, i + 2)
      else (none, i + 1)
    else if bt s i = 40 then
      match formA s f (i + 1) with
      | (none, e) => (none, e)
      | (some x, e) =>
        if bt s e = 124 ∨ bt s e = 38 then
          match formA s f (e + 1) with
          | (none, e2) => (none, e2)
          | (some y, e2) => if bt s e2 = 41 then (some (⟨if bt s e = 124 then 7 else 6, 0, 0, 0, 0, 0, []⟩ :: (x ++ y)), e2 + 1) else (none, e2)
        else (none, e)
    else match atomA s i with
      | (none, e) => (none, e)
      | (some n, e) => (some [n], e)
/-- A text: nodes, the place, the fault. -/
structure PaO where
  f : List Nd
  e : Nat
  c : Int
def parsA (s : List UInt8) : PaO :=
  if 2000 < s.length then ⟨[], 0, 3⟩
  else match formA s (s.length + 1) 0 with
    | (none, e) => ⟨[], e, 5⟩
    | (some f, e) => if e < s.length then ⟨[], e, 5⟩ else if (formP f).2 = 0 then ⟨f, 0, 0⟩ else ⟨[], s.length, (formP f).2⟩
theorem atomA_bd {s : List UInt8} {i : Nat} (hi : i ≤ s.length) : i ≤ (atomA s i).2 ∧ (atomA s i).2 ≤ s.length := by
  unfold atomA
  by_cases h1 : bt s i = 64
  · rw [if_pos h1]
    obtain ⟨p1, p2, -, -⟩ := spotA_bd (s := s) hi
    by_cases h2 : (spotA s i).ok = true
    · rw [if_pos h2]
      by_cases h3 : bt s (spotA s i).e = 61
      · have l3 : (spotA s i).e < s.length := bt_in (by rw [h3]; decide)
        rw [if_pos h3]
        by_cases h4 : bt s ((spotA s i).e + 1) = 64
        · rw [if_pos h4]
          obtain ⟨q1, q2, -, -⟩ := spotA_bd (s := s) (i := (spotA s i).e + 1) l3
          split <;> exact ⟨by omega, q2⟩
        · rw [if_neg h4]
          by_cases h5 : isDg (bt s ((spotA s i).e + 1)) = true
          · rw [if_pos h5]
            obtain ⟨-, b2, b3⟩ := numA_bd h5
            exact ⟨by omega, b3⟩
          · rw [if_neg h5]
            exact ⟨by omega, l3⟩
      · rw [if_neg h3]
        exact ⟨p1, p2⟩
    · rw [if_neg h2]
      exact ⟨p1, p2⟩
  · rw [if_neg h1]
    obtain ⟨a1, a2, a3⟩ := sumA_bd s 1 (s.length + 1) i zer5 0 hi rfl
    simp only []
    generalize sumA s 1 (s.length + 1) i zer5 0 = a at *
    split
    · split
      · rename_i hh
        have l3 : a.e < s.length := bt_in (by rcases hh with h | h <;> rw [h] <;> decide)
        obtain ⟨b1, b2, -⟩ := sumA_bd s (-1) (s.length + 1) (a.e + 1) a.cf a.nm l3 a3
        split <;> exact ⟨by omega, b2⟩
      · exact ⟨a1, a2⟩
    · exact ⟨a1, a2⟩
theorem formA_bd (s : List UInt8) : ∀ (f i : Nat), i ≤ s.length → i ≤ (formA s f i).2 ∧ (formA s f i).2 ≤ s.length := by
  intro f
  induction f with
  | zero => intro i hi; exact ⟨Nat.le_refl _, hi⟩
  | succ f ih =>
    intro i hi
    rw [formA]
    by_cases h1 : bt s i = 126
    · rw [if_pos h1]
      have l1 : i < s.length := bt_in (by rw [h1]; decide)
      obtain ⟨q1, q2⟩ := ih (i + 1) l1
      exact ⟨by simp only []; omega, q2⟩
    · rw [if_neg h1]
      by_cases h2 : bt s i = 69 ∨ bt s i = 65
      · rw [if_pos h2]
        have l1 : i < s.length := bt_in (by rcases h2 with h | h <;> rw [h] <;> decide)
        by_cases h3 : isLt (bt s (i + 1)) = true
        · rw [if_pos h3]
          have l2 := lt_in h3
          by_cases h4 : bt s (i + 2) = 58
          · rw [if_pos h4]
            have l4 : i + 2 < s.length := bt_in (by rw [h4]; decide)
            obtain ⟨q1, q2⟩ := ih (i + 3) l4
            exact ⟨by simp only []; omega, q2⟩
          · rw [if_neg h4]
            exact ⟨by simp only []; omega, l2⟩
        · rw [if_neg h3]
          exact ⟨by simp only []; omega, l1⟩
      · rw [if_neg h2]
        by_cases h3 : bt s i = 40
        · rw [if_pos h3]
          have l1 : i < s.length := bt_in (by rw [h3]; decide)
          obtain ⟨q1, q2⟩ := ih (i + 1) l1
          rcases hx : formA s f (i + 1) with ⟨_ | x, e⟩
          · rw [hx] at q1 q2
            exact ⟨by simp only [] at *; omega, q2⟩
          · rw [hx] at q1 q2
            simp only [] at *
            by_cases h4 : bt s e = 124 ∨ bt s e = 38
            · rw [if_pos h4]
              have l4 : e < s.length := bt_in (by rcases h4 with h | h <;> rw [h] <;> decide)
              obtain ⟨r1, r2⟩ := ih (e + 1) l4
              rcases hy : formA s f (e + 1) with ⟨_ | y, e2⟩
              · rw [hy] at r1 r2
                exact ⟨by simp only [] at *; omega, r2⟩
              · rw [hy] at r1 r2
                simp only [] at *
                by_cases h5 : bt s e2 = 41
                · rw [if_pos h5]
                  have l5 : e2 < s.length := bt_in (by rw [h5]; decide)
                  exact ⟨by simp only []; omega, l5⟩
                · rw [if_neg h5]
                  exact ⟨by simp only []; omega, r2⟩
            · rw [if_neg h4]
              exact ⟨by simp only []; omega, q2⟩
        · rw [if_neg h3]
          obtain ⟨q1, q2⟩ := atomA_bd hi
          rcases hx : atomA s i with ⟨_ | x, e⟩
          · rw [hx] at q1 q2
            exact ⟨q1, q2⟩
          · rw [hx] at q1 q2
            exact ⟨q1, q2⟩
end Go.Proofs.YtafbggbdlcfbdaaGreatDoor

/- What package text answers. -/
namespace Go.Proofs.YtafbggbdlcfbdaaGreatDoor
open Go.RowKit

/-- What text.Print answers. -/
def PrintSays : Prop := ∀ (a : Option Addr) (n cap : Nat) (ns : List Nd) (W : World), SlF W a n ns → n ≤ cap → (∀ t : Fm, ns = t.flat → t.ok → (formP ns).2 = 0 → Calls Tryz.prog 6 #[.slice a n cap] W fun e w' => e = .returned (.tuple #[.string (bs t.txt), errV 0]) ∧ Below W.heap.size W w') ∧ ((formP ns).2 ≠ 0 → Calls Tryz.prog 6 #[.slice a n cap] W fun e w' => e = .returned (.tuple #[.string (bs []), errV (formP ns).2]) ∧ Below W.heap.size W w')
/-- What text.Parse hands back. -/
def PaR (w : World) (o : PaO) (e : Ending) (w' : World) : Prop := ∃ (a : Option Addr) (c : Nat), e = .returned (.tuple #[.slice a o.f.length c, .int .i64 (o.e : Int), errV o.c]) ∧ SlF w' a o.f.length o.f ∧ Below w.heap.size w w'
/-- What text.Parse answers, in worlds of which H holds. -/
def ParseSays (H : World → Prop) : Prop := ∀ (s : List UInt8) (W : World), H W → Calls Tryz.prog 9 #[.string (bs s)] W (PaR W (parsA s))
end Go.Proofs.YtafbggbdlcfbdaaGreatDoor

/- The reference's byteAt, digit, letter, numberAt, sureAt: contracts. -/
namespace Go.Proofs.YtafbggbdlcfbdaaGreatDoor
open Go.RowKit

theorem bs_get (s : List UInt8) (i : Nat) (h : i < (bs s).size) : (bs s)[i]'h = bt s i := by
  have hl : i < s.length := by rw [bs_size] at h; exact h
  unfold bt
  simp only [List.getD, List.getElem?_eq_getElem hl, Option.getD_some]
  rfl
theorem bs_at (s : List UInt8) (i : Nat) (h : i < s.length) (W : World) : (Instr.index 9 (.string (bs s)) (.int .i64 (i : Int))).run Tryz.prog W = .ok (.int .u8 ((bt s i).toNat : Int)) W := by
  rw [run_index_string W 9 _ _ _ Tryz.underlying9, dif_pos ⟨by omega, by rw [bs_size]; omega⟩]
  simp only [Int.toNat_natCast, bs_get]
set_option maxHeartbeats 2000000 in
set_option maxRecDepth 4000 in
theorem byteAt_any (s : List UInt8) (i : Nat) (w : World) : Calls Tryz.prog 30 #[.string (bs s), .int .i64 (i : Int)] w fun e w' => e = .returned (.int .u8 ((bt s i).toNat : Int)) ∧ w' = w := by
  have hsz := bs_size s
  by_cases h : i < s.length
  · have hx := bs_at s i h w
    have hg := bs_get s i
    have hi : (i : Int) < (s.length : Int) := by omega
    go_enter Tryz.func30, Tryz.ntmps30
    go_wp2
    go_ret
    exact ⟨rfl, rfl⟩
  · have hi : ¬ (i : Int) < (s.length : Int) := by omega
    have hb := bt_over (s := s) (i := i) (by omega)
    rw [hb]
    clear hb
    go_enter Tryz.func30, Tryz.ntmps30
    go_wp2
    go_ret
    exact ⟨rfl, rfl⟩
set_option maxHeartbeats 2000000 in
set_option maxRecDepth 4000 in
theorem digit_any (c : UInt8) (w : World) : Calls Tryz.prog 48 #[.int .u8 (c.toNat : Int)] w fun e w' => e = .returned (.bool (isDg c)) ∧ w' = w := by
  have HD : Hid (isDg c = (decide (48 ≤ c.toNat) && decide (c.toNat ≤ 57))) := rfl
  generalize isDg c = D at HD ⊢
  generalize c.toNat = n at HD ⊢
  by_cases h : (n : Int) ≥ 48
  · by_cases h2 : (n : Int) ≤ 57
    · go_enter Tryz.func48, Tryz.ntmps48
      go_wp2
      go_ret
      exact ⟨by rw [HD.out, decide_eq_true (by omega : 48 ≤ n), decide_eq_true (by omega : n ≤ 57)]; rfl, rfl⟩
    · go_enter Tryz.func48, Tryz.ntmps48
      go_wp2
      go_ret
      exact ⟨by rw [HD.out, decide_eq_true (by omega : 48 ≤ n), decide_eq_false (by omega : ¬ n ≤ 57)]; rfl, rfl⟩
  · go_enter Tryz.func48, Tryz.ntmps48
    go_wp2
    go_ret
    exact ⟨by rw [HD.out, decide_eq_false (by omega : ¬ 48 ≤ n)]; rfl, rfl⟩
set_option maxHeartbeats 2000000 in
set_option maxRecDepth 4000 in
theorem isletter_any (c : UInt8) (w : World) : Calls Tryz.prog 31 #[.int .u8 (c.toNat : Int)] w fun e w' => e = .returned (.bool (isLt c)) ∧ w' = w := by
  have HD : Hid (isLt c = (decide (97 ≤ c.toNat) && decide (c.toNat < 102))) := rfl
  generalize isLt c = D at HD ⊢
  generalize c.toNat = n at HD ⊢
  by_cases h : (n : Int) ≥ 97
  · by_cases h2 : (n : Int) < 102
    · go_enter Tryz.func31, Tryz.ntmps31
      go_wp2
      go_ret
      exact ⟨by rw [HD.out, decide_eq_true (by omega : 97 ≤ n), decide_eq_true (by omega : n < 102)]; rfl, rfl⟩
    · go_enter Tryz.func31, Tryz.ntmps31
      go_wp2
      go_ret
      exact ⟨by rw [HD.out, decide_eq_true (by omega : 97 ≤ n), decide_eq_false (by omega : ¬ n < 102)]; rfl, rfl⟩
  · go_enter Tryz.func31, Tryz.ntmps31
    go_wp2
    go_ret
    exact ⟨by rw [HD.out, decide_eq_false (by omega : ¬ 97 ≤ n)]; rfl, rfl⟩
theorem u8_ne {c : UInt8} (k : UInt8) (h : ¬ c = k) : ((c.toNat : Int) == (k.toNat : Int)) = false := by
  simp only [beq_eq_false_iff_ne, ne_eq]
  intro h2
  exact h (UInt8.toNat_inj.1 (by omega))
theorem u8_is {c : UInt8} (k : UInt8) (h : c = k) : ((c.toNat : Int) == (k.toNat : Int)) = true := by rw [h]; simp
set_option maxHeartbeats 4000000 in
set_option maxRecDepth 4000 in
theorem numberAt_any (s : List UInt8) (i : Nat) (hd : isDg (bt s i) = true) (hs : s.length ≤ 1000000000) (w : World) : Calls Tryz.prog 49 #[.string (bs s), .int .i64 (i : Int)] w fun e w' => e = .returned (.tuple #[.int .i64 ((numA s i).1 : Int), .int .i64 ((numA s i).2 : Int)]) ∧ w' = w := by
  have hi := dg_in hd
  have hb := dg_bd hd
  have hsz := bs_size s
  have hx := bs_at s i hi w
  have hg := bs_get s i
  have hii : (i : Int) < (s.length : Int) := by omega
  by_cases h0 : bt s i = 48
  · have hN : numA s i = (0, i + 1) := by unfold numA; rw [if_pos h0]
    have ht : (((bt s i).toNat : Int) == 48) = true := by rw [h0]; rfl
    rw [hN]
    clear hb hd h0 hN
    generalize bt s i = c at *
    go_enter Tryz.func49, Tryz.ntmps49
    go_wp2
    go_ret2
    exact ⟨by simp, rfl⟩
  · have HN : Hid (numA s i = numGo s 3 i 0) := by show _ = _; unfold numA; rw [if_neg h0]
    have ht : (((bt s i).toNat : Int) == 48) = false := u8_ne 48 h0
    clear hb hd h0
    generalize numA s i = R at HN ⊢
    generalize bt s i = c at *
    have HBY := hide (fun j W => byteAt_any s j W)
    have HDG := hide (fun c W => digit_any c W)
    go_enter Tryz.func49, Tryz.ntmps49
    go_wp2
    clear hx hg hii ht
    go_loop [1, 6, 7] (fun jv nv kv => ∃ j n k : Nat, k ≤ 3 ∧ j ≤ s.length ∧ n < 10 ^ k ∧ jv = .int .i64 (j : Int) ∧ nv = .int .i64 (n : Int) ∧ kv = .int .i64 (k : Int) ∧ R = numGo s (3 - k) j n) (fun _ _ kv => 3 - (intOf kv).toNat)
    case atStart => exact ⟨i, 0, 0, by omega, by omega, by simp, rfl, rfl, rfl, HN.out⟩
    case round =>
      obtain ⟨j, n, k, hk, hj, hn, rfl, rfl, rfl, hR⟩ := hrel
      have HR := hide hR
      clear hR
      by_cases h3 : (k : Int) < 3
      · have HS : Hid (numGo s (3 - k) j n = if isDg (bt s j) = true then numGo s (3 - (k + 1)) (j + 1) (n * 10 + ((bt s j).toNat - 48)) else (n, j)) := by
          show _ = _
          rw [show 3 - k = (3 - (k + 1)) + 1 by omega, numGo]
        have hnb : n < 1000 := Nat.lt_of_lt_of_le hn (Nat.pow_le_pow_right (by decide) hk)
        have HNB := hide hn
        clear hn
        cases hdj : isDg (bt s j) with
        | true =>
          have hjl := dg_in hdj
          have hbj := dg_bd hdj
          have hx := bs_at s j hjl w
          have hg := bs_get s j
          have hii : (j : Int) < (s.length : Int) := by omega
          have hS := HS.out
          rw [if_pos hdj] at hS
          have HS2 := hide (HR.out.trans hS)
          have HD2 := hide (fun W => digit_any (bt s j) W)
          rw [hdj] at HD2
          clear HS hS hdj HDG HR
          have HBJ := hide (HBY.out j)
          generalize bt s j = c at *
          go_wp2_with (first | (go_at_call 30; refine (HBJ.out _).mono ?_; rintro e w' ⟨rfl, hw'⟩; rw [hw']; clear hw' w') | (go_at_call 48; refine (HD2.out _).mono ?_; rintro e w' ⟨rfl, hw'⟩; rw [hw']; clear hw' w'))
          refine ⟨⟨j + 1, n * 10 + (c.toNat - 48), k + 1, by omega, by omega, by have := HNB.out; rw [Nat.pow_succ]; omega, by go_num, by go_num, by go_num, HS2.out⟩, by simp [intOf]; omega⟩
        | false =>
          have hS := HS.out
          rw [hdj, if_neg (by decide)] at hS
          have HS2 := hide (HR.out.trans hS)
          have HD2 := hide (fun W => digit_any (bt s j) W)
          rw [hdj] at HD2
          have HBJ := hide (HBY.out j)
          clear HS hS hdj HDG HR
          generalize bt s j = c at *
          go_wp2_with (first | (go_at_call 30; refine (HBJ.out _).mono ?_; rintro e w' ⟨rfl, hw'⟩; rw [hw']; clear hw' w') | (go_at_call 48; refine (HD2.out _).mono ?_; rintro e w' ⟨rfl, hw'⟩; rw [hw']; clear hw' w'))
          go_ret2
          exact ⟨by rw [HS2.out]; rfl, rfl⟩
      · obtain rfl : k = 3 := by omega
        have hR := HR.out
        have HR2 : Hid (R = (n, j)) := hR
        clear HR hR
        go_wp2
        go_ret2
        exact ⟨by rw [HR2.out]; rfl, rfl⟩
end Go.Proofs.YtafbggbdlcfbdaaGreatDoor

/- Formulas, and automata with outputs, that came in: opened. -/
namespace Go.Proofs.YtafbggbdlcfbdaaGreatDoor
open Go.ChangeShapes Go.WideShapes Go.ChangeAt Go.RowKit Go.Joins Go.Deep

instance : Inhabited Nd := ⟨zNd⟩
set_option maxRecDepth 8000 in
theorem nodes_open {H : Type} {enc : TypeId × Value → H} {W : World} {base : Nat} {held : Bool} {fuel : Nat} {v : Value} {x : DataW H × List MemPlace} (h : DataW.trod enc Tryz.prog W base (fun _ => true) held fuel 22 [v] = some x) :
    ∃ a len cap ns, v = .slice a len cap ∧ SlF W a len ns := by
  rcases open_slice Tryz.underlying22 h with ⟨hcs, _⟩ | ⟨a, len, cap, m, n, D, Pl, hcs, hb, hl, hm, hmm, _, hx⟩
  · simp at hcs
    exact ⟨none, 0, 0, [], hcs, rfl, by decide, (fun n hn => by cases hn), Or.inl rfl⟩
  · simp at hcs
    have hmc : m = cap := by simpa using hmm
    subst hmc
    have each : ∀ i, i < m → ∃ q : Nd × Option Addr × Nat, ndWf q.1 ∧ (W.cell? (a.add (i * 7)) = some (.int .i64 q.1.op) ∧ W.cell? (a.add (i * 7 + 1)) = some (.int .i64 q.1.var) ∧ W.cell? (a.add (i * 7 + 2)) = some (.int .i64 q.1.oth) ∧ W.cell? (a.add (i * 7 + 3)) = some (.int .i64 q.1.wd) ∧ W.cell? (a.add (i * 7 + 4)) = some (.int .i64 q.1.wd2) ∧ W.cell? (a.add (i * 7 + 5)) = some (.int .i64 q.1.num) ∧ W.cell? (a.add (i * 7 + 6)) = some (.slice q.2.1 q.1.cf.length q.2.2)) ∧ Sl W q.2.1 q.1.cf.length q.1.cf := by
      intro i hi
      obtain ⟨cs', h1, h2⟩ := hx i hi
      rw [show Tryz.prog.cellsOf 41 = 7 by kernel_rfl] at h1
      obtain ⟨_, hlen, hcell⟩ := World.cells?_some h1
      obtain ⟨xs, k, hk, hxy, _, hxl, hf⟩ := DataW.trod_struct Tryz.underlying41 h2
      match xs, hxl, cs', hlen with
      | [y0, y1, y2, y3, y4, y5, y6], _, [c0, c1, c2, c3, c4, c5, c6], _ =>
        have g0 := hf 0 _ rfl
        have g1 := hf 1 _ rfl
        have g2 := hf 2 _ rfl
        have g3 := hf 3 _ rfl
        have g4 := hf 4 _ rfl
        have g5 := hf 5 _ rfl
        have g6 := hf 6 _ rfl
        have ci : Tryz.prog.cellsOf 3 = 1 := by kernel_rfl
        have cl : Tryz.prog.cellsOf 39 = 1 := by kernel_rfl
        simp [ci, cl] at g0 g1 g2 g3 g4 g5 g6
        obtain ⟨z0, e0, _, w0⟩ := DataW.trod_int Tryz.underlying3 g0
        obtain ⟨z1, e1, _, w1⟩ := DataW.trod_int Tryz.underlying3 g1
        obtain ⟨z2, e2, _, w2⟩ := DataW.trod_int Tryz.underlying3 g2
        obtain ⟨z3, e3, _, w3⟩ := DataW.trod_int Tryz.underlying3 g3
        obtain ⟨z4, e4, _, w4⟩ := DataW.trod_int Tryz.underlying3 g4
        obtain ⟨z5, e5, _, w5⟩ := DataW.trod_int Tryz.underlying3 g5
        obtain ⟨a', l', c', cf, e6, hs⟩ := ints_open g6
        simp at e0 e1 e2 e3 e4 e5
        subst e0 e1 e2 e3 e4 e5 e6
        have hl' := hs.1
        subst hl'
        have q0 := hcell 0 (by decide)
        have q1 := hcell 1 (by decide)
        have q2 := hcell 2 (by decide)
        have q3 := hcell 3 (by decide)
        have q4 := hcell 4 (by decide)
        have q5 := hcell 5 (by decide)
        have q6 := hcell 6 (by decide)
        rw [add_add] at q0 q1 q2 q3 q4 q5 q6
        refine ⟨(⟨z0, z1, z2, z3, z4, z5, cf⟩, a', c'), fun x hx => ?_, ⟨by simpa using q0, by simpa using q1, by simpa using q2, by simpa using q3, by simpa using q4, by simpa using q5, by simpa using q6⟩, hs⟩
        simp at hx
        rcases hx with rfl | rfl | rfl | rfl | rfl | rfl <;> assumption
    obtain ⟨q, hq⟩ := choose_lt each
    refine ⟨some a, len, m, (List.range len).map fun i => (q i).1, hcs, by simp, by omega, fun x hx => ?_, ?_⟩
    · obtain ⟨i, hi, rfl⟩ := List.mem_map.1 hx
      exact (hq i (by have := List.mem_range.1 hi; omega)).1
    · by_cases h0 : len = 0
      · exact .inl h0
      · obtain ⟨b, off, spot⟩ := a
        have hspot : spot = none := by simpa [Addr.add] using World.cell?_spot (hq 0 (by omega)).2.1.1
        subst hspot
        refine .inr ⟨b, off, rfl, fun i hi => ⟨(q i).2.1, (q i).2.2, ?_⟩⟩
        have hget : ((List.range len).map fun i => (q i).1).getD i zNd = (q i).1 := by simp [List.getD, hi]
        rw [hget]
        obtain ⟨-, ⟨e0, e1, e2, e3, e4, e5, e6⟩, hs⟩ := hq i (by omega)
        rw [Go.WideShapes.add_plain] at e0 e1 e2 e3 e4 e5 e6
        exact ⟨e0, by rw [Nat.add_assoc]; exact e1, by rw [Nat.add_assoc]; exact e2, by rw [Nat.add_assoc]; exact e3, by rw [Nat.add_assoc]; exact e4, by rw [Nat.add_assoc]; exact e5, by rw [Nat.add_assoc]; exact e6, hs⟩
theorem nodes_cap {H : Type} {enc : TypeId × Value → H} {W : World} {base : Nat} {held : Bool} {fuel : Nat} {a : Option Addr} {len cap : Nat} {x : DataW H × List MemPlace} (h : DataW.trod enc Tryz.prog W base (fun _ => true) held fuel 22 [.slice a len cap] = some x) : len ≤ cap := by
  rcases open_slice Tryz.underlying22 h with ⟨hcs, _⟩ | ⟨_, _, _, _, _, _, _, hcs, _, hl, _⟩
  · simp at hcs
    omega
  · simp at hcs
    omega
end Go.Proofs.YtafbggbdlcfbdaaGreatDoor
