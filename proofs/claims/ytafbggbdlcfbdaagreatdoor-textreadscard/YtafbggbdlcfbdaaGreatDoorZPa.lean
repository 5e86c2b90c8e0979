/- 9 texts in one. -/
import Derived.ArgAppend
import Derived.BigRegion
import Derived.Deep.AppendLies
import Derived.Deep.LoopGhost
import Derived.Deep.MidRow
import Derived.Deep.RegionHeldLaw
import Derived.Deep.RegionLaw
import Derived.Deep.RegionWith
import Derived.DeepKeys4
import Derived.Laws.AppendOwnNone
import Derived.LoopIn
import Derived.LoopNIn
import Derived.Maps.OwnSet
import Derived.OwnWalkIn
import Derived.RangeFuncBound
import Derived.RangeFuncCalls
import Derived.RangeFuncLeaves
import Derived.RangeFuncNested
import Derived.Shelf.Abstract
import Derived.Shelf.RegionOpen
import Derived.Sort.LoopGhostIn
import Derived.TacticsInMore
import Derived.WalkKit
import Derived.Test.YtafbggbdlcfbdaaGreatDoorMa
import Derived.Test.YtafbggbdlcfbdaaGreatDoorZG
import Derived.Test.YtafbggbdlcfbdaaGreatDoorCf
import Derived.Test.YtafbggbdlcfbdaaGreatDoorLb
import Derived.Test.YtafbggbdlcfbdaaGreatDoorLq
import Derived.Test.YtafbggbdlcfbdaaGreatDoorNx
import Derived.Test.YtafbggbdlcfbdaaGreatDoorRe
import Derived.Test.YtafbggbdlcfbdaaGreatDoorZF
/- Sums of numbers: an automaton that counts along, cut off where it is too far; mathematics. -/
namespace Go.Proofs.YtafbggbdlcfbdaaGreatDoor
open Go.RowKit

/-- The first k of coefficients, each times what stands beside it, together. -/
def sumT (C : List Int) (f : Nat → Int) : Nat → Int
  | 0 => 0
  | k + 1 => sumT C f k + C.getD k 0 * f k
/-- .. without signs. -/
def absI (x : Int) : Int := if x < 0 then -x else x
def absT (C : List Int) : Nat → Int
  | 0 => 0
  | k + 1 => absT C k + absI (C.getD k 0)
theorem absI_nn (x : Int) : 0 ≤ absI x := by unfold absI; split <;> omega
theorem absT_nn (C : List Int) (k : Nat) : 0 ≤ absT C k := by
  induction k with
  | zero => exact Int.le_refl 0
  | succ k ih => have := absI_nn (C.getD k 0); show 0 ≤ absT C k + absI (C.getD k 0); omega
theorem absT_mono (C : List Int) {j k : Nat} (h : j ≤ k) : absT C j ≤ absT C k := by
  induction k with
  | zero =>
    obtain rfl : j = 0 := by omega
    exact Int.le_refl _
  | succ k ih =>
    by_cases e : j = k + 1
    · subst e; exact Int.le_refl _
    · have := ih (by omega)
      have := absI_nn (C.getD k 0)
      show _ ≤ absT C k + absI (C.getD k 0)
      omega
theorem absT_at (C : List Int) {j k : Nat} (h : j < k) : absI (C.getD j 0) ≤ absT C k := by
  have h1 := absT_mono C (show j + 1 ≤ k from h)
  have h2 := absT_nn C j
  have h3 : absT C (j + 1) = absT C j + absI (C.getD j 0) := rfl
  omega
def lnEnd (c : Int) (less : Bool) (x : Int) : Bool := if less = true then decide (x + c < 0) else decide (x + c = 0)
end Go.Proofs.YtafbggbdlcfbdaaGreatDoor

/- Automata with outputs: what is wrong with one, what it says; mathematics. -/
namespace Go.Proofs.YtafbggbdlcfbdaaGreatDoor
open Go.RowKit

/-- What is said behind a word; at a number. -/
def sayW (N : List (List Int)) (O : List Int) (w : List Int) : Int := O.getD (runL N w) 0
def sayN (b : Int) (N : List (List Int)) (O : List Int) (n : Int) : Int := sayW N O (dgs b n)
end Go.Proofs.YtafbggbdlcfbdaaGreatDoor

/- Formulas: mathematics: nodes, what is wrong with one, trees. -/
namespace Go.Proofs.YtafbggbdlcfbdaaGreatDoor
open Go.RowKit

/-- A node of a formula. -/
structure Nd where
  op : Int
  var : Int
  oth : Int
  wd : Int
  wd2 : Int
  num : Int
  cf : List Int
deriving DecidableEq
def zNd : Nd := ⟨0, 0, 0, 0, 0, 0, []⟩
/-- How many parts a node has. -/
def partsN (op : Int) : Nat := if op = 5 ∨ op = 8 ∨ op = 9 then 1 else if op = 6 ∨ op = 7 then 2 else 0
def lineP (n : Nd) : Prop := n.op = 1 ∨ n.op = 2
def varsP (n : Nd) : Prop := n.op = 3 ∨ n.op = 4 ∨ n.op = 8 ∨ n.op = 9
def wordsP (n : Nd) : Prop := n.op = 3 ∨ n.op = 4
instance (n : Nd) : Decidable (lineP n) := by unfold lineP; exact inferInstance
instance (n : Nd) : Decidable (varsP n) := by unfold varsP; exact inferInstance
instance (n : Nd) : Decidable (wordsP n) := by unfold wordsP; exact inferInstance
/-- A node is well formed. -/
def ndR (n : Nd) : Prop := (1 ≤ n.op ∧ n.op ≤ 9) ∧ (varsP n → 0 ≤ n.var ∧ n.var < 5) ∧ (n.op = 4 → 0 ≤ n.oth ∧ n.oth < 5) ∧ (wordsP n → 0 ≤ n.wd ∧ n.wd < 3) ∧ (n.op = 4 → 0 ≤ n.wd2 ∧ n.wd2 < 3) ∧ (n.op = 3 → 0 ≤ n.num ∧ n.num ≤ 9) ∧ (lineP n → n.cf.length ≤ 5 ∧ absT n.cf n.cf.length ≤ 12 ∧ -60 ≤ n.num ∧ n.num ≤ 60)
def ndS (n : Nd) : Prop := (¬ varsP n → n.var = 0) ∧ (n.op ≠ 4 → n.oth = 0 ∧ n.wd2 = 0) ∧ (¬ wordsP n → n.wd = 0) ∧ (¬ lineP n → n.op ≠ 3 → n.num = 0) ∧ (¬ lineP n → n.cf.length = 0) ∧ (0 < n.cf.length → n.cf.getD (n.cf.length - 1) 0 ≠ 0)
instance (n : Nd) : Decidable (ndR n) := by unfold ndR; exact inferInstance
instance (n : Nd) : Decidable (ndS n) := by unfold ndS; exact inferInstance
def ndF (n : Nd) : Int := if ndR n then (if ndS n then 0 else 2) else 1
theorem ndF_zero {n : Nd} (h : ndF n = 0) : ndR n ∧ ndS n := by
  unfold ndF at h
  by_cases h1 : ndR n
  · rw [if_pos h1] at h
    by_cases h2 : ndS n
    · exact ⟨h1, h2⟩
    · rw [if_neg h2] at h; omega
  · rw [if_neg h1] at h; omega
/-- Node by node: how many parts are open, where it is wrong. -/
def ffGo : List Nd → Nat → Nat → Nat × Int
  | [], i, o => if 0 < o then (i, 4) else (0, 0)
  | n :: t, i, o => if ndF n = 0 then (if o = 0 then (i, 2) else ffGo t (i + 1) (o - 1 + partsN n.op)) else (i, ndF n)
def formP (f : List Nd) : Nat × Int := if f.length = 0 then (0, 4) else if 40 < f.length then (0, 3) else ffGo f 0 1
/-- A formula as a tree. -/
inductive Fm where
  | at0 (n : Nd)
  | un (n : Nd) (f : Fm)
  | bin (n : Nd) (f g : Fm)
def Fm.flat : Fm → List Nd
  | .at0 n => [n]
  | .un n f => n :: f.flat
  | .bin n f g => n :: (f.flat ++ g.flat)
/-- Each node has as many parts as it should, and none is wrong. -/
def Fm.ok : Fm → Prop
  | .at0 n => ndF n = 0 ∧ partsN n.op = 0
  | .un n f => ndF n = 0 ∧ partsN n.op = 1 ∧ f.ok
  | .bin n f g => ndF n = 0 ∧ partsN n.op = 2 ∧ f.ok ∧ g.ok
def flatL (ts : List Fm) : List Nd := (ts.map Fm.flat).flatten
theorem ffGo_trees : ∀ (l : List Nd) (i o : Nat), (ffGo l i o).2 = 0 → ∃ ts : List Fm, ts.length = o ∧ l = flatL ts ∧ ∀ t ∈ ts, t.ok := by
  intro l
  induction l with
  | nil =>
    intro i o h
    unfold ffGo at h
    by_cases h0 : 0 < o
    · rw [if_pos h0] at h; simp at h
    · obtain rfl : o = 0 := by omega
      exact ⟨[], rfl, rfl, fun t ht => by cases ht⟩
  | cons n t ih =>
    intro i o h
    unfold ffGo at h
    by_cases hn : ndF n = 0
    · rw [if_pos hn] at h
      by_cases h0 : o = 0
      · rw [if_pos h0] at h; simp at h
      · rw [if_neg h0] at h
        obtain ⟨ts, h1, h2, h3⟩ := ih _ _ h
        obtain ⟨k, rfl⟩ : ∃ k, o = k + 1 := ⟨o - 1, by omega⟩
        rw [Nat.add_sub_cancel] at h1
        have hp : partsN n.op = 0 ∨ partsN n.op = 1 ∨ partsN n.op = 2 := by unfold partsN; split; exact .inr (.inl rfl); split; exact .inr (.inr rfl); exact .inl rfl
        rcases hp with hp | hp | hp
        · rw [hp] at h1
          refine ⟨.at0 n :: ts, by simp [h1], by rw [h2]; rfl, fun t ht => ?_⟩
          rcases List.mem_cons.1 ht with rfl | ht
          · exact ⟨hn, hp⟩
          · exact h3 t ht
        · rw [hp] at h1
          match ts, h1, h2, h3 with
          | f :: ts, h1, h2, h3 =>
            refine ⟨.un n f :: ts, by simpa using h1, by rw [h2]; rfl, fun t ht => ?_⟩
            rcases List.mem_cons.1 ht with rfl | ht
            · exact ⟨hn, hp, h3 f (by simp)⟩
            · exact h3 t (by simp [ht])
        · rw [hp] at h1
          match ts, h1, h2, h3 with
          | [f], h1, h2, h3 => simp at h1
          | f :: g :: ts, h1, h2, h3 =>
            refine ⟨.bin n f g :: ts, by simp at h1 ⊢; omega, by rw [h2]; simp [flatL, Fm.flat], fun t ht => ?_⟩
            rcases List.mem_cons.1 ht with rfl | ht
            · exact ⟨hn, hp, h3 f (by simp), h3 g (by simp)⟩
            · exact h3 t (by simp [ht])
    · rw [if_neg hn] at h
      exact absurd h hn
/-- What is right is a tree. -/
theorem form_tree {f : List Nd} (h : (formP f).2 = 0) : ∃ t : Fm, f = t.flat ∧ t.ok ∧ f.length ≤ 40 ∧ 0 < f.length := by
  unfold formP at h
  by_cases h0 : f.length = 0
  · rw [if_pos h0] at h; simp at h
  · rw [if_neg h0] at h
    by_cases h1 : 40 < f.length
    · rw [if_pos h1] at h; simp at h
    · rw [if_neg h1] at h
      obtain ⟨ts, g1, g2, g3⟩ := ffGo_trees _ _ _ h
      match ts, g1, g2, g3 with
      | [t], g1, g2, g3 => exact ⟨t, by rw [g2]; simp [flatL], g3 t (by simp), by omega, by omega⟩
theorem flat_pos (t : Fm) : 0 < t.flat.length := by cases t <;> simp [Fm.flat]
/-- Does a node itself use a variable? -/
def useB (n : Nd) (v : Int) : Bool := if n.op = 1 ∨ n.op = 2 then decide (v < (n.cf.length : Int)) && decide (n.cf.getD v.toNat 0 ≠ 0) else (decide (n.op = 3 ∨ n.op = 4) && decide (n.var = v)) || (decide (n.op = 4) && decide (n.oth = v))
/-- Does it stand free? -/
def Fm.fre : Fm → Int → Bool
  | .at0 n, v => if (n.op = 8 ∨ n.op = 9) ∧ n.var = v then false else useB n v
  | .un n f, v => if (n.op = 8 ∨ n.op = 9) ∧ n.var = v then false else useB n v || f.fre v
  | .bin n f g, v => if (n.op = 8 ∨ n.op = 9) ∧ n.var = v then false else useB n v || f.fre v || g.fre v
def Fm.node : Fm → Nd
  | .at0 n => n
  | .un n _ => n
  | .bin n _ _ => n
def Fm.kids : Fm → List Fm
  | .at0 _ => []
  | .un _ f => [f]
  | .bin _ f g => [f, g]
theorem flat_node (t : Fm) : t.flat = t.node :: flatL t.kids := by cases t <;> simp [Fm.flat, Fm.node, Fm.kids, flatL]
theorem ok_node {t : Fm} (h : t.ok) : ndF t.node = 0 ∧ t.kids.length = partsN t.node.op ∧ ∀ c ∈ t.kids, c.ok := by
  cases t with
  | at0 n => exact ⟨h.1, h.2.symm, fun c hc => by cases hc⟩
  | un n f => exact ⟨h.1, h.2.1.symm, fun c hc => by simp [Fm.kids] at hc; subst hc; exact h.2.2⟩
  | bin n f g =>
    refine ⟨h.1, h.2.1.symm, fun c hc => ?_⟩
    simp [Fm.kids] at hc
    rcases hc with rfl | rfl
    · exact h.2.2.1
    · exact h.2.2.2
theorem flatL_cons (t : Fm) (ts : List Fm) : flatL (t :: ts) = t.flat ++ flatL ts := by simp [flatL]
theorem flatL_append (ts us : List Fm) : flatL (ts ++ us) = flatL ts ++ flatL us := by simp [flatL]
/-- One node on, of parts that are open. -/
theorem trees_step {t : Fm} {ts : List Fm} (h : ∀ c ∈ t :: ts, c.ok) : flatL (t :: ts) = t.node :: flatL (t.kids ++ ts) ∧ (t.kids ++ ts).length = ts.length + partsN t.node.op ∧ ∀ c ∈ t.kids ++ ts, c.ok := by
  obtain ⟨-, h2, h3⟩ := ok_node (h t (by simp))
  refine ⟨by rw [flatL_cons, flatL_append, flat_node]; rfl, by rw [List.length_append, h2]; omega, fun c hc => ?_⟩
  rcases List.mem_append.1 hc with hc | hc
  · exact h3 c hc
  · exact h c (by simp [hc])
end Go.Proofs.YtafbggbdlcfbdaaGreatDoor

/- Claims as texts: mathematics: numbers, sums, formulas as bytes. -/
namespace Go.Proofs.YtafbggbdlcfbdaaGreatDoor
open Go.RowKit

/-- Bytes as a string. -/
def bs (l : List UInt8) : ByteArray := ⟨l.toArray⟩
theorem bs_size (l : List UInt8) : (bs l).size = l.length := by show l.toArray.size = _; simp
theorem bs_of (s : ByteArray) : ∃ l, s = bs l := ⟨s.data.toList, by cases s; rfl⟩
theorem bs_app (x y : List UInt8) : bs x ++ bs y = bs (x ++ y) := ByteArray.mk_append_mk x y
theorem bs_add {P : Program} (x y : List UInt8) (h : x.length + y.length ≤ 1000000000) (W : World) : (Op.stringOp .add (bs x) (bs y)).run P W = .ok (.string (bs (x ++ y))) W := by
  rw [run_string_add_sum W _ _ (by rw [bs_size, bs_size]; omega), bs_app]
def dgC (d : Nat) : UInt8 := UInt8.ofNat (48 + d)
def ltC (v : Nat) : UInt8 := UInt8.ofNat (97 + v)
/-- The digits of a number. -/
def decF : Nat → Nat → List UInt8
  | 0, n => [dgC (n % 10)]
  | k + 1, n => if n < 10 then [dgC n] else decF k (n / 10) ++ [dgC (n % 10)]
def decL (n : Nat) : List UInt8 := decF 20 n
theorem decF_more : ∀ (k n : Nat), n < 10 ^ (k + 1) → decF (k + 1) n = decF k n := by
  intro k
  induction k with
  | zero =>
    intro n h
    have h' : n < 10 := by simpa using h
    simp only [decF]
    rw [if_pos h', Nat.mod_eq_of_lt h']
  | succ k ih =>
    intro n h
    show (if n < 10 then [dgC n] else decF (k + 1) (n / 10) ++ [dgC (n % 10)]) = (if n < 10 then [dgC n] else decF k (n / 10) ++ [dgC (n % 10)])
    by_cases h1 : n < 10
    · rw [if_pos h1, if_pos h1]
    · rw [if_neg h1, if_neg h1, ih (n / 10) (by rw [Nat.div_lt_iff_lt_mul (by decide)]; rw [Nat.pow_succ] at h; exact h)]
theorem decL_small {n : Nat} (h : n < 10) : decL n = [dgC n] := by
  unfold decL
  rw [decF, if_pos h]
theorem decL_step {n : Nat} (h : ¬ n < 10) (hn : n < 10 ^ 20) : decL n = decL (n / 10) ++ [dgC (n % 10)] := by
  unfold decL
  rw [show (20 : Nat) = 19 + 1 from rfl, decF, if_neg h, decF_more 19 (n / 10) (by rw [Nat.div_lt_iff_lt_mul (by decide)]; have : (10 : Nat) ^ 20 * 10 = 10 ^ (19 + 1) * 10 := rfl; omega)]
theorem decF_len : ∀ (k n : Nat), 1 ≤ (decF k n).length ∧ (decF k n).length ≤ k + 1 := by
  intro k
  induction k with
  | zero => intro n; exact ⟨by simp [decF], by simp [decF]⟩
  | succ k ih =>
    intro n
    rw [decF]
    split
    · simp
    · have := ih (n / 10)
      rw [List.length_append]
      simp
      omega
theorem decL_len (n : Nat) : 1 ≤ (decL n).length ∧ (decL n).length ≤ 21 := decF_len 20 n
/-- What a sum has on one side: a part behind what was there. -/
def joinT (s p : List UInt8) : List UInt8 := if s.length = 0 then p else (s ++ [43]) ++ p
def partT (v : Nat) (c : Int) : List UInt8 := if c > 1 then decL c.toNat ++ [ltC v] else [ltC v]
def sideK (cf : List Int) (sg : Int) : Nat → List UInt8
  | 0 => []
  | k + 1 => if sg * cf.getD k 0 < 1 then sideK cf sg k else joinT (sideK cf sg k) (partT k (sg * cf.getD k 0))
def sideM (cf : List Int) (num sg : Int) : List UInt8 := if sg * num > 0 then joinT (sideK cf sg cf.length) (decL (sg * num).toNat) else sideK cf sg cf.length
def sideT (cf : List Int) (num sg : Int) : List UInt8 := if (sideM cf num sg).length = 0 then [48] else sideM cf num sg
theorem partT_len (v : Nat) (c : Int) : 1 ≤ (partT v c).length ∧ (partT v c).length ≤ 22 := by
  unfold partT
  have := decL_len c.toNat
  split <;> simp <;> omega
theorem joinT_len (s p : List UInt8) : (joinT s p).length ≤ s.length + 1 + p.length := by
  unfold joinT
  split <;> simp <;> omega
theorem sideK_len (cf : List Int) (sg : Int) : ∀ k, (sideK cf sg k).length ≤ 23 * k := by
  intro k
  induction k with
  | zero => simp [sideK]
  | succ k ih =>
    rw [sideK]
    split
    · omega
    · have h1 := joinT_len (sideK cf sg k) (partT k (sg * cf.getD k 0))
      have h2 := partT_len k (sg * cf.getD k 0)
      omega
theorem sideM_len (cf : List Int) (num sg : Int) : (sideM cf num sg).length ≤ 23 * cf.length + 22 := by
  have h := sideK_len cf sg cf.length
  unfold sideM
  split
  · have h1 := joinT_len (sideK cf sg cf.length) (decL (sg * num).toNat)
    have h2 := decL_len (sg * num).toNat
    omega
  · omega
theorem sideT_len (cf : List Int) (num sg : Int) : (sideT cf num sg).length ≤ 23 * cf.length + 22 := by
  have h := sideM_len cf num sg
  unfold sideT
  split
  · simp
  · exact h
/-- What has no parts, as a text. -/
def atomT (n : Nd) : List UInt8 :=
  if n.op = 1 then sideT n.cf n.num 1 ++ [61] ++ sideT n.cf n.num (-1)
  else if n.op = 2 then sideT n.cf n.num 1 ++ [60] ++ sideT n.cf n.num (-1)
  else if n.op = 3 then [64] ++ decL n.wd.toNat ++ [91] ++ [ltC n.var.toNat] ++ [93, 61] ++ decL n.num.toNat
  else [64] ++ decL n.wd.toNat ++ [91] ++ [ltC n.var.toNat] ++ [93, 61, 64] ++ decL n.wd2.toNat ++ [91] ++ [ltC n.oth.toNat] ++ [93]
def unT (n : Nd) (x : List UInt8) : List UInt8 := if n.op = 5 then [126] ++ x else if n.op = 8 then [69] ++ [ltC n.var.toNat] ++ [58] ++ x else [65] ++ [ltC n.var.toNat] ++ [58] ++ x
def binT (n : Nd) (x y : List UInt8) : List UInt8 := if n.op = 6 then [40] ++ x ++ [38] ++ y ++ [41] else [40] ++ x ++ [124] ++ y ++ [41]
def Fm.txt : Fm → List UInt8
  | .at0 n => atomT n
  | .un n f => unT n f.txt
  | .bin n f g => binT n f.txt g.txt
theorem atomT_len (n : Nd) (h : n.cf.length ≤ 5) : (atomT n).length ≤ 400 := by
  unfold atomT
  have h1 := sideT_len n.cf n.num 1
  have h2 := sideT_len n.cf n.num (-1)
  have h3 := decL_len n.wd.toNat
  have h4 := decL_len n.wd2.toNat
  have h5 := decL_len n.num.toNat
  split
  · simp; omega
  split
  · simp; omega
  split
  · simp; omega
  · simp; omega
theorem ndF_cf {n : Nd} (h : ndF n = 0) : n.cf.length ≤ 5 := by
  obtain ⟨hr, hs⟩ := ndF_zero h
  by_cases hl : lineP n
  · exact (hr.2.2.2.2.2.2 hl).1
  · have := hs.2.2.2.2.1 hl
    omega
theorem txt_len (t : Fm) (h : t.ok) : t.txt.length ≤ 400 * t.flat.length := by
  induction t with
  | at0 n =>
    have := atomT_len n (ndF_cf h.1)
    simp only [Fm.txt, Fm.flat, List.length_cons, List.length_nil]
    omega
  | un n f ih =>
    have := ih h.2.2
    simp only [Fm.txt, Fm.flat, List.length_cons]
    unfold unT
    split
    · simp; omega
    split
    · simp; omega
    · simp; omega
  | bin n f g ihf ihg =>
    have h1 := ihf h.2.2.1
    have h2 := ihg h.2.2.2
    simp only [Fm.txt, Fm.flat, List.length_cons, List.length_append]
    unfold binT
    split
    · simp; omega
    · simp; omega
end Go.Proofs.YtafbggbdlcfbdaaGreatDoor

/- Formulas in memory: a slice of nodes reads as a list. -/
namespace Go.Proofs.YtafbggbdlcfbdaaGreatDoor
open Go.RowKit

/-- Seven cells are a node. -/
def NdC (W : World) (b o : Nat) (n : Nd) (a : Option Addr) (c : Nat) : Prop :=
  W.cell? ⟨b, o, none⟩ = some (.int .i64 n.op) ∧ W.cell? ⟨b, o + 1, none⟩ = some (.int .i64 n.var) ∧ W.cell? ⟨b, o + 2, none⟩ = some (.int .i64 n.oth) ∧ W.cell? ⟨b, o + 3, none⟩ = some (.int .i64 n.wd) ∧ W.cell? ⟨b, o + 4, none⟩ = some (.int .i64 n.wd2) ∧ W.cell? ⟨b, o + 5, none⟩ = some (.int .i64 n.num) ∧ W.cell? ⟨b, o + 6, none⟩ = some (.slice a n.cf.length c) ∧ Sl W a n.cf.length n.cf
def ndWf (n : Nd) : Prop := ∀ x ∈ [n.op, n.var, n.oth, n.wd, n.wd2, n.num], (Lit.int .i64 x).wf = true
def SlF (W : World) (a : Option Addr) (len : Nat) (ns : List Nd) : Prop :=
  ns.length = len ∧ len ≤ maxLen ∧ (∀ n ∈ ns, ndWf n) ∧ (len = 0 ∨ ∃ b o, a = some ⟨b, o, none⟩ ∧ ∀ i, i < len → ∃ a' c', NdC W b (o + i * 7) (ns.getD i zNd) a' c')
theorem ndC_below {W W' : World} {b o : Nat} {n : Nd} {a : Option Addr} {c : Nat} (h : NdC W b o n a c) (hb : Below W.heap.size W W') : NdC W' b o n a c := by
  obtain ⟨h0, h1, h2, h3, h4, h5, h6, h7⟩ := h
  have hk : ∀ (k : Nat) (v : Value), W.cell? ⟨b, k, none⟩ = some v → W'.cell? ⟨b, k, none⟩ = some v := fun k v h => (hb.cell (p := ⟨b, k, none⟩) (World.block_lt_of_cell? W _ h)).trans h
  exact ⟨hk _ _ h0, hk _ _ h1, hk _ _ h2, hk _ _ h3, hk _ _ h4, hk _ _ h5, hk _ _ h6, sl_below h7 hb⟩
theorem slF_below {W W' : World} {a : Option Addr} {len : Nat} {ns : List Nd} (h : SlF W a len ns) (hb : Below W.heap.size W W') : SlF W' a len ns := by
  obtain ⟨h1, h2, h3, h4⟩ := h
  refine ⟨h1, h2, h3, ?_⟩
  rcases h4 with h4 | ⟨b, o, e, h4⟩
  · exact .inl h4
  · refine .inr ⟨b, o, e, fun i hi => ?_⟩
    obtain ⟨a', c', hc⟩ := h4 i hi
    exact ⟨a', c', ndC_below hc hb⟩
theorem slF_cell {W : World} {a : Option Addr} {len : Nat} {ns : List Nd} (h : SlF W a len ns) (i : Nat) (hi : i < len) : ∃ b o a' c', a = some ⟨b, o, none⟩ ∧ NdC W b (o + i * 7) (ns.getD i zNd) a' c' := by
  rcases h.2.2.2 with h4 | ⟨b, o, e, h4⟩
  · omega
  · obtain ⟨a', c', hc⟩ := h4 i hi
    exact ⟨b, o, a', c', e, hc⟩
end Go.Proofs.YtafbggbdlcfbdaaGreatDoor

/- The reference's PartsOf, FormFault, EndOf: contracts. -/
namespace Go.Proofs.YtafbggbdlcfbdaaGreatDoor
open Go.RowKit

set_option maxHeartbeats 2000000 in
set_option maxRecDepth 4000 in
theorem partsOf_any (op : Int) (w : World) : Calls Tryz.prog 12 #[.int .i64 op] w fun e w' => e = .returned (.int .i64 ((partsN op : Nat) : Int)) ∧ w' = w := by
  by_cases h5 : op = 5
  · subst h5
    go_enter Tryz.func12, Tryz.ntmps12
    go_wp2
    go_ret
    exact ⟨rfl, rfl⟩
  by_cases h8 : op = 8
  · subst h8
    go_enter Tryz.func12, Tryz.ntmps12
    go_wp2
    go_ret
    exact ⟨rfl, rfl⟩
  by_cases h9 : op = 9
  · subst h9
    go_enter Tryz.func12, Tryz.ntmps12
    go_wp2
    go_ret
    exact ⟨rfl, rfl⟩
  by_cases h6 : op = 6
  · subst h6
    go_enter Tryz.func12, Tryz.ntmps12
    go_wp2
    go_ret
    exact ⟨rfl, rfl⟩
  by_cases h7 : op = 7
  · subst h7
    go_enter Tryz.func12, Tryz.ntmps12
    go_wp2
    go_ret
    exact ⟨rfl, rfl⟩
  have hp : partsN op = 0 := by unfold partsN; rw [if_neg (by omega), if_neg (by omega)]
  rw [hp]
  have e5 : (op == 5) = false := by simpa using h5
  have e6 : (op == 6) = false := by simpa using h6
  have e7 : (op == 7) = false := by simpa using h7
  have e8 : (op == 8) = false := by simpa using h8
  have e9 : (op == 9) = false := by simpa using h9
  clear h5 h6 h7 h8 h9 hp
  go_enter Tryz.func12, Tryz.ntmps12
  go_wp2
  go_ret
  exact ⟨rfl, rfl⟩
/-- A node as a value. -/
def ndV (n : Nd) (a : Option Addr) (c : Nat) : Value := .agg #[.int .i64 n.op, .int .i64 n.var, .int .i64 n.oth, .int .i64 n.wd, .int .i64 n.wd2, .int .i64 n.num, .slice a n.cf.length c]
def NodeSays : Prop := ∀ (n : Nd) (a : Option Addr) (c : Nat) (W : World), Sl W a n.cf.length n.cf → Calls Tryz.prog 11 #[ndV n a c] W fun e w' => e = .returned (.int .i64 (ndF n)) ∧ Below W.heap.size W w'
theorem partsN_le (op : Int) : partsN op ≤ 2 := by unfold partsN; split; decide; split <;> decide
theorem drop_nd {l : List Nd} {k : Nat} (h : k < l.length) : l.drop k = l.getD k zNd :: l.drop (k + 1) := by
  rw [List.drop_eq_getElem_cons h]
  simp [List.getD, h]
set_option maxHeartbeats 4000000 in
set_option maxRecDepth 4000 in
theorem formFault_of (a : Option Addr) (n cap : Nat) (ns : List Nd) (w : World) (hs : SlF w a n ns) (hNS : NodeSays) : Calls Tryz.prog 4 #[.slice a n cap] w fun e w' => e = .returned (.tuple #[.int .i64 ((formP ns).1 : Nat), .int .i64 (formP ns).2]) ∧ Below w.heap.size w w' := by
  have hL := hs.1
  have hmx := hs.2.1
  unfold maxLen at hmx
  by_cases h0 : n = 0
  · have e : formP ns = (0, 4) := by unfold formP; rw [if_pos (by omega)]
    rw [e]
    subst h0
    clear hs hNS e
    go_enter Tryz.func4, Tryz.ntmps4
    go_wp2
    go_ret2
    exact ⟨rfl, Below.refl _ _⟩
  have h0' : ((n : Int) == 0) = false := by simp; omega
  by_cases h40 : (n : Int) > 40
  · have e : formP ns = (0, 3) := by unfold formP; rw [if_neg (by omega), if_pos (by omega)]
    rw [e]
    clear hs hNS e hL
    go_enter Tryz.func4, Tryz.ntmps4
    go_wp2
    go_ret2
    exact ⟨rfl, Below.refl _ _⟩
  have HE : Hid (formP ns = ffGo (ns.drop 0) 0 1) := by show _ = _; unfold formP; rw [if_neg (by omega), if_neg (by omega)]; rfl
  have HS := hide hs
  have HPO := hide (fun op W => partsOf_any op W)
  have HN := hide hNS
  unfold NodeSays ndV at HN
  have HDR := hide (fun k (hk : k < n) => drop_nd (l := ns) (k := k) (by omega))
  have HEND : Hid (ns.drop n = []) := by show _ = _; rw [← hL]; exact List.drop_length
  clear hs hNS hL
  generalize formP ns = R at HE ⊢
  go_enter Tryz.func4, Tryz.ntmps4
  go_wp2
  go_loopw [4, 5] (fun ov iv wx => ∃ k o : Nat, k ≤ n ∧ o ≤ 1 + 2 * k ∧ ov = .int .i64 o ∧ iv = .int .i64 k ∧ R = ffGo (ns.drop k) k o ∧ Below w.heap.size w wx) (fun _ iv _ => n - (intOf iv).toNat)
  case atStart => exact ⟨0, 1, by omega, by omega, rfl, rfl, HE.out, Below.refl _ _⟩
  case round =>
    obtain ⟨k, o, hk, ho, rfl, rfl, hR, hb⟩ := hrel
    have HR := hide hR
    have HB := hide hb
    clear hR hb HE
    by_cases hlt : k < n
    · have hlti : (k : Int) < (n : Int) := by omega
      obtain ⟨bb, oo, a', c', rfl, x0, x1, x2, x3, x4, x5, x6, hsl⟩ := slF_cell (slF_below HS.out HB.out) k hlt
      have HD := hide (HDR.out k hlt)
      generalize ns.getD k zNd = nd at x0 x1 x2 x3 x4 x5 x6 hsl HD
      have HNF := hide (HN.out nd a' c' wr hsl)
      have HRS : Hid (R = if ndF nd = 0 then (if o = 0 then (k, 2) else ffGo (ns.drop (k + 1)) (k + 1) (o - 1 + partsN nd.op)) else (k, ndF nd)) := by show _ = _; rw [HR.out, HD.out]; rfl
      have HP2 := hide (partsN_le nd.op)
      have HX1 : Hid (∀ W, Below wr.heap.size wr W → W.cell? ⟨bb, oo + k * 7, none⟩ = some (.int .i64 nd.op) ∧ True) := fun W h => ⟨(h.cell (p := ⟨bb, oo + k * 7, none⟩) (World.block_lt_of_cell? wr _ x0)).trans x0, trivial⟩
      clear hsl HR HD
      go_wp2_with fail
      refine HNF.out.mono ?_
      rintro e w1 ⟨rfl, hb1⟩
      have HB1 := hide (below_step HB.out hb1)
      clear x0 x1 x2 x3 x4 x5 x6
      by_cases hz : ndF nd = 0
      · have hz' := HRS.out
        rw [if_pos hz] at hz'
        rw [hz]
        by_cases hoz : o = 0
        · rw [if_pos hoz] at hz'
          have HRZ := hide hz'
          subst hoz
          clear hz hz' HRS
          go_wp2
          go_ret2
          exact ⟨by rw [HRZ.out]; rfl, HB1.out⟩
        · rw [if_neg hoz] at hz'
          have hoz' : ((o : Int) == 0) = false := by simp; omega
          have HRZ := hide hz'
          have hp2 := HP2.out
          have ho1 : 1 ≤ o := by omega
          obtain ⟨x0, -⟩ := HX1.out w1 hb1
          have HPP := hide (HPO.out nd.op)
          clear hz hoz hz' HRS hb1
          generalize partsN nd.op = pn at HRZ hp2 HPP
          go_wp2_with (go_at_call 12; refine (HPP.out _).mono ?_; rintro e w' ⟨rfl, hw'⟩; rw [hw']; clear hw' w')
          go_roundw
          case rel => exact ⟨k + 1, o - 1 + pn, by omega, by omega, by go_num, by go_num, HRZ.out, HB1.out⟩
          case measure => simp [intOf]; omega
      · have hz' := HRS.out
        rw [if_neg hz] at hz'
        have HRZ := hide hz'
        have hzb : (ndF nd == 0) = false := by simpa using hz
        clear hz hz' HRS hb1
        generalize ndF nd = z at HRZ hzb ⊢
        go_wp2
        go_ret2
        exact ⟨by rw [HRZ.out]; rfl, HB1.out⟩
    · have hlti : ¬ (k : Int) < (n : Int) := by omega
      obtain rfl : k = n := by omega
      have hz' := HR.out
      rw [HEND.out] at hz'
      unfold ffGo at hz'
      by_cases ho0 : (o : Int) > 0
      · rw [if_pos (by omega)] at hz'
        have HRZ := hide hz'
        clear hz' HR
        go_wp2
        go_ret2
        exact ⟨by rw [HRZ.out]; rfl, HB.out⟩
      · rw [if_neg (by omega)] at hz'
        have HRZ := hide hz'
        clear hz' HR
        go_wp2
        go_ret2
        exact ⟨by rw [HRZ.out]; rfl, HB.out⟩

theorem flatL_pos {ts : List Fm} (h : 0 < ts.length) : 0 < (flatL ts).length := by
  match ts, h with
  | t :: ts, _ => rw [flatL_cons, List.length_append]; have := flat_pos t; omega
set_option maxHeartbeats 4000000 in
set_option maxRecDepth 4000 in
theorem endOf_any (a : Option Addr) (n cap : Nat) (ns : List Nd) (w : World) (hs : SlF w a n ns) (hn : n ≤ 40) (pre post : List Nd) (t : Fm) (ht : t.ok) (he : ns = pre ++ (t.flat ++ post)) : Calls Tryz.prog 16 #[.slice a n cap, .int .i64 (pre.length : Int)] w fun e w' => e = .returned (.int .i64 ((pre.length + t.flat.length : Nat) : Int)) ∧ w' = w := by
  have hL := hs.1
  have hpt : pre.length + t.flat.length + post.length = n := by rw [← hL, he]; simp; omega
  have HS := hide hs
  have HPO := hide (fun op W => partsOf_any op W)
  have H0 : Hid (ns.drop pre.length = flatL [t] ++ post) := by show _ = _; rw [he, List.drop_left]; simp [flatL]
  have HOK : Hid (∀ c ∈ [t], c.ok) := fun c hc => by simp at hc; subst hc; exact ht
  have HFL : Hid ((flatL [t]).length = t.flat.length) := by show _ = _; simp [flatL]
  have HDR := hide (fun k (hk : k < n) => drop_nd (l := ns) (k := k) (by omega))
  clear hs ht he
  generalize t.flat.length = tl at *
  generalize pre.length = p at *
  go_enter Tryz.func16, Tryz.ntmps16
  go_wp2
  go_loop [1, 5] (fun jv ov => ∃ (j : Nat) (ts : List Fm), j ≤ n ∧ jv = .int .i64 j ∧ ov = .int .i64 (ts.length : Nat) ∧ ns.drop j = flatL ts ++ post ∧ (∀ c ∈ ts, c.ok) ∧ j + (flatL ts).length = p + tl ∧ ts.length ≤ 1 + 2 * j) (fun jv _ => n - (intOf jv).toNat)
  case atStart => exact ⟨p, [t], by omega, rfl, rfl, H0.out, HOK.out, by rw [HFL.out], by simp⟩
  case round =>
    obtain ⟨j, ts, hj, rfl, rfl, hd, hok, hlen, htl⟩ := hrel
    by_cases ho : ts.length = 0
    · obtain rfl : ts = [] := List.eq_nil_of_length_eq_zero ho
      have hjp : j = p + tl := by simpa [flatL] using hlen
      clear hd hok hlen htl ho
      subst hjp
      go_wp2
      go_ret
      exact ⟨rfl, rfl⟩
    · match ts, ho with
      | t :: ts, _ =>
        obtain ⟨g1, g2, g3⟩ := trees_step hok
        have hfp := flatL_pos (ts := t :: ts) (by simp)
        have hjn : j < n := by omega
        have hd1 := HDR.out j hjn
        rw [hd, g1, List.cons_append] at hd1
        injection hd1 with e1 e2
        obtain ⟨bb, oo, a', c', rfl, x0, -⟩ := slF_cell HS.out j hjn
        rw [← e1] at x0
        have HPP := hide (HPO.out t.node.op)
        have hp2 := partsN_le t.node.op
        rw [g1, List.length_cons] at hlen
        have HG3 := hide g3
        have HE2 := hide e2
        have hjl : ((t :: ts).length : Int) > 0 := by simp only [List.length_cons]; omega
        rw [List.length_cons] at hjl htl ⊢
        have HG2 := hide g2
        clear hd hok g1 g2 g3 e1 e2 hfp
        generalize partsN t.node.op = pn at HPP hp2 HG2
        generalize t.node.op = op at x0 HPP
        generalize t.kids ++ ts = us at HG2 HG3 HE2 hlen
        generalize ts.length = tn at HG2 hjl htl ⊢
        go_wp2_with (go_at_call 12; refine (HPP.out _).mono ?_; rintro e w' ⟨rfl, hw'⟩; rw [hw']; clear hw' w')
        exact ⟨⟨j + 1, us, by omega, by simp, by rw [HG2.out]; simp, HE2.out.symm, HG3.out, by omega, by rw [HG2.out]; omega⟩, by simp [intOf]; omega⟩
end Go.Proofs.YtafbggbdlcfbdaaGreatDoor

/- The reference's Letter, Dec: contracts. -/
namespace Go.Proofs.YtafbggbdlcfbdaaGreatDoor
open Go.RowKit

theorem ext_letters : ∀ v, v < 5 → (ByteArray.mk #[97, 98, 99, 100, 101]).extract v (v + 1) = bs [ltC v]
  | 0, _ => by decide
  | 1, _ => by decide
  | 2, _ => by decide
  | 3, _ => by decide
  | 4, _ => by decide
  | v + 5, h => by omega
theorem ext_digits : ∀ v, v < 10 → (ByteArray.mk #[48, 49, 50, 51, 52, 53, 54, 55, 56, 57]).extract v (v + 1) = bs [dgC v]
  | 0, _ => by decide
  | 1, _ => by decide
  | 2, _ => by decide
  | 3, _ => by decide
  | 4, _ => by decide
  | 5, _ => by decide
  | 6, _ => by decide
  | 7, _ => by decide
  | 8, _ => by decide
  | 9, _ => by decide
  | v + 10, h => by omega
theorem cut_letter (v : Nat) (hv : v < 5) (W : World) : (Instr.slice 9 (.string ⟨#[97, 98, 99, 100, 101]⟩) (some (.int .i64 (v : Int))) (some (.int .i64 ((v : Int) + 1))) none).run Tryz.prog W = .ok (.string (bs [ltC v])) W := by
  rw [run_slice_string W 9 _ _ _ _ _ Tryz.underlying9 (by omega) (by omega) (by show (v : Int) + 1 ≤ ((5 : Nat) : Int); omega), ← ext_letters v hv]
  rfl
theorem cut_digit (v : Nat) (hv : v < 10) (W : World) : (Instr.slice 9 (.string ⟨#[48, 49, 50, 51, 52, 53, 54, 55, 56, 57]⟩) (some (.int .i64 (v : Int))) (some (.int .i64 ((v : Int) + 1))) none).run Tryz.prog W = .ok (.string (bs [dgC v])) W := by
  rw [run_slice_string W 9 _ _ _ _ _ Tryz.underlying9 (by omega) (by omega) (by show (v : Int) + 1 ≤ ((10 : Nat) : Int); omega), ← ext_digits v hv]
  rfl
set_option maxHeartbeats 2000000 in
set_option maxRecDepth 4000 in
theorem letter_any (v : Nat) (hv : v < 5) (w : World) : Calls Tryz.prog 15 #[.int .i64 (v : Int)] w fun e w' => e = .returned (.string (bs [ltC v])) ∧ w' = w := by
  have hc := cut_letter v hv w
  go_enter Tryz.func15, Tryz.ntmps15
  go_wp2
  go_ret
  exact ⟨rfl, rfl⟩
set_option maxHeartbeats 2000000 in
set_option maxRecDepth 4000 in
/-- The digits of a number that is not below 0. -/
theorem dec_any (n : Nat) (hn : n < 9223372036854775808) (w : World) : Calls Tryz.prog 14 #[.int .i64 (n : Int)] w fun e w' => e = .returned (.string (bs (decL n))) ∧ w' = w := by
  have hz : ¬ (n : Int) < 0 := by omega
  have HN := hide hn
  have hE : bs [] = ⟨#[]⟩ := rfl
  clear hn
  go_enter Tryz.func14, Tryz.ntmps14
  go_wp2
  rw [← hE]
  clear hE
  go_loop [0, 3] (fun nv sv => ∃ (m : Nat) (s : List UInt8), m ≤ n ∧ nv = .int .i64 (m : Int) ∧ sv = .string (bs s) ∧ decL n = decL m ++ s ∧ s.length + (decL m).length ≤ 21) (fun nv _ => (intOf nv).toNat)
  case atStart => exact ⟨n, [], by omega, rfl, rfl, by simp, by have := decL_len n; simp; omega⟩
  case round =>
    obtain ⟨m, s, hm, rfl, rfl, hd, hl⟩ := hrel
    have HD := hide hd
    have HL := hide hl
    have hl2 := decL_len m
    clear hd hl
    by_cases h9 : (m : Int) > 9
    · have hq : (m : Int).tmod 10 = ((m % 10 : Nat) : Int) := by rw [Int.tmod_eq_emod_of_nonneg (by omega)]; omega
      have hk : (m : Int).tdiv 10 = ((m / 10 : Nat) : Int) := by rw [Int.tdiv_eq_ediv_of_nonneg (by omega)]; omega
      have hr10 : m % 10 < 10 := Nat.mod_lt _ (by decide)
      have HST := hide (decL_step (n := m) (by omega) (Nat.lt_of_le_of_lt hm (Nat.lt_trans HN.out (by decide))))
      have hll : (decL (m / 10)).length + 1 = (decL m).length := by rw [HST.out]; simp
      have HLL := hide hll
      clear hl2 hll
      have hkm : m / 10 < m := Nat.div_lt_self (by omega) (by decide)
      generalize m % 10 = r at hq hr10 HST
      generalize m / 10 = q at hk HST HLL hkm
      have hc := cut_digit r hr10 w
      have ha := bs_add (P := Tryz.prog) [dgC r] s (by have := HL.out; simp; omega) w
      have hqb : (q : Int) < 9223372036854775808 := by have := HN.out; omega
      have hwq : wrap64 (q : Int) = q := by unfold wrap64; omega
      go_wp2
      refine ⟨⟨q, dgC r :: s, by omega, rfl, rfl, by rw [HD.out, HST.out]; simp, by have := HL.out; have := HLL.out; simp; omega⟩, ?_⟩
      simp [intOf]
      omega
    · have hr10 : m < 10 := by omega
      have hc := cut_digit m hr10 w
      have ha := bs_add (P := Tryz.prog) [dgC m] s (by have := HL.out; simp; omega) w
      have HST := hide (decL_small hr10)
      clear hl2
      go_wp2
      go_ret
      exact ⟨by rw [HD.out, HST.out]; rfl, rfl⟩
end Go.Proofs.YtafbggbdlcfbdaaGreatDoor

/- The reference's SizeOf, LineFault: contracts. -/
namespace Go.Proofs.YtafbggbdlcfbdaaGreatDoor
open Go.RowKit

/-- One above 12: it is more. -/
def sizeI (C : List Int) : Int := if absT C C.length ≤ 12 then absT C C.length else 13
theorem sizeI_more (C : List Int) {k : Nat} (hk : k ≤ C.length) (h : 12 < absT C k) : sizeI C = 13 := by
  have := absT_mono C hk
  unfold sizeI
  rw [if_neg (by omega)]
theorem sizeI_12 (C : List Int) : (sizeI C ≤ 12 ↔ absT C C.length ≤ 12) ∧ 0 ≤ sizeI C ∧ sizeI C ≤ 13 := by
  have := absT_nn C C.length
  unfold sizeI
  split <;> omega
set_option maxHeartbeats 4000000 in
set_option maxRecDepth 4000 in
theorem sizeOf_any (a : Option Addr) (n cap : Nat) (C : List Int) (w : World) (hs : Sl w a n C) :
    Calls Tryz.prog 23 #[.slice a n cap] w fun e w' => e = .returned (.int .i64 (sizeI C)) ∧ w' = w := by
  have hL := hs.1
  have hML := hs.2.1
  unfold maxLen at hML
  have HS := hide hs
  have HMO := hide (fun k hk h => @sizeI_more C k hk h)
  have HSUC : Hid (∀ k, absT C (k + 1) = absT C k + absI (C.getD k 0)) := fun k => rfl
  have HNN := hide (fun k => absT_nn C k)
  have HEND : Hid (absT C C.length ≤ 12 → sizeI C = absT C C.length) := fun h => by unfold sizeI; rw [if_pos h]
  have HZ : Hid (absT C 0 = 0) := rfl
  rw [hL] at HMO HEND
  clear hs hL
  generalize hA : absT C = A at HMO HSUC HNN HEND HZ
  clear hA
  generalize sizeI C = sz at HMO HEND ⊢
  go_enter Tryz.func23, Tryz.ntmps23
  go_wp2
  go_loop [3, 4] (fun sv iv => ∃ k : Nat, k ≤ n ∧ iv = .int .i64 k ∧ sv = .int .i64 (A k) ∧ A k ≤ 12) (fun _ iv => n - (intOf iv).toNat)
  case atStart => exact ⟨0, by omega, rfl, by rw [HZ.out], by rw [HZ.out]; decide⟩
  case round =>
    obtain ⟨k, hk, rfl, rfl, h12⟩ := hrel
    have hnn := HNN.out k
    by_cases hlt : k < n
    · have hlti : (k : Int) < (n : Int) := by omega
      obtain ⟨b1, o1, rfl, hc⟩ := sl_cell HS.out k hlt
      have hsuc := HSUC.out k
      have HM := hide (HMO.out (k + 1) hlt)
      have hnn2 := HNN.out (k + 1)
      generalize C.getD k 0 = x at hc hsuc
      generalize A k = z at hsuc h12 hnn
      unfold absI at hsuc
      by_cases h1 : x < -12
      · obtain rfl : sz = 13 := HM.out (by rw [if_pos (by omega)] at hsuc; omega)
        clear hsuc hnn hnn2
        go_wp2
        go_ret
        exact ⟨by simp, rfl⟩
      · have h1' : decide (x < -12) = false := by simp; omega
        by_cases h2 : x > 12
        · obtain rfl : sz = 13 := HM.out (by rw [if_neg (by omega)] at hsuc; omega)
          clear hsuc hnn hnn2
          go_wp2
          go_ret
          exact ⟨by simp, rfl⟩
        · have h2' : decide (x > 12) = false := by simp; omega
          by_cases h3 : x < 0
          · rw [if_pos h3] at hsuc
            by_cases h4 : z + -x > 12
            · obtain rfl : sz = 13 := HM.out (by omega)
              clear hsuc hnn2
              go_wp2
              go_ret
              exact ⟨by simp, rfl⟩
            · have HY := hide hsuc
              clear hsuc hnn2
              go_wp2
              go_round
              case rel => exact ⟨k + 1, by omega, by go_num, by rw [HY.out], by have := HY.out; omega⟩
              case measure => simp [intOf]; omega
          · rw [if_neg h3] at hsuc
            by_cases h4 : z + x > 12
            · obtain rfl : sz = 13 := HM.out (by omega)
              clear hsuc hnn2
              go_wp2
              go_ret
              exact ⟨by simp, rfl⟩
            · have HY := hide hsuc
              clear hsuc hnn2
              go_wp2
              go_round
              case rel => exact ⟨k + 1, by omega, by go_num, by rw [HY.out], by have := HY.out; omega⟩
              case measure => simp [intOf]; omega
    · have hlti : ¬ (k : Int) < (n : Int) := by omega
      obtain rfl : k = n := by omega
      have he := HEND.out h12
      go_wp2
      go_ret
      exact ⟨by simp, rfl⟩

end Go.Proofs.YtafbggbdlcfbdaaGreatDoor

/- Package formula: rows of nodes that a call builds by append. -/
namespace Go.Proofs.YtafbggbdlcfbdaaGreatDoor
open Go.RowKit

def ndL (n : Nd) (a : Option Addr) (c : Nat) : List Value := [.int .i64 n.op, .int .i64 n.var, .int .i64 n.oth, .int .i64 n.wd, .int .i64 n.wd2, .int .i64 n.num, .slice a n.cf.length c]
theorem ndL_len (n : Nd) (a : Option Addr) (c : Nat) : (ndL n a c).length = 7 := rfl
theorem infoNd : (Tryz.prog.info? 41).map (fun i => (i.zero, i.size, i.bytes)) = some (some (.agg #[.int .i64 0, .int .i64 0, .int .i64 0, .int .i64 0, .int .i64 0, .int .i64 0, .slice none 0 0]), 7, 72) := by kernel_rfl
theorem news_new (w : World) (l : List Value) (T : TypeId) : ∀ j u, l[j]? = some u → (w.alloc (.cells l.toArray T)).cell? ((⟨w.heap.size, 0, none⟩ : Addr).add j) = some u := fun j u hu => by
  have hadd : (⟨w.heap.size, 0, none⟩ : Addr).add j = ⟨w.heap.size, j, none⟩ := by unfold Addr.add; split <;> simp_all
  rw [hadd, cell_of_row _ _ j l.toArray T (0, 0) (heap_alloc_last w _), ← hu]
  simp
end Go.Proofs.YtafbggbdlcfbdaaGreatDoor
