/- 8 texts in one. -/
import Derived.ArgAppend
import Derived.BigRegion
import Derived.Deep.AppendLies
import Derived.Deep.LoopGhost
import Derived.Deep.MidRow
import Derived.Deep.RegionHeldLaw
import Derived.Deep.RegionLaw
import Derived.Deep.RegionWith
import Derived.DeepKeys4
import Derived.Laws.AppendOwnNone
import Derived.LoopIn
import Derived.LoopNIn
import Derived.Maps.OwnSet
import Derived.OwnWalk
import Derived.OwnWalkIn
import Derived.RangeFuncBound
import Derived.RangeFuncCalls
import Derived.RangeFuncLeaves
import Derived.RangeFuncNested
import Derived.Shelf.Abstract
import Derived.Shelf.RegionOpen
import Derived.Sort.LoopGhostIn
import Derived.TacticsInMore
import Derived.WalkKit
import Derived.OpenShut
import Derived.Test.YtafbggbdlcfbdaaDoorZMa
import Derived.Test.YtafbggbdlcfbdaaDoorZG
import Derived.Test.YtafbggbdlcfbdaaDoorB
import Derived.Test.YtafbggbdlcfbdaaDoorCf
import Derived.Test.YtafbggbdlcfbdaaDoorZLb
import Derived.Test.YtafbggbdlcfbdaaDoorZNx
import Derived.Test.YtafbggbdlcfbdaaDoorZF
/- Sums of numbers: an automaton that counts along, cut off where it is too far; mathematics. -/
namespace Go.Proofs.YtafbggbdlcfbdaaDoor
open Go.RowKit

/-- The first k of coefficients, each times what stands beside it, together. -/
def sumT (C : List Int) (f : Nat → Int) : Nat → Int
  | 0 => 0
  | k + 1 => sumT C f k + C.getD k 0 * f k
/-- .. without signs. -/
def absI (x : Int) : Int := if x < 0 then -x else x
def absT (C : List Int) : Nat → Int
  | 0 => 0
  | k + 1 => absT C k + absI (C.getD k 0)
theorem absI_nn (x : Int) : 0 ≤ absI x := by unfold absI; split <;> omega
theorem absT_nn (C : List Int) (k : Nat) : 0 ≤ absT C k := by
  induction k with
  | zero => exact Int.le_refl 0
  | succ k ih => have := absI_nn (C.getD k 0); show 0 ≤ absT C k + absI (C.getD k 0); omega
theorem absT_mono (C : List Int) {j k : Nat} (h : j ≤ k) : absT C j ≤ absT C k := by
  induction k with
  | zero =>
    obtain rfl : j = 0 := by omega
    exact Int.le_refl _
  | succ k ih =>
    by_cases e : j = k + 1
    · subst e; exact Int.le_refl _
    · have := ih (by omega)
      have := absI_nn (C.getD k 0)
      show _ ≤ absT C k + absI (C.getD k 0)
      omega
theorem absT_at (C : List Int) {j k : Nat} (h : j < k) : absI (C.getD j 0) ≤ absT C k := by
  have h1 := absT_mono C (show j + 1 ≤ k from h)
  have h2 := absT_nn C j
  have h3 : absT C (j + 1) = absT C j + absI (C.getD j 0) := rfl
  omega
def lnEnd (c : Int) (less : Bool) (x : Int) : Bool := if less = true then decide (x + c < 0) else decide (x + c = 0)
end Go.Proofs.YtafbggbdlcfbdaaDoor

/- Automata with outputs: what is wrong with one, what it says; mathematics. -/
namespace Go.Proofs.YtafbggbdlcfbdaaDoor
open Go.RowKit

/-- What is said behind a word; at a number. -/
def sayW (N : List (List Int)) (O : List Int) (w : List Int) : Int := O.getD (runL N w) 0
def sayN (b : Int) (N : List (List Int)) (O : List Int) (n : Int) : Int := sayW N O (dgs b n)
end Go.Proofs.YtafbggbdlcfbdaaDoor

/- Formulas: mathematics: nodes, what is wrong with one, trees. -/
namespace Go.Proofs.YtafbggbdlcfbdaaDoor
open Go.RowKit

/-- A node of a formula. -/
structure Nd where
  op : Int
  var : Int
  oth : Int
  wd : Int
  wd2 : Int
  num : Int
  cf : List Int
deriving DecidableEq
def zNd : Nd := ⟨0, 0, 0, 0, 0, 0, []⟩
/-- How many parts a node has. -/
def partsN (op : Int) : Nat := if op = 5 ∨ op = 8 ∨ op = 9 then 1 else if op = 6 ∨ op = 7 then 2 else 0
def lineP (n : Nd) : Prop := n.op = 1 ∨ n.op = 2
def varsP (n : Nd) : Prop := n.op = 3 ∨ n.op = 4 ∨ n.op = 8 ∨ n.op = 9
def wordsP (n : Nd) : Prop := n.op = 3 ∨ n.op = 4
instance (n : Nd) : Decidable (lineP n) := by unfold lineP; exact inferInstance
instance (n : Nd) : Decidable (varsP n) := by unfold varsP; exact inferInstance
instance (n : Nd) : Decidable (wordsP n) := by unfold wordsP; exact inferInstance
/-- A node is well formed. -/
def ndR (n : Nd) : Prop := (1 ≤ n.op ∧ n.op ≤ 9) ∧ (varsP n → 0 ≤ n.var ∧ n.var < 5) ∧ (n.op = 4 → 0 ≤ n.oth ∧ n.oth < 5) ∧ (wordsP n → 0 ≤ n.wd ∧ n.wd < 3) ∧ (n.op = 4 → 0 ≤ n.wd2 ∧ n.wd2 < 3) ∧ (n.op = 3 → 0 ≤ n.num ∧ n.num ≤ 9) ∧ (lineP n → n.cf.length ≤ 5 ∧ absT n.cf n.cf.length ≤ 12 ∧ -60 ≤ n.num ∧ n.num ≤ 60)
def ndS (n : Nd) : Prop := (¬ varsP n → n.var = 0) ∧ (n.op ≠ 4 → n.oth = 0 ∧ n.wd2 = 0) ∧ (¬ wordsP n → n.wd = 0) ∧ (¬ lineP n → n.op ≠ 3 → n.num = 0) ∧ (¬ lineP n → n.cf.length = 0) ∧ (0 < n.cf.length → n.cf.getD (n.cf.length - 1) 0 ≠ 0)
instance (n : Nd) : Decidable (ndR n) := by unfold ndR; exact inferInstance
instance (n : Nd) : Decidable (ndS n) := by unfold ndS; exact inferInstance
def ndF (n : Nd) : Int := if ndR n then (if ndS n then 0 else 2) else 1
theorem ndF_zero {n : Nd} (h : ndF n = 0) : ndR n ∧ ndS n := by
  unfold ndF at h
  by_cases h1 : ndR n
  · rw [if_pos h1] at h
    by_cases h2 : ndS n
    · exact ⟨h1, h2⟩
    · rw [if_neg h2] at h; omega
  · rw [if_neg h1] at h; omega
/-- Node by node: how many parts are open, where it is wrong. -/
def ffGo : List Nd → Nat → Nat → Nat × Int
  | [], i, o => if 0 < o then (i, 4) else (0, 0)
  | n :: t, i, o => if ndF n = 0 then (if o = 0 then (i, 2) else ffGo t (i + 1) (o - 1 + partsN n.op)) else (i, ndF n)
def formP (f : List Nd) : Nat × Int := if f.length = 0 then (0, 4) else if 40 < f.length then (0, 3) else ffGo f 0 1
/-- A formula as a tree. -/
inductive Fm where
  | at0 (n : Nd)
  | un (n : Nd) (f : Fm)
  | bin (n : Nd) (f g : Fm)
def Fm.flat : Fm → List Nd
  | .at0 n => [n]
  | .un n f => n :: f.flat
  | .bin n f g => n :: (f.flat ++ g.flat)
/-- Each node has as many parts as it should, and none is wrong. -/
def Fm.ok : Fm → Prop
  | .at0 n => ndF n = 0 ∧ partsN n.op = 0
  | .un n f => ndF n = 0 ∧ partsN n.op = 1 ∧ f.ok
  | .bin n f g => ndF n = 0 ∧ partsN n.op = 2 ∧ f.ok ∧ g.ok
def flatL (ts : List Fm) : List Nd := (ts.map Fm.flat).flatten
theorem ffGo_trees : ∀ (l : List Nd) (i o : Nat), (ffGo l i o).2 = 0 → ∃ ts : List Fm, ts.length = o ∧ l = flatL ts ∧ ∀ t ∈ ts, t.ok := by
  intro l
  induction l with
  | nil =>
    intro i o h
    unfold ffGo at h
    by_cases h0 : 0 < o
    · rw [if_pos h0] at h; simp at h
    · obtain rfl : o = 0 := by omega
      exact ⟨[], rfl, rfl, fun t ht => by cases ht⟩
  | cons n t ih =>
    intro i o h
    unfold ffGo at h
    by_cases hn : ndF n = 0
    · rw [if_pos hn] at h
      by_cases h0 : o = 0
      · rw [if_pos h0] at h; simp at h
      · rw [if_neg h0] at h
        obtain ⟨ts, h1, h2, h3⟩ := ih _ _ h
        obtain ⟨k, rfl⟩ : ∃ k, o = k + 1 := ⟨o - 1, by omega⟩
        rw [Nat.add_sub_cancel] at h1
        have hp : partsN n.op = 0 ∨ partsN n.op = 1 ∨ partsN n.op = 2 := by unfold partsN; split; exact .inr (.inl rfl); split; exact .inr (.inr rfl); exact .inl rfl
        rcases hp with hp | hp | hp
        · rw [hp] at h1
          refine ⟨.at0 n :: ts, by simp [h1], by rw [h2]; rfl, fun t ht => ?_⟩
          rcases List.mem_cons.1 ht with rfl | ht
          · exact ⟨hn, hp⟩
          · exact h3 t ht
        · rw [hp] at h1
          match ts, h1, h2, h3 with
          | f :: ts, h1, h2, h3 =>
            refine ⟨.un n f :: ts, by simpa using h1, by rw [h2]; rfl, fun t ht => ?_⟩
            rcases List.mem_cons.1 ht with rfl | ht
            · exact ⟨hn, hp, h3 f (by simp)⟩
            · exact h3 t (by simp [ht])
        · rw [hp] at h1
          match ts, h1, h2, h3 with
          | [f], h1, h2, h3 => simp at h1
          | f :: g :: ts, h1, h2, h3 =>
            refine ⟨.bin n f g :: ts, by simp at h1 ⊢; omega, by rw [h2]; simp [flatL, Fm.flat], fun t ht => ?_⟩
            rcases List.mem_cons.1 ht with rfl | ht
            · exact ⟨hn, hp, h3 f (by simp), h3 g (by simp)⟩
            · exact h3 t (by simp [ht])
    · rw [if_neg hn] at h
      exact absurd h hn
/-- What is right is a tree. -/
theorem form_tree {f : List Nd} (h : (formP f).2 = 0) : ∃ t : Fm, f = t.flat ∧ t.ok ∧ f.length ≤ 40 ∧ 0 < f.length := by
  unfold formP at h
  by_cases h0 : f.length = 0
  · rw [if_pos h0] at h; simp at h
  · rw [if_neg h0] at h
    by_cases h1 : 40 < f.length
    · rw [if_pos h1] at h; simp at h
    · rw [if_neg h1] at h
      obtain ⟨ts, g1, g2, g3⟩ := ffGo_trees _ _ _ h
      match ts, g1, g2, g3 with
      | [t], g1, g2, g3 => exact ⟨t, by rw [g2]; simp [flatL], g3 t (by simp), by omega, by omega⟩
theorem flat_pos (t : Fm) : 0 < t.flat.length := by cases t <;> simp [Fm.flat]
/-- Does a node itself use a variable? -/
def useB (n : Nd) (v : Int) : Bool := if n.op = 1 ∨ n.op = 2 then decide (v < (n.cf.length : Int)) && decide (n.cf.getD v.toNat 0 ≠ 0) else (decide (n.op = 3 ∨ n.op = 4) && decide (n.var = v)) || (decide (n.op = 4) && decide (n.oth = v))
/-- Does it stand free? -/
def Fm.fre : Fm → Int → Bool
  | .at0 n, v => if (n.op = 8 ∨ n.op = 9) ∧ n.var = v then false else useB n v
  | .un n f, v => if (n.op = 8 ∨ n.op = 9) ∧ n.var = v then false else useB n v || f.fre v
  | .bin n f g, v => if (n.op = 8 ∨ n.op = 9) ∧ n.var = v then false else useB n v || f.fre v || g.fre v
def Fm.node : Fm → Nd
  | .at0 n => n
  | .un n _ => n
  | .bin n _ _ => n
def Fm.kids : Fm → List Fm
  | .at0 _ => []
  | .un _ f => [f]
  | .bin _ f g => [f, g]
end Go.Proofs.YtafbggbdlcfbdaaDoor

/- Claims as texts: mathematics: numbers, sums, formulas as bytes. -/
namespace Go.Proofs.YtafbggbdlcfbdaaDoor
open Go.RowKit

/-- Bytes as a string. -/
def bs (l : List UInt8) : ByteArray := ⟨l.toArray⟩
theorem bs_size (l : List UInt8) : (bs l).size = l.length := by show l.toArray.size = _; simp
theorem bs_toList (l : List UInt8) : (bs l).toList = l := ByteArray.toList_mk l
theorem bs_app (x y : List UInt8) : bs x ++ bs y = bs (x ++ y) := ByteArray.mk_append_mk x y
theorem bs_add {P : Program} (x y : List UInt8) (h : x.length + y.length ≤ 1000000000) (W : World) : (Op.stringOp .add (bs x) (bs y)).run P W = .ok (.string (bs (x ++ y))) W := by
  rw [run_string_add_sum W _ _ (by rw [bs_size, bs_size]; omega), bs_app]
def dgC (d : Nat) : UInt8 := UInt8.ofNat (48 + d)
def ltC (v : Nat) : UInt8 := UInt8.ofNat (97 + v)
theorem dgC_nat {d : Nat} (h : d < 10) : (dgC d).toNat = 48 + d := by
  unfold dgC
  rw [UInt8.toNat_ofNat']
  omega
theorem ltC_nat {d : Nat} (h : d < 10) : (ltC d).toNat = 97 + d := by
  unfold ltC
  rw [UInt8.toNat_ofNat']
  omega
/-- The digits of a number. -/
def decF : Nat → Nat → List UInt8
  | 0, n => [dgC (n % 10)]
  | k + 1, n => if n < 10 then [dgC n] else decF k (n / 10) ++ [dgC (n % 10)]
def decL (n : Nat) : List UInt8 := decF 20 n
theorem decF_more : ∀ (k n : Nat), n < 10 ^ (k + 1) → decF (k + 1) n = decF k n := by
  intro k
  induction k with
  | zero =>
    intro n h
    have h' : n < 10 := by simpa using h
    simp only [decF]
    rw [if_pos h', Nat.mod_eq_of_lt h']
  | succ k ih =>
    intro n h
    show (if n < 10 then [dgC n] else decF (k + 1) (n / 10) ++ [dgC (n % 10)]) = (if n < 10 then [dgC n] else decF k (n / 10) ++ [dgC (n % 10)])
    by_cases h1 : n < 10
    · rw [if_pos h1, if_pos h1]
    · rw [if_neg h1, if_neg h1, ih (n / 10) (by rw [Nat.div_lt_iff_lt_mul (by decide)]; rw [Nat.pow_succ] at h; exact h)]
theorem decL_small {n : Nat} (h : n < 10) : decL n = [dgC n] := by
  unfold decL
  rw [decF, if_pos h]
theorem decL_step {n : Nat} (h : ¬ n < 10) (hn : n < 10 ^ 20) : decL n = decL (n / 10) ++ [dgC (n % 10)] := by
  unfold decL
  rw [show (20 : Nat) = 19 + 1 from rfl, decF, if_neg h, decF_more 19 (n / 10) (by rw [Nat.div_lt_iff_lt_mul (by decide)]; have : (10 : Nat) ^ 20 * 10 = 10 ^ (19 + 1) * 10 := rfl; omega)]
theorem decF_len : ∀ (k n : Nat), 1 ≤ (decF k n).length ∧ (decF k n).length ≤ k + 1 := by
  intro k
  induction k with
  | zero => intro n; exact ⟨by simp [decF], by simp [decF]⟩
  | succ k ih =>
    intro n
    rw [decF]
    split
    · simp
    · have := ih (n / 10)
      rw [List.length_append]
      simp
      omega
theorem decL_len (n : Nat) : 1 ≤ (decL n).length ∧ (decL n).length ≤ 21 := decF_len 20 n
/-- What a sum has on one side: a part behind what was there. -/
def joinT (s p : List UInt8) : List UInt8 := if s.length = 0 then p else (s ++ [43]) ++ p
def partT (v : Nat) (c : Int) : List UInt8 := if c > 1 then decL c.toNat ++ [ltC v] else [ltC v]
def sideK (cf : List Int) (sg : Int) : Nat → List UInt8
  | 0 => []
  | k + 1 => if sg * cf.getD k 0 < 1 then sideK cf sg k else joinT (sideK cf sg k) (partT k (sg * cf.getD k 0))
def sideM (cf : List Int) (num sg : Int) : List UInt8 := if sg * num > 0 then joinT (sideK cf sg cf.length) (decL (sg * num).toNat) else sideK cf sg cf.length
def sideT (cf : List Int) (num sg : Int) : List UInt8 := if (sideM cf num sg).length = 0 then [48] else sideM cf num sg
theorem partT_len (v : Nat) (c : Int) : 1 ≤ (partT v c).length ∧ (partT v c).length ≤ 22 := by
  unfold partT
  have := decL_len c.toNat
  split <;> simp <;> omega
theorem joinT_len (s p : List UInt8) : (joinT s p).length ≤ s.length + 1 + p.length := by
  unfold joinT
  split <;> simp <;> omega
theorem sideK_len (cf : List Int) (sg : Int) : ∀ k, (sideK cf sg k).length ≤ 23 * k := by
  intro k
  induction k with
  | zero => simp [sideK]
  | succ k ih =>
    rw [sideK]
    split
    · omega
    · have h1 := joinT_len (sideK cf sg k) (partT k (sg * cf.getD k 0))
      have h2 := partT_len k (sg * cf.getD k 0)
      omega
theorem sideM_len (cf : List Int) (num sg : Int) : (sideM cf num sg).length ≤ 23 * cf.length + 22 := by
  have h := sideK_len cf sg cf.length
  unfold sideM
  split
  · have h1 := joinT_len (sideK cf sg cf.length) (decL (sg * num).toNat)
    have h2 := decL_len (sg * num).toNat
    omega
  · omega
theorem sideT_len (cf : List Int) (num sg : Int) : (sideT cf num sg).length ≤ 23 * cf.length + 22 := by
  have h := sideM_len cf num sg
  unfold sideT
  split
  · simp
  · exact h
/-- What has no parts, as a text. -/
def atomT (n : Nd) : List UInt8 :=
  if n.op = 1 then sideT n.cf n.num 1 ++ [61] ++ sideT n.cf n.num (-1)
  else if n.op = 2 then sideT n.cf n.num 1 ++ [60] ++ sideT n.cf n.num (-1)
  else if n.op = 3 then [64] ++ decL n.wd.toNat ++ [91] ++ [ltC n.var.toNat] ++ [93, 61] ++ decL n.num.toNat
  else [64] ++ decL n.wd.toNat ++ [91] ++ [ltC n.var.toNat] ++ [93, 61, 64] ++ decL n.wd2.toNat ++ [91] ++ [ltC n.oth.toNat] ++ [93]
def unT (n : Nd) (x : List UInt8) : List UInt8 := if n.op = 5 then [126] ++ x else if n.op = 8 then [69] ++ [ltC n.var.toNat] ++ [58] ++ x else [65] ++ [ltC n.var.toNat] ++ [58] ++ x
def binT (n : Nd) (x y : List UInt8) : List UInt8 := if n.op = 6 then [40] ++ x ++ [38] ++ y ++ [41] else [40] ++ x ++ [124] ++ y ++ [41]
def Fm.txt : Fm → List UInt8
  | .at0 n => atomT n
  | .un n f => unT n f.txt
  | .bin n f g => binT n f.txt g.txt
theorem atomT_len (n : Nd) (h : n.cf.length ≤ 5) : (atomT n).length ≤ 400 := by
  unfold atomT
  have h1 := sideT_len n.cf n.num 1
  have h2 := sideT_len n.cf n.num (-1)
  have h3 := decL_len n.wd.toNat
  have h4 := decL_len n.wd2.toNat
  have h5 := decL_len n.num.toNat
  split
  · simp; omega
  split
  · simp; omega
  split
  · simp; omega
  · simp; omega
theorem ndF_cf {n : Nd} (h : ndF n = 0) : n.cf.length ≤ 5 := by
  obtain ⟨hr, hs⟩ := ndF_zero h
  by_cases hl : lineP n
  · exact (hr.2.2.2.2.2.2 hl).1
  · have := hs.2.2.2.2.1 hl
    omega
theorem txt_len (t : Fm) (h : t.ok) : t.txt.length ≤ 400 * t.flat.length := by
  induction t with
  | at0 n =>
    have := atomT_len n (ndF_cf h.1)
    simp only [Fm.txt, Fm.flat, List.length_cons, List.length_nil]
    omega
  | un n f ih =>
    have := ih h.2.2
    simp only [Fm.txt, Fm.flat, List.length_cons]
    unfold unT
    split
    · simp; omega
    split
    · simp; omega
    · simp; omega
  | bin n f g ihf ihg =>
    have h1 := ihf h.2.2.1
    have h2 := ihg h.2.2.2
    simp only [Fm.txt, Fm.flat, List.length_cons, List.length_append]
    unfold binT
    split
    · simp; omega
    · simp; omega
end Go.Proofs.YtafbggbdlcfbdaaDoor

/- Formulas in memory: a slice of nodes reads as a list. -/
namespace Go.Proofs.YtafbggbdlcfbdaaDoor
open Go.RowKit

/-- Seven cells are a node. -/
def NdC (W : World) (b o : Nat) (n : Nd) (a : Option Addr) (c : Nat) : Prop :=
  W.cell? ⟨b, o, none⟩ = some (.int .i64 n.op) ∧ W.cell? ⟨b, o + 1, none⟩ = some (.int .i64 n.var) ∧ W.cell? ⟨b, o + 2, none⟩ = some (.int .i64 n.oth) ∧ W.cell? ⟨b, o + 3, none⟩ = some (.int .i64 n.wd) ∧ W.cell? ⟨b, o + 4, none⟩ = some (.int .i64 n.wd2) ∧ W.cell? ⟨b, o + 5, none⟩ = some (.int .i64 n.num) ∧ W.cell? ⟨b, o + 6, none⟩ = some (.slice a n.cf.length c) ∧ Sl W a n.cf.length n.cf
def ndWf (n : Nd) : Prop := ∀ x ∈ [n.op, n.var, n.oth, n.wd, n.wd2, n.num], (Lit.int .i64 x).wf = true
def SlF (W : World) (a : Option Addr) (len : Nat) (ns : List Nd) : Prop :=
  ns.length = len ∧ len ≤ maxLen ∧ (∀ n ∈ ns, ndWf n) ∧ (len = 0 ∨ ∃ b o, a = some ⟨b, o, none⟩ ∧ ∀ i, i < len → ∃ a' c', NdC W b (o + i * 7) (ns.getD i zNd) a' c')
theorem ndC_below {W W' : World} {b o : Nat} {n : Nd} {a : Option Addr} {c : Nat} (h : NdC W b o n a c) (hb : Below W.heap.size W W') : NdC W' b o n a c := by
  obtain ⟨h0, h1, h2, h3, h4, h5, h6, h7⟩ := h
  have hk : ∀ (k : Nat) (v : Value), W.cell? ⟨b, k, none⟩ = some v → W'.cell? ⟨b, k, none⟩ = some v := fun k v h => (hb.cell (p := ⟨b, k, none⟩) (World.block_lt_of_cell? W _ h)).trans h
  exact ⟨hk _ _ h0, hk _ _ h1, hk _ _ h2, hk _ _ h3, hk _ _ h4, hk _ _ h5, hk _ _ h6, sl_below h7 hb⟩
theorem slF_below {W W' : World} {a : Option Addr} {len : Nat} {ns : List Nd} (h : SlF W a len ns) (hb : Below W.heap.size W W') : SlF W' a len ns := by
  obtain ⟨h1, h2, h3, h4⟩ := h
  refine ⟨h1, h2, h3, ?_⟩
  rcases h4 with h4 | ⟨b, o, e, h4⟩
  · exact .inl h4
  · refine .inr ⟨b, o, e, fun i hi => ?_⟩
    obtain ⟨a', c', hc⟩ := h4 i hi
    exact ⟨a', c', ndC_below hc hb⟩
theorem slF_cell {W : World} {a : Option Addr} {len : Nat} {ns : List Nd} (h : SlF W a len ns) (i : Nat) (hi : i < len) : ∃ b o a' c', a = some ⟨b, o, none⟩ ∧ NdC W b (o + i * 7) (ns.getD i zNd) a' c' := by
  rcases h.2.2.2 with h4 | ⟨b, o, e, h4⟩
  · omega
  · obtain ⟨a', c', hc⟩ := h4 i hi
    exact ⟨b, o, a', c', e, hc⟩
end Go.Proofs.YtafbggbdlcfbdaaDoor

/- The reference's PartsOf, FormFault, EndOf: contracts. -/
namespace Go.Proofs.YtafbggbdlcfbdaaDoor
open Go.RowKit

/-- A node as a value. -/
def ndV (n : Nd) (a : Option Addr) (c : Nat) : Value := .agg #[.int .i64 n.op, .int .i64 n.var, .int .i64 n.oth, .int .i64 n.wd, .int .i64 n.wd2, .int .i64 n.num, .slice a n.cf.length c]
theorem partsN_le (op : Int) : partsN op ≤ 2 := by unfold partsN; split; decide; split <;> decide
theorem drop_nd {l : List Nd} {k : Nat} (h : k < l.length) : l.drop k = l.getD k zNd :: l.drop (k + 1) := by
  rw [List.drop_eq_getElem_cons h]
  simp [List.getD, h]
end Go.Proofs.YtafbggbdlcfbdaaDoor

/- Package formula: rows of nodes that a call builds by append. -/
namespace Go.Proofs.YtafbggbdlcfbdaaDoor
open Go.RowKit

def ndL (n : Nd) (a : Option Addr) (c : Nat) : List Value := [.int .i64 n.op, .int .i64 n.var, .int .i64 n.oth, .int .i64 n.wd, .int .i64 n.wd2, .int .i64 n.num, .slice a n.cf.length c]
theorem infoNd : (Tryd.prog.info? 39).map (fun i => (i.zero, i.size, i.bytes)) = some (some (.agg #[.int .i64 0, .int .i64 0, .int .i64 0, .int .i64 0, .int .i64 0, .int .i64 0, .slice none 0 0]), 7, 72) := by kernel_rfl
theorem news_new (w : World) (l : List Value) (T : TypeId) : ∀ j u, l[j]? = some u → (w.alloc (.cells l.toArray T)).cell? ((⟨w.heap.size, 0, none⟩ : Addr).add j) = some u := fun j u hu => by
  have hadd : (⟨w.heap.size, 0, none⟩ : Addr).add j = ⟨w.heap.size, j, none⟩ := by unfold Addr.add; split <;> simp_all
  rw [hadd, cell_of_row _ _ j l.toArray T (0, 0) (heap_alloc_last w _), ← hu]
  simp
end Go.Proofs.YtafbggbdlcfbdaaDoor

/- The law TrackBack: what is spread and spread back, mathematics; filbertsame.Pick: contract. -/
namespace Go.Proofs.YtafbggbdlcfbdaaDoor
open Go.RowKit

def pickN (c : Int) (n : Nat) : Nat := ((if c < 0 then -(c + 1) else c) % (n : Int)).toNat
theorem pickN_lt (c : Int) {n : Nat} (hn : 0 < n) : pickN c n < n := by
  unfold pickN
  have h := Int.emod_lt_of_pos (if c < 0 then -(c + 1) else c) (show (0 : Int) < (n : Int) by omega)
  omega
set_option maxHeartbeats 1000000 in
set_option maxRecDepth 4000 in
theorem pick_any (c : Int) (n : Nat) (w : World) (hn : 0 < n) (hn5 : n ≤ 100000) (hc : (Lit.int .i64 c).wf = true) :
    Calls Tryd.prog 8 #[.int .i64 c, .int .i64 (n : Int)] w fun e w' => e = .returned (.int .i64 (pickN c n : Int)) ∧ w' = w := by
  have hb := bounds_i64 hc
  have hn0 : ((n : Int) == 0) = false := by simp; omega
  by_cases h0 : c < 0
  · have he : (pickN c n : Int) = -(c + 1) % (n : Int) := by
      unfold pickN
      rw [if_pos h0]
      have := Int.emod_nonneg (-(c + 1)) (show (n : Int) ≠ 0 by omega)
      omega
    have hn1 : 0 ≤ -(c + 1) := by omega
    have hn2 : -(c + 1) ≤ 9223372036854775807 := by omega
    have hd : decide (c < 0) = true := by simpa using h0
    have ht : -((c + 1).tmod (n : Int)) = -(c + 1) % (n : Int) := by rw [← Int.neg_tmod, Int.tmod_eq_emod_of_nonneg hn1]
    have hw1 : IntKind.i64.wrap (c + 1) = c + 1 := by rw [IntKind.wrap_i64]; omega
    have hw2 : IntKind.i64.wrap (-(c + 1)) = -(c + 1) := by rw [IntKind.wrap_i64]; omega
    rw [he]
    go_enter Tryd.func8, Tryd.ntmps8
    go_wp2
    go_ret
    exact ⟨by simp, rfl⟩
  · have he : (pickN c n : Int) = c % (n : Int) := by
      unfold pickN
      rw [if_neg h0]
      have := Int.emod_nonneg c (show (n : Int) ≠ 0 by omega)
      omega
    have hn1 : 0 ≤ c := by omega
    have hd : decide (c < 0) = false := by simpa using h0
    rw [he]
    go_enter Tryd.func8, Tryd.ntmps8
    go_wp2
    go_ret
    exact ⟨by simp, rfl⟩
end Go.Proofs.YtafbggbdlcfbdaaDoor
