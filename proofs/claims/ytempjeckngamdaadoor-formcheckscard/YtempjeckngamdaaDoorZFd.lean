/- 4 texts in one. -/
import Derived.Deep.Slices
import Derived.ArgAppend
import Derived.BigRegion
import Derived.Deep.AppendLies
import Derived.Deep.LoopGhost
import Derived.Deep.MidRow
import Derived.Deep.RegionHeldLaw
import Derived.Deep.RegionLaw
import Derived.Deep.RegionWith
import Derived.DeepKeys4
import Derived.LoopIn
import Derived.LoopNIn
import Derived.Maps.OwnSet
import Derived.OwnWalkIn
import Derived.RangeFuncBound
import Derived.RangeFuncCalls
import Derived.RangeFuncLeaves
import Derived.RangeFuncNested
import Derived.Shelf.Abstract
import Derived.Shelf.RegionOpen
import Derived.Sort.LoopGhostIn
import Derived.TacticsInMore
import Derived.WalkKit
import Derived.Test.YtempjeckngamdaaDoorFb
import Derived.Test.YtempjeckngamdaaDoorZEg
import Derived.Test.YtempjeckngamdaaDoorMa
import Derived.Test.YtempjeckngamdaaDoorZG
import Derived.Test.YtempjeckngamdaaDoorZAx
import Derived.Test.YtempjeckngamdaaDoorCf
import Derived.Test.YtempjeckngamdaaDoorNx
import Derived.Test.YtempjeckngamdaaDoorRe
/- Automata with outputs, in a slice, that came in: opened. -/
namespace Go.Proofs.YtempjeckngamdaaDoor
open Go.ChangeShapes Go.WideShapes Go.ChangeAt Go.RowKit Go.Joins Go.Deep

/-- An automaton with outputs. -/
structure Om where
  b : Int
  N : List (List Int)
  O : List Int
instance : Inhabited Om := ⟨⟨0, [], []⟩⟩
def zOm : Om := ⟨0, [], []⟩
end Go.Proofs.YtempjeckngamdaaDoor

/- Formulas: mathematics: renaming, bounding, truth. -/
namespace Go.Proofs.YtempjeckngamdaaDoor
open Go.RowKit

/-- Behind the last one that is not 0. -/
def lastN (l : List Int) : Nat → Nat
  | 0 => 0
  | k + 1 => if l.getD k 0 = 0 then lastN l k else k + 1
def trimL (l : List Int) : List Int := l.take (lastN l l.length)
def zer5 : List Int := [0, 0, 0, 0, 0]
def movK (to cf : List Int) : Nat → List Int
  | 0 => zer5
  | k + 1 => (movK to cf k).set (to.getD k 0).toNat (cf.getD k 0)
def movL (to cf : List Int) : List Int := movK to cf cf.length
/-- New names, each of another one. -/
def Names5 (to : List Int) : Prop := to.length = 5 ∧ (∀ i, i < 5 → 0 ≤ to.getD i 0 ∧ to.getD i 0 < 5) ∧ ∀ i j, i < 5 → j < 5 → to.getD i 0 = to.getD j 0 → i = j
def renN (to : List Int) (n : Nd) : Nd := ⟨n.op, if n.op = 3 ∨ n.op = 4 ∨ n.op = 8 ∨ n.op = 9 then to.getD n.var.toNat 0 else n.var, if n.op = 4 then to.getD n.oth.toNat 0 else n.oth, n.wd, n.wd2, n.num, trimL (movL to n.cf)⟩
/-- What is wrong with the i-th new name. -/
def nameC (to : List Int) (i : Nat) : Int := if 0 ≤ to.getD i 0 ∧ to.getD i 0 < 5 then (if ∃ k, k < i ∧ to.getD k 0 = to.getD i 0 then 6 else 0) else 1
def namesC (to : List Int) : Int := if to.length = 5 then firstC ((List.range 5).map (nameC to)) else 2
def renC (ns : List Nd) (to : List Int) : Int := if (formP ns).2 = 0 then namesC to else (formP ns).2
def renL (ns : List Nd) (to : List Int) : List Nd := if renC ns to = 0 then ns.map (renN to) else []
theorem lastN_le (l : List Int) (k : Nat) : lastN l k ≤ k := by
  induction k with
  | zero => exact Nat.le_refl _
  | succ k ih => unfold lastN; split <;> omega
theorem lastN_zero (l : List Int) (k : Nat) : ∀ i, lastN l k ≤ i → i < k → l.getD i 0 = 0 := by
  induction k with
  | zero => intro i h1 h2; omega
  | succ k ih =>
    intro i h1 h2
    unfold lastN at h1
    by_cases h : l.getD k 0 = 0
    · rw [if_pos h] at h1
      by_cases e : i = k
      · subst e; exact h
      · exact ih i h1 (by omega)
    · rw [if_neg h] at h1; omega
theorem lastN_last (l : List Int) (k : Nat) (h : 0 < lastN l k) : l.getD (lastN l k - 1) 0 ≠ 0 := by
  induction k with
  | zero => unfold lastN at h; omega
  | succ k ih =>
    unfold lastN at h ⊢
    by_cases e : l.getD k 0 = 0
    · rw [if_pos e] at h ⊢; exact ih h
    · rw [if_neg e] at h ⊢; exact e
theorem lastN_is {l : List Int} {k m : Nat} (hm : m ≤ k) (h1 : ∀ i, m ≤ i → i < k → l.getD i 0 = 0) (h2 : 0 < m → l.getD (m - 1) 0 ≠ 0) : lastN l k = m := by
  by_cases h : lastN l k < m
  · exact absurd (lastN_zero l k (m - 1) (by omega) (by omega)) (h2 (by omega))
  · by_cases h' : m < lastN l k
    · exact absurd (h1 (lastN l k - 1) (by omega) (by have := lastN_le l k; omega)) (lastN_last l k (by omega))
    · omega
theorem getD_big {l : List Int} {i : Nat} (h : l.length ≤ i) : l.getD i 0 = 0 := by simp [List.getD, h]
theorem set_getD (l : List Int) (j : Nat) (c : Int) (i : Nat) : (l.set j c).getD i 0 = if i = j ∧ j < l.length then c else l.getD i 0 := by
  by_cases e : i = j
  · subst e
    by_cases h : i < l.length
    · rw [if_pos ⟨rfl, h⟩]; simp [List.getD, h]
    · rw [if_neg (fun q => h q.2), getD_big (by rw [List.length_set]; omega), getD_big (by omega)]
  · rw [if_neg (fun q => e q.1)]
    simp only [List.getD]
    rw [List.getElem?_set_ne (Ne.symm e)]
theorem trim_len (l : List Int) : (trimL l).length = lastN l l.length := by
  unfold trimL
  rw [List.length_take]
  have := lastN_le l l.length
  omega
theorem lastN_set {l : List Int} {j : Nat} (c : Int) (hj : j < l.length) (h0 : l.getD j 0 = 0) : lastN (l.set j c) l.length = if c ≠ 0 ∧ lastN l l.length ≤ j then j + 1 else lastN l l.length := by
  have hg : ∀ i, (l.set j c).getD i 0 = if i = j then c else l.getD i 0 := fun i => by
    rw [set_getD]
    by_cases e : i = j
    · rw [if_pos ⟨e, hj⟩, if_pos e]
    · rw [if_neg (fun q => e q.1), if_neg e]
  by_cases h : c ≠ 0 ∧ lastN l l.length ≤ j
  · rw [if_pos h]
    refine lastN_is (by omega) (fun i h1 h2 => ?_) (fun _ => ?_)
    · rw [hg, if_neg (by omega)]; exact lastN_zero l _ i (by omega) h2
    · rw [hg, Nat.add_sub_cancel, if_pos rfl]; exact h.1
  · rw [if_neg h]
    refine lastN_is (lastN_le _ _) (fun i h1 h2 => ?_) (fun h3 => ?_)
    · rw [hg]
      by_cases e : i = j
      · rw [if_pos e]
        by_cases hc : c = 0
        · exact hc
        · exact absurd ⟨hc, by omega⟩ h
      · rw [if_neg e]; exact lastN_zero l _ i h1 h2
    · rw [hg]
      have hl := lastN_last l _ h3
      rw [if_neg (fun e => by rw [e] at hl; exact hl h0)]
      exact hl
theorem movK_len (to cf : List Int) (k : Nat) : (movK to cf k).length = 5 := by
  induction k with
  | zero => rfl
  | succ k ih => unfold movK; rw [List.length_set]; exact ih
/-- What stands where behind some of them. -/
theorem movK_at {to : List Int} (h : Names5 to) (cf : List Int) (k : Nat) (hk : k ≤ 5) : ∀ i, i < 5 → (movK to cf k).getD (to.getD i 0).toNat 0 = if i < k then cf.getD i 0 else 0 := by
  induction k with
  | zero =>
    intro i hi
    rw [if_neg (by omega)]
    show zer5.getD _ 0 = 0
    have := h.2.1 i hi
    obtain ⟨q, hq⟩ : ∃ q : Nat, to.getD i 0 = (q : Int) := ⟨(to.getD i 0).toNat, by omega⟩
    rw [hq] at this ⊢
    have : q < 5 := by omega
    rw [Int.toNat_natCast]
    match q, this with
    | 0, _ => rfl
    | 1, _ => rfl
    | 2, _ => rfl
    | 3, _ => rfl
    | 4, _ => rfl
  | succ k ih =>
    intro i hi
    have hki := h.2.1 k (by omega)
    have hii := h.2.1 i hi
    unfold movK
    by_cases e : i = k
    · subst e
      rw [if_pos (by omega), set_getD, if_pos ⟨rfl, by rw [movK_len]; omega⟩]
    · have hne : (to.getD k 0).toNat ≠ (to.getD i 0).toNat := fun he => e (h.2.2 i k hi (by omega) (by omega))
      rw [set_getD, if_neg (fun q => hne q.1.symm), ih (by omega) i hi]
      by_cases h1 : i < k
      · rw [if_pos h1, if_pos (by omega)]
      · rw [if_neg h1, if_neg (by omega)]
theorem movK_fresh {to : List Int} (h : Names5 to) (cf : List Int) (k : Nat) (hk : k < 5) : (movK to cf k).getD (to.getD k 0).toNat 0 = 0 := by
  rw [movK_at h cf k (by omega) k hk, if_neg (by omega)]
theorem namesC_ok {to : List Int} (h : namesC to = 0) : Names5 to := by
  unfold namesC at h
  by_cases h5 : to.length = 5
  · rw [if_pos h5] at h
    have hz := firstC_get0 _ h
    have hi : ∀ i, i < 5 → nameC to i = 0 := fun i hi => by
      have := hz i (by simpa using hi)
      simpa [List.getD, hi] using this
    have hr : ∀ i, i < 5 → (0 ≤ to.getD i 0 ∧ to.getD i 0 < 5) ∧ ¬ ∃ k, k < i ∧ to.getD k 0 = to.getD i 0 := fun i h5' => by
      have := hi i h5'
      unfold nameC at this
      by_cases h1 : 0 ≤ to.getD i 0 ∧ to.getD i 0 < 5
      · rw [if_pos h1] at this
        by_cases h2 : ∃ k, k < i ∧ to.getD k 0 = to.getD i 0
        · rw [if_pos h2] at this; omega
        · exact ⟨h1, h2⟩
      · rw [if_neg h1] at this; omega
    refine ⟨h5, fun i h => (hr i h).1, fun i j h1 h2 he => ?_⟩
    by_cases h3 : i < j
    · exact absurd ⟨i, h3, he⟩ (hr j h2).2
    · by_cases h4 : j < i
      · exact absurd ⟨j, h4, he.symm⟩ (hr i h1).2
      · omega
  · rw [if_neg h5] at h; omega
/-- Bounded. -/
def cuts5 (v u : Int) : List Int := trimL ((zer5.set v.toNat 1).set u.toNat (-1))
def bndC (ns : List Nd) (v u : Int) : Int := if (formP ns).2 = 0 then (if (0 ≤ v ∧ v < 5) ∧ 0 ≤ u ∧ u < 5 then (if v = u then 6 else if 36 < ns.length then 3 else 0) else 1) else (formP ns).2
def bndL (ns : List Nd) (v u : Int) : List Nd := if bndC ns v u = 0 then [⟨9, v, 0, 0, 0, 0, []⟩, ⟨7, 0, 0, 0, 0, 0, []⟩, ⟨5, 0, 0, 0, 0, 0, []⟩, ⟨2, 0, 0, 0, 0, 0, cuts5 v u⟩] ++ ns else []
/-- Is a node without parts so? -/
def holdB (os : List Om) (nums : List Int) (n : Nd) : Bool :=
  if n.op = 1 then lnEnd n.num false (sumT n.cf (fun i => nums.getD i 0) n.cf.length)
  else if n.op = 2 then lnEnd n.num true (sumT n.cf (fun i => nums.getD i 0) n.cf.length)
  else if n.op = 3 then decide (sayN (os.getD n.wd.toNat zOm).b (os.getD n.wd.toNat zOm).N (os.getD n.wd.toNat zOm).O (nums.getD n.var.toNat 0) = n.num)
  else if n.op = 4 then decide (sayN (os.getD n.wd.toNat zOm).b (os.getD n.wd.toNat zOm).N (os.getD n.wd.toNat zOm).O (nums.getD n.var.toNat 0) = sayN (os.getD n.wd2.toNat zOm).b (os.getD n.wd2.toNat zOm).N (os.getD n.wd2.toNat zOm).O (nums.getD n.oth.toNat 0))
  else false
def Fm.tru (os : List Om) (nums : List Int) : Fm → Bool
  | .at0 n => holdB os nums n
  | .un _ f => !f.tru os nums
  | .bin n f g => if n.op = 6 then f.tru os nums && g.tru os nums else f.tru os nums || g.tru os nums
end Go.Proofs.YtempjeckngamdaaDoor

/- Formulas: mathematics of FormTurns: names turned round. -/
namespace Go.Proofs.YtempjeckngamdaaDoor
open Go.RowKit

theorem nd_parts {n : Nd} (h : ndF n = 0) : n.cf.length ≤ 5 := by
  obtain ⟨hr, hs⟩ := ndF_zero h
  by_cases hl : lineP n
  · exact (hr.2.2.2.2.2.2 hl).1
  · have := hs.2.2.2.2.1 hl; omega
def Fm.ren (to : List Int) : Fm → Fm
  | .at0 n => .at0 (renN to n)
  | .un n f => .un (renN to n) (f.ren to)
  | .bin n f g => .bin (renN to n) (f.ren to) (g.ren to)
theorem ok_ndF (t : Fm) (h : t.ok) : ∀ n ∈ t.flat, ndF n = 0 := by
  induction t with
  | at0 n => intro m hm; simp [Fm.flat] at hm; subst hm; exact h.1
  | un n f ih =>
    intro m hm
    simp [Fm.flat] at hm
    rcases hm with rfl | hm
    · exact h.1
    · exact ih h.2.2 m hm
  | bin n f g ih1 ih2 =>
    intro m hm
    simp [Fm.flat] at hm
    rcases hm with rfl | hm | hm
    · exact h.1
    · exact ih1 h.2.2.1 m hm
    · exact ih2 h.2.2.2 m hm
end Go.Proofs.YtempjeckngamdaaDoor

/- Formulas, and automata with outputs, that came in: opened. -/
namespace Go.Proofs.YtempjeckngamdaaDoor
open Go.ChangeShapes Go.WideShapes Go.ChangeAt Go.RowKit Go.Joins Go.Deep

instance : Inhabited Nd := ⟨zNd⟩
set_option maxRecDepth 8000 in
theorem nodes_open {H : Type} {enc : TypeId × Value → H} {W : World} {base : Nat} {held : Bool} {fuel : Nat} {v : Value} {x : DataW H × List MemPlace} (h : DataW.trod enc Tryd.prog W base (fun _ => true) held fuel 22 [v] = some x) :
    ∃ a len cap ns, v = .slice a len cap ∧ SlF W a len ns := by
  rcases open_slice Tryd.underlying22 h with ⟨hcs, _⟩ | ⟨a, len, cap, m, n, D, Pl, hcs, hb, hl, hm, hmm, _, hx⟩
  · simp at hcs
    exact ⟨none, 0, 0, [], hcs, rfl, by decide, (fun n hn => by cases hn), Or.inl rfl⟩
  · simp at hcs
    have hmc : m = cap := by simpa using hmm
    subst hmc
    have each : ∀ i, i < m → ∃ q : Nd × Option Addr × Nat, ndWf q.1 ∧ (W.cell? (a.add (i * 7)) = some (.int .i64 q.1.op) ∧ W.cell? (a.add (i * 7 + 1)) = some (.int .i64 q.1.var) ∧ W.cell? (a.add (i * 7 + 2)) = some (.int .i64 q.1.oth) ∧ W.cell? (a.add (i * 7 + 3)) = some (.int .i64 q.1.wd) ∧ W.cell? (a.add (i * 7 + 4)) = some (.int .i64 q.1.wd2) ∧ W.cell? (a.add (i * 7 + 5)) = some (.int .i64 q.1.num) ∧ W.cell? (a.add (i * 7 + 6)) = some (.slice q.2.1 q.1.cf.length q.2.2)) ∧ Sl W q.2.1 q.1.cf.length q.1.cf := by
      intro i hi
      obtain ⟨cs', h1, h2⟩ := hx i hi
      rw [show Tryd.prog.cellsOf 52 = 7 by kernel_rfl] at h1
      obtain ⟨_, hlen, hcell⟩ := World.cells?_some h1
      obtain ⟨xs, k, hk, hxy, _, hxl, hf⟩ := DataW.trod_struct Tryd.underlying52 h2
      match xs, hxl, cs', hlen with
      | [y0, y1, y2, y3, y4, y5, y6], _, [c0, c1, c2, c3, c4, c5, c6], _ =>
        have g0 := hf 0 _ rfl
        have g1 := hf 1 _ rfl
        have g2 := hf 2 _ rfl
        have g3 := hf 3 _ rfl
        have g4 := hf 4 _ rfl
        have g5 := hf 5 _ rfl
        have g6 := hf 6 _ rfl
        have ci : Tryd.prog.cellsOf 3 = 1 := by kernel_rfl
        have cl : Tryd.prog.cellsOf 23 = 1 := by kernel_rfl
        simp [ci, cl] at g0 g1 g2 g3 g4 g5 g6
        obtain ⟨z0, e0, _, w0⟩ := DataW.trod_int Tryd.underlying3 g0
        obtain ⟨z1, e1, _, w1⟩ := DataW.trod_int Tryd.underlying3 g1
        obtain ⟨z2, e2, _, w2⟩ := DataW.trod_int Tryd.underlying3 g2
        obtain ⟨z3, e3, _, w3⟩ := DataW.trod_int Tryd.underlying3 g3
        obtain ⟨z4, e4, _, w4⟩ := DataW.trod_int Tryd.underlying3 g4
        obtain ⟨z5, e5, _, w5⟩ := DataW.trod_int Tryd.underlying3 g5
        obtain ⟨a', l', c', cf, e6, hs⟩ := ints_open g6
        simp at e0 e1 e2 e3 e4 e5
        subst e0 e1 e2 e3 e4 e5 e6
        have hl' := hs.1
        subst hl'
        have q0 := hcell 0 (by decide)
        have q1 := hcell 1 (by decide)
        have q2 := hcell 2 (by decide)
        have q3 := hcell 3 (by decide)
        have q4 := hcell 4 (by decide)
        have q5 := hcell 5 (by decide)
        have q6 := hcell 6 (by decide)
        rw [add_add] at q0 q1 q2 q3 q4 q5 q6
        refine ⟨(⟨z0, z1, z2, z3, z4, z5, cf⟩, a', c'), fun x hx => ?_, ⟨by simpa using q0, by simpa using q1, by simpa using q2, by simpa using q3, by simpa using q4, by simpa using q5, by simpa using q6⟩, hs⟩
        simp at hx
        rcases hx with rfl | rfl | rfl | rfl | rfl | rfl <;> assumption
    obtain ⟨q, hq⟩ := choose_lt each
    refine ⟨some a, len, m, (List.range len).map fun i => (q i).1, hcs, by simp, by omega, fun x hx => ?_, ?_⟩
    · obtain ⟨i, hi, rfl⟩ := List.mem_map.1 hx
      exact (hq i (by have := List.mem_range.1 hi; omega)).1
    · by_cases h0 : len = 0
      · exact .inl h0
      · obtain ⟨b, off, spot⟩ := a
        have hspot : spot = none := by simpa [Addr.add] using World.cell?_spot (hq 0 (by omega)).2.1.1
        subst hspot
        refine .inr ⟨b, off, rfl, fun i hi => ⟨(q i).2.1, (q i).2.2, ?_⟩⟩
        have hget : ((List.range len).map fun i => (q i).1).getD i zNd = (q i).1 := by simp [List.getD, hi]
        rw [hget]
        obtain ⟨-, ⟨e0, e1, e2, e3, e4, e5, e6⟩, hs⟩ := hq i (by omega)
        rw [Go.WideShapes.add_plain] at e0 e1 e2 e3 e4 e5 e6
        exact ⟨e0, by rw [Nat.add_assoc]; exact e1, by rw [Nat.add_assoc]; exact e2, by rw [Nat.add_assoc]; exact e3, by rw [Nat.add_assoc]; exact e4, by rw [Nat.add_assoc]; exact e5, by rw [Nat.add_assoc]; exact e6, hs⟩
end Go.Proofs.YtempjeckngamdaaDoor
