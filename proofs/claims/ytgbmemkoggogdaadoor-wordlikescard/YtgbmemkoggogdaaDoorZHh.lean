/- 2 texts in one. -/
import Derived.Deep.AppendLies
import Derived.Deep.RegionHeldLaw
import Derived.Deep.RegionLaw
import Derived.Deep.RegionWith
import Derived.Laws.AppendOwnNone
import Derived.Laws.BytesArg
import Derived.Lib.SlicesCompact
import Derived.StringKeys
import Derived.Test.YtgbmemkoggogdaaDoorZNx
import Derived.Test.YtgbmemkoggogdaaDoorBp
import Derived.Test.YtgbmemkoggogdaaDoorZCf
import Derived.Test.YtgbmemkoggogdaaDoorZDb
import Derived.Test.YtgbmemkoggogdaaDoorZE
import Derived.Test.YtgbmemkoggogdaaDoorEa
import Derived.Test.YtgbmemkoggogdaaDoorG
import Derived.Test.YtgbmemkoggogdaaDoorZMp
import Derived.Test.YtgbmemkoggogdaaDoorZLp
/- The closure of some.setsOf that numbers the sets: contract. -/
namespace Go.Proofs.YtgbmemkoggogdaaDoor
open Go.RowKit

theorem zeroI_any (w : World) : (zeroValue 3).run Tryd.prog w = .ok (.int .i64 0) w := Tryd.zeroValue3 w
end Go.Proofs.YtgbmemkoggogdaaDoor

/- The rows as they are found, one after another; an automaton that a call builds: more. -/
namespace Go.Proofs.YtgbmemkoggogdaaDoor
open Go.RowKit

/-- The rows and the ends as they are found, one after another. -/
def foundR (d : Nat → Nat → Nat) (m f : Nat) (j : Nat) : List Int := (List.range m).map fun l => (((outG d m f (j + 1)).idxOf (d ((outG d m f j).getD j 0) l) : Nat) : Int)
theorem foundR_len (d : Nat → Nat → Nat) (m f j : Nat) : (foundR d m f j).length = m := by simp [foundR]
theorem foundR_get {d : Nat → Nat → Nat} {m f j l : Nat} (hl : l < m) : (foundR d m f j).getD l 0 = (((outG d m f (j + 1)).idxOf (d ((outG d m f j).getD j 0) l) : Nat) : Int) := by simp [foundR, List.getD, hl]
theorem idx_pre {a b : List Nat} (h : a <+: b) {x : Nat} (hx : x ∈ a) : b.idxOf x = a.idxOf x := by
  obtain ⟨c, rfl⟩ := h
  rw [List.idxOf_append, if_pos hx]
theorem outG_nextH {d : Nat → Nat → Nat} {m f i : Nat} (h : i < (outG d m f i).length) : outG d m f (i + 1) = rowG d (outG d m f i) ((outG d m f i).getD i 0) m := by simp only [outG]; rw [if_pos h]
theorem rowG_succ (d : Nat → Nat → Nat) (L : List Nat) (x l : Nat) : rowG d L x (l + 1) = addG (rowG d L x l) (d x l) := rfl
theorem rowG_lenH (d : Nat → Nat → Nat) (L : List Nat) (x : Nat) : ∀ l, (rowG d L x l).length ≤ L.length + l
  | 0 => Nat.le_refl _
  | l + 1 => by rw [rowG_succ]; have := addG_len (rowG d L x l) (d x l); have := rowG_lenH d L x l; omega
/-- Behind l letters the number of what the next one leads to is the one that it has in the end. -/
theorem found_idx {d : Nat → Nat → Nat} {m f i l : Nat} (h : i < (outG d m f i).length) (hl : l < m) : (addG (rowG d (outG d m f i) ((outG d m f i).getD i 0) l) (d ((outG d m f i).getD i 0) l)).idxOf (d ((outG d m f i).getD i 0) l) = (outG d m f (i + 1)).idxOf (d ((outG d m f i).getD i 0) l) := by
  rw [outG_nextH h]
  have e : m = l + 1 + (m - (l + 1)) := by omega
  have hp : rowG d (outG d m f i) ((outG d m f i).getD i 0) (l + 1) <+: rowG d (outG d m f i) ((outG d m f i).getD i 0) m := by
    have := rowG_pre d (outG d m f i) ((outG d m f i).getD i 0) (l + 1) (m - (l + 1))
    rwa [← e] at this
  rw [idx_pre hp (by rw [rowG_succ]; exact addG_mem.2 (.inr rfl))]
  rfl
/-- In the end it is the automaton of the sets. -/
theorem found_end {d : Nat → Nat → Nat} {m f i : Nat} (h : (outG d m f i).length ≤ i) (hi : i ≤ (outG d m f i).length) (j : Nat) (hj : j < i) : (gN d m (outG d m f i)).getD j [] = foundR d m f j := by
  have hj2 : j < (outG d m f i).length := by omega
  rw [gN_row hj2]
  unfold foundR
  refine List.map_congr_left fun l hl => ?_
  have hlm := List.mem_range.1 hl
  have hjl : j < (outG d m f j).length := by
    rcases Nat.lt_or_ge j (outG d m f j).length with h1 | h1
    · exact h1
    · have := outG_stay h1 (i - j)
      rw [show j + (i - j) = i by omega] at this
      rw [this] at hj2; omega
  have e1 : (outG d m f i).getD j 0 = (outG d m f j).getD j 0 := pre_getN (outG_le (by omega)) hjl
  rw [e1]
  have hmem : d ((outG d m f j).getD j 0) l ∈ outG d m f (j + 1) := by
    rw [outG_nextH hjl]
    exact rowG_mem.2 (.inr ⟨l, hlm, rfl⟩)
  rw [idx_pre (outG_le (show j + 1 ≤ i by omega)) hmem]
theorem owns_sl {W : World} {base : Nat} {e : TypeId} {v : Value} {n : Nat} {xs : List Value} (h : W.ownsRow base e 1 v n xs) : ∃ a c, v = .slice a n c := by
  rcases h.2 with ⟨rfl, rfl⟩ | ⟨g, cap, cur, rfl, _⟩
  · exact ⟨none, 0, rfl⟩
  · exact ⟨_, _, rfl⟩
theorem good_wf {m n : Nat} {N : List (List Int)} (hG : GoodN m n N) : ∀ j, j < n → (N.getD j []).length = m ∧ ∀ x ∈ N.getD j [], (Lit.int .i64 x).wf = true := fun j hj => by
  obtain ⟨h1, h2⟩ := hG.2.2.2.2.2 j hj
  have hn := hG.2.2.1
  refine ⟨h1, fun x hx => ?_⟩
  obtain ⟨l, hl, rfl⟩ := List.getElem_of_mem hx
  have := h2 l (by omega)
  rw [getD_at _ l hl] at this
  exact Go.WalkArith.wf_i64 (by omega)
end Go.Proofs.YtgbmemkoggogdaaDoor
