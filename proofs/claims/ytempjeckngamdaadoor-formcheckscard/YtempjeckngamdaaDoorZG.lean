/- 6 texts in one. -/
import Derived.RegionTactic
import Derived.Test.YtempjeckngamdaaDoorZF
import Derived.Test.YtempjeckngamdaaDoorMa
import Derived.Test.YtempjeckngamdaaDoorB
/- The contract of digit.Of. -/
namespace Go.Proofs.YtempjeckngamdaaDoor
open Go.RowKit

/-- What is left of n behind k places. -/
def remN (b n : Int) : Nat → Int
  | 0 => n
  | k + 1 => remN b n k % cnt b (59 - k)
def dgt (b n : Int) (k : Nat) : Int := remN b n k / cnt b (59 - k)
/-- The digits of n, k of them laid. -/
def dList (b n : Int) (k : Nat) : List Int := (List.range 60).map fun j => if j < k then dgt b n j else 0

theorem heap_alloc3_fst (w : World) (o o' o'' : Obj) : (((w.alloc o).alloc o').alloc o'').heap[w.heap.size]? = some o := by
  rw [Below.heap_alloc _ _ _ (by simp; omega), heap_alloc2_fst]

theorem heap_setCell_at {w : World} {g k : Nat} {cs : Array Value} {t : TypeId} {v : Value} (h : w.heap[g]? = some (.cells cs t (0, 0))) : (w.setCell ⟨g, k, none⟩ v).heap[g]? = some (.cells (cs.setIfInBounds k v) t (0, 0)) := by
  simp only [World.setCell, Array.getElem?_modify]
  simp [h]

end Go.Proofs.YtempjeckngamdaaDoor

/- Plain mathematics: the digits that are written count the number, are right, and are the only such. -/
namespace Go.Proofs.YtempjeckngamdaaDoor

/-- The digits of n. -/
def dgs (b n : Int) : List Int := dropZ (dList b n 60)

end Go.Proofs.YtempjeckngamdaaDoor

/- Package digit's contracts, whatever is handed in: one a function. -/
namespace Go.Proofs.YtempjeckngamdaaDoor
open Go.RowKit

def errV (c : Int) : Value := if c = 0 then .nilIface else .iface 24 (.int .i64 c)
end Go.Proofs.YtempjeckngamdaaDoor

/- Letters, counted: mathematics. -/
namespace Go.Proofs.YtempjeckngamdaaDoor
open Go.RowKit

/-- The first code that is none of OK. -/
def firstC : List Int → Int
  | [] => 0
  | c :: r => if c = 0 then firstC r else c
theorem firstC_pre (l : List Int) (k : Nat) (h : ∀ j, j < k → l.getD j 0 = 0) (hk : k < l.length) (hc : l.getD k 0 ≠ 0) : firstC l = l.getD k 0 := by
  induction l generalizing k with
  | nil => simp at hk
  | cons c r ih =>
    cases k with
    | zero => simp at hc; simp [firstC, hc]
    | succ k =>
      have h0 : c = 0 := by simpa using h 0 (by omega)
      simp only [firstC, h0, if_true]
      have := ih k (fun j hj => by simpa using h (j + 1) (by omega)) (by simpa using hk) (by simpa using hc)
      rw [this]; simp
theorem firstC_all (l : List Int) (h : ∀ j, j < l.length → l.getD j 0 = 0) : firstC l = 0 := by
  induction l with
  | nil => rfl
  | cons c r ih =>
    have h0 : c = 0 := by simpa using h 0 (by simp)
    simp only [firstC, h0, if_true]
    exact ih fun j hj => by simpa using h (j + 1) (by simpa using hj)
theorem firstC_get0 (l : List Int) (h : firstC l = 0) : ∀ j, j < l.length → l.getD j 0 = 0 := by
  induction l with
  | nil => intro j hj; simp at hj
  | cons c r ih =>
    intro j hj
    by_cases hc : c = 0
    · simp only [firstC, hc, if_true] at h
      cases j with
      | zero => simpa using hc
      | succ j => simpa using ih h j (by simpa using hj)
    · simp only [firstC, hc, if_false] at h
end Go.Proofs.YtempjeckngamdaaDoor

/- Automata: what is wrong with one, where words lead, which states are met: mathematics. -/
namespace Go.Proofs.YtempjeckngamdaaDoor
open Go.RowKit

def stepL (N : List (List Int)) (s : Nat) (x : Int) : Nat := ((N.getD s []).getD x.toNat 0).toNat
def runL (N : List (List Int)) (w : List Int) : Nat := w.foldl (stepL N) 0

end Go.Proofs.YtempjeckngamdaaDoor

/- Plain mathematics: the places' counts as the document has them (not cut off), held against those of the program. -/
namespace Go.Proofs.YtempjeckngamdaaDoor

/-- The digits that are written behind k places. -/
def pre (b n : Int) (k : Nat) : List Int := dropZ ((dList b n 60).take k)
end Go.Proofs.YtempjeckngamdaaDoor
