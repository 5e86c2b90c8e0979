/- Texts that walk nothing, in one. -/
import Derived.Test.YtafbggbdlcfbdaaGreatDoorRows
import Derived.Below
import Derived.BigQuiet
import Derived.Deep.QuietTactic
import Derived.WalkKit
import Derived.Deep.LoopGhost
import Derived.Deep.WholeRow
import Derived.OpenShut
import Derived.ProofKit
/- Contracts of the small functions of package digit: isBase, kinds, check, hasOnesSideBySide; of filbertsame.Ints. -/
namespace Go.Proofs.YtafbggbdlcfbdaaGreatDoor
open Go.RowKit

/-- The slice value v reads, in w, as the numbers l. -/
def Sl (w : World) (a : Option Addr) (len : Nat) (l : List Int) : Prop :=
  l.length = len ∧ len ≤ maxLen ∧ (∀ n ∈ l, (Lit.int .i64 n).wf = true) ∧
  (len = 0 ∨ ∃ b o, a = some ⟨b, o, none⟩ ∧ ∀ i, i < len → w.cell? ⟨b, o + i, none⟩ = some (.int .i64 (l.getD i 0)))

theorem hide {p : Prop} (h : p) : Hid p := h

theorem sl_cell {w : World} {a : Option Addr} {len : Nat} {l : List Int} (hs : Sl w a len l) (k : Nat) (hk : k < len) :
    ∃ b o, a = some ⟨b, o, none⟩ ∧ w.cell? ⟨b, o + k, none⟩ = some (.int .i64 (l.getD k 0)) := by
  rcases hs.2.2.2 with h | ⟨b, o, h, hc⟩
  · omega
  · exact ⟨b, o, h, hc k hk⟩

end Go.Proofs.YtafbggbdlcfbdaaGreatDoor

/- Plain mathematics: what the places count, and digits. -/
namespace Go.Proofs.YtafbggbdlcfbdaaGreatDoor

/-- What the last place, and the one behind it, count, behind k places. -/
def cntP (b : Int) : Nat → Int × Int
  | 0 => (1, 1)
  | k + 1 => (min (if b = 1 then (cntP b k).1 + (cntP b k).2 else (cntP b k).1 * b) 1099511627777, (cntP b k).1)
def cnt (b : Int) (k : Nat) : Int := (cntP b k).1
end Go.Proofs.YtafbggbdlcfbdaaGreatDoor

/- Laws on whole rows (an array by value), over any program. -/
namespace Go.Proofs.YtafbggbdlcfbdaaGreatDoor
open Go.RowKit
variable {P : Program}

theorem heap_alloc2_fst (w : World) (o o' : Obj) : ((w.alloc o).alloc o').heap[w.heap.size]? = some o := by
  rw [Below.heap_alloc _ _ _ (by simp), heap_alloc_last]
theorem heap_alloc2_snd (w : World) (o o' : Obj) : ((w.alloc o).alloc o').heap[w.heap.size + 1]? = some o' := by
  have := heap_alloc_last (w.alloc o) o'
  simpa using this
end Go.Proofs.YtafbggbdlcfbdaaGreatDoor

/- Plain mathematics: what digits count together. -/
namespace Go.Proofs.YtafbggbdlcfbdaaGreatDoor

def val (b : Int) : List Int → Int
  | [] => 0
  | x :: r => x * cnt b r.length + val b r

end Go.Proofs.YtafbggbdlcfbdaaGreatDoor

/- What the frames of all laws share: a slice of integers that came in; the handle of the type error, out of the row's condition on errors.errorType. -/
namespace Go.Proofs.YtafbggbdlcfbdaaGreatDoor
open Go.ChangeShapes Go.WideShapes Go.ChangeAt Go.RowKit

/-- A slice of integers that came in: nil, or a row of cells. -/
def IsRow (w : World) (a : Option Addr) (len cap : Nat) (zs : List Int) : Prop :=
  (a = none ∧ len = 0 ∧ cap = 0 ∧ zs = []) ∨
  ∃ x, a = some x ∧ len ≤ cap ∧ cap ≤ maxLen ∧ zs.length = cap ∧ (∀ i, i < zs.length → w.cell? (x.add i) = some (.int .i64 (zs.getD i 0))) ∧ ∀ n ∈ zs, (Lit.int .i64 n).wf = true

theorem sl_of_row {w : World} {a : Option Addr} {len cap : Nat} {zs : List Int} (h : IsRow w a len cap zs) : Sl w a len (zs.take len) := by
  rcases h with ⟨rfl, rfl, rfl, rfl⟩ | ⟨x, rfl, hl, hm, hz, hc, hw⟩
  · exact ⟨rfl, by decide, by simp, Or.inl rfl⟩
  · refine ⟨by rw [List.length_take]; omega, by omega, fun n hn => hw n (List.mem_of_mem_take hn), ?_⟩
    by_cases h0 : len = 0
    · exact Or.inl h0
    · refine Or.inr ?_
      obtain ⟨b, o, rfl, hc'⟩ := ints_at hc (by omega)
      refine ⟨b, o, rfl, fun i hi => ?_⟩
      rw [hc' i (by omega)]
      simp [List.getD, hi]

theorem own : ownKnob Tryz.prog.godebug = none := by kernel_rfl
theorem laidOut : laidOutB Tryz.prog = true := by kernel_rfl
end Go.Proofs.YtafbggbdlcfbdaaGreatDoor
