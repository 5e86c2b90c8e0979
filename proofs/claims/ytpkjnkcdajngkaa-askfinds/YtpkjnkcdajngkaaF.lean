/- The contract of digit.withoutZeros. -/
import Derived.Test.YtpkjnkcdajngkaaB
import Derived.Deep.LoopGhost
import Derived.Deep.WholeRow
import Derived.OwnWalk
import Derived.WalkKit
namespace Go.Proofs.Ytpkjnkcdajngkaa
open Go.RowKit

/-- .. and lies in a block from base on. -/
def SlN (base : Nat) (w : World) (a : Option Addr) (len : Nat) (l : List Int) : Prop := Sl w a len l ∧ ∀ ad, a = some ad → base ≤ ad.block
theorem SlN.mono {base base' : Nat} {w : World} {a : Option Addr} {len : Nat} {l : List Int} (h : SlN base w a len l) (hb : base' ≤ base) : SlN base' w a len l := ⟨h.1, fun ad e => Nat.le_trans hb (h.2 ad e)⟩

/-- A row of the call's own reads as its numbers. -/
theorem sl_of_owns {w : World} {base : Nat} {v : Value} {n : Nat} {l : List Int} (hl : l.length = n) (hm : n ≤ maxLen) (hw : ∀ x ∈ l, (Lit.int .i64 x).wf = true)
    (h : w.ownsRow base 3 1 v n (l.map (Value.int .i64))) : ∃ a cap, v = .slice a n cap ∧ SlN base w a n l := by
  obtain ⟨h1, h2⟩ := h
  rcases h2 with ⟨rfl, rfl⟩ | ⟨g, cap, cur, rfl, hg, hh, hc, hcm, hcs, ht⟩
  · exact ⟨none, 0, rfl, ⟨hl, hm, hw, Or.inl rfl⟩, fun _ h => by cases h⟩
  · refine ⟨_, _, rfl, ⟨hl, hm, hw, Or.inr ⟨g, 0, rfl, fun i hi => ?_⟩⟩, fun ad h => by cases h; exact hg⟩
    rw [cell_of_row w g (0 + i) cur 3 (0, 0) hh, Nat.zero_add]
    have h3 : (cur.toList.take (n * 1))[i]? = (l.map (Value.int .i64))[i]? := by rw [ht]
    rw [List.getElem?_take, if_pos (by omega)] at h3
    rw [Array.getElem?_toList] at h3
    rw [h3]
    simp [List.getD, hl, hi]

theorem info3 : (Try.prog.info? 3).map (fun i => (i.zero, i.size, i.bytes)) = some (some (.int .i64 0), 1, 8) := by kernel_rfl

end Go.Proofs.Ytpkjnkcdajngkaa
