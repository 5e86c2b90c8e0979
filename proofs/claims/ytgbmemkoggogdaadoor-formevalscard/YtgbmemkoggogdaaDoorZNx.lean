/- 5 texts in one. -/
import Derived.Deep.AppendLies
import Derived.Deep.OwnRows
import Derived.OneCell
import Derived.Test.YtgbmemkoggogdaaDoorZG
/- Slices of slices of numbers: as they are read, and as a call builds them. -/
namespace Go.Proofs.YtgbmemkoggogdaaDoor
open Go.RowKit

/-- The slice reads as rows of numbers. -/
def Sl2 (w : World) (a : Option Addr) (len : Nat) (ls : List (List Int)) : Prop :=
  ls.length = len ∧ len ≤ maxLen ∧
  (len = 0 ∨ ∃ b o, a = some ⟨b, o, none⟩ ∧ ∀ i, i < len → ∃ a' cap', w.cell? ⟨b, o + i, none⟩ = some (.slice a' (ls.getD i []).length cap') ∧ Sl w a' (ls.getD i []).length (ls.getD i []))

theorem sl2_below {w W : World} {a : Option Addr} {len : Nat} {ls : List (List Int)} (h : Sl2 w a len ls) (hb : Below w.heap.size w W) : Sl2 W a len ls := by
  obtain ⟨h1, h2, h3⟩ := h
  refine ⟨h1, h2, ?_⟩
  rcases h3 with h3 | ⟨b, o, rfl, hc⟩
  · exact Or.inl h3
  · refine Or.inr ⟨b, o, rfl, fun i hi => ?_⟩
    obtain ⟨a', cap', h4, h5⟩ := hc i hi
    refine ⟨a', cap', ?_, sl_below h5 hb⟩
    rw [hb.cell (p := ⟨b, o + i, none⟩) (World.block_lt_of_cell? w _ h4)]
    exact h4

theorem sl2_cell {w : World} {a : Option Addr} {len : Nat} {ls : List (List Int)} (h : Sl2 w a len ls) (i : Nat) (hi : i < len) :
    ∃ b o a' cap', a = some ⟨b, o, none⟩ ∧ w.cell? ⟨b, o + i, none⟩ = some (.slice a' (ls.getD i []).length cap') ∧ Sl w a' (ls.getD i []).length (ls.getD i []) := by
  rcases h.2.2 with h0 | ⟨b, o, rfl, hc⟩
  · omega
  · obtain ⟨a', cap', h4, h5⟩ := hc i hi
    exact ⟨b, o, a', cap', rfl, h4, h5⟩

theorem ownsRow_of_block {w w' : World} {base : Nat} {e : TypeId} {size : Nat} {v : Value} {n : Nat} {xs : List Value} (h : w.ownsRow base e size v n xs) (hb : ∀ k, v.ownBlock = some k → w'.heap[k]? = w.heap[k]?) : w'.ownsRow base e size v n xs := by
  obtain ⟨h1, h2⟩ := h
  refine ⟨h1, ?_⟩
  rcases h2 with h2 | ⟨g, cap, cur, rfl, hg, hh, r⟩
  · exact Or.inl h2
  · exact Or.inr ⟨g, cap, cur, rfl, hg, by rw [hb g rfl]; exact hh, r⟩

end Go.Proofs.YtgbmemkoggogdaaDoor

/- The contract of auto.Check. -/
namespace Go.Proofs.YtgbmemkoggogdaaDoor
open Go.RowKit

theorem errV_no {c : Int} (h : c ≠ 0) : errV c = .iface 26 (.int .i64 c) := by unfold errV; rw [if_neg h]
end Go.Proofs.YtgbmemkoggogdaaDoor

/- The contracts of auto.Run and auto.Takes. -/
namespace Go.Proofs.YtgbmemkoggogdaaDoor
open Go.RowKit

/-- The slice reads as these truths. -/
def SlB (w : World) (a : Option Addr) (len : Nat) (E : List Bool) : Prop :=
  E.length = len ∧ len ≤ maxLen ∧ (len = 0 ∨ ∃ b o, a = some ⟨b, o, none⟩ ∧ ∀ i, i < len → w.cell? ⟨b, o + i, none⟩ = some (.bool (E.getD i false)))
theorem slB_below {w W : World} {a : Option Addr} {len : Nat} {E : List Bool} (h : SlB w a len E) (hb : Below w.heap.size w W) : SlB W a len E := by
  obtain ⟨h1, h2, h3⟩ := h
  refine ⟨h1, h2, ?_⟩
  rcases h3 with h3 | ⟨b, o, rfl, hc⟩
  · exact Or.inl h3
  · refine Or.inr ⟨b, o, rfl, fun i hi => ?_⟩
    have := hc i hi
    rw [hb.cell (p := ⟨b, o + i, none⟩) (World.block_lt_of_cell? w _ this)]
    exact this
theorem slB_cell {w : World} {a : Option Addr} {len : Nat} {E : List Bool} (h : SlB w a len E) (i : Nat) (hi : i < len) : ∃ b o, a = some ⟨b, o, none⟩ ∧ w.cell? ⟨b, o + i, none⟩ = some (.bool (E.getD i false)) := by
  rcases h.2.2 with h0 | ⟨b, o, rfl, hc⟩
  · omega
  · exact ⟨b, o, rfl, hc i hi⟩

end Go.Proofs.YtgbmemkoggogdaaDoor

/- letter.apart, whatever is handed in; letter.Right and letter.Nums by it. -/
namespace Go.Proofs.YtgbmemkoggogdaaDoor
open Go.RowKit

theorem errV_ne {c : Int} (h : c ≠ 0) : errV c = .iface 26 (.int .i64 c) := by unfold errV; rw [if_neg h]
theorem errV_zero : errV 0 = .nilIface := rfl

end Go.Proofs.YtgbmemkoggogdaaDoor

/- The states that are met, as a call keeps them; the reference's Met: contract. -/
namespace Go.Proofs.YtgbmemkoggogdaaDoor
open Go.RowKit

theorem infoB : (Tryd.prog.info? 4).map (fun i => (i.zero, i.size, i.bytes)) = some (some (.bool false), 1, 1) := by kernel_rfl
theorem make_bools (n : Nat) (hn : n ≤ 1000000000000) (w : World) : (Instr.makeSlice 28 (.int .i64 (n : Int)) (.int .i64 (n : Int))).run Tryd.prog w = .ok (.slice (some ⟨w.heap.size, 0, none⟩) n n) (w.alloc (.cells (madeCells #[.bool false] n) 4)) :=
  run_make_row' 28 4 (.bool false) 1 Tryd.underlying28 infoB rfl .i64 .i64 n (by omega) (by omega) w

end Go.Proofs.YtgbmemkoggogdaaDoor
