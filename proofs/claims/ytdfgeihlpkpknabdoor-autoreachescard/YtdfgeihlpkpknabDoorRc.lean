/- The contract of the document's DigitsOf. -/
import Derived.Test.YtdfgeihlpkpknabDoorRb
namespace Go.Proofs.YtdfgeihlpkpknabDoor
open Go.RowKit

/-- A slice with the numbers l, and no fault. -/
def RefGives (w : World) (l : List Int) (e : Ending) (w' : World) : Prop := ∃ a cap, e = .returned (.tuple #[.slice a l.length cap, .int .i64 0]) ∧ SlN w.heap.size w' a l.length l ∧ Below w.heap.size w w'

/-- The loop of DigitsOf: the row that grows. -/
def Grows (w1 : World) (l : List Int) (v : Value) (wr : World) : Prop := (∃ ao cv, v = .slice ao l.length cv) ∧ wr.ownsRow w1.heap.size 3 1 v l.length (l.map (Value.int .i64)) ∧ Below w1.heap.size w1 wr

theorem grows_nil (w1 : World) : Grows w1 [] (.slice none 0 0) w1 := ⟨⟨none, 0, rfl⟩, World.ownsRow_nil _ _ _ _, Below.refl _ _⟩
theorem grows_snoc {w1 wr w3 : World} {l : List Int} {v v' : Value} {x : Int} {o : Obj} (h : Grows w1 l v wr) (hown : w3.ownsRow w1.heap.size 3 1 v' (l.length + 1) (l.map (Value.int .i64) ++ [.int .i64 x])) (hgrow : (wr.alloc o).grownBy w3 v.ownBlock) : Grows w1 (l ++ [x]) v' w3 := by
  have hl : (l ++ [x]).length = l.length + 1 := by simp
  refine ⟨?_, ?_, ?_⟩
  · rw [hl]
    rcases hown.2 with ⟨rfl, h0⟩ | ⟨g, cap, cur, rfl, _⟩
    · omega
    · exact ⟨_, _, rfl⟩
  · rw [hl, List.map_append]; exact hown
  · refine Below.grown (h.2.2.alloc h.2.2.size o) hgrow (by have := h.2.2.size; simp; omega) (fun k hk => ?_)
    rcases h.2.1.2 with ⟨rfl, h0⟩ | ⟨g, cap, cur, rfl, hg, _⟩
    · cases hk
    · cases hk; exact hg

theorem pre_wf {b n : Int} (h1 : 1 ≤ b) (h2 : b ≤ 6) (hn : 0 ≤ n) (hn' : n ≤ 1099511627776) : ∀ x ∈ dgs b n, (Lit.int .i64 x).wf = true := by
  intro x hx
  obtain ⟨k, _, h, _⟩ := dropZ_suffix (dList b n 60)
  unfold dgs at hx
  rw [h] at hx
  have hx := List.mem_of_mem_drop hx
  simp only [dList, List.mem_map, List.mem_range] at hx
  obtain ⟨j, hj, rfl⟩ := hx
  rw [if_pos hj]
  have := dgt_bd b n h1 h2 hn j
  exact Go.WalkArith.wf_i64 (by omega)

theorem grows_end {w w1 wr : World} {b n : Int} {v : Value} (h1 : 1 ≤ b) (h2 : b ≤ 6) (hn : 0 ≤ n) (hn' : n ≤ 1099511627776) (hb : Below w.heap.size w w1) (h : Grows w1 (dgs b n) v wr) : RefGives w (dgs b n) (.returned (.tuple #[v, .int .i64 0])) wr := by
  obtain ⟨a, cap, rfl, hs⟩ := sl_of_owns rfl (by have := dgs_length b n; unfold maxLen; omega) (pre_wf h1 h2 hn hn') h.2.1
  exact ⟨a, cap, rfl, hs.mono hb.size, below_step hb h.2.2⟩

end Go.Proofs.YtdfgeihlpkpknabDoor
