/- The contract of letter.apart: the digits of each track of a word. -/
import Derived.Test.YtdfgeihlpkpknabDoorNx
namespace Go.Proofs.YtdfgeihlpkpknabDoor
open Go.RowKit

theorem infoS : (Tryd.prog.info? 26).map (fun i => (i.zero, i.size, i.bytes)) = some (some (.slice none 0 0), 1, 24) := by kernel_rfl
theorem make_rows (n : Nat) (hn : n ≤ 1000000000000) (w : World) : (Instr.makeSlice 22 (.int .i64 (n : Int)) (.int .i64 (n : Int))).run Tryd.prog w = .ok (.slice (some ⟨w.heap.size, 0, none⟩) n n) (w.alloc (.cells (madeCells #[.slice none 0 0] n) 26)) :=
  run_make_row' 22 26 (.slice none 0 0) 24 Tryd.underlying22 infoS rfl .i64 .i64 n (by omega) (by omega) w

/-- The rows of all tracks. -/
def tracksL (b : Int) (t : Nat) (w : List Int) : List (List Int) := (List.range t).map (trackL b t w)

def ApGives (w : World) (ls : List (List Int)) (er : Value) (e : Ending) (w' : World) : Prop := ∃ a cap, e = .returned (.tuple #[.slice a ls.length cap, er]) ∧ Sl2 w' a ls.length ls ∧ Below w.heap.size w w'

theorem trackL_wf (b : Int) (h2 : b ≤ 6) (t : Nat) (w : List Int) (i : Nat) : ∀ x ∈ trackL b t w i, (Lit.int .i64 x).wf = true := by
  intro x hx
  simp only [trackL, List.mem_map] at hx
  obtain ⟨l, _, rfl⟩ := hx
  have := dOf_bd b h2 t l i
  have := kinds_bd2 b h2
  exact Go.WalkArith.wf_i64 (by omega)
theorem trackL_take_succ (b : Int) (t : Nat) (l : List Int) (k i : Nat) (h : k < l.length) : trackL b t (l.take (k + 1)) i = trackL b t (l.take k) i ++ [dOf b t (l.getD k 0) i] := by
  unfold trackL
  rw [List.take_succ_eq_append_getElem h, List.map_append]
  simp [List.getD, h]

/-- The outer loop, behind k letters. -/
def ApAt (b : Int) (n : Nat) (l : List Int) (w : World) (k : Nat) (wr : World) : Prop :=
  Own2 w.heap.size wr w.heap.size n (fun i => trackL b n (l.take k) i) (fun _ => False) ∧ Below w.heap.size w wr
/-- The inner loop, behind k letters and j tracks. -/
def ApIn (b : Int) (n : Nat) (l : List Int) (w : World) (k : Nat) (a : Option Addr) (j : Nat) (wr : World) : Prop :=
  Own2 w.heap.size wr w.heap.size n (fun i => if i < j then trackL b n (l.take (k + 1)) i else trackL b n (l.take k) i) (slB a n) ∧ Sl wr a n (splitL b n (l.getD k 0)) ∧ Below w.heap.size w wr

theorem apIn_start {b : Int} {n : Nat} {l : List Int} {w : World} {k : Nat} {a : Option Addr} {wo wr : World} (h : ApAt b n l w k wo) (hs : SlN wo.heap.size wr a n (splitL b n (l.getD k 0))) (hb : Below wo.heap.size wo wr) : ApIn b n l w k a 0 wr := by
  refine ⟨own2_congr (own2_below h.1 hb fun x hx => ⟨?_, slB_lt hs.1 hx⟩) (fun i _ => by simp), hs.1, below_step h.2 hb⟩
  obtain ⟨_, ad, e, rfl⟩ := hx
  exact hs.2 ad e

theorem apIn_end {b : Int} {n : Nat} {l : List Int} {w : World} {k : Nat} {a : Option Addr} {wr : World} (h : ApIn b n l w k a n wr) : ApAt b n l w (k + 1) wr :=
  ⟨own2_congr (own2_forget h.1) (fun i hi => by rw [if_pos hi]), h.2.2⟩

theorem apIn_step {b : Int} {n : Nat} {l : List Int} {w : World} {k : Nat} {a : Option Addr} {j : Nat} {wr : World} (hk : k < l.length) (hj : j < n) (h : ApIn b n l w k a j wr) :
    ∃ v m, wr.cell? ⟨w.heap.size, j, none⟩ = some v ∧ wr.ownsRow w.heap.size 3 1 v m ((trackL b n (l.take k) j).map (Value.int .i64)) ∧ m ≤ k ∧
      ∀ (w' : World) (o : Obj) (g' cap' : Nat), w'.ownsRow w.heap.size 3 1 (.slice (some ⟨g', 0, none⟩) (m + 1) cap') (m + 1) ((trackL b n (l.take k) j).map (Value.int .i64) ++ [.int .i64 (dOf b n (l.getD k 0) j)]) →
        (wr.alloc o).grownBy w' v.ownBlock → (v.ownBlock = some g' ∨ g' = (wr.alloc o).heap.size) → g' < w'.heap.size →
        w'.cell? ⟨w.heap.size, j, none⟩ = some v ∧ w'.frozen? ⟨w.heap.size, j, none⟩ = false ∧
        ApIn b n l w k a (j + 1) (w'.setCell ⟨w.heap.size, j, none⟩ (.slice (some ⟨g', 0, none⟩) (m + 1) cap')) := by
  obtain ⟨v, h1, h2, h3, h4⟩ := own2_push h.1 j hj
  simp only [Nat.lt_irrefl, if_false] at h2 h4
  refine ⟨v, (trackL b n (l.take k) j).length, h1, h2, by rw [trackL_length]; simp; omega, fun w' o g' cap' hown hgrow hat hlt => ?_⟩
  obtain ⟨c1, c2, c3, c4⟩ := h4 _ w' o g' cap' _ rfl hown hgrow hat hlt
  refine ⟨c1, c2, own2_congr c3 (fun i hi => ?_), sl_keep h.2.1 c4, ?_⟩
  · by_cases e : i = j
    · subst e
      rw [if_pos rfl, if_pos (by omega), trackL_take_succ _ _ _ _ _ hk]
    · simp only [if_neg e]
      by_cases e2 : i < j
      · rw [if_pos e2, if_pos (by omega)]
      · rw [if_neg e2, if_neg (by omega)]
  · exact (Below.grown (h.2.2.alloc h.2.2.size o) hgrow (by have := h.2.2.size; simp; omega) h3).setCell (Nat.le_refl _) _

theorem ap_end {b : Int} {n : Nat} {l : List Int} {w wr : World} (h2 : b ≤ 6) (hn : n ≤ 5) (hl : l.length ≤ 60) (h : ApAt b n l w l.length wr) : ApGives w (tracksL b n l) .nilIface (.returned (.tuple #[.slice (some ⟨w.heap.size, 0, none⟩) n n, .nilIface])) wr := by
  have hL : (tracksL b n l).length = n := by simp [tracksL]
  refine ⟨some ⟨w.heap.size, 0, none⟩, n, by rw [hL], ?_, h.2⟩
  rw [hL]
  have := own2_end h.1 (by unfold maxLen; omega) (fun i _ => by rw [trackL_length]; unfold maxLen; simp; omega) (fun i _ => trackL_wf b h2 n _ i)
  rw [List.take_of_length_le (Nat.le_refl _)] at this
  exact this

def ApPost (b : Int) (n : Nat) (l : List Int) (w : World) (e : Ending) (w' : World) : Prop := ApGives w (if letB b n l = true then tracksL b n l else []) (if letB b n l = true then .nilIface else .iface 27 (.int .i64 1)) e w'

end Go.Proofs.YtdfgeihlpkpknabDoor
