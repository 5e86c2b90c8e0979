/- The states that are met, as a call keeps them; the reference's Met: contract. -/
import Derived.Test.YtdfgeihlpkpknabAd
namespace Go.Proofs.Ytdfgeihlpkpknab
open Go.RowKit

theorem infoB : (Try.prog.info? 4).map (fun i => (i.zero, i.size, i.bytes)) = some (some (.bool false), 1, 1) := by kernel_rfl
theorem make_bools (n : Nat) (hn : n ≤ 1000000000000) (w : World) : (Instr.makeSlice 23 (.int .i64 (n : Int)) (.int .i64 (n : Int))).run Try.prog w = .ok (.slice (some ⟨w.heap.size, 0, none⟩) n n) (w.alloc (.cells (madeCells #[.bool false] n) 4)) :=
  run_make_row' 23 4 (.bool false) 1 Try.underlying23 infoB rfl .i64 .i64 n (by omega) (by omega) w

/-- Which were seen, block by block. -/
theorem seen_set {W : World} {S n : Nat} {sn : List Int} (h : W.rowIs S 4 n fun p => .bool (decide ((p : Int) ∈ sn))) (x : Nat) : (W.setCell ⟨S, x, none⟩ (.bool true)).rowIs S 4 n fun p => .bool (decide ((p : Int) ∈ sn ++ [(x : Int)])) := by
  refine (h.set x (.bool true)).congr fun p hp => ?_
  by_cases e : p = x
  · subst e; simp
  · rw [if_neg e]
    have : ¬ ((p : Int) = (x : Int)) := by omega
    simp [this]

def MetAt (w : World) (n : Nat) (sn o : List Int) (v : Value) (W : World) : Prop :=
  (W.rowIs w.heap.size 4 n fun p => .bool (decide ((p : Int) ∈ sn))) ∧ W.ownsRow w.heap.size 3 1 v o.length (o.map (Value.int .i64)) ∧ Below w.heap.size w W

theorem bool_int : (4 : TypeId) ≠ 3 := by decide
theorem not_seen_block {W : World} {S n : Nat} {f : Nat → Value} (h : W.rowIs S 4 n f) {base k : Nat} {v : Value} {xs : List Value} (hr : W.ownsRow base 3 1 v k xs) : v.ownBlock ≠ some S := by
  obtain ⟨c, hc, _⟩ := h
  rcases hr.2 with ⟨rfl, _⟩ | ⟨g, cap, cur, rfl, _, hgb, _⟩
  · simp [Value.ownBlock]
  · intro e
    obtain rfl : g = S := by simpa [Value.ownBlock] using e
    rw [hc] at hgb
    simp at hgb
theorem metAt_seen {w : World} {n : Nat} {sn o : List Int} {v : Value} {W : World} (h : MetAt w n sn o v W) (x : Nat) : MetAt w n (sn ++ [(x : Int)]) o v (W.setCell ⟨w.heap.size, x, none⟩ (.bool true)) :=
  ⟨seen_set h.1 x, ownsRow_setCell_other h.2.1 (not_seen_block h.1 h.2.1) _, h.2.2.setCell (Nat.le_refl _) _⟩
theorem metAt_push {w : World} {n : Nat} {sn o : List Int} {v v' : Value} {W w3 : World} {ob : Obj} {x : Int} (h : MetAt w n sn o v W) (hown : w3.ownsRow w.heap.size 3 1 v' (o.length + 1) (o.map (Value.int .i64) ++ [.int .i64 x])) (hgrow : (W.alloc ob).grownBy w3 v.ownBlock) : MetAt w n sn (o ++ [x]) v' w3 := by
  refine ⟨(h.1.alloc ob).of_block (hgrow.block _ (by have := h.1.lt; simp; omega) (fun e => not_seen_block h.1 h.2.1 e.symm)), by rw [List.length_append, List.map_append]; exact hown, ?_⟩
  exact Below.grown (h.2.2.alloc h.2.2.size ob) hgrow (by have := h.2.2.size; simp; omega) (fun k hk => (h.2.1.lt k hk).1)
theorem owns_out {W : World} {base : Nat} {v : Value} {o : List Int} (hp : 0 < o.length) (h : W.ownsRow base 3 1 v o.length (o.map (Value.int .i64))) :
    ∃ g cap, v = .slice (some ⟨g, 0, none⟩) o.length cap ∧ base ≤ g ∧ ∀ i, i < o.length → W.cell? ⟨g, i, none⟩ = some (.int .i64 (o.getD i 0)) := by
  obtain ⟨k, hk⟩ : ∃ k, o.length = k + 1 := ⟨o.length - 1, by omega⟩
  rw [hk] at h ⊢
  exact owns_at hk h
theorem metAt_start {w : World} {n : Nat} : MetAt w n [0] [0] (.slice (some ⟨w.heap.size + 1, 0, none⟩) 1 1) ((w.alloc (.cells ((madeCells #[.bool false] n).setIfInBounds 0 (.bool true)) 4)).alloc (.cells #[.int .i64 0] 3)) := by
  refine ⟨World.rowIs.alloc ⟨_, heap_alloc_last w _, ?_, fun p hp => ?_⟩ _, ⟨by simp, Or.inr ⟨w.heap.size + 1, 1, #[.int .i64 0], rfl, by omega, ?_, by simp, by decide, by simp, by simp⟩⟩, ((Below.refl _ _).alloc (Nat.le_refl _) _).alloc (by simp) _⟩
  · obtain ⟨c, hb, hn, hc⟩ := World.rowIs_made w (.bool false) n 4
    rw [heap_alloc_last] at hb
    cases hb
    simpa using hn
  · obtain ⟨c, hb, hn, hc⟩ := (World.rowIs_made w (.bool false) n 4)
    rw [heap_alloc_last] at hb
    cases hb
    rw [Array.getElem?_setIfInBounds]
    by_cases e : p = 0
    · subst e; simp [hn, hp]
    · rw [if_neg (fun h => e h.symm), hc p hp]
      simp [e]
  · have := heap_alloc_last (w.alloc (.cells ((madeCells #[.bool false] n).setIfInBounds 0 (.bool true)) 4)) (.cells #[.int .i64 0] 3)
    simpa using this
theorem one_new_at (w : World) (x : Value) (t : TypeId) (H : Nat) (hH : w.heap.size = H) : ∀ j u, [x][j]? = some u → (w.alloc (.cells #[x] t)).cell? ((⟨H, 0, none⟩ : Addr).add j) = some u := by
  subst hH
  exact one_new w x t
theorem outs_pos (N : List (List Int)) (i : Nat) : 0 < (outs N i).length := by
  have := (outs_pre N 0 i).length_le
  rw [Nat.zero_add] at this
  simp [outs] at this
  omega
theorem okO_wf {n : Nat} (hn : n ≤ 80) {o : List Int} (h : OkO n o) : ∀ x ∈ o, (Lit.int .i64 x).wf = true := fun x hx => Go.WalkArith.wf_i64 (by have := h.2 x hx; omega)
theorem metAt_end {w : World} {n : Nat} (hn : n ≤ 80) {sn o : List Int} {v : Value} {W : World} (ho : OkO n o) (h : MetAt w n sn o v W) : GivesRow w o (.returned v) W := by
  have := nodup_len n o ho
  obtain ⟨a, cap, rfl, hs⟩ := sl_of_owns rfl (by unfold maxLen; omega) (okO_wf hn ho) h.2.1
  exact ⟨a, cap, rfl, hs, h.2.2⟩

end Go.Proofs.Ytdfgeihlpkpknab
