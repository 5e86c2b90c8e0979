/- The states that are met, as a call keeps them; the reference's Met: contract. -/
import Derived.Test.YtihhlddbppljpabAd
namespace Go.Proofs.Ytihhlddbppljpab
open Go.RowKit

theorem infoB : (Try.prog.info? 4).map (fun i => (i.zero, i.size, i.bytes)) = some (some (.bool false), 1, 1) := by kernel_rfl
theorem make_bools (n : Nat) (hn : n ≤ 1000000000000) (w : World) : (Instr.makeSlice 23 (.int .i64 (n : Int)) (.int .i64 (n : Int))).run Try.prog w = .ok (.slice (some ⟨w.heap.size, 0, none⟩) n n) (w.alloc (.cells (madeCells #[.bool false] n) 4)) :=
  run_make_row' 23 4 (.bool false) 1 Try.underlying23 infoB rfl .i64 .i64 n (by omega) (by omega) w

/-- Which were seen, block by block. -/
theorem seen_set {W : World} {S n : Nat} {sn : List Int} (h : W.rowIs S 4 n fun p => .bool (decide ((p : Int) ∈ sn))) (x : Nat) : (W.setCell ⟨S, x, none⟩ (.bool true)).rowIs S 4 n fun p => .bool (decide ((p : Int) ∈ sn ++ [(x : Int)])) := by
  refine (h.set x (.bool true)).congr fun p hp => ?_
  by_cases e : p = x
  · subst e; simp
  · rw [if_neg e]
    have : ¬ ((p : Int) = (x : Int)) := by omega
    simp [this]

def MetAt (w : World) (n : Nat) (sn o : List Int) (v : Value) (W : World) : Prop :=
  (W.rowIs w.heap.size 4 n fun p => .bool (decide ((p : Int) ∈ sn))) ∧ W.ownsRow w.heap.size 3 1 v o.length (o.map (Value.int .i64)) ∧ Below w.heap.size w W

theorem metAt_start {w : World} {n : Nat} : MetAt w n [0] [0] (.slice (some ⟨w.heap.size + 1, 0, none⟩) 1 1) ((w.alloc (.cells ((madeCells #[.bool false] n).setIfInBounds 0 (.bool true)) 4)).alloc (.cells #[.int .i64 0] 3)) := by
  refine ⟨World.rowIs.alloc ⟨_, heap_alloc_last w _, ?_, fun p hp => ?_⟩ _, ⟨by simp, Or.inr ⟨w.heap.size + 1, 1, #[.int .i64 0], rfl, by omega, ?_, by simp, by decide, by simp, by simp⟩⟩, ((Below.refl _ _).alloc (Nat.le_refl _) _).alloc (by simp) _⟩
  · obtain ⟨c, hb, hn, hc⟩ := World.rowIs_made w (.bool false) n 4
    rw [heap_alloc_last] at hb
    cases hb
    simpa using hn
  · obtain ⟨c, hb, hn, hc⟩ := (World.rowIs_made w (.bool false) n 4)
    rw [heap_alloc_last] at hb
    cases hb
    rw [Array.getElem?_setIfInBounds]
    by_cases e : p = 0
    · subst e; simp [hn, hp]
    · rw [if_neg (fun h => e h.symm), hc p hp]
      simp [e]
  · have := heap_alloc_last (w.alloc (.cells ((madeCells #[.bool false] n).setIfInBounds 0 (.bool true)) 4)) (.cells #[.int .i64 0] 3)
    simpa using this
theorem one_new_at (w : World) (x : Value) (t : TypeId) (H : Nat) (hH : w.heap.size = H) : ∀ j u, [x][j]? = some u → (w.alloc (.cells #[x] t)).cell? ((⟨H, 0, none⟩ : Addr).add j) = some u := by
  subst hH
  exact one_new w x t
theorem okO_wf {n : Nat} (hn : n ≤ 6400) {o : List Int} (h : OkO n o) : ∀ x ∈ o, (Lit.int .i64 x).wf = true := fun x hx => Go.WalkArith.wf_i64 (by have := h.2 x hx; omega)
end Go.Proofs.Ytihhlddbppljpab
