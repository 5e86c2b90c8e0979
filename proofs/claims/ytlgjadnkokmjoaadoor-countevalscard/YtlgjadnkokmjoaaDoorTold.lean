/- plain.Told and filbertsame.Error, by contracts. -/
import Derived.Test.YtlgjadnkokmjoaaDoorAs
namespace Go.Proofs.YtlgjadnkokmjoaaDoor
open Go.RowKit

theorem hide' {p : Prop} (h : p) : Hid p := h

theorem told_nil (w : World) : Calls Tryd.prog 28 #[.nilIface] w fun e w' => e = .returned (.int .i64 0) ∧ w' = w := by
  go_enter Tryd.func28, Tryd.ntmps28
  go_wp2
  go_ret
  exact ⟨by simp, rfl⟩

set_option maxHeartbeats 1000000 in
set_option maxRecDepth 4000 in
theorem told_err (c : Int) (w : World) (hg : Handle w) : Calls Tryd.prog 28 #[.iface 26 (.int .i64 c)] w fun e w' => e = .returned (.int .i64 c) ∧ Below w.heap.size w w' := by
  have hlt : 0 < w.heap.size := World.block_lt_of_cell? w _ hg
  have HA : Hid ((w.alloc (.cells #[.int .i64 0] 26)).cell? ⟨0, 0, none⟩ = some (.iface 119 (.agg #[.pointer (some ⟨1, 31, none⟩)]))) := by
    show _ = _
    rw [World.cell?_alloc_lt _ _ ⟨0, 0, none⟩ hlt]; exact hg
  have HT : Hid ((w.alloc (.cells #[.int .i64 0] 26)).cell? ⟨w.heap.size, 0, none⟩ = some (.int .i64 0)) := by show _ = _; simp
  have HF : Hid ((w.alloc (.cells #[.int .i64 0] 26)).frozen? ⟨w.heap.size, 0, none⟩ = false) := by show _ = _; simp
  go_enter Tryd.func28, Tryd.ntmps28
  go_wp2_with fail
  refine (as_hit c _ _ _ HA.out HT.out HF.out).mono ?_
  rintro e w' ⟨rfl, rfl⟩
  go_wp2
  go_ret
  refine ⟨by simp, ?_⟩
  repeat' (first | exact Below.refl _ _ | apply Below.setCell | apply Below.alloc)
  all_goals simp
  all_goals omega

/-- filbertsame.Error: is the error the one told? -/
theorem error_nil (c : Int) (w : World) : Calls Tryd.prog 9 #[.nilIface, .int .i64 c] w fun e w' => e = .returned (.bool (decide (c = 0))) ∧ w' = w := by
  go_enter Tryd.func9, Tryd.ntmps9
  go_wp2_with (go_at_call 28; refine (told_nil _).mono ?_; rintro e w' ⟨rfl, rfl⟩)
  go_ret
  refine ⟨?_, rfl⟩
  by_cases h : c = 0
  · subst h; simp
  · simp [h, Ne.symm h]
theorem error_err (c c' : Int) (w : World) (hg : Handle w) : Calls Tryd.prog 9 #[.iface 26 (.int .i64 c), .int .i64 c'] w fun e w' => e = .returned (.bool (decide (c = c'))) ∧ Below w.heap.size w w' := by
  have HG := hide' hg
  clear hg
  go_enter Tryd.func9, Tryd.ntmps9
  go_wp2_with fail
  refine (told_err _ _ HG.out).mono ?_
  rintro e w' ⟨rfl, hb⟩
  go_wp2
  go_ret
  refine ⟨?_, hb⟩
  by_cases h : c = c'
  · subst h; simp
  · simp [h]
end Go.Proofs.YtlgjadnkokmjoaaDoor
