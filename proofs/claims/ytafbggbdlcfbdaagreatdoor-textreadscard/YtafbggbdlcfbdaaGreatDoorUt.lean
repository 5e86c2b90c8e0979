/- Package text: read's deferred closure: contracts. -/
import Derived.Defers
import Derived.Recover
import Derived.Test.YtafbggbdlcfbdaaGreatDoorZUd
import Derived.Test.YtafbggbdlcfbdaaGreatDoorZAs
namespace Go.Proofs.YtafbggbdlcfbdaaGreatDoor
open Go.RowKit

theorem mode_same (c : Frame) {u : FrameMode} (h : c.mode = u) : c = { c with mode := u } := by cases c; simp_all
theorem catch_tmps (p q r v : Value) : #[p, q, r] ++ ((Array.replicate 20 undef).setIfInBounds 4 v).setIfInBounds 0 v = #[p, q, r, v, undef, undef, undef, v, undef, undef, undef, undef, undef, undef, undef, undef, undef, undef, undef, undef, undef, undef, undef] := by kernel_rfl
def IdleQ (w : World) (e : Exit) (a : Act) (w' : World) : Prop := e = .ret ∧ a.defers = [] ∧ w' = w
set_option maxHeartbeats 1000000 in
theorem catch_idle (p q r : Addr) (w : World) :
    CallsD Tryz.prog 34 #[.pointer (some p), .pointer (some q), .pointer (some r)] .returning w fun e u' w' => e = .returned (.tuple #[]) ∧ u' = .returning ∧ w' = w := by
  refine callsD_of_wpS Tryz.func34 rfl fun c₀ cs hu => ?_
  apply wpS_seq
  apply wpS_region
  simp [wpOpsS, go_sem, recoverD, hu, Tryz.ntmps34, Exit.thenS]
  rw [catch_tmps]
  refine wpS_of_wp (wp_mono (Q := IdleQ w) ?_ ?_)
  · clear hu
    go_wp2
    exact ⟨rfl, rfl, rfl⟩
  · rintro e a w' ⟨rfl, h2, rfl⟩
    exact ⟨h2, .returning, by rw [← mode_same c₀ hu], .tuple #[], by simp [results, Tryz.results34], rfl, rfl, rfl⟩
def StopQ (A i : Nat) (w : World) (e : Exit) (a : Act) (w' : World) : Prop := e = .ret ∧ a.defers = [] ∧ w'.cell? ⟨A, 0, none⟩ = some (.slice none 0 0) ∧ w'.cell? ⟨A + 1, 0, none⟩ = some (.int .i64 (i : Int)) ∧ w'.cell? ⟨A + 2, 0, none⟩ = some (.iface 23 (.int .i64 5)) ∧ Below A w w'
set_option maxHeartbeats 4000000 in
set_option maxRecDepth 8000 in
theorem catch_stop (i A : Nat) (u0 u1 u2 : Value) (w : World) (hg : Handle w) (h0 : w.heap[A]? = some (.cells #[u0] 22 (0, 0))) (h1 : w.heap[A + 1]? = some (.cells #[u1] 3 (0, 0))) (h2 : w.heap[A + 2]? = some (.cells #[u2] 28 (0, 0))) :
    CallsD Tryz.prog 34 #[.pointer (some ⟨A, 0, none⟩), .pointer (some ⟨A + 1, 0, none⟩), .pointer (some ⟨A + 2, 0, none⟩)] (.panicking [{ v := stopV i, recovered := false }]) w fun e u' w' => e = .returned (.tuple #[]) ∧ u' = .panicking [{ v := stopV i, recovered := true }] ∧ w'.cell? ⟨A, 0, none⟩ = some (.slice none 0 0) ∧ w'.cell? ⟨A + 1, 0, none⟩ = some (.int .i64 (i : Int)) ∧ w'.cell? ⟨A + 2, 0, none⟩ = some (.iface 23 (.int .i64 5)) ∧ Below A w w' := by
  refine callsD_of_wpS Tryz.func34 rfl fun c₀ cs hu => ?_
  apply wpS_seq
  apply wpS_region
  simp [wpOpsS, go_sem, recoverD, hu, Tryz.ntmps34, Exit.thenS]
  rw [catch_tmps]
  refine wpS_of_wp (wp_mono (Q := StopQ A i w) ?_ ?_)
  · clear hu
    have hta : ∀ (v : Value) W, (Instr.typeAssert (.iface 68 v) 20 28 true).run Tryz.prog W = .ok (.tuple #[.iface 68 v, .bool true]) W := fun _ _ => by kernel_rfl
    have hlt : 0 < w.heap.size := World.block_lt_of_cell? w _ hg
    have hA2 : A + 2 < w.heap.size := (Array.getElem?_eq_some_iff.1 h2).1
    have HA : Hid ((w.alloc (.cells #[.int .i64 0] 68)).cell? ⟨0, 0, none⟩ = some (.iface 100 (.agg #[.pointer (some ⟨5, 28, none⟩)]))) := by
      show _ = _
      rw [World.cell?_alloc_lt _ _ ⟨0, 0, none⟩ hlt]; exact hg
    have HT : Hid ((w.alloc (.cells #[.int .i64 0] 68)).cell? ⟨w.heap.size, 0, none⟩ = some (.int .i64 0)) := by show _ = _; simp
    have HF : Hid ((w.alloc (.cells #[.int .i64 0] 68)).frozen? ⟨w.heap.size, 0, none⟩ = false) := by show _ = _; simp
    have HH := hide (ap_hit (i : Int) ⟨w.heap.size, 0, none⟩ (.int .i64 0) (w.alloc (.cells #[.int .i64 0] 68)) HA.out HT.out HF.out)
    have HX0 := hide h0
    have HX1 := hide h1
    have HX2 := hide h2
    have HA2 := hide hA2
    clear hg h0 h1 h2 hlt hA2 HA HT HF
    unfold stopV
    go_wp2_with fail
    refine HH.out.mono ?_
    rintro e w2 ⟨rfl, hw2⟩
    obtain ⟨hcs, hb2⟩ : w2.cell? ⟨w.heap.size, 0, none⟩ = some (.int .i64 (i : Int)) ∧ Below w.heap.size w w2 := by
      rw [hw2]
      constructor
      · refine World.cell?_setCell_same _ _ _ (u := .int .i64 0) ?_
        rw [World.cell?_alloc_lt _ _ ⟨w.heap.size, 0, none⟩ (by simp; omega), World.cell?_alloc_lt _ _ ⟨w.heap.size, 0, none⟩ (by simp; omega), World.cell?_alloc_lt _ _ ⟨w.heap.size, 0, none⟩ (by simp; omega), World.cell?_alloc_lt _ _ ⟨w.heap.size, 0, none⟩ (by simp)]
        simp
      · repeat' (first | exact Below.refl _ _ | apply Below.setCell | apply Below.alloc)
        all_goals simp
        all_goals omega
    clear hw2 HH
    have hx0 := (hb2.block A (by have := HA2.out; omega)).trans HX0.out
    have hx1 := (hb2.block (A + 1) (by have := HA2.out; omega)).trans HX1.out
    have hx2 := (hb2.block (A + 2) HA2.out).trans HX2.out
    have HB2 := hide hb2
    have c0 : w2.cell? ⟨A, 0, none⟩ = some u0 := by simp [World.cell?, hx0]
    have f0 : w2.frozen? ⟨A, 0, none⟩ = false := by simp [World.frozen?, hx0]
    have s1 := (Below.heap_setCell w2 ⟨A, 0, none⟩ (.slice none 0 0) (A + 1) (by simp)).trans hx1
    have s2 := (Below.heap_setCell w2 ⟨A, 0, none⟩ (.slice none 0 0) (A + 2) (by simp)).trans hx2
    generalize hW3 : w2.setCell ⟨A, 0, none⟩ (.slice none 0 0) = W3 at s1 s2
    have c1 : W3.cell? ⟨A + 1, 0, none⟩ = some u1 := by simp [World.cell?, s1]
    have f1 : W3.frozen? ⟨A + 1, 0, none⟩ = false := by simp [World.frozen?, s1]
    have t2 := (Below.heap_setCell W3 ⟨A + 1, 0, none⟩ (.int .i64 (i : Int)) (A + 2) (by simp)).trans s2
    generalize hW4 : W3.setCell ⟨A + 1, 0, none⟩ (.int .i64 (i : Int)) = W4 at t2
    have c2 : W4.cell? ⟨A + 2, 0, none⟩ = some u2 := by simp [World.cell?, t2]
    have f2 : W4.frozen? ⟨A + 2, 0, none⟩ = false := by simp [World.frozen?, t2]
    have HFIN : Hid ((W4.setCell ⟨A + 2, 0, none⟩ (.iface 23 (.int .i64 5))).cell? ⟨A, 0, none⟩ = some (.slice none 0 0) ∧ (W4.setCell ⟨A + 2, 0, none⟩ (.iface 23 (.int .i64 5))).cell? ⟨A + 1, 0, none⟩ = some (.int .i64 (i : Int)) ∧ (W4.setCell ⟨A + 2, 0, none⟩ (.iface 23 (.int .i64 5))).cell? ⟨A + 2, 0, none⟩ = some (.iface 23 (.int .i64 5)) ∧ Below A w (W4.setCell ⟨A + 2, 0, none⟩ (.iface 23 (.int .i64 5)))) := by
      have z0 := heap_setCell_at (k := 0) (v := .slice none 0 0) hx0
      have z1 := heap_setCell_at (k := 0) (v := .int .i64 (i : Int)) s1
      have z2 := heap_setCell_at (k := 0) (v := .iface 23 (.int .i64 5)) t2
      rw [hW3] at z0
      rw [hW4] at z1
      have y0a := (Below.heap_setCell W3 ⟨A + 1, 0, none⟩ (.int .i64 (i : Int)) A (by simp)).trans z0
      rw [hW4] at y0a
      have y0 := (Below.heap_setCell W4 ⟨A + 2, 0, none⟩ (.iface 23 (.int .i64 5)) A (by simp)).trans y0a
      have y1 := (Below.heap_setCell W4 ⟨A + 2, 0, none⟩ (.iface 23 (.int .i64 5)) (A + 1) (by simp)).trans z1
      refine ⟨by simp [World.cell?, y0], by simp [World.cell?, y1], by simp [World.cell?, z2], ?_⟩
      rw [← hW4, ← hW3]
      exact (((HB2.out.mono (B' := A) (by have := HA2.out; omega)).setCell (Nat.le_refl _) _).setCell (by simp) _).setCell (by simp) _
    clear hx0 hx1 hx2 s1 s2 t2 hb2
    go_wp2
    exact ⟨rfl, rfl, HFIN.out⟩
  · rintro e a w' ⟨rfl, g2, g3⟩
    exact ⟨g2, _, rfl, .tuple #[], by simp [results, Tryz.results34], rfl, rfl, g3⟩
end Go.Proofs.YtafbggbdlcfbdaaGreatDoor
