/- The reference's LeastOf: contract. -/
import Derived.Test.YtleebojibobgaaaGreatDoorBk
import Derived.Test.YtleebojibobgaaaGreatDoorZLp
namespace Go.Proofs.YtleebojibobgaaaGreatDoor
open Go.RowKit

/-- An automaton is handed back, in new memory. -/
def GivesAuto (w : World) (b t : Int) (N : List (List Int)) (E : List Bool) (e : Ending) (w' : World) : Prop :=
  ∃ a c a' c', e = .returned (.agg #[.int .i64 b, .int .i64 t, .slice a N.length c, .slice a' N.length c']) ∧ AutoNew w a N.length N a' E w' ∧ Below w.heap.size w w'

set_option maxHeartbeats 4000000 in
set_option maxRecDepth 4000 in
theorem leastOf_any (b t : Int) (a : Option Addr) (n cap m : Nat) (N : List (List Int)) (a' : Option Addr) (cap' : Nat) (E : List Bool) (w : World) (hs : Sl2 w a n N) (hG : GoodN m n N) (he : SlB w a' n E) (hK : leastK N E m ≤ 80) :
    Calls Tryz.prog 10 #[.agg #[.int .i64 b, .int .i64 t, .slice a n cap, .slice a' n cap']] w (GivesAuto w b t (leastN N E m) (leastE N E m)) := by
  have hB : Below w.heap.size w ((w.alloc (.cells #[.int .i64 b, .int .i64 t, .slice a n cap, .slice a' n cap'] 25)).alloc (.cells #[.int .i64 0, .int .i64 0, .slice none 0 0, .slice none 0 0] 25)) := ((Below.refl _ _).alloc (Nat.le_refl _) _).alloc (by simp) _
  have HB := hide hB
  have HSH := hide (shrunk_any b t a n cap m N a' cap' E _ (sl2_below hs hB) hG (slB_below he hB) hK)
  unfold ShrU at HSH
  have HBX := hide (two_boxes (Below.refl _ ((w.alloc (.cells #[.int .i64 b, .int .i64 t, .slice a n cap, .slice a' n cap'] 25)).alloc (.cells #[.int .i64 0, .int .i64 0, .slice none 0 0, .slice none 0 0] 25))))
  have HSZ : Hid (((w.alloc (.cells #[.int .i64 b, .int .i64 t, .slice a n cap, .slice a' n cap'] 25)).alloc (.cells #[.int .i64 0, .int .i64 0, .slice none 0 0, .slice none 0 0] 25)).heap.size = w.heap.size + 2) := by show _ = _; simp
  have HOLD := hide (heap_alloc_last (w.alloc (.cells #[.int .i64 b, .int .i64 t, .slice a n cap, .slice a' n cap'] 25)) (.cells #[.int .i64 0, .int .i64 0, .slice none 0 0, .slice none 0 0] 25))
  rw [World.size_alloc] at HOLD
  clear hs hG he hK hB
  generalize hLN : leastN N E m = L at HSH ⊢
  generalize hLE : leastE N E m = LE at HSH ⊢
  clear hLN hLE
  go_enter Tryz.func10, Tryz.ntmps10
  obtain ⟨⟨p0, p1, p2, p3⟩, -⟩ := HBX.out
  go_wp2_with fail
  clear p0 p1 p2 p3
  generalize (w.alloc (.cells #[.int .i64 b, .int .i64 t, .slice a n cap, .slice a' n cap'] 25)).alloc (.cells #[.int .i64 0, .int .i64 0, .slice none 0 0, .slice none 0 0] 25) = w0 at HB HSH HSZ HOLD ⊢
  refine HSH.out.mono ?_
  rintro e w1 ⟨ax, cx, ax', cx', rfl, hnew, hb1⟩
  have HNEW := hide hnew
  have HB1 := hide (below_step HB.out hb1)
  have h1 := (hb1.block (w.heap.size + 1) (by have := HSZ.out; omega)).trans HOLD.out
  have HS1 := hide hb1.size
  have hold : (w1.alloc (.cells #[.int .i64 b, .int .i64 t, .slice ax L.length cx, .slice ax' L.length cx'] 25)).heap[w.heap.size + 1]? = some (.cells #[.int .i64 0, .int .i64 0, .slice none 0 0, .slice none 0 0] 25 (0, 0)) := (Below.heap_alloc _ _ _ (Array.getElem?_eq_some_iff.1 h1).1).trans h1
  have HHOLD := hide hold
  have ho0 : (w1.alloc (.cells #[.int .i64 b, .int .i64 t, .slice ax L.length cx, .slice ax' L.length cx'] 25)).cell? ⟨w.heap.size + 1, 0, none⟩ = some (.int .i64 0) := by simp [World.cell?, hold]
  have ho1 : (w1.alloc (.cells #[.int .i64 b, .int .i64 t, .slice ax L.length cx, .slice ax' L.length cx'] 25)).cell? ⟨w.heap.size + 1, 1, none⟩ = some (.int .i64 0) := by simp [World.cell?, hold]
  have ho2 : (w1.alloc (.cells #[.int .i64 b, .int .i64 t, .slice ax L.length cx, .slice ax' L.length cx'] 25)).cell? ⟨w.heap.size + 1, 2, none⟩ = some (.slice none 0 0) := by simp [World.cell?, hold]
  have ho3 : (w1.alloc (.cells #[.int .i64 b, .int .i64 t, .slice ax L.length cx, .slice ax' L.length cx'] 25)).cell? ⟨w.heap.size + 1, 3, none⟩ = some (.slice none 0 0) := by simp [World.cell?, hold]
  have hf : ∀ i, (w1.alloc (.cells #[.int .i64 b, .int .i64 t, .slice ax L.length cx, .slice ax' L.length cx'] 25)).frozen? ⟨w.heap.size + 1, i, none⟩ = false := fun i => by simp [World.frozen?, hold]
  clear hnew hb1 h1 hold
  go_wp2
  have hset := set_all (v0 := .int .i64 b) (v1 := .int .i64 t) (v2 := .slice ax L.length cx) (v3 := .slice ax' L.length cx') HHOLD.out
  have hbel : Below w.heap.size w (((((w1.alloc (.cells #[.int .i64 b, .int .i64 t, .slice ax L.length cx, .slice ax' L.length cx'] 25)).setCell ⟨w.heap.size + 1, 0, none⟩ (.int .i64 b)).setCell ⟨w.heap.size + 1, 1, none⟩ (.int .i64 t)).setCell ⟨w.heap.size + 1, 2, none⟩ (.slice ax L.length cx)).setCell ⟨w.heap.size + 1, 3, none⟩ (.slice ax' L.length cx')) := ((((HB1.out.alloc HB1.out.size _).setCell (by simp) _).setCell (by simp) _).setCell (by simp) _).setCell (by simp) _
  have hfin : AutoNew w ax L.length L ax' LE (((((w1.alloc (.cells #[.int .i64 b, .int .i64 t, .slice ax L.length cx, .slice ax' L.length cx'] 25)).setCell ⟨w.heap.size + 1, 0, none⟩ (.int .i64 b)).setCell ⟨w.heap.size + 1, 1, none⟩ (.int .i64 t)).setCell ⟨w.heap.size + 1, 2, none⟩ (.slice ax L.length cx)).setCell ⟨w.heap.size + 1, 3, none⟩ (.slice ax' L.length cx')) := fun W' hW' => by
    refine (HNEW.out.below ((Below.refl w1.heap.size w1).alloc (Nat.le_refl _) (.cells #[.int .i64 b, .int .i64 t, .slice ax L.length cx, .slice ax' L.length cx'] 25))) W' fun x hx hxl => ?_
    have hne : x ≠ w.heap.size + 1 := by have := HSZ.out; omega
    rw [hW' x (by have := HSZ.out; omega) (by simp [World.setCell] at hxl ⊢; exact hxl), Below.heap_setCell _ _ _ _ hne, Below.heap_setCell _ _ _ _ hne, Below.heap_setCell _ _ _ _ hne, Below.heap_setCell _ _ _ _ hne]
  generalize ((((w1.alloc (.cells #[.int .i64 b, .int .i64 t, .slice ax L.length cx, .slice ax' L.length cx'] 25)).setCell ⟨w.heap.size + 1, 0, none⟩ (.int .i64 b)).setCell ⟨w.heap.size + 1, 1, none⟩ (.int .i64 t)).setCell ⟨w.heap.size + 1, 2, none⟩ (.slice ax L.length cx)).setCell ⟨w.heap.size + 1, 3, none⟩ (.slice ax' L.length cx') = wZ at hset hbel hfin ⊢
  have z0 : wZ.cell? ⟨w.heap.size + 1, 0, none⟩ = some (.int .i64 b) := by simp [World.cell?, hset]
  have z1 : wZ.cell? ⟨w.heap.size + 1, 1, none⟩ = some (.int .i64 t) := by simp [World.cell?, hset]
  have z2 : wZ.cell? ⟨w.heap.size + 1, 2, none⟩ = some (.slice ax L.length cx) := by simp [World.cell?, hset]
  have z3 : wZ.cell? ⟨w.heap.size + 1, 3, none⟩ = some (.slice ax' L.length cx') := by simp [World.cell?, hset]
  exact bodyPost_ret (v := .agg #[.int .i64 b, .int .i64 t, .slice ax L.length cx, .slice ax' L.length cx']) (by simp [results, Tryz.results10, go_sem, z0, z1, z2, z3]) rfl ⟨ax, cx, ax', cx', rfl, hfin, hbel⟩
end Go.Proofs.YtleebojibobgaaaGreatDoor
