/- The closures of package least: contracts. -/
import Derived.Test.YtihhlddbppljpabCe
import Derived.BigQuiet
import Derived.BigRegion
namespace Go.Proofs.Ytihhlddbppljpab
open Go.RowKit

theorem below_two (w : World) (u v : Obj) : Below w.heap.size w ((w.alloc u).alloc v) := ((Below.refl _ _).alloc (Nat.le_refl _) _).alloc (by simp) _

set_option maxHeartbeats 8000000 in
set_option maxRecDepth 8000 in
theorem apart1_any (B B' : Nat) (b t : Int) (a : Option Addr) (n cap : Nat) (a' : Option Addr) (cap' m : Nat) (N : List (List Int)) (E : List Bool) (b2 t2 : Int) (a2 : Option Addr) (n2 cap2 : Nat) (a2' : Option Addr) (cap2' : Nat) (N2 : List (List Int)) (E2 : List Bool) (W : World) (x y l : Nat)
    (hA : AutoAt W B b t a n cap a' n cap' N E) (hG : GoodN m n N) (hA2 : AutoAt W B' b2 t2 a2 n2 cap2 a2' n2 cap2' N2 E2) (hG2 : GoodN m n2 N2) (hx : x < n) (hy : y < n2) (hl : l < m) :
    Calls Try.prog 25 #[.agg #[.int .i64 (x : Int), .int .i64 (y : Int)], .int .i64 (l : Int), .pointer (some ⟨B, 0, none⟩), .pointer (some ⟨B', 0, none⟩)] W fun e W' => e = .returned (.agg #[.int .i64 ((nxt N x l : Nat) : Int), .int .i64 ((nxt N2 y l : Nat) : Int)]) ∧ Below W.heap.size W W' := by
  have hB : Below W.heap.size W ((W.alloc (.cells #[.int .i64 (x : Int), .int .i64 (y : Int)] 60)).alloc (.cells #[.int .i64 0, .int .i64 0] 60)) := below_two _ _ _
  obtain ⟨⟨-, -, hx2, -⟩, hsl, -⟩ := autoAt_below hA hB
  obtain ⟨⟨-, -, hy2, -⟩, hsl2, -⟩ := autoAt_below hA2 hB
  obtain ⟨bn, on, an, cn, rfl, hcn, hsn⟩ := sl2_cell hsl x hx
  rw [(hG.2.2.2.2.2 x hx).1] at hcn hsn
  obtain ⟨b1, o1, rfl, hcx⟩ := sl_cell hsn l hl
  obtain ⟨bn2, on2, an2, cn2, rfl, hcn2, hsn2⟩ := sl2_cell hsl2 y hy
  rw [(hG2.2.2.2.2.2 y hy).1] at hcn2 hsn2
  obtain ⟨b3, o3, rfl, hcy⟩ := sl_cell hsn2 l hl
  rw [(nxt_cell hG hx hl).2] at hcx
  rw [(nxt_cell hG2 hy hl).2] at hcy
  have hxi : (x : Int) < (n : Int) := by omega
  have hyi : (y : Int) < (n2 : Int) := by omega
  have hli : (l : Int) < (m : Int) := by omega
  have h1 := hG.2.2.1
  have h2 := hG2.2.2.1
  have h3 := hG.2.2.2.1
  clear hB hsl hsl2 hsn hsn2 hA hA2 hG hG2
  generalize nxt N x l = u at hcx ⊢
  generalize nxt N2 y l = v at hcy ⊢
  have hp0 := (heap_alloc2_fst W (.cells #[.int .i64 (x : Int), .int .i64 (y : Int)] 60) (.cells #[.int .i64 0, .int .i64 0] 60))
  have hr0 := (heap_alloc2_snd W (.cells #[.int .i64 (x : Int), .int .i64 (y : Int)] 60) (.cells #[.int .i64 0, .int .i64 0] 60))
  have HBB := hide (below_two W (.cells #[.int .i64 (x : Int), .int .i64 (y : Int)] 60) (.cells #[.int .i64 0, .int .i64 0] 60))
  go_enter Try.func25, Try.ntmps25
  go_wp2
  generalize (W.alloc (.cells #[.int .i64 (x : Int), .int .i64 (y : Int)] 60)).alloc (.cells #[.int .i64 0, .int .i64 0] 60) = W2 at hx2 hcn hcx hy2 hcn2 hcy hp0 hr0 HBB ⊢
  have d0 : W2.cell? ⟨W.heap.size, 0, none⟩ = some (.int .i64 (x : Int)) := by simp [World.cell?, hp0]
  have d1 : W2.cell? ⟨W.heap.size, 1, none⟩ = some (.int .i64 (y : Int)) := by simp [World.cell?, hp0]
  have e0 : W2.cell? ⟨W.heap.size + 1, 0, none⟩ = some (.int .i64 0) := by simp [World.cell?, hr0]
  have e1 : W2.cell? ⟨W.heap.size + 1, 1, none⟩ = some (.int .i64 0) := by simp [World.cell?, hr0]
  have ef : ∀ i, W2.frozen? ⟨W.heap.size + 1, i, none⟩ = false := fun i => by simp [World.frozen?, hr0]
  have HR0 := hide hr0
  clear hp0 hr0
  go_region
  all_goals
    go_wp2
    have hset := set_two (v0 := .int .i64 (u : Int)) (v1 := .int .i64 (v : Int)) HR0.out
    have hbel : Below W.heap.size W ((W2.setCell ⟨W.heap.size + 1, 0, none⟩ (.int .i64 (u : Int))).setCell ⟨W.heap.size + 1, 1, none⟩ (.int .i64 (v : Int))).drew := ((HBB.out.setCell (by simp) _).setCell (by simp) _).drew
    generalize hWZ : ((W2.setCell ⟨W.heap.size + 1, 0, none⟩ (.int .i64 (u : Int))).setCell ⟨W.heap.size + 1, 1, none⟩ (.int .i64 (v : Int))).drew = WZ at hbel ⊢
    have hsetZ : WZ.heap[W.heap.size + 1]? = some (.cells #[.int .i64 (u : Int), .int .i64 (v : Int)] 60 (0, 0)) := by rw [← hWZ]; exact hset
    have z0 : WZ.cell? ⟨W.heap.size + 1, 0, none⟩ = some (.int .i64 (u : Int)) := by simp [World.cell?, hsetZ]
    have z1 : WZ.cell? ⟨W.heap.size + 1, 1, none⟩ = some (.int .i64 (v : Int)) := by simp [World.cell?, hsetZ]
    exact bodyPost_ret (v := .agg #[.int .i64 (u : Int), .int .i64 (v : Int)]) (by simp [results, Try.results25, go_sem, z0, z1]) rfl ⟨rfl, hbel⟩

set_option maxHeartbeats 8000000 in
set_option maxRecDepth 8000 in
theorem apart2_any (B B' : Nat) (b t : Int) (a : Option Addr) (n cap : Nat) (a' : Option Addr) (cap' : Nat) (N : List (List Int)) (E : List Bool) (b2 t2 : Int) (a2 : Option Addr) (n2 cap2 : Nat) (a2' : Option Addr) (cap2' : Nat) (N2 : List (List Int)) (E2 : List Bool) (W : World) (x y : Nat)
    (hA : AutoAt W B b t a n cap a' n cap' N E) (hA2 : AutoAt W B' b2 t2 a2 n2 cap2 a2' n2 cap2' N2 E2) (hx : x < n) (hy : y < n2) :
    Calls Try.prog 26 #[.agg #[.int .i64 (x : Int), .int .i64 (y : Int)], .pointer (some ⟨B, 0, none⟩), .pointer (some ⟨B', 0, none⟩)] W fun e W' => e = .returned (.bool (E.getD x false != E2.getD y false)) ∧ Below W.heap.size W W' := by
  have hB : Below W.heap.size W (W.alloc (.cells #[.int .i64 (x : Int), .int .i64 (y : Int)] 60)) := (Below.refl _ _).alloc (Nat.le_refl _) _
  have hp0 := heap_alloc_last W (.cells #[.int .i64 (x : Int), .int .i64 (y : Int)] 60)
  obtain ⟨⟨-, -, -, hx3⟩, -, hsl⟩ := autoAt_below hA hB
  obtain ⟨⟨-, -, -, hy3⟩, -, hsl2⟩ := autoAt_below hA2 hB
  obtain ⟨be, oe, rfl, hce⟩ := slB_cell hsl x hx
  obtain ⟨be2, oe2, rfl, hce2⟩ := slB_cell hsl2 y hy
  have hxi : (x : Int) < (n : Int) := by omega
  have hyi : (y : Int) < (n2 : Int) := by omega
  have HB := hide hB
  clear hB hsl hsl2 hA hA2
  generalize E.getD x false = ev at hce ⊢
  generalize E2.getD y false = ev2 at hce2 ⊢
  go_enter Try.func26, Try.ntmps26
  go_wp2
  generalize W.alloc (.cells #[.int .i64 (x : Int), .int .i64 (y : Int)] 60) = W2 at hp0 hx3 hce hy3 hce2 HB ⊢
  have d0 : W2.cell? ⟨W.heap.size, 0, none⟩ = some (.int .i64 (x : Int)) := by simp [World.cell?, hp0]
  have d1 : W2.cell? ⟨W.heap.size, 1, none⟩ = some (.int .i64 (y : Int)) := by simp [World.cell?, hp0]
  clear hp0
  go_quiet (fail)
  go_wp2
  go_ret
  exact ⟨by cases ev <;> cases ev2 <;> simp, below_drewN HB.out nq⟩
end Go.Proofs.Ytihhlddbppljpab
