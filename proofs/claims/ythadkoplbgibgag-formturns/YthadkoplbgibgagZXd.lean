/- 3 texts in one. -/
import Derived.Deep.DeepCutAuto
import Derived.Test.YthadkoplbgibgagLq
import Derived.Test.YthadkoplbgibgagZEg
/- The reference's uses, freeIn, FreeOf: contracts. -/
namespace Go.Proofs.Ythadkoplbgibgag
open Go.RowKit

theorem box7_cells {W : World} {B : Nat} {v0 v1 v2 v3 v4 v5 v6 : Value} {T : TypeId} (h : W.heap[B]? = some (.cells #[v0, v1, v2, v3, v4, v5, v6] T (0, 0))) : (W.cell? ⟨B, 0, none⟩ = some v0 ∧ W.cell? ⟨B, 1, none⟩ = some v1 ∧ W.cell? ⟨B, 2, none⟩ = some v2 ∧ W.cell? ⟨B, 3, none⟩ = some v3 ∧ W.cell? ⟨B, 4, none⟩ = some v4 ∧ W.cell? ⟨B, 5, none⟩ = some v5 ∧ W.cell? ⟨B, 6, none⟩ = some v6) ∧ ∀ i, W.frozen? ⟨B, i, none⟩ = false := by
  refine ⟨⟨by simp [World.cell?, h], by simp [World.cell?, h], by simp [World.cell?, h], by simp [World.cell?, h], by simp [World.cell?, h], by simp [World.cell?, h], by simp [World.cell?, h]⟩, fun i => by simp [World.frozen?, h]⟩
theorem ne_dec (z : Int) : (z != 0) = decide (z ≠ 0) := by by_cases h : z = 0 <;> simp [h]
abbrev ndO (n : Nd) (a : Option Addr) (c : Nat) : Obj := .cells #[.int .i64 n.op, .int .i64 n.var, .int .i64 n.oth, .int .i64 n.wd, .int .i64 n.wd2, .int .i64 n.num, .slice a n.cf.length c] 43
theorem take_kid {l : List Fm} {k : Nat} (h : k < l.length) : ∃ c, c ∈ l ∧ l.take (k + 1) = l.take k ++ [c] ∧ l = l.take k ++ (c :: l.drop (k + 1)) := by
  refine ⟨l[k], List.getElem_mem h, by rw [List.take_succ_eq_append_getElem h], ?_⟩
  rw [← List.drop_eq_getElem_cons h, List.take_append_drop]
end Go.Proofs.Ythadkoplbgibgag

/- The reference's FreeOf: contract. -/
namespace Go.Proofs.Ythadkoplbgibgag
open Go.RowKit

def freK (t : Fm) (k : Nat) : List Int := ((List.range k).map fun i : Nat => (i : Int)).filter fun v => t.fre v
theorem freK_five (t : Fm) : freK t 5 = freL t := rfl
theorem freK_succ (t : Fm) (k : Nat) : freK t (k + 1) = if t.fre (k : Int) = true then freK t k ++ [(k : Int)] else freK t k := by
  unfold freK
  rw [List.range_succ, List.map_append, List.filter_append]
  by_cases h : t.fre (k : Int) = true
  · rw [if_pos h]; simp [h]
  · rw [if_neg h]; simp [h]
theorem freK_len (t : Fm) (k : Nat) : (freK t k).length ≤ k := by
  unfold freK
  exact Nat.le_trans (List.length_filter_le _ _) (by simp)
theorem freK_wf (t : Fm) {k : Nat} (h : k ≤ 5) : ∀ x ∈ freK t k, (Lit.int .i64 x).wf = true := fun x hx => by
  unfold freK at hx
  obtain ⟨h1, -⟩ := List.mem_filter.1 hx
  obtain ⟨i, hi, rfl⟩ := List.mem_map.1 h1
  have := List.mem_range.1 hi
  exact WalkArith.wf_i64 (by omega)
end Go.Proofs.Ythadkoplbgibgag

/- The reference's Bare; two formulas that are the same (filbertsame.Nodes): contracts. -/
namespace Go.Proofs.Ythadkoplbgibgag
open Go.RowKit

def bareB (ns : List Nd) : Bool := ns.all fun n => decide (n.op ≠ 8 ∧ n.op ≠ 9)
theorem bare_take (ns : List Nd) {k : Nat} (h : k < ns.length) : bareB (ns.take (k + 1)) = (bareB (ns.take k) && decide ((ns.getD k zNd).op ≠ 8 ∧ (ns.getD k zNd).op ≠ 9)) := by
  unfold bareB
  rw [List.take_succ_eq_append_getElem h, List.all_append]
  simp [List.getD, h]
theorem bare_no {ns : List Nd} {k : Nat} (h : k < ns.length) (hb : (ns.getD k zNd).op = 8 ∨ (ns.getD k zNd).op = 9) : bareB ns = false := by
  unfold bareB
  rw [List.all_eq_false]
  refine ⟨ns.getD k zNd, by simp [List.getD, h], fun h' => ?_⟩
  have := of_decide_eq_true h'
  omega
set_option maxHeartbeats 4000000 in
set_option maxRecDepth 4000 in
theorem nodes_eq (a a2 : Option Addr) (n cap cap2 : Nat) (ns : List Nd) (w : World) (hs : SlF w a n ns) (hs2 : SlF w a2 n ns) : Calls Try.prog 8 #[.slice a n cap, .slice a2 n cap2] w fun e w' => e = .returned (.bool true) ∧ Below w.heap.size w w' := by
  have hmx := hs.2.1
  unfold maxLen at hmx
  have HS := hide hs
  have HS2 := hide hs2
  clear hs hs2
  go_enter Try.func8, Try.ntmps8
  go_wp2
  go_loopw [5] (fun iv wx => ∃ k : Nat, k ≤ n ∧ iv = .int .i64 k ∧ Below w.heap.size w wx) (fun iv _ => n - (intOf iv).toNat)
  case atStart => exact ⟨0, by omega, rfl, Below.refl _ _⟩
  case round =>
    obtain ⟨k, hk, rfl, hb⟩ := hrel
    have HB := hide hb
    clear hb
    by_cases hlt : k < n
    · have hlti : (k : Int) < (n : Int) := by omega
      obtain ⟨bb, oo, a', c', rfl, x0, x1, x2, x3, x4, x5, x6, hsl⟩ := slF_cell (slF_below HS.out HB.out) k hlt
      have hB1 := (Below.refl wr.heap.size wr).alloc (Nat.le_refl _) (ndO (ns.getD k zNd) a' c')
      obtain ⟨b2, o2, a2', c2', rfl, y0, y1, y2, y3, y4, y5, y6, hsl2⟩ := slF_cell (slF_below HS2.out (below_step HB.out hB1)) k hlt
      generalize ns.getD k zNd = nd at *
      have hB2 := (Below.refl (wr.alloc (ndO nd a' c')).heap.size (wr.alloc (ndO nd a' c'))).alloc (Nat.le_refl _) (ndO nd a2' c2')
      have HX1 := hide (heap_alloc2_fst wr (ndO nd a' c') (ndO nd a2' c2'))
      have HX2 := hide (heap_alloc2_snd wr (ndO nd a' c') (ndO nd a2' c2'))
      have HBB := hide (below_step hB1 hB2)
      have HI := hide (ints_eq a' a2' nd.cf.length c' c2' nd.cf ((wr.alloc (ndO nd a' c')).alloc (ndO nd a2' c2')) (sl_below (sl_below hsl hB1) hB2) (sl_below hsl2 hB2))
      generalize hW2 : (wr.alloc (ndO nd a' c')).alloc (ndO nd a2' c2') = W2 at HX1 HX2 HBB HI
      obtain ⟨⟨z0, z1, z2, z3, z4, z5, z6⟩, -⟩ := box7_cells HX1.out
      obtain ⟨⟨u0, u1, u2, u3, u4, u5, u6⟩, -⟩ := box7_cells HX2.out
      clear hB1 hB2 hsl hsl2
      go_wp2_with fail
      clear hW2 x0 x1 x2 x3 x4 x5 x6 y0 y1 y2 y3 y4 y5 y6 z0 z1 z2 z3 z4 z5 z6 u0 u1 u2 u3 u4 u5 u6
      refine HI.out.mono ?_
      rintro e w3 ⟨rfl, hb3⟩
      obtain ⟨⟨z0, z1, z2, z3, z4, z5, z6⟩, -⟩ := box7_cells ((hb3.block _ (Array.getElem?_eq_some_iff.1 HX1.out).1).trans HX1.out)
      obtain ⟨⟨u0, u1, u2, u3, u4, u5, u6⟩, -⟩ := box7_cells ((hb3.block _ (Array.getElem?_eq_some_iff.1 HX2.out).1).trans HX2.out)
      have HB3 := hide (below_step HB.out (below_step HBB.out hb3))
      clear hb3
      go_wp2
      go_roundw
      case rel => exact ⟨k + 1, by omega, by go_num, HB3.out⟩
      case measure => simp [intOf]; omega
    · have hlti : ¬ (k : Int) < (n : Int) := by omega
      go_wp2
      go_ret
      exact ⟨rfl, HB.out⟩
end Go.Proofs.Ythadkoplbgibgag
