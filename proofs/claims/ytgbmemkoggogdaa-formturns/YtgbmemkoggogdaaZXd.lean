/- 5 texts in one. -/
import Derived.Deep.DeepCutAuto
import Derived.Deep.AppendLies
import Derived.DeepKeys4
import Derived.Maps.OwnSet
import Derived.Test.YtgbmemkoggogdaaLq
import Derived.Test.YtgbmemkoggogdaaZEg
import Derived.Test.YtgbmemkoggogdaaZNx
/- The reference's uses, freeIn, FreeOf: contracts. -/
namespace Go.Proofs.Ytgbmemkoggogdaa
open Go.RowKit

theorem box7_cells {W : World} {B : Nat} {v0 v1 v2 v3 v4 v5 v6 : Value} {T : TypeId} (h : W.heap[B]? = some (.cells #[v0, v1, v2, v3, v4, v5, v6] T (0, 0))) : (W.cell? ⟨B, 0, none⟩ = some v0 ∧ W.cell? ⟨B, 1, none⟩ = some v1 ∧ W.cell? ⟨B, 2, none⟩ = some v2 ∧ W.cell? ⟨B, 3, none⟩ = some v3 ∧ W.cell? ⟨B, 4, none⟩ = some v4 ∧ W.cell? ⟨B, 5, none⟩ = some v5 ∧ W.cell? ⟨B, 6, none⟩ = some v6) ∧ ∀ i, W.frozen? ⟨B, i, none⟩ = false := by
  refine ⟨⟨by simp [World.cell?, h], by simp [World.cell?, h], by simp [World.cell?, h], by simp [World.cell?, h], by simp [World.cell?, h], by simp [World.cell?, h], by simp [World.cell?, h]⟩, fun i => by simp [World.frozen?, h]⟩
theorem ne_dec (z : Int) : (z != 0) = decide (z ≠ 0) := by by_cases h : z = 0 <;> simp [h]
abbrev ndO (n : Nd) (a : Option Addr) (c : Nat) : Obj := .cells #[.int .i64 n.op, .int .i64 n.var, .int .i64 n.oth, .int .i64 n.wd, .int .i64 n.wd2, .int .i64 n.num, .slice a n.cf.length c] 68
theorem take_kid {l : List Fm} {k : Nat} (h : k < l.length) : ∃ c, c ∈ l ∧ l.take (k + 1) = l.take k ++ [c] ∧ l = l.take k ++ (c :: l.drop (k + 1)) := by
  refine ⟨l[k], List.getElem_mem h, by rw [List.take_succ_eq_append_getElem h], ?_⟩
  rw [← List.drop_eq_getElem_cons h, List.take_append_drop]
end Go.Proofs.Ytgbmemkoggogdaa

/- The reference's FreeOf: contract. -/
namespace Go.Proofs.Ytgbmemkoggogdaa
open Go.RowKit

def freK (t : Fm) (k : Nat) : List Int := ((List.range k).map fun i : Nat => (i : Int)).filter fun v => t.fre v
theorem freK_five (t : Fm) : freK t 5 = freL t := rfl
theorem freK_succ (t : Fm) (k : Nat) : freK t (k + 1) = if t.fre (k : Int) = true then freK t k ++ [(k : Int)] else freK t k := by
  unfold freK
  rw [List.range_succ, List.map_append, List.filter_append]
  by_cases h : t.fre (k : Int) = true
  · rw [if_pos h]; simp [h]
  · rw [if_neg h]; simp [h]
theorem freK_len (t : Fm) (k : Nat) : (freK t k).length ≤ k := by
  unfold freK
  exact Nat.le_trans (List.length_filter_le _ _) (by simp)
theorem freK_wf (t : Fm) {k : Nat} (h : k ≤ 5) : ∀ x ∈ freK t k, (Lit.int .i64 x).wf = true := fun x hx => by
  unfold freK at hx
  obtain ⟨h1, -⟩ := List.mem_filter.1 hx
  obtain ⟨i, hi, rfl⟩ := List.mem_map.1 h1
  have := List.mem_range.1 hi
  exact WalkArith.wf_i64 (by omega)
end Go.Proofs.Ytgbmemkoggogdaa

/- The laws' own formula: a is twice b. -/
namespace Go.Proofs.Ytgbmemkoggogdaa
open Go.RowKit

def evenL : List Nd := [⟨8, 1, 0, 0, 0, 0, []⟩, ⟨1, 0, 0, 0, 0, 0, [1, -2]⟩]
set_option maxHeartbeats 4000000 in
set_option maxRecDepth 4000 in
theorem even_any (w : World) : Calls Try.prog 11 #[] w fun e w' => e = .returned (.slice (some ⟨w.heap.size + 1, 0, none⟩) 2 2) ∧ SlF w' (some ⟨w.heap.size + 1, 0, none⟩) 2 evenL ∧ Below w.heap.size w w' := by
  have hb := ((Below.refl w.heap.size w).alloc (Nat.le_refl _) (.cells #[.int .i64 1, .int .i64 (-2)] 3)).alloc (by simp) (.cells #[.int .i64 8, .int .i64 1, .int .i64 0, .int .i64 0, .int .i64 0, .int .i64 0, .slice none 0 0, .int .i64 1, .int .i64 0, .int .i64 0, .int .i64 0, .int .i64 0, .int .i64 0, .slice (some ⟨w.heap.size, 0, none⟩) 2 2] 68)
  have h0 := heap_alloc2_fst w (.cells #[.int .i64 1, .int .i64 (-2)] 3) (.cells #[.int .i64 8, .int .i64 1, .int .i64 0, .int .i64 0, .int .i64 0, .int .i64 0, .slice none 0 0, .int .i64 1, .int .i64 0, .int .i64 0, .int .i64 0, .int .i64 0, .int .i64 0, .slice (some ⟨w.heap.size, 0, none⟩) 2 2] 68)
  have h1 := heap_alloc2_snd w (.cells #[.int .i64 1, .int .i64 (-2)] 3) (.cells #[.int .i64 8, .int .i64 1, .int .i64 0, .int .i64 0, .int .i64 0, .int .i64 0, .slice none 0 0, .int .i64 1, .int .i64 0, .int .i64 0, .int .i64 0, .int .i64 0, .int .i64 0, .slice (some ⟨w.heap.size, 0, none⟩) 2 2] 68)
  have HF : Hid (SlF ((w.alloc (.cells #[.int .i64 1, .int .i64 (-2)] 3)).alloc (.cells #[.int .i64 8, .int .i64 1, .int .i64 0, .int .i64 0, .int .i64 0, .int .i64 0, .slice none 0 0, .int .i64 1, .int .i64 0, .int .i64 0, .int .i64 0, .int .i64 0, .int .i64 0, .slice (some ⟨w.heap.size, 0, none⟩) 2 2] 68)) (some ⟨w.heap.size + 1, 0, none⟩) 2 evenL) := by
    generalize (w.alloc (.cells #[.int .i64 1, .int .i64 (-2)] 3)).alloc (.cells #[.int .i64 8, .int .i64 1, .int .i64 0, .int .i64 0, .int .i64 0, .int .i64 0, .slice none 0 0, .int .i64 1, .int .i64 0, .int .i64 0, .int .i64 0, .int .i64 0, .int .i64 0, .slice (some ⟨w.heap.size, 0, none⟩) 2 2] 68) = W at h0 h1
    refine ⟨rfl, by decide, by unfold ndWf evenL; decide +kernel, .inr ⟨w.heap.size + 1, 0, rfl, fun i hi => ?_⟩⟩
    match i, hi with
    | 0, _ => exact ⟨none, 0, by simp [World.cell?, h1]; rfl, by simp [World.cell?, h1]; rfl, by simp [World.cell?, h1]; rfl, by simp [World.cell?, h1]; rfl, by simp [World.cell?, h1]; rfl, by simp [World.cell?, h1]; rfl, by simp [World.cell?, h1]; rfl, ⟨rfl, by decide, (fun x hx => by cases hx), .inl rfl⟩⟩
    | 1, _ =>
      refine ⟨some ⟨w.heap.size, 0, none⟩, 2, by simp [World.cell?, h1]; rfl, by simp [World.cell?, h1]; rfl, by simp [World.cell?, h1]; rfl, by simp [World.cell?, h1]; rfl, by simp [World.cell?, h1]; rfl, by simp [World.cell?, h1]; rfl, by simp [World.cell?, h1]; rfl, ⟨rfl, by decide, by unfold evenL; decide +kernel, .inr ⟨w.heap.size, 0, rfl, fun j hj => ?_⟩⟩⟩
      match j, hj with
      | 0, _ => simp [World.cell?, h0]; rfl
      | 1, _ => simp [World.cell?, h0]; rfl
  have HB := hide hb
  clear h0 h1 hb
  go_enter Try.func11, Try.ntmps11
  go_wp2
  go_ret
  exact ⟨rfl, HF.out, HB.out⟩
end Go.Proofs.Ytgbmemkoggogdaa

/- The reference's Bare; two formulas that are the same (filbertsame.Nodes): contracts. -/
namespace Go.Proofs.Ytgbmemkoggogdaa
open Go.RowKit

def bareB (ns : List Nd) : Bool := ns.all fun n => decide (n.op ≠ 8 ∧ n.op ≠ 9)
theorem bare_take (ns : List Nd) {k : Nat} (h : k < ns.length) : bareB (ns.take (k + 1)) = (bareB (ns.take k) && decide ((ns.getD k zNd).op ≠ 8 ∧ (ns.getD k zNd).op ≠ 9)) := by
  unfold bareB
  rw [List.take_succ_eq_append_getElem h, List.all_append]
  simp [List.getD, h]
theorem bare_no {ns : List Nd} {k : Nat} (h : k < ns.length) (hb : (ns.getD k zNd).op = 8 ∨ (ns.getD k zNd).op = 9) : bareB ns = false := by
  unfold bareB
  rw [List.all_eq_false]
  refine ⟨ns.getD k zNd, by simp [List.getD, h], fun h' => ?_⟩
  have := of_decide_eq_true h'
  omega
set_option maxHeartbeats 4000000 in
set_option maxRecDepth 4000 in
theorem nodes_eq (a a2 : Option Addr) (n cap cap2 : Nat) (ns : List Nd) (w : World) (hs : SlF w a n ns) (hs2 : SlF w a2 n ns) : Calls Try.prog 14 #[.slice a n cap, .slice a2 n cap2] w fun e w' => e = .returned (.bool true) ∧ Below w.heap.size w w' := by
  have hmx := hs.2.1
  unfold maxLen at hmx
  have HS := hide hs
  have HS2 := hide hs2
  clear hs hs2
  go_enter Try.func14, Try.ntmps14
  go_wp2
  go_loopw [5] (fun iv wx => ∃ k : Nat, k ≤ n ∧ iv = .int .i64 k ∧ Below w.heap.size w wx) (fun iv _ => n - (intOf iv).toNat)
  case atStart => exact ⟨0, by omega, rfl, Below.refl _ _⟩
  case round =>
    obtain ⟨k, hk, rfl, hb⟩ := hrel
    have HB := hide hb
    clear hb
    by_cases hlt : k < n
    · have hlti : (k : Int) < (n : Int) := by omega
      obtain ⟨bb, oo, a', c', rfl, x0, x1, x2, x3, x4, x5, x6, hsl⟩ := slF_cell (slF_below HS.out HB.out) k hlt
      have hB1 := (Below.refl wr.heap.size wr).alloc (Nat.le_refl _) (ndO (ns.getD k zNd) a' c')
      obtain ⟨b2, o2, a2', c2', rfl, y0, y1, y2, y3, y4, y5, y6, hsl2⟩ := slF_cell (slF_below HS2.out (below_step HB.out hB1)) k hlt
      generalize ns.getD k zNd = nd at *
      have hB2 := (Below.refl (wr.alloc (ndO nd a' c')).heap.size (wr.alloc (ndO nd a' c'))).alloc (Nat.le_refl _) (ndO nd a2' c2')
      have HX1 := hide (heap_alloc2_fst wr (ndO nd a' c') (ndO nd a2' c2'))
      have HX2 := hide (heap_alloc2_snd wr (ndO nd a' c') (ndO nd a2' c2'))
      have HBB := hide (below_step hB1 hB2)
      have HI := hide (ints_eq a' a2' nd.cf.length c' c2' nd.cf ((wr.alloc (ndO nd a' c')).alloc (ndO nd a2' c2')) (sl_below (sl_below hsl hB1) hB2) (sl_below hsl2 hB2))
      generalize hW2 : (wr.alloc (ndO nd a' c')).alloc (ndO nd a2' c2') = W2 at HX1 HX2 HBB HI
      obtain ⟨⟨z0, z1, z2, z3, z4, z5, z6⟩, -⟩ := box7_cells HX1.out
      obtain ⟨⟨u0, u1, u2, u3, u4, u5, u6⟩, -⟩ := box7_cells HX2.out
      clear hB1 hB2 hsl hsl2
      go_wp2_with fail
      clear hW2 x0 x1 x2 x3 x4 x5 x6 y0 y1 y2 y3 y4 y5 y6 z0 z1 z2 z3 z4 z5 z6 u0 u1 u2 u3 u4 u5 u6
      refine HI.out.mono ?_
      rintro e w3 ⟨rfl, hb3⟩
      obtain ⟨⟨z0, z1, z2, z3, z4, z5, z6⟩, -⟩ := box7_cells ((hb3.block _ (Array.getElem?_eq_some_iff.1 HX1.out).1).trans HX1.out)
      obtain ⟨⟨u0, u1, u2, u3, u4, u5, u6⟩, -⟩ := box7_cells ((hb3.block _ (Array.getElem?_eq_some_iff.1 HX2.out).1).trans HX2.out)
      have HB3 := hide (below_step HB.out (below_step HBB.out hb3))
      clear hb3
      go_wp2
      go_roundw
      case rel => exact ⟨k + 1, by omega, by go_num, HB3.out⟩
      case measure => simp [intOf]; omega
    · have hlti : ¬ (k : Int) < (n : Int) := by omega
      go_wp2
      go_ret
      exact ⟨rfl, HB.out⟩
end Go.Proofs.Ytgbmemkoggogdaa

/- A box of seven cells that is written anew. -/
namespace Go.Proofs.Ytgbmemkoggogdaa
open Go.RowKit

theorem seven_behind {k B : Nat} {w W : World} {u0 u1 u2 u3 u4 u5 u6 : Value} {T : TypeId} (h : W.heap[B]? = some (.cells #[u0, u1, u2, u3, u4, u5, u6] T (0, 0))) (hb : Below k w W) (hk : k ≤ B) (v0 v1 v2 v3 v4 v5 v6 : Value) : ∃ Wf, (((((((W.setCell ⟨B, 0, none⟩ v0).setCell ⟨B, 1, none⟩ v1).setCell ⟨B, 2, none⟩ v2).setCell ⟨B, 3, none⟩ v3).setCell ⟨B, 4, none⟩ v4).setCell ⟨B, 5, none⟩ v5).setCell ⟨B, 6, none⟩ v6) = Wf ∧ Wf.heap[B]? = some (.cells #[v0, v1, v2, v3, v4, v5, v6] T (0, 0)) ∧ Below k w Wf ∧ ∀ x, x ≠ B → Wf.heap[x]? = W.heap[x]? :=
  ⟨_, rfl, by simp [World.setCell, Array.getElem?_modify, h], ((((((hb.setCell hk _).setCell hk _).setCell hk _).setCell hk _).setCell hk _).setCell hk _).setCell hk _, fun x hx => by
    rw [Below.heap_setCell _ _ _ _ hx, Below.heap_setCell _ _ _ _ hx, Below.heap_setCell _ _ _ _ hx, Below.heap_setCell _ _ _ _ hx, Below.heap_setCell _ _ _ _ hx, Below.heap_setCell _ _ _ _ hx, Below.heap_setCell _ _ _ _ hx]⟩
theorem box7_froz {W : World} {B : Nat} {v0 v1 v2 v3 v4 v5 v6 : Value} {T : TypeId} (h : W.heap[B]? = some (.cells #[v0, v1, v2, v3, v4, v5, v6] T (0, 0))) : W.frozen? ⟨B, 0, none⟩ = false ∧ W.frozen? ⟨B, 1, none⟩ = false ∧ W.frozen? ⟨B, 2, none⟩ = false ∧ W.frozen? ⟨B, 3, none⟩ = false ∧ W.frozen? ⟨B, 4, none⟩ = false ∧ W.frozen? ⟨B, 5, none⟩ = false ∧ W.frozen? ⟨B, 6, none⟩ = false := by
  have := (box7_cells h).2
  exact ⟨this 0, this 1, this 2, this 3, this 4, this 5, this 6⟩
end Go.Proofs.Ytgbmemkoggogdaa
