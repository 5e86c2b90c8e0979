/- slices.Insert of one number, without room: contract; the closure of track.Fix. -/
import Derived.Shelf.Spec.SlicesInsertGrow
import Derived.Test.YtkighkpmebcnhacAx
import Derived.Test.YtkighkpmebcnhacEn
namespace Go.Proofs.Ytkighkpmebcnhac
open Go.RowKit

def insRen : Go.Shelf.Ren := ⟨fun | 21 => 34 | 27 => 45 | 28 => 46 | 35 => 53 | 39 => 56 | n => n, fun | 22 => 26 | 3 => 3 | 4 => 4 | 0 => 0 | n => n, fun n => n⟩
theorem insLays : Lays2.n21 Try.prog insRen where
  mixed := by kernel_rfl
  f21 := Try.func34.trans (congrArg some (by kernel_rfl))
  f27 := Try.func45.trans (congrArg some (by kernel_rfl))
  f28 := Try.func46.trans (congrArg some (by kernel_rfl))
  f35 := Try.func53.trans (congrArg some (by kernel_rfl))
  f39 := Try.func56.trans (congrArg some (by kernel_rfl))
  t0 := Try.underlying0
  a0 := Try.isAgg0
  z0 := Try.sizeOf0
  v0 := Try.zeroValue0
  t3 := Try.underlying3
  a3 := Try.isAgg3
  z3 := Try.sizeOf3
  v3 := Try.zeroValue3
  t4 := Try.underlying4
  a4 := Try.isAgg4
  z4 := Try.sizeOf4
  v4 := Try.zeroValue4
  t22 := Try.underlying26
  a22 := Try.isAgg26
  z22 := Try.sizeOf26
  v22 := Try.zeroValue26
  i3 := by kernel_rfl

theorem below_sets {B : Nat} {a : World} {b : Nat} (hb : B ≤ b) : ∀ (vs : List Value) (o : Nat) (w : World), Below B a w → Below B a (w.setCells b o vs)
  | [], _, _, h => h
  | _ :: vs, _, _, h => below_sets hb vs _ _ (h.setCell hb _)

theorem putL_len {d : List Int} {i n : Nat} {x : Int} (hd : d.length = n) (hi : i ≤ n) : (d.take i ++ [x] ++ d.drop i).length = n + 1 := by
  simp; omega
theorem putL_get {d : List Int} {i n : Nat} {x : Int} (hd : d.length = n) (hi : i ≤ n) (j : Nat) : (d.take i ++ [x] ++ d.drop i).getD j 0 = if j < i then d.getD j 0 else if j = i then x else d.getD (j - 1) 0 := by
  have hl : (d.take i).length = i := by rw [List.length_take]; omega
  by_cases h1 : j < i
  · rw [if_pos h1, List.append_assoc]
    simp only [List.getD]
    rw [List.getElem?_append_left (by omega), List.getElem?_take, if_pos h1]
  · rw [if_neg h1]
    by_cases h2 : j = i
    · subst h2
      rw [if_pos rfl, List.append_assoc]
      simp only [List.getD]
      rw [List.getElem?_append_right (by omega), hl]
      simp
    · rw [if_neg h2]
      simp only [List.getD]
      rw [List.getElem?_append_right (by simp; omega)]
      simp only [List.length_append, hl, List.length_singleton, List.getElem?_drop]
      rw [show i + (j - (i + 1)) = j - 1 by omega]
theorem putL_wf {d : List Int} {i : Nat} {x : Int} (hd : ∀ y ∈ d, (Lit.int .i64 y).wf = true) (hx : (Lit.int .i64 x).wf = true) : ∀ y ∈ d.take i ++ [x] ++ d.drop i, (Lit.int .i64 y).wf = true := by
  intro y hy
  simp only [List.mem_append, List.mem_singleton] at hy
  rcases hy with (h | h) | h
  · exact hd y (List.mem_of_mem_take h)
  · rw [h]; exact hx
  · exact hd y (List.mem_of_mem_drop h)

theorem insert_any (g n i vb vc : Nat) (d : List Int) (x : Int) (w : World) (hi : i ≤ n) (hn : n ≤ 1000) (hd : Sl w (some ⟨g, 0, none⟩) n d) (hx : Sl w (some ⟨vb, 0, none⟩) 1 [x]) :
    Calls Try.prog 34 #[.slice (some ⟨g, 0, none⟩) n n, .int .i64 (i : Int), .slice (some ⟨vb, 0, none⟩) 1 vc] w (GivesRow w (d.take i ++ [x] ++ d.drop i)) := by
  have hL := hd.1
  have hPL := @putL_len d i n x hL hi
  have hPW := @putL_wf d i x hd.2.2.1 (hx.2.2.1 x (by simp))
  have hdn := sl_news hd
  have hxn := sl_news hx
  have hcl : (d.map (Value.int .i64)).length = n := by rw [List.length_map, hL]
  have hone : ∀ v ∈ d.map (Value.int .i64), v.oneCell' = true := fun v hv => by obtain ⟨z, _, rfl⟩ := List.mem_map.1 hv; rfl
  have honx : ∀ v ∈ [Value.int .i64 x], v.oneCell' = true := fun v hv => by simp at hv; subst hv; rfl
  by_cases hlt : i < n
  · have h := Any2.slices_Insert_int_grow insLays g 0 n n i vb 0 1 vc (d.map (Value.int .i64)) [.int .i64 x] w hlt (by omega) (Nat.le_refl _) (by omega) (by omega) hcl rfl
      (fun j v hj => by have := hdn j v hj; rwa [Addr.add_lit] at this) (fun j v hj => by have := hxn j v hj; rwa [Addr.add_lit] at this) hone honx
    refine h.mono ?_
    rintro e w' ⟨rfl, rfl⟩
    obtain ⟨G, hG⟩ : ∃ G, G = grownCap w (n + 1) n (insRen.t 3) := ⟨_, rfl⟩
    rw [← hG]
    have hRS : ∀ j, j < n + 1 → ((((d.map (Value.int .i64)).take i).toArray ++ Builtin.zeroCells (Value.int .i64 0).cells (n + 1 - i) ++ Builtin.zeroCells (Value.int .i64 0).cells (G - (n + 1)))[j]?).isSome = true := fun j hj => by
      rw [Array.getElem?_eq_getElem]
      · rfl
      · simp [Builtin.zeroCells, Value.cells]; omega
    have hRL : ∀ j, j < i → (((d.map (Value.int .i64)).take i).toArray ++ Builtin.zeroCells (Value.int .i64 0).cells (n + 1 - i) ++ Builtin.zeroCells (Value.int .i64 0).cells (G - (n + 1)))[j]? = some (.int .i64 (d.getD j 0)) := fun j hj => by
      have hjd : j < d.length := by omega
      rw [Array.append_assoc, Array.getElem?_append_left (by simp; omega)]
      simp [hj, List.getD, hjd]
    generalize (((d.map (Value.int .i64)).take i).toArray ++ Builtin.zeroCells (Value.int .i64 0).cells (n + 1 - i) ++ Builtin.zeroCells (Value.int .i64 0).cells (G - (n + 1))) = ROW at hRS hRL
    have hb1 : Below w.heap.size w ((w.alloc (.cells ROW (insRen.t 3))).drew) := ((Below.refl w.heap.size w).alloc (Nat.le_refl _) _).drew
    have hc1 : ∀ j, ((w.alloc (.cells ROW (insRen.t 3))).drew).cell? ⟨w.heap.size, j, none⟩ = ROW[j]? := fun j => by
      show (w.alloc (.cells ROW (insRen.t 3))).cell? ⟨w.heap.size, j, none⟩ = ROW[j]?
      exact cell_of_row _ _ _ _ _ (0, 0) (heap_alloc_last w _)
    generalize (w.alloc (.cells ROW (insRen.t 3))).drew = W1 at hb1 hc1 ⊢
    have hb2 := below_sets (Nat.le_refl w.heap.size) [Value.int .i64 x] i W1 hb1
    have hc2i : (W1.setCells w.heap.size i [.int .i64 x]).cell? ⟨w.heap.size, i, none⟩ = some (.int .i64 x) := by
      have := World.cell?_setCells_in w.heap.size [Value.int .i64 x] i W1 (fun j hj => by simp at hj; subst hj; rw [hc1]; exact hRS _ (by omega)) 0 (by simp)
      simpa using this
    have hc2 : ∀ j, j ≠ i → (W1.setCells w.heap.size i [.int .i64 x]).cell? ⟨w.heap.size, j, none⟩ = ROW[j]? := fun j hj => by
      rw [World.cell?_setCells_out _ _ _ _ _ (fun _ _ => by simp; omega), hc1]
    generalize W1.setCells w.heap.size i [.int .i64 x] = W2 at hb2 hc2i hc2 ⊢
    have hb3 := below_sets (Nat.le_refl w.heap.size) ((d.map (Value.int .i64)).drop i) (i + 1) W2.drew hb2.drew
    have hdl : ((d.map (Value.int .i64)).drop i).length = n - i := by rw [List.length_drop, hcl]
    have hc3o : ∀ j, j < i + 1 → (W2.drew.setCells w.heap.size (i + 1) ((d.map (Value.int .i64)).drop i)).cell? ⟨w.heap.size, j, none⟩ = W2.cell? ⟨w.heap.size, j, none⟩ := fun j hj => by
      rw [World.cell?_setCells_out _ _ _ _ _ (fun _ _ => Or.inl hj)]
      rfl
    have hc3i : ∀ j (hj : j < n - i), (W2.drew.setCells w.heap.size (i + 1) ((d.map (Value.int .i64)).drop i)).cell? ⟨w.heap.size, i + 1 + j, none⟩ = some (.int .i64 (d.getD (i + j) 0)) := fun j hj => by
      rw [World.cell?_setCells_in w.heap.size ((d.map (Value.int .i64)).drop i) (i + 1) W2.drew (fun q hq => by
        show (W2.cell? ⟨w.heap.size, i + 1 + q, none⟩).isSome = true
        rw [hc2 _ (by omega)]; exact hRS _ (by omega)) j (by omega)]
      have : i + j < d.length := by omega
      simp [List.getD, this]
    generalize W2.drew.setCells w.heap.size (i + 1) ((d.map (Value.int .i64)).drop i) = W3 at hb3 hc3o hc3i ⊢
    refine ⟨some ⟨w.heap.size, 0, none⟩, G, by rw [hPL], ⟨⟨rfl, by unfold maxLen; omega, hPW, Or.inr ⟨w.heap.size, 0, rfl, fun j hj => ?_⟩⟩, fun ad e => by cases e; exact Nat.le_refl _⟩, hb3⟩
    rw [hPL] at hj
    rw [Nat.zero_add, putL_get hL hi j]
    by_cases h1 : j < i
    · rw [if_pos h1, hc3o j (by omega), hc2 j (by omega), hRL j h1]
    · rw [if_neg h1]
      by_cases h2 : j = i
      · subst h2
        rw [if_pos rfl, hc3o j (by omega), hc2i]
      · rw [if_neg h2]
        have := hc3i (j - (i + 1)) (by omega)
        rwa [show i + 1 + (j - (i + 1)) = j by omega, show i + (j - (i + 1)) = j - 1 by omega] at this
  · obtain rfl : i = n := by omega
    have h := Any2.slices_Insert_int_end_grow insLays (some ⟨g, 0, none⟩) i i vb 0 1 vc (d.map (Value.int .i64)) [.int .i64 x] w (by omega) (Nat.le_refl _) (by omega) (by omega) hcl rfl (fun e => by cases e)
      (fun a e j v hj => by cases e; exact hdn j v hj) (fun j v hj => by have := hxn j v hj; rwa [Addr.add_lit] at this) honx
    refine h.mono ?_
    rintro e w' ⟨rfl, rfl⟩
    obtain ⟨G, hG⟩ : ∃ G, G = grownCap w (i + 1) i (insRen.t 3) := ⟨_, rfl⟩
    rw [← hG]
    refine ⟨some ⟨w.heap.size, 0, none⟩, G, by rw [hPL], ⟨⟨rfl, by unfold maxLen; omega, hPW, Or.inr ⟨w.heap.size, 0, rfl, fun j hj => ?_⟩⟩, fun ad e => by cases e; exact Nat.le_refl _⟩, ?_⟩
    · rw [hPL] at hj
      rw [Nat.zero_add, putL_get hL hi j]
      have e1 : ∀ (o : Obj), (w.drew.alloc o).cell? ⟨w.heap.size, j, none⟩ = (w.drew.alloc o).cell? ⟨w.drew.heap.size, j, none⟩ := fun _ => rfl
      rw [e1, cell_of_row _ _ _ _ _ (0, 0) (heap_alloc_last w.drew _), Array.getElem?_append_left (by simp; omega)]
      by_cases h1 : j < i
      · have : j < d.length := by omega
        rw [if_pos h1]
        simp [List.getElem?_append_left, List.getD, this]
      · obtain rfl : j = i := by omega
        rw [if_neg h1, if_pos rfl]
        simp [hL]
    · exact ((Below.refl w.heap.size w).drew).alloc (by simp) _

set_option maxHeartbeats 4000000 in
set_option maxRecDepth 4000 in
theorem fix1_any (B B' : Nat) (tk : Nat) (x : Int) (g n : Nat) (d : List Int) (w : World) (hB : w.cell? ⟨B, 0, none⟩ = some (.int .i64 (tk : Int))) (hB' : w.cell? ⟨B', 0, none⟩ = some (.int .i64 x)) (hd : Sl w (some ⟨g, 0, none⟩) n d) (hx : (Lit.int .i64 x).wf = true) (hn : n ≤ 1000) (ht : tk ≤ n) :
    Calls Try.prog 33 #[.slice (some ⟨g, 0, none⟩) n n, .pointer (some ⟨B, 0, none⟩), .pointer (some ⟨B', 0, none⟩)] w (GivesRow w (d.take tk ++ [x] ++ d.drop tk)) := by
  have hb := (Below.refl w.heap.size w).alloc (Nat.le_refl _) (.cells #[.int .i64 x] 3)
  have hs1 : Sl (w.alloc (.cells #[.int .i64 x] 3)) (some ⟨w.heap.size, 0, none⟩) 1 [x] := by
    refine ⟨rfl, by decide, fun y hy => by simp at hy; rw [hy]; exact hx, Or.inr ⟨_, _, rfl, fun i hi => ?_⟩⟩
    rw [cell_of_row _ _ (0 + i) _ 3 (0, 0) (heap_alloc_last w _)]
    obtain rfl : i = 0 := by omega
    rfl
  have HC := hide (insert_any g n tk w.heap.size 1 d x _ ht hn (sl_below hd hb) hs1)
  have HB := hide hb
  unfold GivesRow at HC
  clear hd hs1 hb
  generalize d.take tk ++ [x] ++ d.drop tk = l at HC ⊢
  go_enter Try.func33, Try.ntmps33
  go_wp2_with fail
  refine HC.out.mono ?_
  rintro e w1 ⟨a1, c1, rfl, hs, hb1⟩
  have HS := hide hs
  have HB1 := hide (below_step HB.out hb1)
  clear hs hb1 hB hB'
  go_wp2
  go_ret
  exact ⟨a1, c1, by simp, HS.out.mono HB.out.size, HB1.out⟩
end Go.Proofs.Ytkighkpmebcnhac
