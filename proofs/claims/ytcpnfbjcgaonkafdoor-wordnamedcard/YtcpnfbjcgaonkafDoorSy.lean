/- word.Named: contracts. -/
import Derived.Test.YtcpnfbjcgaonkafDoorSm
import Derived.Test.YtcpnfbjcgaonkafDoorSr
import Derived.Test.YtcpnfbjcgaonkafDoorSs
namespace Go.Proofs.YtcpnfbjcgaonkafDoor
open Go.RowKit

abbrev zO : Obj := .cells #[.int .i64 0, .slice none 0 0, .slice none 0 0] 25
abbrev iO (x y : Int) : Obj := .cells #[.int .i64 x, .int .i64 y] 3
abbrev rS (x n : Nat) : Value := .slice (some ⟨x, 0, none⟩) n n
theorem heap_alloc_at (w : World) (o : Obj) (x : Nat) : (w.alloc o).heap[x]? = if x = w.heap.size then some o else w.heap[x]? := by
  show (w.heap.push o)[x]? = _
  rw [Array.getElem?_push]
theorem sl_blk {W : World} {x : Nat} {l : List Int} {t : TypeId} (h : W.heap[x]? = some (.cells (iArr l) t)) (hm : l.length ≤ maxLen) (hw : ∀ x ∈ l, (Lit.int .i64 x).wf = true) : Sl W (some ⟨x, 0, none⟩) l.length l := by
  refine ⟨rfl, hm, hw, Or.inr ⟨_, _, rfl, fun i hi => ?_⟩⟩
  rw [cell_of_row _ _ (0 + i) _ t (0, 0) h, Nat.zero_add, iArr_get _ _ hi]
theorem sl2_blk {W : World} {x : Nat} {R : List (List Int)} {cs : Array Value} {t : TypeId} (h : W.heap[x]? = some (.cells cs t)) (hm : R.length ≤ maxLen) (hr : ∀ i, i < R.length → ∃ a' cap', cs[i]? = some (.slice a' (R.getD i []).length cap') ∧ Sl W a' (R.getD i []).length (R.getD i [])) : Sl2 W (some ⟨x, 0, none⟩) R.length R := by
  refine ⟨rfl, hm, Or.inr ⟨_, _, rfl, fun i hi => ?_⟩⟩
  obtain ⟨a', cap', h1, h2⟩ := hr i hi
  exact ⟨a', cap', by rw [cell_of_row _ _ (0 + i) _ t (0, 0) h, Nat.zero_add]; exact h1, h2⟩
theorem sl2_two {W : World} {x x0 x1 : Nat} {r0 r1 : List Int} {t : TypeId} (h : W.heap[x]? = some (.cells #[.slice (some ⟨x0, 0, none⟩) r0.length r0.length, .slice (some ⟨x1, 0, none⟩) r1.length r1.length] t)) (h0 : Sl W (some ⟨x0, 0, none⟩) r0.length r0) (h1 : Sl W (some ⟨x1, 0, none⟩) r1.length r1) : Sl2 W (some ⟨x, 0, none⟩) 2 [r0, r1] :=
  sl2_blk (R := [r0, r1]) h (by show 2 ≤ maxLen; decide) fun i hi => by
    have : i < 2 := hi
    match i with
    | 0 => exact ⟨_, _, rfl, h0⟩
    | 1 => exact ⟨_, _, rfl, h1⟩
    | i + 2 => omega
theorem sl2_four {W : World} {x x0 x1 x2 x3 : Nat} {r0 r1 r2 r3 : List Int} {t : TypeId} (h : W.heap[x]? = some (.cells #[.slice (some ⟨x0, 0, none⟩) r0.length r0.length, .slice (some ⟨x1, 0, none⟩) r1.length r1.length, .slice (some ⟨x2, 0, none⟩) r2.length r2.length, .slice (some ⟨x3, 0, none⟩) r3.length r3.length] t)) (h0 : Sl W (some ⟨x0, 0, none⟩) r0.length r0) (h1 : Sl W (some ⟨x1, 0, none⟩) r1.length r1) (h2 : Sl W (some ⟨x2, 0, none⟩) r2.length r2) (h3 : Sl W (some ⟨x3, 0, none⟩) r3.length r3) : Sl2 W (some ⟨x, 0, none⟩) 4 [r0, r1, r2, r3] :=
  sl2_blk (R := [r0, r1, r2, r3]) h (by show 4 ≤ maxLen; decide) fun i hi => by
    have : i < 4 := hi
    match i with
    | 0 => exact ⟨_, _, rfl, h0⟩
    | 1 => exact ⟨_, _, rfl, h1⟩
    | 2 => exact ⟨_, _, rfl, h2⟩
    | 3 => exact ⟨_, _, rfl, h3⟩
    | i + 4 => omega

set_option maxHeartbeats 4000000 in
set_option maxRecDepth 4000 in
theorem named_thue (s : ByteArray) (h1 : (s.toList == [116, 104, 117, 101]) = true) (w : World) : Calls Tryd.prog 22 #[.string s] w (MphR w 2 thN thO 0) := by
  obtain ⟨W, hW⟩ : ∃ W, ((((w.alloc zO).alloc (iO 0 1)).alloc (iO 1 0)).alloc (.cells #[rS (w.heap.size + 1) 2, rS (w.heap.size + 1 + 1) 2] 23)).alloc (.cells #[.int .i64 0, .int .i64 1] 3) = W := ⟨_, rfl⟩
  have hb0 : ∀ x : Nat, W.heap[x]? = (((((w.alloc zO).alloc (iO 0 1)).alloc (iO 1 0)).alloc (.cells #[rS (w.heap.size + 1) 2, rS (w.heap.size + 1 + 1) 2] 23)).alloc (.cells #[.int .i64 0, .int .i64 1] 3)).heap[x]? := fun x => by rw [hW]
  have g0 : W.heap[w.heap.size + 1]? = some (iO 0 1) := by rw [hb0, heap_alloc_at, if_neg (by simp; try omega), heap_alloc_at, if_neg (by simp; try omega), heap_alloc_at, if_neg (by simp; try omega), heap_alloc_at, if_pos (by simp)]
  have g1 : W.heap[w.heap.size + 1 + 1]? = some (iO 1 0) := by rw [hb0, heap_alloc_at, if_neg (by simp; try omega), heap_alloc_at, if_neg (by simp; try omega), heap_alloc_at, if_pos (by simp)]
  have gr : W.heap[w.heap.size + 1 + 1 + 1]? = some (.cells #[rS (w.heap.size + 1) 2, rS (w.heap.size + 1 + 1) 2] 23) := by rw [hb0, heap_alloc_at, if_neg (by simp; try omega), heap_alloc_at, if_pos (by simp)]
  have gk : W.heap[w.heap.size + 1 + 1 + 1 + 1]? = some (.cells #[.int .i64 0, .int .i64 1] 3) := by rw [hb0, heap_alloc_at, if_pos (by simp)]
  have gz : W.heap[w.heap.size]? = some zO := by rw [hb0, heap_alloc_at, if_neg (by simp; try omega), heap_alloc_at, if_neg (by simp; try omega), heap_alloc_at, if_neg (by simp; try omega), heap_alloc_at, if_neg (by simp; try omega), heap_alloc_at, if_pos (by simp)]
  have HBW : Hid (Below w.heap.size w W) := by
    show Below _ _ _
    rw [← hW]
    repeat' (first | exact Below.refl _ _ | refine Below.alloc ?_ (by simp; try omega) _)
  have HSW : Hid (w.heap.size < W.heap.size) := (Array.getElem?_eq_some_iff.1 gz).1
  have HZ := hide gz
  have s0 : Sl W (some ⟨w.heap.size + 1, 0, none⟩) 2 [0, 1] := sl_blk (l := [0, 1]) g0 (by decide) (by decide)
  have s1 : Sl W (some ⟨w.heap.size + 1 + 1, 0, none⟩) 2 [1, 0] := sl_blk (l := [1, 0]) g1 (by decide) (by decide)
  have sr : Sl2 W (some ⟨w.heap.size + 1 + 1 + 1, 0, none⟩) 2 thN := sl2_two gr s0 s1
  have sk : Sl W (some ⟨w.heap.size + 1 + 1 + 1 + 1, 0, none⟩) 2 thO := sl_blk (l := thO) gk (by decide) (by decide)
  have HMO := hide (word_morph_any (some ⟨w.heap.size + 1 + 1 + 1, 0, none⟩) 2 2 (some ⟨w.heap.size + 1 + 1 + 1 + 1, 0, none⟩) 2 2 thN thO W sr sk)
  have e1 : mpB thN thO = 2 := by unfold mpB; rw [if_pos th_mor.1, th_mor.2]; rfl
  have e2 : mpN thN thO = thN := by unfold mpN; rw [if_pos th_mor.1]
  have e3 : mpO thN thO = thO := by unfold mpO; rw [if_pos th_mor.1]
  rw [e1, e2, e3, th_mor.1] at HMO
  unfold MphR at HMO
  clear e1 e2 e3 hb0 gr gk gz sr sk g0 s0 g1 s1
  go_enter Tryd.func22, Tryd.ntmps22
  go_wp2_with fail
  clear hW
  refine HMO.out.mono ?_
  rintro e w1 ⟨a1, c1, o1, d1, rfl, hnew, hb⟩
  have hbz := below_step HBW.out hb
  have hr := (hb.block w.heap.size HSW.out).trans HZ.out
  obtain ⟨⟨r0, r1, r2⟩, rf⟩ := box3_cells hr
  have HR := hide hr
  have HBZ := hide hbz
  have HNW := hide hnew
  clear hr hbz hnew hb HMO HZ
  rw [errV_zero]
  go_wp2
  obtain ⟨hset, hbel⟩ := box3_set (v0 := .int .i64 2) (v1 := .slice a1 thN.length c1) (v2 := .slice o1 thN.length d1) HR.out rfl
  obtain ⟨⟨z0, z1, z2⟩, -⟩ := box3_cells hset
  have hbF := hbel w w.heap.size HBZ.out (Nat.le_refl _)
  have hk := fun x hx => set3_keep w1 w.heap.size (.int .i64 2) (.slice a1 thN.length c1) (.slice o1 thN.length d1) x hx
  have hsz := set3_size w1 w.heap.size (.int .i64 2) (.slice a1 thN.length c1) (.slice o1 thN.length d1)
  refine bodyPost_ret (v := .tuple #[.agg #[.int .i64 2, .slice a1 thN.length c1, .slice o1 thN.length d1], .nilIface]) (by simp [results, Tryd.results22, go_sem, z0, z1, z2]) rfl ⟨a1, c1, o1, d1, by rw [errV_zero], fun W' hW' => ?_, hbF⟩
  exact HNW.out W' (fun x hx hxl => by
    have h5 := HSW.out
    rw [hW' x (by omega) (by rw [hsz]; exact hxl), hk x (by omega)])
set_option maxHeartbeats 4000000 in
set_option maxRecDepth 4000 in
theorem named_rudin (s : ByteArray) (h1 : (s.toList == [116, 104, 117, 101]) = false) (h2 : (s.toList == [114, 117, 100, 105, 110]) = true) (w : World) : Calls Tryd.prog 22 #[.string s] w (MphR w 2 ruN ruO 0) := by
  obtain ⟨W, hW⟩ : ∃ W, ((((((w.alloc zO).alloc (iO 0 1)).alloc (iO 0 2)).alloc (iO 3 1)).alloc (iO 3 2)).alloc (.cells #[rS (w.heap.size + 1) 2, rS (w.heap.size + 1 + 1) 2, rS (w.heap.size + 1 + 1 + 1) 2, rS (w.heap.size + 1 + 1 + 1 + 1) 2] 23)).alloc (.cells #[.int .i64 0, .int .i64 0, .int .i64 1, .int .i64 1] 3) = W := ⟨_, rfl⟩
  have hb0 : ∀ x : Nat, W.heap[x]? = (((((((w.alloc zO).alloc (iO 0 1)).alloc (iO 0 2)).alloc (iO 3 1)).alloc (iO 3 2)).alloc (.cells #[rS (w.heap.size + 1) 2, rS (w.heap.size + 1 + 1) 2, rS (w.heap.size + 1 + 1 + 1) 2, rS (w.heap.size + 1 + 1 + 1 + 1) 2] 23)).alloc (.cells #[.int .i64 0, .int .i64 0, .int .i64 1, .int .i64 1] 3)).heap[x]? := fun x => by rw [hW]
  have g0 : W.heap[w.heap.size + 1]? = some (iO 0 1) := by rw [hb0, heap_alloc_at, if_neg (by simp; try omega), heap_alloc_at, if_neg (by simp; try omega), heap_alloc_at, if_neg (by simp; try omega), heap_alloc_at, if_neg (by simp; try omega), heap_alloc_at, if_neg (by simp; try omega), heap_alloc_at, if_pos (by simp)]
  have g1 : W.heap[w.heap.size + 1 + 1]? = some (iO 0 2) := by rw [hb0, heap_alloc_at, if_neg (by simp; try omega), heap_alloc_at, if_neg (by simp; try omega), heap_alloc_at, if_neg (by simp; try omega), heap_alloc_at, if_neg (by simp; try omega), heap_alloc_at, if_pos (by simp)]
  have g2 : W.heap[w.heap.size + 1 + 1 + 1]? = some (iO 3 1) := by rw [hb0, heap_alloc_at, if_neg (by simp; try omega), heap_alloc_at, if_neg (by simp; try omega), heap_alloc_at, if_neg (by simp; try omega), heap_alloc_at, if_pos (by simp)]
  have g3 : W.heap[w.heap.size + 1 + 1 + 1 + 1]? = some (iO 3 2) := by rw [hb0, heap_alloc_at, if_neg (by simp; try omega), heap_alloc_at, if_neg (by simp; try omega), heap_alloc_at, if_pos (by simp)]
  have gr : W.heap[w.heap.size + 1 + 1 + 1 + 1 + 1]? = some (.cells #[rS (w.heap.size + 1) 2, rS (w.heap.size + 1 + 1) 2, rS (w.heap.size + 1 + 1 + 1) 2, rS (w.heap.size + 1 + 1 + 1 + 1) 2] 23) := by rw [hb0, heap_alloc_at, if_neg (by simp; try omega), heap_alloc_at, if_pos (by simp)]
  have gk : W.heap[w.heap.size + 1 + 1 + 1 + 1 + 1 + 1]? = some (.cells #[.int .i64 0, .int .i64 0, .int .i64 1, .int .i64 1] 3) := by rw [hb0, heap_alloc_at, if_pos (by simp)]
  have gz : W.heap[w.heap.size]? = some zO := by rw [hb0, heap_alloc_at, if_neg (by simp; try omega), heap_alloc_at, if_neg (by simp; try omega), heap_alloc_at, if_neg (by simp; try omega), heap_alloc_at, if_neg (by simp; try omega), heap_alloc_at, if_neg (by simp; try omega), heap_alloc_at, if_neg (by simp; try omega), heap_alloc_at, if_pos (by simp)]
  have HBW : Hid (Below w.heap.size w W) := by
    show Below _ _ _
    rw [← hW]
    repeat' (first | exact Below.refl _ _ | refine Below.alloc ?_ (by simp; try omega) _)
  have HSW : Hid (w.heap.size < W.heap.size) := (Array.getElem?_eq_some_iff.1 gz).1
  have HZ := hide gz
  have s0 : Sl W (some ⟨w.heap.size + 1, 0, none⟩) 2 [0, 1] := sl_blk (l := [0, 1]) g0 (by decide) (by decide)
  have s1 : Sl W (some ⟨w.heap.size + 1 + 1, 0, none⟩) 2 [0, 2] := sl_blk (l := [0, 2]) g1 (by decide) (by decide)
  have s2 : Sl W (some ⟨w.heap.size + 1 + 1 + 1, 0, none⟩) 2 [3, 1] := sl_blk (l := [3, 1]) g2 (by decide) (by decide)
  have s3 : Sl W (some ⟨w.heap.size + 1 + 1 + 1 + 1, 0, none⟩) 2 [3, 2] := sl_blk (l := [3, 2]) g3 (by decide) (by decide)
  have sr : Sl2 W (some ⟨w.heap.size + 1 + 1 + 1 + 1 + 1, 0, none⟩) 4 ruN := sl2_four gr s0 s1 s2 s3
  have sk : Sl W (some ⟨w.heap.size + 1 + 1 + 1 + 1 + 1 + 1, 0, none⟩) 4 ruO := sl_blk (l := ruO) gk (by decide) (by decide)
  have HMO := hide (word_morph_any (some ⟨w.heap.size + 1 + 1 + 1 + 1 + 1, 0, none⟩) 4 4 (some ⟨w.heap.size + 1 + 1 + 1 + 1 + 1 + 1, 0, none⟩) 4 4 ruN ruO W sr sk)
  have e1 : mpB ruN ruO = 2 := by unfold mpB; rw [if_pos ru_mor.1, ru_mor.2]; rfl
  have e2 : mpN ruN ruO = ruN := by unfold mpN; rw [if_pos ru_mor.1]
  have e3 : mpO ruN ruO = ruO := by unfold mpO; rw [if_pos ru_mor.1]
  rw [e1, e2, e3, ru_mor.1] at HMO
  unfold MphR at HMO
  clear e1 e2 e3 hb0 gr gk gz sr sk g0 s0 g1 s1 g2 s2 g3 s3
  go_enter Tryd.func22, Tryd.ntmps22
  go_wp2_with fail
  clear hW
  refine HMO.out.mono ?_
  rintro e w1 ⟨a1, c1, o1, d1, rfl, hnew, hb⟩
  have hbz := below_step HBW.out hb
  have hr := (hb.block w.heap.size HSW.out).trans HZ.out
  obtain ⟨⟨r0, r1, r2⟩, rf⟩ := box3_cells hr
  have HR := hide hr
  have HBZ := hide hbz
  have HNW := hide hnew
  clear hr hbz hnew hb HMO HZ
  rw [errV_zero]
  go_wp2
  obtain ⟨hset, hbel⟩ := box3_set (v0 := .int .i64 2) (v1 := .slice a1 ruN.length c1) (v2 := .slice o1 ruN.length d1) HR.out rfl
  obtain ⟨⟨z0, z1, z2⟩, -⟩ := box3_cells hset
  have hbF := hbel w w.heap.size HBZ.out (Nat.le_refl _)
  have hk := fun x hx => set3_keep w1 w.heap.size (.int .i64 2) (.slice a1 ruN.length c1) (.slice o1 ruN.length d1) x hx
  have hsz := set3_size w1 w.heap.size (.int .i64 2) (.slice a1 ruN.length c1) (.slice o1 ruN.length d1)
  refine bodyPost_ret (v := .tuple #[.agg #[.int .i64 2, .slice a1 ruN.length c1, .slice o1 ruN.length d1], .nilIface]) (by simp [results, Tryd.results22, go_sem, z0, z1, z2]) rfl ⟨a1, c1, o1, d1, by rw [errV_zero], fun W' hW' => ?_, hbF⟩
  exact HNW.out W' (fun x hx hxl => by
    have h5 := HSW.out
    rw [hW' x (by omega) (by rw [hsz]; exact hxl), hk x (by omega)])
set_option maxHeartbeats 4000000 in
set_option maxRecDepth 4000 in
theorem named_fibo (s : ByteArray) (h1 : (s.toList == [116, 104, 117, 101]) = false) (h2 : (s.toList == [114, 117, 100, 105, 110]) = false) (h3 : (s.toList == [102, 105, 98, 111]) = true) (w : World) : Calls Tryd.prog 22 #[.string s] w (MphR w 1 fiN fiO 0) := by
  obtain ⟨W, hW⟩ : ∃ W, ((((w.alloc zO).alloc (iO 0 1)).alloc (iO 0 1)).alloc (.cells #[rS (w.heap.size + 1) 2, rS (w.heap.size + 1 + 1) 2] 23)).alloc (.cells #[.int .i64 0, .int .i64 1] 3) = W := ⟨_, rfl⟩
  have hb0 : ∀ x : Nat, W.heap[x]? = (((((w.alloc zO).alloc (iO 0 1)).alloc (iO 0 1)).alloc (.cells #[rS (w.heap.size + 1) 2, rS (w.heap.size + 1 + 1) 2] 23)).alloc (.cells #[.int .i64 0, .int .i64 1] 3)).heap[x]? := fun x => by rw [hW]
  have g0 : W.heap[w.heap.size + 1]? = some (iO 0 1) := by rw [hb0, heap_alloc_at, if_neg (by simp; try omega), heap_alloc_at, if_neg (by simp; try omega), heap_alloc_at, if_neg (by simp; try omega), heap_alloc_at, if_pos (by simp)]
  have g1 : W.heap[w.heap.size + 1 + 1]? = some (iO 0 1) := by rw [hb0, heap_alloc_at, if_neg (by simp; try omega), heap_alloc_at, if_neg (by simp; try omega), heap_alloc_at, if_pos (by simp)]
  have gr : W.heap[w.heap.size + 1 + 1 + 1]? = some (.cells #[rS (w.heap.size + 1) 2, rS (w.heap.size + 1 + 1) 2] 23) := by rw [hb0, heap_alloc_at, if_neg (by simp; try omega), heap_alloc_at, if_pos (by simp)]
  have gk : W.heap[w.heap.size + 1 + 1 + 1 + 1]? = some (.cells #[.int .i64 0, .int .i64 1] 3) := by rw [hb0, heap_alloc_at, if_pos (by simp)]
  have gz : W.heap[w.heap.size]? = some zO := by rw [hb0, heap_alloc_at, if_neg (by simp; try omega), heap_alloc_at, if_neg (by simp; try omega), heap_alloc_at, if_neg (by simp; try omega), heap_alloc_at, if_neg (by simp; try omega), heap_alloc_at, if_pos (by simp)]
  have HBW : Hid (Below w.heap.size w W) := by
    show Below _ _ _
    rw [← hW]
    repeat' (first | exact Below.refl _ _ | refine Below.alloc ?_ (by simp; try omega) _)
  have HSW : Hid (w.heap.size < W.heap.size) := (Array.getElem?_eq_some_iff.1 gz).1
  have HZ := hide gz
  have G0 := hide g0
  have G1 := hide g1
  have Gr := hide gr
  have Gk := hide gk
  obtain ⟨⟨r0, r1, r2⟩, rf⟩ := box3_cells gz
  clear hb0 gr gk gz g0 g1
  go_enter Tryd.func22, Tryd.ntmps22
  go_wp2
  obtain ⟨hset, hbel⟩ := box3_set (v0 := .int .i64 1) (v1 := .slice (some ⟨w.heap.size + 1 + 1 + 1, 0, none⟩) 2 2) (v2 := .slice (some ⟨w.heap.size + 1 + 1 + 1 + 1, 0, none⟩) 2 2) HZ.out rfl
  obtain ⟨⟨z0, z1, z2⟩, -⟩ := box3_cells hset
  have hbF := hbel w w.heap.size HBW.out (Nat.le_refl _)
  have hk := fun x hx => set3_keep W w.heap.size (.int .i64 1) (.slice (some ⟨w.heap.size + 1 + 1 + 1, 0, none⟩) 2 2) (.slice (some ⟨w.heap.size + 1 + 1 + 1 + 1, 0, none⟩) 2 2) x hx
  have hsz := set3_size W w.heap.size (.int .i64 1) (.slice (some ⟨w.heap.size + 1 + 1 + 1, 0, none⟩) 2 2) (.slice (some ⟨w.heap.size + 1 + 1 + 1 + 1, 0, none⟩) 2 2)
  refine bodyPost_ret (v := .tuple #[.agg #[.int .i64 1, .slice (some ⟨w.heap.size + 1 + 1 + 1, 0, none⟩) 2 2, .slice (some ⟨w.heap.size + 1 + 1 + 1 + 1, 0, none⟩) 2 2], .nilIface]) (by simp [results, Tryd.results22, go_sem, z0, z1, z2]) rfl ⟨some ⟨w.heap.size + 1 + 1 + 1, 0, none⟩, 2, some ⟨w.heap.size + 1 + 1 + 1 + 1, 0, none⟩, 2, by rw [errV_zero]; rfl, fun W' hW' => ?_, hbF⟩
  have hw : ∀ (x : Nat) (o : Obj), w.heap.size < x → W.heap[x]? = some o → W'.heap[x]? = some o := fun x o h1 h2 => by
    rw [hW' x (by omega) (by rw [hsz]; exact (Array.getElem?_eq_some_iff.1 h2).1), hk x (by omega)]
    exact h2
  have g0 := hw _ _ (by omega) G0.out
  have g1 := hw _ _ (by omega) G1.out
  have gr := hw _ _ (by omega) Gr.out
  have gk := hw _ _ (by omega) Gk.out
  have s0 : Sl W' (some ⟨w.heap.size + 1, 0, none⟩) 2 [0, 1] := sl_blk (l := [0, 1]) g0 (by decide) (by decide)
  have s1 : Sl W' (some ⟨w.heap.size + 1 + 1, 0, none⟩) 2 [0, 1] := sl_blk (l := [0, 1]) g1 (by decide) (by decide)
  have sr : Sl2 W' (some ⟨w.heap.size + 1 + 1 + 1, 0, none⟩) 2 fiN := sl2_two gr s0 s1
  have sk : Sl W' (some ⟨w.heap.size + 1 + 1 + 1 + 1, 0, none⟩) 2 fiO := sl_blk (l := fiO) gk (by decide) (by decide)
  exact ⟨sr, sk⟩
set_option maxHeartbeats 4000000 in
set_option maxRecDepth 4000 in
theorem named_none (s : ByteArray) (h1 : (s.toList == [116, 104, 117, 101]) = false) (h2 : (s.toList == [114, 117, 100, 105, 110]) = false) (h3 : (s.toList == [102, 105, 98, 111]) = false) (w : World) : Calls Tryd.prog 22 #[.string s] w (MphR w 0 [] [] 4) := by
  have hz := heap_alloc_last w zO
  have HB := hide ((Below.refl w.heap.size w).alloc (Nat.le_refl _) zO)
  obtain ⟨⟨z0, z1, z2⟩, zf⟩ := box3_cells hz
  have HZ0 := hide z0
  have HZ1 := hide z1
  have HZ2 := hide z2
  clear hz
  go_enter Tryd.func22, Tryd.ntmps22
  go_wp2
  exact bodyPost_ret (v := .tuple #[.agg #[.int .i64 0, .slice none 0 0, .slice none 0 0], .iface 26 (.int .i64 4)]) (by simp [results, Tryd.results22, go_sem, HZ0.out, HZ1.out, HZ2.out]) rfl ⟨none, 0, none, 0, by rw [errV_no (by decide)]; rfl, outNew_nil _ _, HB.out⟩
end Go.Proofs.YtcpnfbjcgaonkafDoor
