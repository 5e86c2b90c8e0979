/- slices.Sort, slices.Compact of numbers: the shelf's contracts, laid by hand; some.inOrder: contract. -/
import Derived.Shelf.Slices.CompactI
import Derived.Shelf.Slices.In.SortNone
import Derived.Shelf.Sort.Plain
import Derived.Sort.OwnSortedInts
import Derived.Test.YtebbjmcjgjecmaaZHc
namespace Go.Proofs.Ytebbjmcjgjecmaa
open Go.RowKit

def sortRen : Go.Shelf.Ren := ⟨fun | 125 => 58 | 128 => 68 | 129 => 69 | 189 => 53 | 215 => 75 | 216 => 65 | 257 => 57 | 294 => 59 | 295 => 60 | 296 => 61 | 297 => 62 | 298 => 63 | 299 => 64 | 300 => 66 | 301 => 67 | 328 => 70 | 329 => 71 | 330 => 72 | 331 => 73 | 332 => 74 | 343 => 76 | n => n, fun | 0 => 0 | 3 => 3 | 4 => 4 | 5 => 5 | 9 => 9 | 28 => 31 | 46 => 97 | 51 => 107 | 53 => 109 | 131 => 58 | 182 => 99 | 183 => 100 | 218 => 110 | 222 => 114 | 228 => 116 | 229 => 117 | n => n, fun n => n⟩
theorem sortLays : Lays.n189 Try.prog sortRen where
  mixed := by kernel_rfl
  f125 := Try.func58.trans (congrArg some (by kernel_rfl))
  f128 := Try.func68.trans (congrArg some (by kernel_rfl))
  f129 := Try.func69.trans (congrArg some (by kernel_rfl))
  f189 := Try.func53.trans (congrArg some (by kernel_rfl))
  f215 := Try.func75.trans (congrArg some (by kernel_rfl))
  f216 := Try.func65.trans (congrArg some (by kernel_rfl))
  f257 := Try.func57.trans (congrArg some (by kernel_rfl))
  f294 := Try.func59.trans (congrArg some (by kernel_rfl))
  f295 := Try.func60.trans (congrArg some (by kernel_rfl))
  f296 := Try.func61.trans (congrArg some (by kernel_rfl))
  f297 := Try.func62.trans (congrArg some (by kernel_rfl))
  f298 := Try.func63.trans (congrArg some (by kernel_rfl))
  f299 := Try.func64.trans (congrArg some (by kernel_rfl))
  f300 := Try.func66.trans (congrArg some (by kernel_rfl))
  f301 := Try.func67.trans (congrArg some (by kernel_rfl))
  f328 := Try.func70.trans (congrArg some (by kernel_rfl))
  f329 := Try.func71.trans (congrArg some (by kernel_rfl))
  f330 := Try.func72.trans (congrArg some (by kernel_rfl))
  f331 := Try.func73.trans (congrArg some (by kernel_rfl))
  f332 := Try.func74.trans (congrArg some (by kernel_rfl))
  f343 := Try.func76.trans (congrArg some (by kernel_rfl))
  t0 := Try.underlying0
  a0 := Try.isAgg0
  z0 := Try.sizeOf0
  v0 := Try.zeroValue0
  t3 := Try.underlying3
  a3 := Try.isAgg3
  z3 := Try.sizeOf3
  v3 := Try.zeroValue3
  t4 := Try.underlying4
  a4 := Try.isAgg4
  z4 := Try.sizeOf4
  v4 := Try.zeroValue4
  t5 := Try.underlying5
  a5 := Try.isAgg5
  z5 := Try.sizeOf5
  v5 := Try.zeroValue5
  t9 := Try.underlying9
  a9 := Try.isAgg9
  z9 := Try.sizeOf9
  v9 := Try.zeroValue9
  t28 := Try.underlying31
  a28 := Try.isAgg31
  z28 := Try.sizeOf31
  v28 := Try.zeroValue31
  t46 := Try.underlying97
  a46 := Try.isAgg97
  z46 := Try.sizeOf97
  v46 := Try.zeroValue97
  t51 := Try.underlying107
  a51 := Try.isAgg107
  z51 := Try.sizeOf107
  v51 := Try.zeroValue107
  t53 := Try.underlying109
  a53 := Try.isAgg109
  z53 := Try.sizeOf109
  v53 := Try.zeroValue109
  t131 := Try.underlying58
  a131 := Try.isAgg58
  z131 := Try.sizeOf58
  v131 := Try.zeroValue58
  t182 := Try.underlying99
  a182 := Try.isAgg99
  z182 := Try.sizeOf99
  v182 := Try.zeroValue99
  t183 := Try.underlying100
  a183 := Try.isAgg100
  z183 := Try.sizeOf100
  v183 := Try.zeroValue100
  t218 := Try.underlying110
  a218 := Try.isAgg110
  z218 := Try.sizeOf110
  v218 := Try.zeroValue110
  t222 := Try.underlying114
  a222 := Try.isAgg114
  z222 := Try.sizeOf114
  v222 := Try.zeroValue114
  t228 := Try.underlying116
  a228 := Try.isAgg116
  z228 := Try.sizeOf116
  v228 := Try.zeroValue116
  t229 := Try.underlying117
  a229 := Try.isAgg117
  z229 := Try.sizeOf117
  v229 := Try.zeroValue117
def cmpRen : Go.Shelf.Ren := ⟨fun | 20 => 54 | n => n, fun | 0 => 0 | 3 => 3 | 4 => 4 | 22 => 31 | n => n, fun n => n⟩
theorem cmpLays : Lays2.n20 Try.prog cmpRen where
  mixed := by kernel_rfl
  f20 := Try.func54.trans (congrArg some (by kernel_rfl))
  t0 := Try.underlying0
  a0 := Try.isAgg0
  z0 := Try.sizeOf0
  v0 := Try.zeroValue0
  t3 := Try.underlying3
  a3 := Try.isAgg3
  z3 := Try.sizeOf3
  v3 := Try.zeroValue3
  t4 := Try.underlying4
  a4 := Try.isAgg4
  z4 := Try.sizeOf4
  v4 := Try.zeroValue4
  t22 := Try.underlying31
  a22 := Try.isAgg31
  z22 := Try.sizeOf31
  v22 := Try.zeroValue31
  i3 := by kernel_rfl

theorem grow_none (W : World) : Sort.grow W #[] = W := by
  show { W with heap := W.heap ++ #[] } = W
  rw [Array.append_empty]
theorem srt_len (l : List Int) : (l.mergeSort fun x y => decide (x ≤ y)).length = l.length := List.length_mergeSort l

set_option maxHeartbeats 4000000 in
set_option maxRecDepth 4000 in
theorem inOrder_any : OrdSays := by
  intro base v l w hl hwf hv
  rcases hv.2 with ⟨rfl, h0⟩ | ⟨g, cap, cur, rfl, hg, hh, hc, hcm, hcs, ht⟩
  · have e : l = [] := List.eq_nil_of_length_eq_zero h0
    subst e
    have C1 : Hid (∀ W, Calls Try.prog 53 #[.slice none 0 0] W fun e w' => e = .returned (.tuple #[]) ∧ w' = W) := fun W => Any.slices_Sort_int_none sortLays none 0 W
    have C2 : Hid (∀ W, Calls Try.prog 54 #[.slice none 0 0] W fun e w' => e = .returned (.slice none 0 0) ∧ w' = W) := fun W => Any.slices_Compact_int_empty cmpLays none 0 W
    clear hv h0 hwf hl
    go_enter Try.func48, Try.ntmps48
    go_wp2_with (first
      | (go_at_call 53; refine (C1.out _).mono ?_; rintro e w' ⟨rfl, rfl⟩)
      | (go_at_call 54; refine (C2.out _).mono ?_; rintro e w' ⟨rfl, rfl⟩))
    go_ret
    refine ⟨none, 0, by rw [ordL_nil]; rfl, ?_, fun _ _ _ h => h⟩
    rw [ordL_nil]
    exact ⟨sl_nil _, fun ad e => by cases e⟩
  · obtain ⟨zs, hzs⟩ : ∃ zs, zs = l.mergeSort fun x y => decide (x ≤ y) := ⟨_, rfl⟩
    have hzl : zs.length = l.length := by rw [hzs]; exact srt_len l
    have hglt : g < w.heap.size := (Array.getElem?_eq_some_iff.1 hh).1
    have hcs1 : cur.size = cap := by omega
    have C1 : Hid (Calls Try.prog 53 #[.slice (some ⟨g, 0, none⟩) l.length cap] w fun e w' => e = .returned (.tuple #[]) ∧ ∃ n os, w' = Sort.grow (Sort.putRow (Value.int .i64) (Sort.ahead w n) g 0 zs.toArray) os) := by
      rw [hzs]
      exact Any.slices_Sort_int sortLays g 0 cap l w (holds_of_blockI hh (by simpa using ht)) hglt (by omega)
    have H1 : Hid (∀ n os, (Sort.grow (Sort.putRow (Value.int .i64) (Sort.ahead w n) g 0 zs.toArray) os).heap[g]? = some (.cells (Sort.putCells (Value.int .i64) 0 zs.toArray cur) 3 (0, 0)) ∧ w.grownBy (Sort.grow (Sort.putRow (Value.int .i64) (Sort.ahead w n) g 0 zs.toArray) os) (some g)) := fun n os => ⟨heap_sortedI _ hh, grownBy_sortedI _⟩
    have C2 : Hid (∀ W, W.heap[g]? = some (.cells (Sort.putCells (Value.int .i64) 0 zs.toArray cur) 3 (0, 0)) → Calls Try.prog 54 #[.slice (some ⟨g, 0, none⟩) l.length cap] W fun e w' => e = .returned (.slice (some ⟨g, 0, none⟩) (Lib.compact zs).length cap) ∧ ∃ q, w' = Sort.putRow (Value.int .i64) (Sort.ahead W q) g 0 (Lib.compact zs ++ List.replicate (zs.length - (Lib.compact zs).length) 0).toArray) := fun W hW => by
      rw [← hzl]
      exact Any.slices_Compact_int cmpLays g 0 cap zs W (holds_of_blockI hW (take_putCellsI cur zs (by omega))) (by omega) (by omega)
    have hol : ordL l = Lib.compact zs := by unfold ordL; rw [hzs]
    have hcl : (Lib.compact zs).length ≤ zs.length := by rw [← hol, hzl]; exact ordL_len l
    have HEND : Hid (∀ W q, W.heap[g]? = some (.cells (Sort.putCells (Value.int .i64) 0 zs.toArray cur) 3 (0, 0)) → w.grownBy W (some g) → OrdU base w l (.returned (.slice (some ⟨g, 0, none⟩) (Lib.compact zs).length cap)) (Sort.putRow (Value.int .i64) (Sort.ahead W q) g 0 (Lib.compact zs ++ List.replicate (zs.length - (Lib.compact zs).length) 0).toArray)) := fun W q hW hgr => by
      obtain ⟨ts, hts⟩ : ∃ ts, ts = Lib.compact zs ++ List.replicate (zs.length - (Lib.compact zs).length) (0 : Int) := ⟨_, rfl⟩
      rw [← hts]
      have htl : ts.length = zs.length := by rw [hts]; simp; omega
      have hO := ownsRow_sortedI (w := W) (base := base) (g := g) (cap := cap) (n := q) (os := #[]) (ss := zs) (ts := ts) htl hg hW (by omega) hcm (by simp [Sort.putCells]; omega)
      have hG := grownBy_sortedI (w := W) (g := g) (n := q) (os := #[]) ts.toArray
      rw [grow_none] at hO hG
      refine ⟨some ⟨g, 0, none⟩, cap, by rw [hol], ⟨⟨rfl, ?_, fun x hx => hwf x (((ordL_sorted l).2 x).1 hx), Or.inr ⟨g, 0, rfl, fun j hj => ?_⟩⟩, fun ad e => by cases e; exact hg⟩, fun W0 b0 hb0 hB => ?_⟩
      · rw [hol]; unfold maxLen; omega
      · rw [hol] at hj ⊢
        rw [Nat.zero_add, hO.cellAt j (by omega)]
        rw [hts, List.map_append, List.getElem?_append_left (by simpa using hj)]
        simp [List.getD, hj]
      · have hb1 : Below b0 W0 W := Below.grown hB hgr (by have := hB.size; omega) (fun k hk => by cases hk; omega)
        exact Below.grown hb1 hG (by have := hgr.size; omega) (fun k hk => by cases hk; omega)
    clear hv hwf hl hzs hh hc hcm hcs ht hglt hcs1 hzl hol hcl
    go_enter Try.func48, Try.ntmps48
    go_wp2_with (go_at_call 53; refine C1.out.mono ?_; rintro e w' ⟨rfl, n, os, hw'⟩; obtain ⟨H2, H3⟩ := H1.out n os; rw [← hw'] at H2 H3; have H2' := hide H2; have H3' := hide H3; clear hw' H2 H3)
    go_wp2_with (go_at_call 54; refine (C2.out _ H2'.out).mono ?_; rintro e w2 ⟨rfl, q, hw2⟩; have HE := hide (HEND.out _ q H2'.out H3'.out); rw [← hw2] at HE; clear hw2)
    go_ret
    exact HE.out
end Go.Proofs.Ytebbjmcjgjecmaa
