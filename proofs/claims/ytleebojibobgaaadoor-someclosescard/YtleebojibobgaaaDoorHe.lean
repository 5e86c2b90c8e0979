/- slices.Sort, slices.Compact of numbers: the shelf's contracts, laid by hand; some.inOrder: contract. -/
import Derived.Shelf.Slices.CompactI
import Derived.Shelf.Slices.In.SortNone
import Derived.Shelf.Sort.Plain
import Derived.Sort.OwnSortedInts
import Derived.Test.YtleebojibobgaaaDoorZHc
namespace Go.Proofs.YtleebojibobgaaaDoor
open Go.RowKit

def sortRen : Go.Shelf.Ren := ⟨fun | 125 => 66 | 128 => 78 | 129 => 79 | 189 => 55 | 215 => 85 | 216 => 75 | 257 => 65 | 294 => 69 | 295 => 70 | 296 => 71 | 297 => 72 | 298 => 73 | 299 => 74 | 300 => 76 | 301 => 77 | 328 => 80 | 329 => 81 | 330 => 82 | 331 => 83 | 332 => 84 | 343 => 86 | n => n, fun | 0 => 0 | 3 => 3 | 4 => 4 | 5 => 5 | 9 => 9 | 28 => 37 | 46 => 77 | 51 => 140 | 53 => 142 | 131 => 67 | 182 => 132 | 183 => 133 | 218 => 143 | 222 => 147 | 228 => 149 | 229 => 150 | n => n, fun n => n⟩
theorem sortLays : Lays.n189 Tryd.prog sortRen where
  mixed := by kernel_rfl
  f125 := Tryd.func66.trans (congrArg some (by kernel_rfl))
  f128 := Tryd.func78.trans (congrArg some (by kernel_rfl))
  f129 := Tryd.func79.trans (congrArg some (by kernel_rfl))
  f189 := Tryd.func55.trans (congrArg some (by kernel_rfl))
  f215 := Tryd.func85.trans (congrArg some (by kernel_rfl))
  f216 := Tryd.func75.trans (congrArg some (by kernel_rfl))
  f257 := Tryd.func65.trans (congrArg some (by kernel_rfl))
  f294 := Tryd.func69.trans (congrArg some (by kernel_rfl))
  f295 := Tryd.func70.trans (congrArg some (by kernel_rfl))
  f296 := Tryd.func71.trans (congrArg some (by kernel_rfl))
  f297 := Tryd.func72.trans (congrArg some (by kernel_rfl))
  f298 := Tryd.func73.trans (congrArg some (by kernel_rfl))
  f299 := Tryd.func74.trans (congrArg some (by kernel_rfl))
  f300 := Tryd.func76.trans (congrArg some (by kernel_rfl))
  f301 := Tryd.func77.trans (congrArg some (by kernel_rfl))
  f328 := Tryd.func80.trans (congrArg some (by kernel_rfl))
  f329 := Tryd.func81.trans (congrArg some (by kernel_rfl))
  f330 := Tryd.func82.trans (congrArg some (by kernel_rfl))
  f331 := Tryd.func83.trans (congrArg some (by kernel_rfl))
  f332 := Tryd.func84.trans (congrArg some (by kernel_rfl))
  f343 := Tryd.func86.trans (congrArg some (by kernel_rfl))
  t0 := Tryd.underlying0
  a0 := Tryd.isAgg0
  z0 := Tryd.sizeOf0
  v0 := Tryd.zeroValue0
  t3 := Tryd.underlying3
  a3 := Tryd.isAgg3
  z3 := Tryd.sizeOf3
  v3 := Tryd.zeroValue3
  t4 := Tryd.underlying4
  a4 := Tryd.isAgg4
  z4 := Tryd.sizeOf4
  v4 := Tryd.zeroValue4
  t5 := Tryd.underlying5
  a5 := Tryd.isAgg5
  z5 := Tryd.sizeOf5
  v5 := Tryd.zeroValue5
  t9 := Tryd.underlying9
  a9 := Tryd.isAgg9
  z9 := Tryd.sizeOf9
  v9 := Tryd.zeroValue9
  t28 := Tryd.underlying37
  a28 := Tryd.isAgg37
  z28 := Tryd.sizeOf37
  v28 := Tryd.zeroValue37
  t46 := Tryd.underlying77
  a46 := Tryd.isAgg77
  z46 := Tryd.sizeOf77
  v46 := Tryd.zeroValue77
  t51 := Tryd.underlying140
  a51 := Tryd.isAgg140
  z51 := Tryd.sizeOf140
  v51 := Tryd.zeroValue140
  t53 := Tryd.underlying142
  a53 := Tryd.isAgg142
  z53 := Tryd.sizeOf142
  v53 := Tryd.zeroValue142
  t131 := Tryd.underlying67
  a131 := Tryd.isAgg67
  z131 := Tryd.sizeOf67
  v131 := Tryd.zeroValue67
  t182 := Tryd.underlying132
  a182 := Tryd.isAgg132
  z182 := Tryd.sizeOf132
  v182 := Tryd.zeroValue132
  t183 := Tryd.underlying133
  a183 := Tryd.isAgg133
  z183 := Tryd.sizeOf133
  v183 := Tryd.zeroValue133
  t218 := Tryd.underlying143
  a218 := Tryd.isAgg143
  z218 := Tryd.sizeOf143
  v218 := Tryd.zeroValue143
  t222 := Tryd.underlying147
  a222 := Tryd.isAgg147
  z222 := Tryd.sizeOf147
  v222 := Tryd.zeroValue147
  t228 := Tryd.underlying149
  a228 := Tryd.isAgg149
  z228 := Tryd.sizeOf149
  v228 := Tryd.zeroValue149
  t229 := Tryd.underlying150
  a229 := Tryd.isAgg150
  z229 := Tryd.sizeOf150
  v229 := Tryd.zeroValue150
def cmpRen : Go.Shelf.Ren := ⟨fun | 20 => 56 | n => n, fun | 0 => 0 | 3 => 3 | 4 => 4 | 22 => 37 | n => n, fun n => n⟩
theorem cmpLays : Lays2.n20 Tryd.prog cmpRen where
  mixed := by kernel_rfl
  f20 := Tryd.func56.trans (congrArg some (by kernel_rfl))
  t0 := Tryd.underlying0
  a0 := Tryd.isAgg0
  z0 := Tryd.sizeOf0
  v0 := Tryd.zeroValue0
  t3 := Tryd.underlying3
  a3 := Tryd.isAgg3
  z3 := Tryd.sizeOf3
  v3 := Tryd.zeroValue3
  t4 := Tryd.underlying4
  a4 := Tryd.isAgg4
  z4 := Tryd.sizeOf4
  v4 := Tryd.zeroValue4
  t22 := Tryd.underlying37
  a22 := Tryd.isAgg37
  z22 := Tryd.sizeOf37
  v22 := Tryd.zeroValue37
  i3 := by kernel_rfl

theorem grow_none (W : World) : Sort.grow W #[] = W := by
  show { W with heap := W.heap ++ #[] } = W
  rw [Array.append_empty]
theorem srt_len (l : List Int) : (l.mergeSort fun x y => decide (x ≤ y)).length = l.length := List.length_mergeSort l

set_option maxHeartbeats 4000000 in
set_option maxRecDepth 4000 in
theorem inOrder_any : OrdSays := by
  intro base v l w hl hwf hv
  rcases hv.2 with ⟨rfl, h0⟩ | ⟨g, cap, cur, rfl, hg, hh, hc, hcm, hcs, ht⟩
  · have e : l = [] := List.eq_nil_of_length_eq_zero h0
    subst e
    have C1 : Hid (∀ W, Calls Tryd.prog 55 #[.slice none 0 0] W fun e w' => e = .returned (.tuple #[]) ∧ w' = W) := fun W => Any.slices_Sort_int_none sortLays none 0 W
    have C2 : Hid (∀ W, Calls Tryd.prog 56 #[.slice none 0 0] W fun e w' => e = .returned (.slice none 0 0) ∧ w' = W) := fun W => Any.slices_Compact_int_empty cmpLays none 0 W
    clear hv h0 hwf hl
    go_enter Tryd.func44, Tryd.ntmps44
    go_wp2_with (first
      | (go_at_call 55; refine (C1.out _).mono ?_; rintro e w' ⟨rfl, rfl⟩)
      | (go_at_call 56; refine (C2.out _).mono ?_; rintro e w' ⟨rfl, rfl⟩))
    go_ret
    refine ⟨none, 0, by rw [ordL_nil]; rfl, ?_, fun _ _ _ h => h⟩
    rw [ordL_nil]
    exact ⟨sl_nil _, fun ad e => by cases e⟩
  · obtain ⟨zs, hzs⟩ : ∃ zs, zs = l.mergeSort fun x y => decide (x ≤ y) := ⟨_, rfl⟩
    have hzl : zs.length = l.length := by rw [hzs]; exact srt_len l
    have hglt : g < w.heap.size := (Array.getElem?_eq_some_iff.1 hh).1
    have hcs1 : cur.size = cap := by omega
    have C1 : Hid (Calls Tryd.prog 55 #[.slice (some ⟨g, 0, none⟩) l.length cap] w fun e w' => e = .returned (.tuple #[]) ∧ ∃ n os, w' = Sort.grow (Sort.putRow (Value.int .i64) (Sort.ahead w n) g 0 zs.toArray) os) := by
      rw [hzs]
      exact Any.slices_Sort_int sortLays g 0 cap l w (holds_of_blockI hh (by simpa using ht)) hglt (by omega)
    have H1 : Hid (∀ n os, (Sort.grow (Sort.putRow (Value.int .i64) (Sort.ahead w n) g 0 zs.toArray) os).heap[g]? = some (.cells (Sort.putCells (Value.int .i64) 0 zs.toArray cur) 3 (0, 0)) ∧ w.grownBy (Sort.grow (Sort.putRow (Value.int .i64) (Sort.ahead w n) g 0 zs.toArray) os) (some g)) := fun n os => ⟨heap_sortedI _ hh, grownBy_sortedI _⟩
    have C2 : Hid (∀ W, W.heap[g]? = some (.cells (Sort.putCells (Value.int .i64) 0 zs.toArray cur) 3 (0, 0)) → Calls Tryd.prog 56 #[.slice (some ⟨g, 0, none⟩) l.length cap] W fun e w' => e = .returned (.slice (some ⟨g, 0, none⟩) (Lib.compact zs).length cap) ∧ ∃ q, w' = Sort.putRow (Value.int .i64) (Sort.ahead W q) g 0 (Lib.compact zs ++ List.replicate (zs.length - (Lib.compact zs).length) 0).toArray) := fun W hW => by
      rw [← hzl]
      exact Any.slices_Compact_int cmpLays g 0 cap zs W (holds_of_blockI hW (take_putCellsI cur zs (by omega))) (by omega) (by omega)
    have hol : ordL l = Lib.compact zs := by unfold ordL; rw [hzs]
    have hcl : (Lib.compact zs).length ≤ zs.length := by rw [← hol, hzl]; exact ordL_len l
    have HEND : Hid (∀ W q, W.heap[g]? = some (.cells (Sort.putCells (Value.int .i64) 0 zs.toArray cur) 3 (0, 0)) → w.grownBy W (some g) → OrdU base w l (.returned (.slice (some ⟨g, 0, none⟩) (Lib.compact zs).length cap)) (Sort.putRow (Value.int .i64) (Sort.ahead W q) g 0 (Lib.compact zs ++ List.replicate (zs.length - (Lib.compact zs).length) 0).toArray)) := fun W q hW hgr => by
      obtain ⟨ts, hts⟩ : ∃ ts, ts = Lib.compact zs ++ List.replicate (zs.length - (Lib.compact zs).length) (0 : Int) := ⟨_, rfl⟩
      rw [← hts]
      have htl : ts.length = zs.length := by rw [hts]; simp; omega
      have hO := ownsRow_sortedI (w := W) (base := base) (g := g) (cap := cap) (n := q) (os := #[]) (ss := zs) (ts := ts) htl hg hW (by omega) hcm (by simp [Sort.putCells]; omega)
      have hG := grownBy_sortedI (w := W) (g := g) (n := q) (os := #[]) ts.toArray
      rw [grow_none] at hO hG
      refine ⟨some ⟨g, 0, none⟩, cap, by rw [hol], ⟨⟨rfl, ?_, fun x hx => hwf x (((ordL_sorted l).2 x).1 hx), Or.inr ⟨g, 0, rfl, fun j hj => ?_⟩⟩, fun ad e => by cases e; exact hg⟩, fun W0 b0 hb0 hB => ?_⟩
      · rw [hol]; unfold maxLen; omega
      · rw [hol] at hj ⊢
        rw [Nat.zero_add, hO.cellAt j (by omega)]
        rw [hts, List.map_append, List.getElem?_append_left (by simpa using hj)]
        simp [List.getD, hj]
      · have hb1 : Below b0 W0 W := Below.grown hB hgr (by have := hB.size; omega) (fun k hk => by cases hk; omega)
        exact Below.grown hb1 hG (by have := hgr.size; omega) (fun k hk => by cases hk; omega)
    clear hv hwf hl hzs hh hc hcm hcs ht hglt hcs1 hzl hol hcl
    go_enter Tryd.func44, Tryd.ntmps44
    go_wp2_with (go_at_call 55; refine C1.out.mono ?_; rintro e w' ⟨rfl, n, os, hw'⟩; obtain ⟨H2, H3⟩ := H1.out n os; rw [← hw'] at H2 H3; have H2' := hide H2; have H3' := hide H3; clear hw' H2 H3)
    go_wp2_with (go_at_call 56; refine (C2.out _ H2'.out).mono ?_; rintro e w2 ⟨rfl, q, hw2⟩; have HE := hide (HEND.out _ q H2'.out H3'.out); rw [← hw2] at HE; clear hw2)
    go_ret
    exact HE.out
end Go.Proofs.YtleebojibobgaaaDoor
