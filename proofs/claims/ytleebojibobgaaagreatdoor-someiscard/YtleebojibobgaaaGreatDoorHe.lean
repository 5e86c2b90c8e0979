/- slices.Sort, slices.Compact of numbers: the shelf's contracts, laid by hand; some.inOrder: contract. -/
import Derived.Shelf.Slices.CompactI
import Derived.Shelf.Slices.In.SortNone
import Derived.Shelf.Sort.Plain
import Derived.Sort.OwnSortedInts
import Derived.Test.YtleebojibobgaaaGreatDoorZHc
namespace Go.Proofs.YtleebojibobgaaaGreatDoor
open Go.RowKit

def sortRen : Go.Shelf.Ren := ⟨fun | 125 => 73 | 128 => 83 | 129 => 84 | 189 => 66 | 215 => 90 | 216 => 80 | 257 => 72 | 294 => 74 | 295 => 75 | 296 => 76 | 297 => 77 | 298 => 78 | 299 => 79 | 300 => 81 | 301 => 82 | 328 => 85 | 329 => 86 | 330 => 87 | 331 => 88 | 332 => 89 | 343 => 91 | n => n, fun | 0 => 0 | 3 => 3 | 4 => 4 | 5 => 5 | 9 => 9 | 28 => 42 | 46 => 73 | 51 => 147 | 53 => 149 | 131 => 80 | 182 => 139 | 183 => 140 | 218 => 150 | 222 => 154 | 228 => 156 | 229 => 157 | n => n, fun n => n⟩
theorem sortLays : Lays.n189 Tryz.prog sortRen where
  mixed := by kernel_rfl
  f125 := Tryz.func73.trans (congrArg some (by kernel_rfl))
  f128 := Tryz.func83.trans (congrArg some (by kernel_rfl))
  f129 := Tryz.func84.trans (congrArg some (by kernel_rfl))
  f189 := Tryz.func66.trans (congrArg some (by kernel_rfl))
  f215 := Tryz.func90.trans (congrArg some (by kernel_rfl))
  f216 := Tryz.func80.trans (congrArg some (by kernel_rfl))
  f257 := Tryz.func72.trans (congrArg some (by kernel_rfl))
  f294 := Tryz.func74.trans (congrArg some (by kernel_rfl))
  f295 := Tryz.func75.trans (congrArg some (by kernel_rfl))
  f296 := Tryz.func76.trans (congrArg some (by kernel_rfl))
  f297 := Tryz.func77.trans (congrArg some (by kernel_rfl))
  f298 := Tryz.func78.trans (congrArg some (by kernel_rfl))
  f299 := Tryz.func79.trans (congrArg some (by kernel_rfl))
  f300 := Tryz.func81.trans (congrArg some (by kernel_rfl))
  f301 := Tryz.func82.trans (congrArg some (by kernel_rfl))
  f328 := Tryz.func85.trans (congrArg some (by kernel_rfl))
  f329 := Tryz.func86.trans (congrArg some (by kernel_rfl))
  f330 := Tryz.func87.trans (congrArg some (by kernel_rfl))
  f331 := Tryz.func88.trans (congrArg some (by kernel_rfl))
  f332 := Tryz.func89.trans (congrArg some (by kernel_rfl))
  f343 := Tryz.func91.trans (congrArg some (by kernel_rfl))
  t0 := Tryz.underlying0
  a0 := Tryz.isAgg0
  z0 := Tryz.sizeOf0
  v0 := Tryz.zeroValue0
  t3 := Tryz.underlying3
  a3 := Tryz.isAgg3
  z3 := Tryz.sizeOf3
  v3 := Tryz.zeroValue3
  t4 := Tryz.underlying4
  a4 := Tryz.isAgg4
  z4 := Tryz.sizeOf4
  v4 := Tryz.zeroValue4
  t5 := Tryz.underlying5
  a5 := Tryz.isAgg5
  z5 := Tryz.sizeOf5
  v5 := Tryz.zeroValue5
  t9 := Tryz.underlying9
  a9 := Tryz.isAgg9
  z9 := Tryz.sizeOf9
  v9 := Tryz.zeroValue9
  t28 := Tryz.underlying42
  a28 := Tryz.isAgg42
  z28 := Tryz.sizeOf42
  v28 := Tryz.zeroValue42
  t46 := Tryz.underlying73
  a46 := Tryz.isAgg73
  z46 := Tryz.sizeOf73
  v46 := Tryz.zeroValue73
  t51 := Tryz.underlying147
  a51 := Tryz.isAgg147
  z51 := Tryz.sizeOf147
  v51 := Tryz.zeroValue147
  t53 := Tryz.underlying149
  a53 := Tryz.isAgg149
  z53 := Tryz.sizeOf149
  v53 := Tryz.zeroValue149
  t131 := Tryz.underlying80
  a131 := Tryz.isAgg80
  z131 := Tryz.sizeOf80
  v131 := Tryz.zeroValue80
  t182 := Tryz.underlying139
  a182 := Tryz.isAgg139
  z182 := Tryz.sizeOf139
  v182 := Tryz.zeroValue139
  t183 := Tryz.underlying140
  a183 := Tryz.isAgg140
  z183 := Tryz.sizeOf140
  v183 := Tryz.zeroValue140
  t218 := Tryz.underlying150
  a218 := Tryz.isAgg150
  z218 := Tryz.sizeOf150
  v218 := Tryz.zeroValue150
  t222 := Tryz.underlying154
  a222 := Tryz.isAgg154
  z222 := Tryz.sizeOf154
  v222 := Tryz.zeroValue154
  t228 := Tryz.underlying156
  a228 := Tryz.isAgg156
  z228 := Tryz.sizeOf156
  v228 := Tryz.zeroValue156
  t229 := Tryz.underlying157
  a229 := Tryz.isAgg157
  z229 := Tryz.sizeOf157
  v229 := Tryz.zeroValue157
def cmpRen : Go.Shelf.Ren := ⟨fun | 20 => 67 | n => n, fun | 0 => 0 | 3 => 3 | 4 => 4 | 22 => 42 | n => n, fun n => n⟩
theorem cmpLays : Lays2.n20 Tryz.prog cmpRen where
  mixed := by kernel_rfl
  f20 := Tryz.func67.trans (congrArg some (by kernel_rfl))
  t0 := Tryz.underlying0
  a0 := Tryz.isAgg0
  z0 := Tryz.sizeOf0
  v0 := Tryz.zeroValue0
  t3 := Tryz.underlying3
  a3 := Tryz.isAgg3
  z3 := Tryz.sizeOf3
  v3 := Tryz.zeroValue3
  t4 := Tryz.underlying4
  a4 := Tryz.isAgg4
  z4 := Tryz.sizeOf4
  v4 := Tryz.zeroValue4
  t22 := Tryz.underlying42
  a22 := Tryz.isAgg42
  z22 := Tryz.sizeOf42
  v22 := Tryz.zeroValue42
  i3 := by kernel_rfl

theorem grow_none (W : World) : Sort.grow W #[] = W := by
  show { W with heap := W.heap ++ #[] } = W
  rw [Array.append_empty]
theorem srt_len (l : List Int) : (l.mergeSort fun x y => decide (x ≤ y)).length = l.length := List.length_mergeSort l

set_option maxHeartbeats 4000000 in
set_option maxRecDepth 4000 in
theorem inOrder_any : OrdSays := by
  intro base v l w hl hwf hv
  rcases hv.2 with ⟨rfl, h0⟩ | ⟨g, cap, cur, rfl, hg, hh, hc, hcm, hcs, ht⟩
  · have e : l = [] := List.eq_nil_of_length_eq_zero h0
    subst e
    have C1 : Hid (∀ W, Calls Tryz.prog 66 #[.slice none 0 0] W fun e w' => e = .returned (.tuple #[]) ∧ w' = W) := fun W => Any.slices_Sort_int_none sortLays none 0 W
    have C2 : Hid (∀ W, Calls Tryz.prog 67 #[.slice none 0 0] W fun e w' => e = .returned (.slice none 0 0) ∧ w' = W) := fun W => Any.slices_Compact_int_empty cmpLays none 0 W
    clear hv h0 hwf hl
    go_enter Tryz.func56, Tryz.ntmps56
    go_wp2_with (first
      | (go_at_call 66; refine (C1.out _).mono ?_; rintro e w' ⟨rfl, rfl⟩)
      | (go_at_call 67; refine (C2.out _).mono ?_; rintro e w' ⟨rfl, rfl⟩))
    go_ret
    refine ⟨none, 0, by rw [ordL_nil]; rfl, ?_, fun _ _ _ h => h⟩
    rw [ordL_nil]
    exact ⟨sl_nil _, fun ad e => by cases e⟩
  · obtain ⟨zs, hzs⟩ : ∃ zs, zs = l.mergeSort fun x y => decide (x ≤ y) := ⟨_, rfl⟩
    have hzl : zs.length = l.length := by rw [hzs]; exact srt_len l
    have hglt : g < w.heap.size := (Array.getElem?_eq_some_iff.1 hh).1
    have hcs1 : cur.size = cap := by omega
    have C1 : Hid (Calls Tryz.prog 66 #[.slice (some ⟨g, 0, none⟩) l.length cap] w fun e w' => e = .returned (.tuple #[]) ∧ ∃ n os, w' = Sort.grow (Sort.putRow (Value.int .i64) (Sort.ahead w n) g 0 zs.toArray) os) := by
      rw [hzs]
      exact Any.slices_Sort_int sortLays g 0 cap l w (holds_of_blockI hh (by simpa using ht)) hglt (by omega)
    have H1 : Hid (∀ n os, (Sort.grow (Sort.putRow (Value.int .i64) (Sort.ahead w n) g 0 zs.toArray) os).heap[g]? = some (.cells (Sort.putCells (Value.int .i64) 0 zs.toArray cur) 3 (0, 0)) ∧ w.grownBy (Sort.grow (Sort.putRow (Value.int .i64) (Sort.ahead w n) g 0 zs.toArray) os) (some g)) := fun n os => ⟨heap_sortedI _ hh, grownBy_sortedI _⟩
    have C2 : Hid (∀ W, W.heap[g]? = some (.cells (Sort.putCells (Value.int .i64) 0 zs.toArray cur) 3 (0, 0)) → Calls Tryz.prog 67 #[.slice (some ⟨g, 0, none⟩) l.length cap] W fun e w' => e = .returned (.slice (some ⟨g, 0, none⟩) (Lib.compact zs).length cap) ∧ ∃ q, w' = Sort.putRow (Value.int .i64) (Sort.ahead W q) g 0 (Lib.compact zs ++ List.replicate (zs.length - (Lib.compact zs).length) 0).toArray) := fun W hW => by
      rw [← hzl]
      exact Any.slices_Compact_int cmpLays g 0 cap zs W (holds_of_blockI hW (take_putCellsI cur zs (by omega))) (by omega) (by omega)
    have hol : ordL l = Lib.compact zs := by unfold ordL; rw [hzs]
    have hcl : (Lib.compact zs).length ≤ zs.length := by rw [← hol, hzl]; exact ordL_len l
    have HEND : Hid (∀ W q, W.heap[g]? = some (.cells (Sort.putCells (Value.int .i64) 0 zs.toArray cur) 3 (0, 0)) → w.grownBy W (some g) → OrdU base w l (.returned (.slice (some ⟨g, 0, none⟩) (Lib.compact zs).length cap)) (Sort.putRow (Value.int .i64) (Sort.ahead W q) g 0 (Lib.compact zs ++ List.replicate (zs.length - (Lib.compact zs).length) 0).toArray)) := fun W q hW hgr => by
      obtain ⟨ts, hts⟩ : ∃ ts, ts = Lib.compact zs ++ List.replicate (zs.length - (Lib.compact zs).length) (0 : Int) := ⟨_, rfl⟩
      rw [← hts]
      have htl : ts.length = zs.length := by rw [hts]; simp; omega
      have hO := ownsRow_sortedI (w := W) (base := base) (g := g) (cap := cap) (n := q) (os := #[]) (ss := zs) (ts := ts) htl hg hW (by omega) hcm (by simp [Sort.putCells]; omega)
      have hG := grownBy_sortedI (w := W) (g := g) (n := q) (os := #[]) ts.toArray
      rw [grow_none] at hO hG
      refine ⟨some ⟨g, 0, none⟩, cap, by rw [hol], ⟨⟨rfl, ?_, fun x hx => hwf x (((ordL_sorted l).2 x).1 hx), Or.inr ⟨g, 0, rfl, fun j hj => ?_⟩⟩, fun ad e => by cases e; exact hg⟩, fun W0 b0 hb0 hB => ?_⟩
      · rw [hol]; unfold maxLen; omega
      · rw [hol] at hj ⊢
        rw [Nat.zero_add, hO.cellAt j (by omega)]
        rw [hts, List.map_append, List.getElem?_append_left (by simpa using hj)]
        simp [List.getD, hj]
      · have hb1 : Below b0 W0 W := Below.grown hB hgr (by have := hB.size; omega) (fun k hk => by cases hk; omega)
        exact Below.grown hb1 hG (by have := hgr.size; omega) (fun k hk => by cases hk; omega)
    clear hv hwf hl hzs hh hc hcm hcs ht hglt hcs1 hzl hol hcl
    go_enter Tryz.func56, Tryz.ntmps56
    go_wp2_with (go_at_call 66; refine C1.out.mono ?_; rintro e w' ⟨rfl, n, os, hw'⟩; obtain ⟨H2, H3⟩ := H1.out n os; rw [← hw'] at H2 H3; have H2' := hide H2; have H3' := hide H3; clear hw' H2 H3)
    go_wp2_with (go_at_call 67; refine (C2.out _ H2'.out).mono ?_; rintro e w2 ⟨rfl, q, hw2⟩; have HE := hide (HEND.out _ q H2'.out H3'.out); rw [← hw2] at HE; clear hw2)
    go_ret
    exact HE.out
end Go.Proofs.YtleebojibobgaaaGreatDoor
