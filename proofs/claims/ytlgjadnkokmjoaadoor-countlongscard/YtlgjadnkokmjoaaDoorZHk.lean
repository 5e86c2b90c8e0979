/- 3 texts in one. -/
import Derived.Deep.AppendLies
import Derived.DeepKeys4
import Derived.Laws.BytesArg
import Derived.Lib.SlicesCompact
import Derived.Maps.OwnSet
import Derived.Shelf.Slices.Delete
import Derived.StringKeys
import Derived.Deep.RegionWith
import Derived.Test.YtlgjadnkokmjoaaDoorZNx
import Derived.Test.YtlgjadnkokmjoaaDoorZEg
import Derived.Test.YtlgjadnkokmjoaaDoorHb
import Derived.Test.YtlgjadnkokmjoaaDoorHe
import Derived.Test.YtlgjadnkokmjoaaDoorZLp
import Derived.Test.YtlgjadnkokmjoaaDoorAx
import Derived.Test.YtlgjadnkokmjoaaDoorZLb
/- letter.Unpack, with the row that it makes; slices.Delete; some.lettersWithout: contracts. -/
namespace Go.Proofs.YtlgjadnkokmjoaaDoor
open Go.RowKit

def GivesRowW (w : World) (l : List Int) (e : Ending) (w' : World) : Prop := ∃ g, e = .returned (.slice (some ⟨g, 0, none⟩) l.length l.length) ∧ w.heap.size ≤ g ∧ (w'.rowIs g 3 l.length fun i => .int .i64 (l.getD i 0)) ∧ Below w.heap.size w w'
def UnpackW (w : World) (l : List Int) (e : Ending) (w' : World) : Prop := ∃ g, e = .returned (.tuple #[.slice (some ⟨g, 0, none⟩) l.length l.length, .nilIface]) ∧ w.heap.size ≤ g ∧ (w'.rowIs g 3 l.length fun i => .int .i64 (l.getD i 0)) ∧ Below w.heap.size w w'

theorem spAt_row {b : Int} {n : Nat} {l : Int} {w wr : World} (h : SpAt b n l w n wr) : GivesRowW w (splitL b n l) (.returned (.slice (some ⟨w.heap.size, 0, none⟩) n n)) wr := by
  refine ⟨w.heap.size, by rw [splitL_length], Nat.le_refl _, ?_, h.2⟩
  rw [splitL_length]
  exact h.1.congr fun i hi => by rw [if_pos (by omega), splitL_get _ _ _ _ hi]

set_option maxHeartbeats 1000000 in
set_option maxRecDepth 4000 in
theorem split_row (b : Int) (n : Nat) (l : Int) (w : World) (h1 : 1 ≤ b) (h2 : b ≤ 6) (hn : n ≤ 5) (hl : 0 ≤ l) (hl' : l ≤ 100000000) :
    Calls Tryd.prog 73 #[.int .i64 b, .int .i64 n, .int .i64 l] w (GivesRowW w (splitL b n l)) := by
  have hk := kinds_bd2 b h2
  obtain ⟨hk1, hk2⟩ := hk
  have HK := hide (fun w => kinds_any b w h1 h2)
  have hmk := make_ints n (by omega)
  have HE := hide (fun wr => @spAt_row b n l w wr)
  have HST := hide (fun wr k m => @spAt_step b n l w wr k m)
  have HDB := hide (div_bd (kindsI b) hk1 l hl)
  have HDP := hide (div_pw (kindsI b) hk1 l)
  have hk0 : (kindsI b == 0) = false := by simp; omega
  have H0 : Hid (SpAt b n l w 0 (w.alloc (.cells (madeCells #[.int .i64 0] n) 3))) := by
    refine ⟨(World.rowIs_made w (.int .i64 0) n 3).congr fun p hp => ?_, (Below.refl _ _).alloc (Nat.le_refl _) _⟩
    rw [if_neg (by omega)]
  have HD0 : Hid (l / pw (kindsI b) 0 = l) := by show _ = _; simp [pw]
  go_enter Tryd.func73, Tryd.ntmps73
  go_wp2
  generalize w.alloc (.cells (madeCells #[.int .i64 0] n) 3) = W at H0 ⊢
  generalize kindsI b = K at hk1 hk2 HK HST HDB HDP hk0 HD0
  go_loopw [2, 12] (fun s i wx => ∃ k : Nat, k ≤ n ∧ i = .int .i64 k ∧ s = .int .i64 (l / pw K k) ∧ SpAt b n l w k wx) (fun _ i _ => n - (intOf i).toNat)
  case atStart => exact ⟨0, by omega, rfl, by rw [HD0.out], H0.out⟩
  case round =>
    obtain ⟨k, hk, rfl, rfl, ho⟩ := hrel
    have HA := hide ho
    clear ho
    by_cases hlt : k < n
    · have hlti : (k : Int) < (n : Int) := by omega
      obtain ⟨m, hm⟩ : ∃ m, n = m + 1 + k := ⟨n - 1 - k, by omega⟩
      have HM := hide hm
      have hmi : (n : Int) - 1 - (k : Int) = (m : Int) := by omega
      have hmn : m < n := by omega
      clear hm
      have HS' := hide (HST.out wr k m HA.out HM.out)
      have hdb := HDB.out k
      obtain ⟨hd1, hd2⟩ := hdb
      have HDP' := hide (HDP.out k)
      have hcell := HA.out.1.cell hmn
      have hfz := HA.out.1.frozen m
      have hmni : (m : Int) < (n : Int) := by omega
      generalize (Value.int IntKind.i64 (if n ≤ m + k then dOf b n l m else 0)) = old at hcell
      generalize l / pw K k = q at hd1 hd2 HDP' HS' ⊢
      go_wp2_with (go_at_call 55; refine (HK.out _).mono ?_; rintro e w' ⟨rfl, hw⟩; rw [hw]; clear hw w')
      go_roundw
      case rel => exact ⟨k + 1, by omega, by go_num, by rw [HDP'.out], HS'.out⟩
      case measure => simp [intOf]; omega
    · have hlti : ¬ ((k : Int) < (n : Int)) := by omega
      obtain rfl : k = n := by omega
      go_wp2
      go_ret
      exact HE.out wr HA.out

set_option maxHeartbeats 1000000 in
set_option maxRecDepth 4000 in
theorem unpack_row (b : Int) (n : Nat) (l : Int) (w : World) (h : codeU b n l = 0) :
    Calls Tryd.prog 56 #[.int .i64 b, .int .i64 n, .int .i64 l] w (UnpackW w (splitL b n l)) := by
  obtain ⟨hM, hl1, hl2⟩ := codeU_zero h
  obtain ⟨h1, h2, h3, h4, h5, h6⟩ := codeM_zero hM
  have HMC := hide (many_u b n w)
  rw [hM, errV_zero] at HMC
  have HSP := hide (split_row b n l w h1 h2 (by omega) hl1 (by omega))
  generalize manyU b n = M at HMC hl2 h6
  have hl3 : decide (M ≤ l) = false := by simp; omega
  clear h hM h5 h6
  go_enter Tryd.func56, Tryd.ntmps56
  go_wp2_with (go_at_call 37; refine HMC.out.mono ?_; rintro e w' ⟨rfl, hw⟩; rw [hw]; clear hw w')
  refine HSP.out.mono ?_
  rintro e w1 ⟨g1, rfl, hg1, hs1, hb1⟩
  rw [splitL_length] at hs1 ⊢
  have HS1 := hide hs1
  have HB1 := hide hb1
  clear hs1 hb1 HSP
  go_wp2
  go_ret2
  exact ⟨g1, by rw [splitL_length]; simp, hg1, by rw [splitL_length]; exact HS1.out, HB1.out⟩
def delRen : Go.Shelf.Ren := ⟨fun | 23 => 58 | n => n, fun | 0 => 0 | 3 => 3 | 4 => 4 | 22 => 35 | n => n, fun n => n⟩
theorem delLays : Lays2.n23 Tryd.prog delRen where
  mixed := by kernel_rfl
  f23 := Tryd.func58.trans (congrArg some (by kernel_rfl))
  t0 := Tryd.underlying0
  a0 := Tryd.isAgg0
  z0 := Tryd.sizeOf0
  v0 := Tryd.zeroValue0
  t3 := Tryd.underlying3
  a3 := Tryd.isAgg3
  z3 := Tryd.sizeOf3
  v3 := Tryd.zeroValue3
  t4 := Tryd.underlying4
  a4 := Tryd.isAgg4
  z4 := Tryd.sizeOf4
  v4 := Tryd.zeroValue4
  t22 := Tryd.underlying35
  a22 := Tryd.isAgg35
  z22 := Tryd.sizeOf35
  v22 := Tryd.zeroValue35
  i3 := by kernel_rfl

theorem erase_parts (d : List Int) (i : Nat) : d.take i ++ d.drop (i + 1) = d.eraseIdx i := (List.eraseIdx_eq_take_drop_succ d i).symm
def DelU (w : World) (g n : Nat) (l : List Int) (e : Ending) (w' : World) : Prop := e = .returned (.slice (some ⟨g, 0, none⟩) l.length n) ∧ Sl w' (some ⟨g, 0, none⟩) l.length l ∧ ∀ (W0 : World) (b0 : Nat), b0 ≤ g → Below b0 W0 w → Below b0 W0 w'
theorem delete_any (g n i : Nat) (d : List Int) (w : World) (hl : d.length = n) (hn : n ≤ 1000) (hi : i < n) (hwf : ∀ x ∈ d, (Lit.int .i64 x).wf = true) (hr : w.rowIs g 3 n fun j => .int .i64 (d.getD j 0)) :
    Calls Tryd.prog 58 #[.slice (some ⟨g, 0, none⟩) n n, .int .i64 (i : Int), .int .i64 ((i + 1 : Nat) : Int)] w (DelU w g n (d.eraseIdx i)) := by
  subst hl
  have hH : Sort.Holds (Value.int .i64) w g 0 d.toArray := by
    intro j hj
    have hj' : j < d.length := by simpa using hj
    refine ⟨?_, by rw [Nat.zero_add]; exact hr.frozen j⟩
    rw [Nat.zero_add, hr.cell hj']
    simp [List.getD, hj']
  have h := Any.slices_Delete_int delLays g 0 d.length i (i + 1) d w hH (Nat.le_refl _) (by omega) (by omega) (by omega)
  refine h.mono ?_
  rintro e w' ⟨rfl, q, rfl⟩
  have hle : (d.eraseIdx i).length = d.length - 1 := by rw [List.length_eraseIdx, if_pos hi]
  rw [erase_parts]
  obtain ⟨ts, hts⟩ : ∃ ts, ts = d.eraseIdx i ++ List.replicate (i + 1 - i) (0 : Int) := ⟨_, rfl⟩
  rw [← hts]
  have htl : ts.length = d.length := by rw [hts]; simp [hle]; omega
  obtain ⟨c, hc, hcs, hcc⟩ := hr
  have hO := ownsRow_sortedI (w := w) (base := 0) (g := g) (cap := d.length) (n := q) (os := #[]) (ss := d) (ts := ts) htl (Nat.zero_le _) hc (Nat.le_refl _) (by unfold maxLen; omega) (by omega)
  have hG := grownBy_sortedI (w := w) (g := g) (n := q) (os := #[]) ts.toArray
  rw [grow_none] at hO hG
  have hglt : g < w.heap.size := (Array.getElem?_eq_some_iff.1 hc).1
  refine ⟨by rw [hle, show i + 1 - i = 1 by omega], ⟨rfl, by rw [hle]; unfold maxLen; omega, fun x hx => hwf x ((List.eraseIdx_sublist d i).subset hx), Or.inr ⟨g, 0, rfl, fun j hj => ?_⟩⟩, fun W0 b0 hb0 hB => ?_⟩
  · rw [Nat.zero_add, hO.cellAt j (by omega), hts, List.map_append, List.getElem?_append_left (by simpa using hj)]
    simp [List.getD, hj]
  · exact Below.grown hB hG (by omega) (fun k hk => by cases hk; omega)

/-- Rows that grow, each for itself, in a row of them. -/
structure GrdR (base g mu : Nat) (rows : Nat → List Int) (W : World) (vs : Nat → Value) : Prop where
  row : W.rowIs g 35 mu vs
  own : ∀ l, l < mu → W.ownsRow base 3 1 (vs l) (rows l).length ((rows l).map (Value.int .i64))
  far : ∀ l, l < mu → (vs l).ownBlock ≠ some g
  apart : ∀ l k x, l < mu → k < mu → (vs l).ownBlock = some x → (vs k).ownBlock = some x → l = k
theorem grdR_below {base g mu : Nat} {rows : Nat → List Int} {W W' : World} {vs : Nat → Value} (h : GrdR base g mu rows W vs) (hb : Below W.heap.size W W') : GrdR base g mu rows W' vs :=
  ⟨h.row.of_block (hb.block _ h.row.lt), fun l hl => ownsRow_of_block (h.own l hl) fun x hx => hb.block x ((h.own l hl).lt x hx).2, h.far, h.apart⟩
def updV (vs : Nat → Value) (l : Nat) (v : Value) (k : Nat) : Value := if k = l then v else vs k
def updR (rows : Nat → List Int) (l : Nat) (x : Int) (k : Nat) : List Int := if k = l then rows l ++ [x] else rows k
theorem grdR_push {base g mu : Nat} {rows : Nat → List Int} {W w3 : World} {vs : Nat → Value} {l : Nat} {x : Int} {o : Obj} {g' cap' : Nat} (h : GrdR base g mu rows W vs) (hl : l < mu)
    (hown : w3.ownsRow base 3 1 (.slice (some ⟨g', 0, none⟩) ((rows l).length + 1) cap') ((rows l).length + 1) ((rows l).map (Value.int .i64) ++ [.int .i64 x])) (hgrow : (W.alloc o).grownBy w3 (vs l).ownBlock) (hat : (vs l).ownBlock = some g' ∨ g' = (W.alloc o).heap.size) :
    (w3.cell? ⟨g, l, none⟩ = some (vs l) ∧ w3.frozen? ⟨g, l, none⟩ = false) ∧ GrdR base g mu (updR rows l x) (w3.setCell ⟨g, l, none⟩ (.slice (some ⟨g', 0, none⟩) ((rows l).length + 1) cap')) (updV vs l (.slice (some ⟨g', 0, none⟩) ((rows l).length + 1) cap')) ∧ ∀ (W0 : World) (b0 : Nat), b0 ≤ base → b0 ≤ g → b0 ≤ W.heap.size → Below b0 W0 W → Below b0 W0 (w3.setCell ⟨g, l, none⟩ (.slice (some ⟨g', 0, none⟩) ((rows l).length + 1) cap')) := by
  have k3 : ∀ y, y < W.heap.size → (vs l).ownBlock ≠ some y → w3.heap[y]? = W.heap[y]? := fun y hy hv => by
    rw [hgrow.block y (by rw [World.size_alloc]; omega) (fun e => hv e.symm), Below.heap_alloc _ _ _ hy]
  have hr3 := h.row.of_block (k3 g h.row.lt (h.far l hl))
  have hgn : ∀ y, y < W.heap.size → (vs l).ownBlock ≠ some y → y ≠ g' := fun y hy hv e => by
    rcases hat with h1 | h1
    · exact hv (by rw [e]; exact h1)
    · rw [World.size_alloc] at h1; omega
  have hob : ∀ y, (Value.slice (some ⟨g', 0, none⟩) ((rows l).length + 1) cap').ownBlock = some y → g' = y := fun y e => by simpa [Value.ownBlock] using e
  have hgg : g ≠ g' := hgn g h.row.lt (h.far l hl)
  have s3 := hgrow.size
  rw [World.size_alloc] at s3
  refine ⟨⟨hr3.cell hl, hr3.frozen l⟩, ⟨(hr3.set l _).congr fun k _ => rfl, fun k hk => ?_, fun k hk => ?_, fun i k y hi hk h1 h2 => ?_⟩, fun W0 b0 h1 h2 h3 hB => ?_⟩
  · unfold updV updR
    by_cases e : k = l
    · rw [if_pos e, if_pos e, List.length_append, List.map_append]
      exact ownsRow_setCell_other hown (fun e => hgg (hob _ e).symm) _
    · rw [if_neg e, if_neg e]
      refine ownsRow_of_block (h.own k hk) fun y hy => ?_
      rw [Below.heap_setCell _ _ _ _ (show y ≠ g from fun e2 => h.far k hk (e2 ▸ hy)), k3 y ((h.own k hk).lt y hy).2 (fun e2 => e (h.apart k l y hk hl hy e2))]
  · unfold updV
    by_cases e : k = l
    · rw [if_pos e]; exact fun e => hgg (hob _ e).symm
    · rw [if_neg e]; exact h.far k hk
  · unfold updV at h1 h2
    by_cases e1 : i = l
    · by_cases e2 : k = l
      · omega
      · rw [if_pos e1] at h1
        rw [if_neg e2] at h2
        have := hob _ h1
        subst this
        exact absurd rfl (hgn g' ((h.own k hk).lt _ h2).2 (fun e3 => e2 (h.apart k l g' hk hl h2 e3)))
    · by_cases e2 : k = l
      · rw [if_neg e1] at h1
        rw [if_pos e2] at h2
        have := hob _ h2
        subst this
        exact absurd rfl (hgn g' ((h.own i hi).lt _ h1).2 (fun e3 => e1 (h.apart i l g' hi hl h1 e3)))
      · rw [if_neg e1] at h1
        rw [if_neg e2] at h2
        exact h.apart i k y hi hk h1 h2
  · exact (Below.grown (hB.alloc h3 o) hgrow (by rw [World.size_alloc]; omega) (fun y hy => Nat.le_trans h1 ((h.own l hl).lt y hy).1)).setCell h2 _
theorem grdR_end {base g mu : Nat} {rows : Nat → List Int} {W : World} {vs : Nat → Value} (h : GrdR base g mu rows W vs) (hm : mu ≤ maxLen) (hL : ∀ l, l < mu → (rows l).length ≤ maxLen) (hw : ∀ l, l < mu → ∀ x ∈ rows l, (Lit.int .i64 x).wf = true) (R : List (List Int)) (hR : R.length = mu) (he : ∀ l, l < mu → R.getD l [] = rows l) : Sl2 W (some ⟨g, 0, none⟩) mu R := by
  refine ⟨hR, hm, Or.inr ⟨g, 0, rfl, fun l hl => ?_⟩⟩
  obtain ⟨a, cap, e, hs⟩ := sl_of_owns rfl (hL l hl) (hw l hl) (h.own l hl)
  rw [he l hl]
  exact ⟨a, cap, by rw [Nat.zero_add, h.row.cell hl, e], hs.1⟩
theorem grdR_start (w : World) (mu base : Nat) (rows : Nat → List Int) (h : ∀ l, l < mu → rows l = []) : GrdR base w.heap.size mu rows (w.alloc (.cells (madeCells #[.slice none 0 0] mu) 35)) (fun _ => .slice none 0 0) :=
  ⟨World.rowIs_made w (.slice none 0 0) mu 35, fun l hl => by rw [h l hl]; exact World.ownsRow_nil _ _ _ _, fun l _ => by simp [Value.ownBlock], fun l k x _ _ h1 => by simp [Value.ownBlock] at h1⟩
theorem grdR_congr {base g mu : Nat} {rows rows' : Nat → List Int} {W : World} {vs : Nat → Value} (h : GrdR base g mu rows W vs) (e : ∀ l, l < mu → rows l = rows' l) : GrdR base g mu rows' W vs :=
  ⟨h.row, fun l hl => by rw [← e l hl]; exact h.own l hl, h.far, h.apart⟩
def GivesRws (w : World) (R : List (List Int)) (e : Ending) (w' : World) : Prop := ∃ g, e = .returned (.tuple #[.slice (some ⟨g, 0, none⟩) R.length R.length, .nilIface]) ∧ Sl2 w' (some ⟨g, 0, none⟩) R.length R ∧ Below w.heap.size w w'
end Go.Proofs.YtlgjadnkokmjoaaDoor

/- some.LettersWithout: contracts. -/
namespace Go.Proofs.YtlgjadnkokmjoaaDoor
open Go.RowKit

theorem left_upd (b : Int) (tr tk x lf : Nat) (h : delT b tr tk (x : Int) = (lf : Int)) (l : Nat) : updR (leftL b tr tk x) lf (x : Int) l = leftL b tr tk (x + 1) l := by
  unfold updR
  rw [leftL_step, h]
  by_cases e : l = lf
  · subst e; rw [if_pos rfl, if_pos rfl]
  · rw [if_neg e, if_neg (fun h => e (by omega))]
theorem erase_code {b : Int} (h2 : b ≤ 6) {tr tk : Nat} (ht : tk ≤ tr) (hC : codeM b (tr : Int) = 0) (y : Int) : codeP b ((splitL b (tr + 1) y).eraseIdx tk) = 0 := by
  have hle : ((splitL b (tr + 1) y).eraseIdx tk).length = tr := by rw [List.length_eraseIdx, splitL_length, if_pos (by omega)]; rfl
  unfold codeP
  rw [hle, if_pos hC, if_pos]
  unfold digB
  rw [List.all_eq_true]
  intro x hx
  have hm := (List.eraseIdx_sublist (splitL b (tr + 1) y) tk).subset hx
  simp only [splitL, List.mem_map, List.mem_range] at hm
  obtain ⟨i, _, rfl⟩ := hm
  have := dOf_bd b h2 (tr + 1) y i
  simp; omega
theorem split_wf {b : Int} (h2 : b ≤ 6) (n : Nat) (y : Int) : ∀ x ∈ splitL b n y, (Lit.int .i64 x).wf = true := fun x hx => by
  simp only [splitL, List.mem_map, List.mem_range] at hx
  obtain ⟨i, _, rfl⟩ := hx
  have := dOf_bd b h2 n y i
  have := kinds_bd2 b h2
  exact Go.WalkArith.wf_i64 (by omega)

set_option maxHeartbeats 8000000 in
set_option maxRecDepth 8000 in
theorem lettersWithout_any (b : Int) (tn tr tk m mu : Nat) (w : World) (htn : tn = tr + 1) (h2 : b ≤ 6) (ht4 : tr ≤ 4) (htk : tk ≤ tr) (hf : pw (kindsI b) tr = (mu : Int)) (hC : codeM b (tr : Int) = 0) (hC1 : codeM b (tn : Int) = 0) (hU1 : manyU b (tn : Int) = (m : Int)) (h36 : mu ≤ 36) :
    Calls Tryd.prog 30 #[.int .i64 b, .int .i64 (tn : Int), .int .i64 (tk : Int)] w (GivesRws w (leftR b tr tk m mu)) := by
  obtain ⟨i0, hi0, hz0, hz1, hz2⟩ := info_parts info3
  obtain ⟨h1, -, -, -, h5, h6⟩ := codeM_zero hC1
  have hkb := kinds_bd2 b h2
  have hm36 : m ≤ 36 := by rw [← h6, hU1] at h5; omega
  have hmK : (m : Int) = (mu : Int) * kindsI b := by
    rw [← hU1, h6, htn, Int.toNat_natCast, pw_succ, hf]
  have HMC := hide (fun W => many_u b (tn : Int) W)
  rw [hC1, errV_zero, hU1] at HMC
  have HKD := hide (fun W => kinds_any b W h1 h2)
  have hk0 : ¬ ((tk : Int) < 0) := by omega
  have hk1 : ¬ ((tk : Int) ≥ (tn : Int)) := by omega
  have hKz : (kindsI b == 0) = false := by simp; omega
  have hqd : (m : Int).tdiv (kindsI b) = (mu : Int) := by
    rw [Int.tdiv_eq_ediv_of_nonneg (by omega), hmK, Int.mul_ediv_cancel _ (by omega)]
  have hdv : (m : Int) / kindsI b = (mu : Int) := by rw [← Int.tdiv_eq_ediv_of_nonneg (by omega)]; exact hqd
  have hmk := make_rows mu (by omega)
  have HUP : Hid (∀ (W : World) (x : Nat), x < m → Calls Tryd.prog 56 #[.int .i64 b, .int .i64 (tn : Int), .int .i64 (x : Int)] W (UnpackW W (splitL b tn (x : Int)))) := fun W x hx => unpack_row b tn (x : Int) W (by unfold codeU; rw [if_pos hC1, if_pos ⟨by omega, by omega⟩])
  unfold UnpackW at HUP
  have HDL : Hid (∀ (W : World) (g x : Nat), W.rowIs g 3 tn (fun i => .int .i64 ((splitL b tn (x : Int)).getD i 0)) → Calls Tryd.prog 58 #[.slice (some ⟨g, 0, none⟩) tn tn, .int .i64 (tk : Int), .int .i64 ((tk : Int) + 1)] W (DelU W g tn ((splitL b tn (x : Int)).eraseIdx tk))) := fun W g x hr => by
    have h := delete_any g tn tk (splitL b tn (x : Int)) W (splitL_length _ _ _) (by omega) (by omega) (split_wf h2 _ _) hr
    rw [show ((tk + 1 : Nat) : Int) = (tk : Int) + 1 by omega] at h
    exact h
  unfold DelU at HDL
  have HPK : Hid (∀ (W : World) (a1 : Option Addr) (c1 x : Nat), Sl W a1 ((splitL b tn (x : Int)).eraseIdx tk).length ((splitL b tn (x : Int)).eraseIdx tk) → Calls Tryd.prog 57 #[.int .i64 b, .slice a1 ((splitL b tn (x : Int)).eraseIdx tk).length c1] W fun e w' => e = .returned (.tuple #[.int .i64 (delT b tr tk (x : Int)), .nilIface]) ∧ w' = W) := fun W a1 c1 x hsl => by
    have h := pack_u b a1 _ c1 _ W hsl
    have hc : codeP b ((splitL b tn (x : Int)).eraseIdx tk) = 0 := by rw [htn]; exact erase_code h2 htk hC _
    have hp : packU b ((splitL b tn (x : Int)).eraseIdx tk) = delT b tr tk (x : Int) := by
      unfold packU
      rw [if_pos hc, htn]
      rfl
    rw [hc, hp, errV_zero] at h
    exact h
  have HLEN : Hid (∀ x : Nat, (splitL b tn (x : Int)).length = tn) := fun x => splitL_length _ _ _
  have HDB : Hid (∀ x : Nat, ∃ lf : Nat, lf < mu ∧ delT b tr tk (x : Int) = (lf : Int)) := fun x => by
    have := delT_bd h2 htk hf (x : Int)
    exact ⟨(delT b tr tk (x : Int)).toNat, by omega, by omega⟩
  have HWF : Hid (∀ l, ∀ x ∈ leftL b tr tk m l, (Lit.int .i64 x).wf = true) := fun l x hx => Go.WalkArith.wf_i64 (by have := (mem_leftL.1 hx).1; omega)
  have HLL := hide (fun x l => leftL_len b tr tk x l)
  have HUPD := hide (fun x lf h => left_upd b tr tk x lf h)
  have H0 := hide (grdR_start w mu w.heap.size (leftL b tr tk 0) (fun l _ => leftL_zero b tr tk l))
  have HB0 : Hid (Below w.heap.size w (w.alloc (.cells (madeCells #[.slice none 0 0] mu) 35))) := (Below.refl _ _).alloc (Nat.le_refl _) _
  have HEND : Hid (∀ (W : World) (vs : Nat → Value), GrdR w.heap.size w.heap.size mu (leftL b tr tk m) W vs → Below w.heap.size w W → GivesRws w (leftR b tr tk m mu) (.returned (.tuple #[.slice (some ⟨w.heap.size, 0, none⟩) mu mu, .nilIface])) W) := fun W vs h1 h2 => by
    refine ⟨w.heap.size, by rw [leftR_len], ?_, h2⟩
    rw [leftR_len]
    exact grdR_end h1 (by unfold maxLen; omega) (fun l _ => by have := leftL_len b tr tk m l; unfold maxLen; omega) (fun l _ => HWF.out l) _ (leftR_len _ _ _ _ _) (fun l hl => leftR_get hl)
  have htk5 : tk < tn := by omega
  have htn5 : tn ≤ 5 := by omega
  clear hf hC hC1 hU1 htn h1 h5 h6 hmK hqd
  generalize kindsI b = K at hkb hKz hdv HKD
  go_enter Tryd.func30, Tryd.ntmps30
  go_wp2_with (first
    | (go_at_call 37; refine (HMC.out _).mono ?_; rintro e w' ⟨rfl, hw⟩; rw [hw]; clear hw w')
    | (go_at_call 55; refine (HKD.out _).mono ?_; rintro e w' ⟨rfl, hw⟩; rw [hw]; clear hw w'))
  clear hKz hdv hmk
  generalize w.alloc (.cells (madeCells #[.slice none 0 0] mu) 35) = W0 at H0 HB0 ⊢
  go_loopw [38] (fun u wx => ∃ x : Nat, x ≤ m ∧ u = .int .i64 x ∧ ∃ vs, GrdR w.heap.size w.heap.size mu (leftL b tr tk x) wx vs ∧ Below w.heap.size w wx) (fun u _ => m - (intOf u).toNat)
  case atStart => exact ⟨0, by omega, rfl, _, H0.out, HB0.out⟩
  case round =>
    obtain ⟨x, hx, rfl, vs, hgr, hbw⟩ := hrel
    have HGR := hide hgr
    have HBW := hide hbw
    clear hgr hbw
    by_cases hlt : x < m
    · have hlti : (x : Int) < (m : Int) := by omega
      obtain ⟨lf, hlf, hd⟩ := HDB.out x
      have HCU := hide (HUP.out wr x hlt)
      rw [HLEN.out] at HCU
      have HUPX := hide (HUPD.out x lf hd)
      have HPKX := hide (fun W a1 c1 => HPK.out W a1 c1 x)
      rw [hd] at HPKX
      clear hd
      have HDLX := hide (fun W g => HDL.out W g x)
      generalize hsp : splitL b tn (x : Int) = sp at HCU HPKX HDLX
      clear hsp
      have HLX := hide (HLL.out x lf)
      go_wp2_with (go_at_call 56; refine HCU.out.mono ?_; rintro e w1 ⟨g1, rfl, hg1, hr1, hb1⟩; have HG1 := hide hg1; have HB1 := hide hb1; have HR1 := hide hr1; clear hg1 hr1 hb1)
      have HD1 := hide (HDLX.out w1 g1 HR1.out)
      have HBX1 := hide (HBW.out.trans (HB1.out.mono HBW.out.size))
      have HLE : Hid (w.heap.size ≤ g1) := Nat.le_trans HBW.out.size HG1.out
      have hwt : IntKind.i64.wrap ((tk : Int) + 1) = (tk : Int) + 1 := wrap_i64_id (by omega)
      go_wp2_with fail
      refine HD1.out.mono ?_
      rintro e w2 ⟨rfl, hs2, hb2⟩
      have HP2 := hide (HPKX.out w2 _ tn hs2)
      have HB2 := hide (hb2 w w.heap.size HLE.out HBX1.out)
      have HB3 := hide (hb2 wr wr.heap.size HG1.out HB1.out)
      clear hs2 hb2
      go_wp2_with fail
      refine HP2.out.mono ?_
      rintro e w' ⟨rfl, hw⟩
      rw [hw]
      clear hw w'
      have HGR2 := hide (grdR_below HGR.out HB3.out)
      have hlfi : (lf : Int) < (mu : Int) := by omega
      have hcl := HGR2.out.row.cell hlf
      have HOWN := hide (HGR2.out.own lf hlf)
      have HNEW := hide (fun w3 o g' cap' k1 k2 k3 => @grdR_push w.heap.size w.heap.size mu (leftL b tr tk x) w2 w3 vs lf (x : Int) o g' cap' HGR2.out hlf k1 k2 k3)
      have HS2 := hide HB2.out.size
      go_wp2_with (at_builtin; refine wpList_append_lies _ rfl _ _ 35 rfl w.heap.size 3 i0 (.int .i64 0) 1 8 Tryd.underlying35 hi0 hz0 hz1 hz2 rfl (by decide) (vs lf) (leftL b tr tk x lf).length _ rfl (HOWN.out.alloc _) ⟨w2.heap.size, 0, none⟩ 1 1 [.int .i64 (x : Int)] rfl rfl (one_new _ _ _) (fun u hu => by simp at hu; subst hu; rfl) (by omega) (by have := HLX.out; unfold maxLen; omega) (by have := HLX.out; omega) (by have := HS2.out; simp; omega) (w2.heap.size + 1) (by simp) ?_; intro g' cap' w3 hown3 hgrow3 hat3 hlt3; obtain ⟨⟨hn1', hn2'⟩, hn3', hn4'⟩ := HNEW.out w3 _ g' cap' hown3 hgrow3 (by rw [World.size_alloc]; exact hat3); have HN3 := hide hn3'; have HN4 := hide hn4'; clear hown3 hgrow3 hat3 hn3' hn4' hlt3)
      go_roundw
      case rel => exact ⟨x + 1, by omega, by go_num, _, grdR_congr HN3.out (fun l _ => HUPX.out l), HN4.out w w.heap.size (Nat.le_refl _) (Nat.le_refl _) HS2.out HB2.out⟩
      case measure => simp [intOf]; omega
    · have hlti : ¬ (x : Int) < (m : Int) := by omega
      obtain rfl : x = m := by omega
      go_wp2
      go_ret2
      exact HEND.out _ vs HGR.out HBW.out
set_option maxHeartbeats 4000000 in
set_option maxRecDepth 8000 in
theorem lettersWithout_far (b t tk : Int) (w : World) (hC : codeM b t = 0) (ht : ¬ (0 ≤ tk ∧ tk < t)) :
    Calls Tryd.prog 30 #[.int .i64 b, .int .i64 t, .int .i64 tk] w fun e w' => e = .returned (.tuple #[.slice none 0 0, errV 1]) ∧ w' = w := by
  have HMC := hide (fun W => many_u b t W)
  rw [hC, errV_zero] at HMC
  rw [errV_no (show (1 : Int) ≠ 0 by decide)]
  have hcase : tk < 0 ∨ (¬ tk < 0 ∧ tk ≥ t) := by omega
  clear hC ht
  generalize manyU b t = M at HMC
  rcases hcase with h | ⟨h, h'⟩
  all_goals
    go_enter Tryd.func30, Tryd.ntmps30
    go_wp2_with (go_at_call 37; refine (HMC.out _).mono ?_; rintro e w' ⟨rfl, hw⟩; rw [hw]; clear hw w')
    go_ret2
    exact ⟨rfl, rfl⟩
end Go.Proofs.YtlgjadnkokmjoaaDoor

/- The letters that one stands beside are each there once. -/
namespace Go.Proofs.YtlgjadnkokmjoaaDoor
open Go.RowKit

theorem put_inj {b : Int} (h2 : b ≤ 6) {tr t : Nat} (ht : t ≤ tr) {x y : Int} (hx : 0 ≤ x ∧ x < kindsI b) (hy : 0 ≤ y ∧ y < kindsI b) {l : Int} (e : packL b (putD b tr t x l) = packL b (putD b tr t y l)) : x = y := by
  have hd : ∀ z, 0 ≤ z ∧ z < kindsI b → splitL b (tr + 1) (packL b (putD b tr t z l)) = putD b tr t z l := fun z hz => by
    have h := digB_put b h2 (tr := tr) (t := t) hz l
    unfold digB at h
    rw [List.all_eq_true] at h
    have hp := split_pack b h2 (putD b tr t z l) (fun j hj => by
      have := h _ (List.getElem_mem hj)
      rw [getD_at _ j hj]
      simpa using this)
    rwa [putD_len ht] at hp
  have e2 := congrArg (splitL b (tr + 1)) e
  rw [hd x hx, hd y hy] at e2
  have hl : ((splitL b tr l).take t).length = t := by rw [List.length_take, splitL_length]; omega
  have hg : ∀ z, (putD b tr t z l)[t]? = some z := fun z => by
    unfold putD
    rw [List.append_assoc, List.getElem?_append_right (by omega), hl, Nat.sub_self]
    rfl
  have e3 := congrArg (fun d : List Int => d[t]?) e2
  simp only [hg] at e3
  exact Option.some.inj e3
theorem withL_nodupR {b : Int} (h2 : b ≤ 6) {tr tk : Nat} (ht : tk ≤ tr) (l : Int) : (withL b tr tk l).Nodup := by
  have hk := kinds_bd2 b h2
  unfold withL
  refine List.Pairwise.map (R := fun a c : Nat => a < c ∧ a < (kindsI b).toNat ∧ c < (kindsI b).toNat) _ (fun a c h e => ?_) (List.Pairwise.imp_of_mem (fun ha hc h => ⟨h, List.mem_range.1 ha, List.mem_range.1 hc⟩) List.pairwise_lt_range)
  have := put_inj h2 ht (x := (a : Int)) (y := (c : Int)) ⟨by omega, by omega⟩ ⟨by omega, by omega⟩ e
  omega
theorem leftL_nodupR (b : Int) (tr tk m l : Nat) : (leftL b tr tk m l).Nodup := by
  unfold leftL
  refine List.Pairwise.map (R := fun a c : Nat => a < c) _ (fun a c h e => ?_) (List.Pairwise.filter _ List.pairwise_lt_range)
  omega
end Go.Proofs.YtlgjadnkokmjoaaDoor
