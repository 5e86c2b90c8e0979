/- The reference's relettered: contract. -/
import Derived.Deep.RegionHeldLaw
import Derived.Deep.RegionLaw
import Derived.Test.YtkighkpmebcnhacDoorBp
import Derived.Test.YtkighkpmebcnhacDoorCf
import Derived.Test.YtkighkpmebcnhacDoorEa
import Derived.Test.YtkighkpmebcnhacDoorZLq
namespace Go.Proofs.YtkighkpmebcnhacDoor
open Go.RowKit

set_option maxHeartbeats 16000000 in
set_option maxRecDepth 8000 in
theorem relettered_any (b t t2 : Int) (a : Option Addr) (n cap m : Nat) (N : List (List Int)) (a' : Option Addr) (cap' : Nat) (E : List Bool) (ato : Option Addr) (lt ct : Nat) (to : List Int) (w : World) (hs : Sl2 w a n N) (he : SlB w a' n E) (hto : Sl w ato lt to) (hG : GoodN m n N) (ht : okTo m to) (h1 : 1 ≤ lt) (h36 : lt ≤ 36) (hn80 : n ≤ 80) :
    Calls Tryd.prog 29 #[.agg #[.int .i64 b, .int .i64 t, .slice a n cap, .slice a' n cap'], .int .i64 t2, .slice ato lt ct] w (GivesAuto w b t2 (leastN (relN N to) E lt) (leastE (relN N to) E lt)) := by
  have hL := hto.1
  have hR := rel_good hG ht (by omega) (by omega)
  rw [hL] at hR
  have hm36 := hG.2.2.2.1
  have hB0 := below_two w (.cells #[.int .i64 b, .int .i64 t, .slice a n cap, .slice a' n cap'] 25) (.cells #[.int .i64 0, .int .i64 0, .slice none 0 0, .slice none 0 0] 25)
  have HB0 := hide hB0
  have HS := hide (sl2_below hs hB0)
  have HE := hide (slB_below he hB0)
  have HTO := hide (sl_below hto hB0)
  have HBX := hide (fun W (h : Below _ _ W) => (@two_boxes w W (.int .i64 b) (.int .i64 t) (.slice a n cap) (.slice a' n cap') (.int .i64 0) (.int .i64 0) (.slice none 0 0) (.slice none 0 0) 25 h).1)
  have HRX := hide (heap_alloc2_snd w (.cells #[.int .i64 b, .int .i64 t, .slice a n cap, .slice a' n cap'] 25) (.cells #[.int .i64 0, .int .i64 0, .slice none 0 0, .slice none 0 0] 25))
  have HG := hide hG
  have HT := hide ht
  have HRC := hide (fun s j (h : s < n) (h' : j < to.length) => rel_cell hG h h')
  have HRR := hide hR
  have HSH := hide (fun an cn W h1 h2 => shrunk_any b t2 an n cn lt (relN N to) a' cap' E W h1 hR h2 (leastK_80 hR E hn80))
  unfold ShrU at HSH
  have HRLN : Hid ((relN N to).length = n) := by show _ = _; rw [relN_len]; exact hG.1
  clear hs he hto hG ht hR hB0
  generalize leastN (relN N to) E lt = LN at HSH ⊢
  generalize leastE (relN N to) E lt = LE at HSH ⊢
  generalize relN N to = RN at HRC HRR HSH HRLN
  generalize hW0 : (w.alloc (.cells #[.int .i64 b, .int .i64 t, .slice a n cap, .slice a' n cap'] 25)).alloc (.cells #[.int .i64 0, .int .i64 0, .slice none 0 0, .slice none 0 0] 25) = wb at HB0 HS HE HTO HBX HRX
  have HSZ0 : Hid (wb.heap.size = w.heap.size + 2) := by show _ = _; rw [← hW0]; simp
  have HP0 := hide (rwAt_nil wb (fun s => RN.getD s []))
  obtain ⟨i0, hi0, hz0, hz1, hz2⟩ := info_parts info3
  obtain ⟨j0, hj0, hy0, hy1, hy2⟩ := info_parts infoS2
  go_enter Tryd.func29, Tryd.ntmps29
  go_wp2
  clear hW0
  go_loopw [7, 8] (fun v iv wx => ∃ s : Nat, s ≤ n ∧ iv = .int .i64 s ∧ RwAt wb (fun s => RN.getD s []) s v wx) (fun _ iv _ => n - (intOf iv).toNat)
  case atStart => exact ⟨0, by omega, rfl, HP0.out⟩
  case round =>
    obtain ⟨s, hs, rfl, hpr⟩ := hrel
    have HPR := hide hpr
    have HBW : Hid (Below wb.heap.size wb wr) := by obtain ⟨_, _, _, h⟩ := hpr; exact h
    obtain ⟨p0, p1, p2, p3⟩ := HBX.out wr HBW.out
    clear hpr HP0
    by_cases hsl : s < n
    · have hsi : (s : Int) < (n : Int) := by omega
      have HRL : Hid ((RN.getD s []).length = lt) := (HRR.out.2.2.2.2.2 s hsl).1
      have HRV : Hid (∀ j, j < lt → 0 ≤ (RN.getD s []).getD j 0 ∧ (RN.getD s []).getD j 0 < (n : Int)) := (HRR.out.2.2.2.2.2 s hsl).2
      have HRC1 := hide (fun j h => HRC.out s j hsl h)
      obtain ⟨bn, on, an, cn, rfl, hcn, hsn⟩ := sl2_cell HS.out s hsl
      rw [(HG.out.2.2.2.2.2 s hsl).1] at hcn hsn
      have HCN := hide hcn
      have HSN := hide hsn
      obtain ⟨row, hrow⟩ : ∃ row, row = RN.getD s [] := ⟨_, rfl⟩
      rw [← hrow] at HRL HRV HRC1
      have HROW := hide hrow
      clear hcn hsn hrow
      have HG0 : Hid (GrowR wr (row.take 0) (.slice none 0 0) wr) := ⟨World.ownsRow_nil _ _ _ _, Below.refl _ _⟩
      go_wp2
      clear p0 p1 p2 p3
      obtain ⟨wq, hwq⟩ : ∃ wq : World, wq = wr := ⟨_, rfl⟩
      rw [← hwq] at HPR HBW HG0 ⊢
      clear hwq wr
      go_loopw [9, 10] (fun v lv wx => ∃ l : Nat, l ≤ lt ∧ lv = .int .i64 l ∧ GrowR wq (row.take l) v wx) (fun _ lv _ => lt - (intOf lv).toNat)
      case atStart => exact ⟨0, by omega, rfl, HG0.out⟩
      case round =>
        obtain ⟨l, hl, rfl, hgr⟩ := hrel
        have HGR := hide hgr
        have HBL := hide (HBW.out.trans (hgr.2.mono HBW.out.size))
        obtain ⟨p0, p1, p2, p3⟩ := HBX.out wr HBL.out
        have hcn : wr.cell? ⟨bn, on + s, none⟩ = some (.slice an m cn) := (HBL.out.cell (p := ⟨bn, on + s, none⟩) (World.block_lt_of_cell? _ _ HCN.out)).trans HCN.out
        clear hgr p0 p1 p3
        by_cases hlm : l < lt
        · have hlmi : (l : Int) < (lt : Int) := by omega
          obtain ⟨bt, ot, rfl, hct⟩ := sl_cell (sl_below HTO.out HBL.out) l hlm
          have hxr := okTo_get HT.out (j := l) (by omega)
          have hrc := HRC1.out l (by omega)
          obtain ⟨x, hx⟩ : ∃ x : Nat, to.getD l 0 = (x : Int) := ⟨(to.getD l 0).toNat, by omega⟩
          rw [hx] at hct hxr hrc
          rw [Int.toNat_natCast] at hrc
          have hxm : x < m := by omega
          have hxi : (x : Int) < (m : Int) := by omega
          obtain ⟨b1, o1, rfl, hcx⟩ := sl_cell (sl_below HSN.out HBL.out) x hxm
          rw [← hrc] at hcx
          have HTS : Hid (row.take (l + 1) = row.take l ++ [row.getD l 0]) := by show _ = _; rw [List.take_succ_eq_append_getElem (by have := HRL.out; omega), getD_at _ l (by have := HRL.out; omega)]
          have HTL : Hid ((row.take l).length = l) := by show _ = _; rw [List.length_take]; have := HRL.out; omega
          have HOWN := hide HGR.out.1
          rw [HTL.out] at HOWN
          have HSZ := hide HGR.out.2.size
          have HCX := hide hcx
          have HCT := hide hct
          generalize row.getD l 0 = u at hcx HTS HCX
          clear hrc hx hxr
          have HKEEP : Hid (∀ (w3 : World) (o : Obj) (vr : Value), wr.ownsRow wq.heap.size 3 1 vr l ((row.take l).map (Value.int .i64)) → (wr.alloc o).drew.grownBy w3 vr.ownBlock → w3.cell? ⟨w.heap.size, 2, none⟩ = some (.slice (some ⟨bn, on, none⟩) n cap) ∧ w3.cell? ⟨bn, on + s, none⟩ = some (.slice (some ⟨b1, o1, none⟩) m cn) ∧ w3.cell? ⟨bt, ot + l, none⟩ = some (.int .i64 (x : Int)) ∧ w3.cell? ⟨b1, o1 + x, none⟩ = some (.int .i64 u)) := by
            intro w3 o vr hr hg
            have hB3 : Below wq.heap.size wq w3 := Below.grown ((HGR.out.2.alloc HSZ.out o).drew) hg (by have := HSZ.out; simp; omega) (fun k hk => (hr.lt k hk).1)
            have hBb := HBW.out.trans (hB3.mono HBW.out.size)
            obtain ⟨-, -, e2, -⟩ := HBX.out w3 hBb
            refine ⟨e2, (hBb.cell (p := ⟨bn, on + s, none⟩) (World.block_lt_of_cell? _ _ HCN.out)).trans HCN.out, ?_, ?_⟩
            · obtain ⟨_, _, e, hc⟩ := sl_cell (sl_below HTO.out hBb) l hlm
              obtain ⟨_, _, e', hc'⟩ := sl_cell (sl_below HTO.out HBL.out) l hlm
              cases e
              cases e'
              rw [hc, ← hc']
              exact HCT.out
            · obtain ⟨_, _, e, hc⟩ := sl_cell (sl_below HSN.out hBb) x hxm
              obtain ⟨_, _, e', hc'⟩ := sl_cell (sl_below HSN.out HBL.out) x hxm
              cases e
              cases e'
              rw [hc, ← hc']
              exact HCX.out
          go_wp2
          go_region_held_law (fun W => W.cell? ⟨w.heap.size, 2, none⟩ = some (.slice (some ⟨bn, on, none⟩) n cap) ∧ W.cell? ⟨bn, on + s, none⟩ = some (.slice (some ⟨b1, o1, none⟩) m cn) ∧ W.cell? ⟨bt, ot + l, none⟩ = some (.int .i64 (x : Int)) ∧ W.cell? ⟨b1, o1 + x, none⟩ = some (.int .i64 u)) (first | go_keep | exact HKEEP.out _ _ _ HOWN.out hgrow5)
            (first | (refine step_append_lies _ rfl (.tmp 26) (.tmp 38) 39 rfl wq.heap.size 3 i0 (.int .i64 0) 1 8 Tryd.underlying39 hi0 hz0 hz1 hz2 rfl (by decide) _ l _ rfl (World.ownsRow.alloc (w := wr) HOWN.out _) ⟨wr.heap.size, 0, none⟩ 1 1 [.int .i64 u] (by simp [Act.eval]) rfl (one_new wr _ _) (fun u hu => by simp at hu; subst hu; rfl) (by omega) (by unfold maxLen; omega) (by omega) (by have := HSZ.out; simp; omega) (wr.heap.size + 1) (by simp) ?_; intro g5 cg5 w6 hown5 hgrow5 hat5 hlt5; have HO5 := hide hown5; have HG5 := hide hgrow5))
          all_goals
            go_wp2
            go_roundw
            case rel =>
              refine ⟨l + 1, by omega, by go_num, ?_⟩
              rw [HTS.out]
              exact growR_push (o := .cells #[.int .i64 u] 3) HGR.out (by rw [HTL.out]; exact HO5.out) ⟨HG5.out.os, HG5.out.tape, HG5.out.output, HG5.out.size, HG5.out.block⟩
            case measure => simp [intOf]; omega
        · have hlmi : ¬ ((l : Int) < (lt : Int)) := by omega
          obtain rfl : lt = l := by omega
          have HFULL : Hid (row.take lt = row) := List.take_of_length_le (by have := HRL.out; omega)
          rw [HFULL.out] at HGR
          have hwf : ∀ z ∈ row, (Lit.int .i64 z).wf = true := fun z hz => by
            obtain ⟨i, hi, rfl⟩ := List.getElem_of_mem hz
            have h1 := HRV.out i (by have := HRL.out; omega)
            rw [getD_at _ i hi] at h1
            exact WalkArith.wf_i64 (by omega)
          obtain ⟨ar, cr, rfl, hsr⟩ := sl_of_owns rfl (by unfold maxLen; have := HRL.out; omega) hwf HGR.out.1
          have HON := hide (@rwAt_push wb wq wr (fun s => RN.getD s []) s _ ar cr HPR.out HGR.out.2 (by simp only [← HROW.out]; exact hsr))
          simp only [← HROW.out] at HON
          rw [HRL.out] at HON
          obtain ⟨vals, hoN, -, hnx⟩ := HON.out
          have HNX := hide hnx
          have HOWN := hide hoN
          have HSZ : Hid (wb.heap.size ≤ wr.heap.size) := Nat.le_trans HBW.out.size HGR.out.2.size
          rw [HRL.out]
          clear hnx hoN HON hsr hwf p2 hcn
          go_wp2_with (at_builtin; refine wpList_append_lies _ rfl _ _ 22 rfl wb.heap.size 39 j0 (.slice none 0 0) 1 24 Tryd.underlying22 hj0 hy0 hy1 hy2 rfl (by decide) u7 s vals rfl (HOWN.out.alloc _) ⟨wr.heap.size, 0, none⟩ 1 1 [.slice ar lt cr] rfl rfl (one_new _ _ _) (fun u hu => by simp at hu; subst hu; rfl) (by omega) (by unfold maxLen; omega) (by omega) (by have := HSZ.out; simp; omega) _ rfl ?_; intro g' cg w3 hown3 hgrow3 hat3 hlt3; have HN3 := hide (HNX.out w3 _ g' cg hown3 hgrow3 hat3); clear hown3 hgrow3 hat3 hlt3)
          go_roundw
          case rel => exact ⟨s + 1, by omega, by go_num, HN3.out⟩
          case measure => simp [intOf]; omega
    · have hsi : ¬ ((s : Int) < (n : Int)) := by omega
      obtain rfl : n = s := by omega
      obtain ⟨ax, cx, rfl, hsx⟩ := rwAt_end HPR.out (by unfold maxLen; omega) RN HRLN.out (fun _ _ => rfl)
      have HC := hide (HSH.out ax cx wr hsx (slB_below HE.out HBW.out))
      have HR := hide ((HBW.out.block _ (Array.getElem?_eq_some_iff.1 HRX.out).1).trans HRX.out)
      clear hsx HPR HSH
      go_wp2_with fail
      clear p0 p1 p2 p3
      refine HC.out.mono ?_
      rintro e w1 ⟨ay, cy, ay', cy', rfl, hnew, hb1⟩
      have hbz := (Below.refl w1.heap.size w1).alloc (Nat.le_refl _) (.cells #[.int .i64 b, .int .i64 t2, .slice ay LN.length cy, .slice ay' LN.length cy'] 25)
      have hbw1 := below_step hb1 hbz
      have hold := (hbw1.block _ (Array.getElem?_eq_some_iff.1 HR.out).1).trans HR.out
      have hmx := heap_alloc_last w1 (.cells #[.int .i64 b, .int .i64 t2, .slice ay LN.length cy, .slice ay' LN.length cy'] 25)
      have HHOLD := hide hold
      have HNEW := hide (hnew.below hbz)
      have HBF := hide (below_step HB0.out (below_step HBW.out hbw1))
      have HSW := hide HBW.out.size
      obtain ⟨⟨o0, o1, o2, o3⟩, of⟩ := box_cells hold
      obtain ⟨⟨r0, r1, r2, r3⟩, -⟩ := box_cells hmx
      clear hnew hb1 hbz hbw1 hold hmx HC
      go_wp2
      generalize w1.alloc (.cells #[.int .i64 b, .int .i64 t2, .slice ay LN.length cy, .slice ay' LN.length cy'] 25) = w3 at HHOLD HNEW HBF ⊢
      obtain ⟨⟨hset, hsz, hoth⟩, hbel⟩ := box_set (v0 := .int .i64 b) (v1 := .int .i64 t2) (v2 := .slice ay LN.length cy) (v3 := .slice ay' LN.length cy') HHOLD.out rfl
      have hfin : AutoNew w ay LN.length LN ay' LE ((((w3.setCell ⟨w.heap.size + 1, 0, none⟩ (.int .i64 b)).setCell ⟨w.heap.size + 1, 1, none⟩ (.int .i64 t2)).setCell ⟨w.heap.size + 1, 2, none⟩ (.slice ay LN.length cy)).setCell ⟨w.heap.size + 1, 3, none⟩ (.slice ay' LN.length cy')) := fun W' hW' => HNEW.out W' (fun x hx hxl => by
        have h1 := HSW.out
        have h2 := HSZ0.out
        rw [hW' x (by omega) (by rw [hsz]; exact hxl), hoth x (by omega)])
      have hb := hbel w w.heap.size HBF.out (by omega)
      obtain ⟨⟨z0, z1, z2, z3⟩, -⟩ := box_cells hset
      exact bodyPost_ret (v := .agg #[.int .i64 b, .int .i64 t2, .slice ay LN.length cy, .slice ay' LN.length cy']) (by simp [results, Tryd.results29, go_sem, z0, z1, z2, z3]) rfl ⟨ay, cy, ay', cy', rfl, hfin, hb⟩
end Go.Proofs.YtkighkpmebcnhacDoor
