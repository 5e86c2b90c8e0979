/- The walk of the law TrackTakes, from what package track's functions answer. -/
import Derived.Deep.RegionLaw
import Derived.Maps.AppendAt
import Derived.Test.YtkighkpmebcnhacDd
import Derived.Test.YtkighkpmebcnhacEj
namespace Go.Proofs.Ytkighkpmebcnhac
open Go.RowKit

/-- What track.Spread and track.Fix answer, at whatever they are given. -/
def SpreadSays : Prop := ∀ (b t : Int) (a : Option Addr) (n cap : Nat) (a' : Option Addr) (k cap' : Nat) (N : List (List Int)) (E : List Bool) (tr : Int) (aa : Option Addr) (la ca : Nat) (at_ : List Int) (W : World), Sl2 W a n N → SlB W a' k E → Sl W aa la at_ → Calls Try.prog 13 #[.agg #[.int .i64 b, .int .i64 t, .slice a n cap, .slice a' k cap'], .int .i64 tr, .slice aa la ca] W (PairR W (okI (sprC b t N k tr at_) b) (okI (sprC b t N k tr at_) tr) (sprN b t N E k tr at_) (sprE b t N E k tr at_) (sprC b t N k tr at_))
def FixSays : Prop := ∀ (b t : Int) (a : Option Addr) (n cap : Nat) (a' : Option Addr) (k cap' : Nat) (N : List (List Int)) (E : List Bool) (tk x : Int) (W : World), Sl2 W a n N → SlB W a' k E → Calls Try.prog 16 #[.agg #[.int .i64 b, .int .i64 t, .slice a n cap, .slice a' k cap'], .int .i64 tk, .int .i64 x] W (PairR W (okI (fixC b t N k tk x) b) (okI (fixC b t N k tk x) (t - 1)) (fixN b t N E k tk x) (fixE b t N E k tk x) (fixC b t N k tk x))

/-- What stands between two calls: the automaton in its box, and the two lists. -/
def TtAt (w W : World) (b t : Int) (a : Option Addr) (n cap : Nat) (a' : Option Addr) (k cap' : Nat) (N : List (List Int)) (E : List Bool) (aa : Option Addr) (la : Nat) (at_ : List Int) (aw : Option Addr) (lw : Nat) (l : List Int) : Prop :=
  Below w.heap.size w W ∧ AutoAt W w.heap.size b t a n cap a' k cap' N E ∧ Sl W aa la at_ ∧ Sl W aw lw l
theorem ttAt_step {w W W' : World} {b t : Int} {a : Option Addr} {n cap : Nat} {a' : Option Addr} {k cap' : Nat} {N : List (List Int)} {E : List Bool} {aa : Option Addr} {la : Nat} {at_ : List Int} {aw : Option Addr} {lw : Nat} {l : List Int} (h : TtAt w W b t a n cap a' k cap' N E aa la at_ aw lw l) (hb : Below W.heap.size W W') : TtAt w W' b t a n cap a' k cap' N E aa la at_ aw lw l :=
  ⟨below_step h.1 hb, autoAt_below h.2.1 hb, sl_below h.2.2.1 hb, sl_below h.2.2.2 hb⟩
theorem sl_built1 (w : World) (t : TypeId) : Sl (w.alloc (.cells #[.int .i64 1] t)) (some ⟨w.heap.size, 0, none⟩) 1 [1] := by
  refine ⟨rfl, by decide, by decide, Or.inr ⟨_, _, rfl, fun i hi => ?_⟩⟩
  rw [cell_of_row _ _ (0 + i) _ t (0, 0) (heap_alloc_last w _)]
  obtain rfl : i = 0 := by omega
  rfl
theorem spreadT_get (b : Int) (tr : Nat) (at_ : List Int) (n : Nat) {x : Int} (h0 : 0 ≤ x) (hx : x < (n : Int)) : (spreadT b tr at_ n).getD x.toNat 0 = packL b (spreadD b tr at_ x) := by
  obtain ⟨y, rfl⟩ : ∃ y : Nat, x = (y : Int) := ⟨x.toNat, by omega⟩
  have : y < n := by omega
  simp [spreadT, List.getD, this]

theorem fixT_get (b : Int) (tr t : Nat) (x : Int) (n : Nat) {y : Int} (h0 : 0 ≤ y) (hy : y < (n : Int)) : (fixT b tr t x n).getD y.toNat 0 = packL b (putD b tr t x y) := by
  obtain ⟨z, rfl⟩ : ∃ z : Nat, y = (z : Int) := ⟨y.toNat, by omega⟩
  have : z < n := by omega
  simp [fixT, List.getD, this]
theorem getD_push {xs : List Int} {j : Nat} (h : xs.length = j) (x : Int) : (xs ++ [x]).getD j 0 = x := by
  subst h
  simp [List.getD]
theorem twoR_left2 {w : World} {xs ys : List Int} {v v' v2 : Value} {W w3 : World} {o : Obj} {x : Int} (h : TwoR w xs ys v v' W) (hown : w3.ownsRow w.heap.size 3 1 v2 (xs.length + 1) (xs.map (Value.int .i64) ++ [.int .i64 x])) (hgrow : (W.alloc o).grownBy w3 v.ownBlock) (hat : v2.ownBlock = v.ownBlock ∨ v2.ownBlock = some (W.alloc o).heap.size) :
    TwoR w (xs ++ [x]) ys v2 v' w3 := by
  obtain ⟨h1, h2, h3, h4⟩ := h
  refine ⟨by rw [List.length_append, List.map_append]; exact hown, ownsRow_of_block h2 (fun z hz => ?_), fun z hz hz' => ?_, Below.grown (h4.alloc h4.size o) hgrow (by have := h4.size; simp; omega) (fun k hk => (h1.lt k hk).1)⟩
  · have hl := (h2.lt z hz).2
    rw [hgrow.block z (by simp; omega) (fun e => h3 z e.symm hz), Below.heap_alloc _ _ _ hl]
  · have hl := (h2.lt z hz').2
    rcases hat with e | e
    · exact h3 z (e ▸ hz) hz'
    · rw [e] at hz
      simp at hz
      omega

set_option maxHeartbeats 32000000 in
set_option maxRecDepth 8000 in
theorem tracktakes_of (b t : Int) (a : Option Addr) (n cap : Nat) (a' : Option Addr) (k cap' : Nat) (N : List (List Int)) (E : List Bool) (tr : Int) (aa : Option Addr) (la ca : Nat) (at_ : List Int) (aw : Option Addr) (lw cw : Nat) (l : List Int) (x : Int) (w : World) (hs : Sl2 w a n N) (he : SlB w a' k E) (ha : Sl w aa la at_) (hw : Sl w aw lw l) (hSP : SpreadSays) (hFX : FixSays) :
    Calls Try.prog 5 #[.agg #[.int .i64 b, .int .i64 t, .slice a n cap, .slice a' k cap'], .int .i64 tr, .slice aa la ca, .slice aw lw cw, .int .i64 x] w fun e w' => e = .returned (.bool true) ∧ Below w.heap.size w w' := by
  have hLa := ha.1
  have hLw := hw.1
  have hB0 := (Below.refl w.heap.size w).alloc (Nat.le_refl _) (.cells #[.int .i64 b, .int .i64 t, .slice a n cap, .slice a' k cap'] 25)
  have H0 : Hid (TtAt w _ b t a n cap a' k cap' N E aa la at_ aw lw l) := ⟨hB0, autoAt_new (cap := cap) (cap' := cap') (T := 25) hs he, sl_below ha hB0, sl_below hw hB0⟩
  have HFS := hide (fun u1 c1 u1' c1' uo W h1 h2 h3 => hSP 2 1 u1 2 c1 u1' 2 c1' [[0, 1], [1, 0]] [false, true] 2 uo 1 1 [1] W h1 h2 h3)
  unfold PairR at HFS
  rw [fact_track.1, fact_track.2, show okI 0 2 = 2 from rfl, errV_yes rfl] at HFS
  generalize sprE 2 1 [[0, 1], [1, 0]] [false, true] 2 2 [1] = FE at HFS
  have HSP := hide (fun W h1 h2 h3 => hSP b t a n cap a' k cap' N E tr aa la ca at_ W h1 h2 h3)
  unfold PairR at HSP
  have HFX := hide hFX
  have hE := he.1
  clear hs he ha hw hB0 hSP hFX
  generalize hW0 : w.alloc (.cells #[.int .i64 b, .int .i64 t, .slice a n cap, .slice a' k cap'] 25) = w0 at H0
  go_enter Try.func5, Try.ntmps5
  go_wp2_with fail
  clear hW0
  refine (twos_any w0).mono ?_
  rintro e w1 ⟨u1, c1, u1', c1', rfl, hs1, he1, hb1⟩
  have hbz := (Below.refl w1.heap.size w1).alloc (Nat.le_refl _) (.cells #[.int .i64 1] 3)
  have H1 := hide (ttAt_step (ttAt_step H0.out hb1) hbz)
  have HC := hide (HFS.out u1 c1 u1' c1' (some ⟨w1.heap.size, 0, none⟩) _ (sl2_below hs1 hbz) (slB_below he1 hbz) (sl_built1 w1 3))
  clear hs1 he1 hb1 hbz H0 HFS
  go_wp2_with fail
  generalize w1.alloc (.cells #[.int .i64 1] 3) = w2 at H1 HC ⊢
  refine HC.out.mono ?_
  rintro e w3 ⟨ax, cx, ax', cx', rfl, hnew, hb3⟩
  have hbz := (Below.refl w3.heap.size w3).alloc (Nat.le_refl _) (.cells #[.int .i64 2, .int .i64 2, .slice ax 2 cx, .slice ax' 2 cx'] 25)
  have H4 := hide (ttAt_step (ttAt_step H1.out hb3) hbz)
  have hfN := (hnew.below hbz).here.1
  have hfx := heap_alloc_last w3 (.cells #[.int .i64 2, .int .i64 2, .slice ax 2 cx, .slice ax' 2 cx'] 25)
  obtain ⟨⟨r0, r1, r2, r3⟩, -⟩ := box_cells hfx
  obtain ⟨bn, on, ar, cr, rfl, hcn, hsn⟩ := sl2_cell hfN 0 (by decide)
  have hsn' : Sl _ ar 4 [0, 1, 0, 1] := hsn
  obtain ⟨br, or_, rfl, hc1⟩ := sl_cell hsn' 1 (by decide)
  obtain ⟨_, _, e2, hc2⟩ := sl_cell hsn' 2 (by decide)
  cases e2
  have hcn' : _ = some (Value.slice _ 4 cr) := hcn
  have hc1' : _ = some (Value.int .i64 1) := hc1
  have hc2' : _ = some (Value.int .i64 0) := hc2
  rw [Nat.add_zero] at hcn'
  obtain ⟨p0, p1, p2, p3⟩ := H4.out.2.1.1
  clear hnew hb3 hbz H1 HC hfN hfx hsn hsn' hcn hc1 hc2
  go_wp2_with fail
  clear p0 p1 p2 p3 r0 r1 r2 r3 hcn' hc1' hc2'
  generalize w3.alloc (.cells #[.int .i64 2, .int .i64 2, .slice (some ⟨bn, on, none⟩) 2 cx, .slice ax' 2 cx'] 25) = w4 at H4 ⊢
  refine (HSP.out w4 H4.out.2.1.2.1 H4.out.2.1.2.2 H4.out.2.2.1).mono ?_
  rintro e w5 ⟨am, cm, am', cm', rfl, hnew, hb5⟩
  have H5 := hide (ttAt_step H4.out hb5)
  have HNEW := hide hnew
  have HW := hide (fun h => @sp_well b t N E k tr at_ h)
  clear hnew hb5 H4 HSP
  have hbz := (Below.refl w5.heap.size w5).alloc (Nat.le_refl _) (.cells #[.int .i64 (okI (sprC b t N k tr at_) b), .int .i64 (okI (sprC b t N k tr at_) tr), .slice am (sprN b t N E k tr at_).length cm, .slice am' (sprN b t N E k tr at_).length cm'] 25)
  have H6 := hide (ttAt_step H5.out hbz)
  have HM6 := hide (autoAt_new (b := okI (sprC b t N k tr at_) b) (t := okI (sprC b t N k tr at_) tr) (cap := cm) (cap' := cm') (T := 25) HNEW.out.here.1 HNEW.out.here.2)
  clear hbz H5 HNEW
  generalize sprN b t N E k tr at_ = MN at HM6 H6 HW ⊢
  generalize sprE b t N E k tr at_ = ME at HM6 H6 HW ⊢
  by_cases hc : sprC b t N k tr at_ = 0
  · obtain ⟨trn, mu, rfl, hSW, hA, hmu⟩ := HW.out hc
    clear HW
    rw [errV_yes hc] 
    rw [show okI (sprC b t N k (trn : Int) at_) b = b by unfold okI; rw [if_pos hc], show okI (sprC b t N k (trn : Int) at_) (trn : Int) = (trn : Int) by unfold okI; rw [if_pos hc]] at H6 HM6 ⊢
    clear hc
    have hrM : runC b trn MN MN.length l = wordC mu l := by unfold runC; rw [if_pos hSW.auto, hmu]
    have htM : takesB b trn MN ME l = if wordC mu l = 0 then tkB MN ME l else false := by unfold takesB; rw [hSW.len, hrM]; rfl
    have HTM := hide (fun aw cw lw l W h1 h2 h3 => takes_u b trn am am' MN.length cm MN.length cm' MN ME aw lw cw l W h1 h2 h3)
    have HTM1 := hide (HTM.out aw cw lw l)
    rw [htM, hrM] at HTM1
    clear hrM htM
    obtain ⟨p0, p1, p2, p3⟩ := HM6.out.1
    go_wp2_with fail
    clear p0 p1 p2 p3
    generalize w5.alloc (.cells #[.int .i64 b, .int .i64 (trn : Int), .slice am MN.length cm, .slice am' MN.length cm'] 25) = w6 at H6 HM6 ⊢
    refine (HTM1.out w6 HM6.out.2.1 HM6.out.2.2 H6.out.2.2.2).mono ?_
    rintro e w7 ⟨rfl, hb7⟩
    have H7 := hide (ttAt_step H6.out hb7)
    have HM7 := hide (autoAt_below HM6.out hb7)
    clear hb7 H6 HM6 HTM1
    by_cases hc : wordC mu l = 0
    · rw [errV_yes hc, if_pos hc]
      obtain ⟨hlok, hl400⟩ := okW_of_word hc
      clear hc
      obtain ⟨hVok, hVtk⟩ := hSW.says l hlok
      obtain ⟨hMt, -, hG, -⟩ := autoC_zero hA
      obtain ⟨h1, h2⟩ := hSW.base
      have hfive := hSW.five
      have hm36 := hSW.many36
      rw [hVtk]
      have hVL : (reW (spreadT b trn at_ mu) l).length = lw := by rw [reW_len, hLw]
      have HTA := hide (fun ao co W g1 g2 g3 => takes_u b t a a' n cap k cap' N E ao lw co (reW (spreadT b trn at_ mu) l) W g1 g2 g3)
      obtain ⟨hta, hra⟩ := takes_ok hA hE (word_of_okW hVok (by rw [hVL, ← hLw]; exact hl400))
      rw [hta, hra, errV_yes rfl] at HTA
      have HVK : Hid (∀ i, i < lw → (reW (spreadT b trn at_ mu) l).take (i + 1) = (reW (spreadT b trn at_ mu) l).take i ++ [packL b (spreadD b trn at_ (l.getD i 0))]) := fun i hi => by
        have := okW_get hlok (i := i) (by omega)
        rw [reW_take _ _ (by omega), spreadT_get b trn at_ mu this.1 this.2]
      have HVW : Hid (∀ z ∈ reW (spreadT b trn at_ mu) l, (Lit.int .i64 z).wf = true) := fun z hz => by
        have := hVok z hz
        have := hG.2.2.2.1
        exact WalkArith.wf_i64 (by omega)
      have HVL := hide hVL
      have HLB : Hid (∀ i, i < lw → 0 ≤ l.getD i 0 ∧ l.getD i 0 < (mu : Int)) := fun i hi => okW_get hlok (by omega)
      have HAT : Hid (∀ i, i < la → 0 ≤ at_.getD i 0 ∧ at_.getD i 0 < (trn : Int)) := fun i hi => hSW.at_ok i (by omega)
      have HDK := hide (fun l i h => spreadD_take b trn at_ l i h)
      rw [hLa] at HDK
      have HDW : Hid (∀ l, ∀ x ∈ spreadD b trn at_ l, (Lit.int .i64 x).wf = true) := fun l x hx => by
        obtain ⟨j, hj, rfl⟩ := List.getElem_of_mem hx
        have := spreadD_bd b h2 trn at_ l j hj
        rw [getD_at _ j hj] at this
        exact dig_wf h2 this
      have HDL : Hid (∀ l, (spreadD b trn at_ l).length = la) := fun l => by simp [spreadD, hLa]
      have HDB := hide (fun l => digB_spread b h2 trn at_ l)
      have HDO := hide (fun l i W hi hl hl' => digitOf_any b trn l i W h1 h2 hfive.1 hi hl hl')
      have hla5 : la ≤ 5 := by omega
      have hlw4 : lw ≤ 400 := by omega
      have HPO := hide (fun ad cd l W h => packOf_any b ad la cd (spreadD b trn at_ l) W h1 h2 hla5 (HDB.out l) h)
      obtain ⟨i0, hi0, hz0, hz1, hz2⟩ := info_parts info3
      have HSW := hide hSW
      have HLOK := hide hlok
      clear hVtk hVL hta hra hVok hlok hSW hG hMt hA HDB
      generalize reW (spreadT b trn at_ mu) l = V at HTA HVK HVW HVL ⊢
      generalize tkB N E V = tz at HTA ⊢
      go_wp2
      go_loopw [17, 18] (fun v lv wx => ∃ i : Nat, i ≤ lw ∧ lv = .int .i64 i ∧ Grow w7 (V.take i) v wx) (fun _ lv _ => lw - (intOf lv).toNat)
      case atStart => exact ⟨0, by omega, rfl, grow_nil w7⟩
      case round =>
        obtain ⟨j, hj, rfl, hgr⟩ := hrel
        have HGR := hide hgr
        clear hgr
        by_cases hlm : j < lw
        · have hlmi : (j : Int) < (lw : Int) := by omega
          have HVK1 := hide (HVK.out j hlm)
          have hyb := HLB.out j hlm
          obtain ⟨y, hy⟩ : ∃ y : Int, l.getD j 0 = y := ⟨_, rfl⟩
          rw [hy] at HVK1 hyb
          have HY := hide hy
          have HDK1 := hide (HDK.out y)
          have HDL1 := hide (HDL.out y)
          have HDW1 := hide (HDW.out y)
          have HPO1 := hide (fun ad cd W h => HPO.out ad cd y W h)
          have HDO1 := hide (fun i W hi => HDO.out y i W hi hyb.1 (by omega))
          clear hy hyb
          generalize hD : spreadD b trn at_ y = D at HVK1 HDK1 HDL1 HDW1 HPO1
          clear hD
          go_wp2
          obtain ⟨wq, hwq⟩ : ∃ wq : World, wq = wr := ⟨_, rfl⟩
          rw [← hwq] at HGR ⊢
          clear hwq wr
          go_loopw [19, 20] (fun v iv wx => ∃ i : Nat, i ≤ la ∧ iv = .int .i64 i ∧ GrowR wq (D.take i) v wx) (fun _ iv _ => la - (intOf iv).toNat)
          case atStart => exact ⟨0, by omega, rfl, ⟨World.ownsRow_nil _ _ _ _, Below.refl _ _⟩⟩
          case round =>
            obtain ⟨i, hi, rfl, hgi⟩ := hrel
            have HGI := hide hgi
            have HBL := hide (HGR.out.2.trans (hgi.2.mono HGR.out.2.size))
            have HT := hide (ttAt_step H7.out HBL.out)
            obtain ⟨p0, -, -, -⟩ := HT.out.2.1.1
            clear hgi
            by_cases hil : i < la
            · have hili : (i : Int) < (la : Int) := by omega
              obtain ⟨ba, oa, rfl, hca⟩ := sl_cell HT.out.2.2.1 i hil
              obtain ⟨bw, ow, rfl, hcw⟩ := sl_cell HT.out.2.2.2 j hlm
              rw [HY.out] at hcw
              have hg := HAT.out i hil
              have HDT := hide (HDK1.out i hil)
              obtain ⟨xx, hx⟩ : ∃ x : Nat, at_.getD i 0 = (x : Int) := ⟨(at_.getD i 0).toNat, by omega⟩
              rw [hx] at hca hg
              rw [hx, Int.toNat_natCast] at HDT
              have HDC := hide (fun W => HDO1.out xx W (by omega))
              have HCA := hide hca
              have HCW := hide hcw
              generalize dOf b trn y xx = u at HDT HDC
              have HTLi : Hid ((D.take i).length = i) := by show _ = _; rw [List.length_take]; have := HDL1.out; omega
              have HOWN := hide HGI.out.1
              rw [HTLi.out] at HOWN
              have HSZ := hide HGI.out.2.size
              clear hx hg
              have HKEEP : Hid (∀ (w3 : World) (o : Obj) (vr : Value), wr.ownsRow wq.heap.size 3 1 vr i ((D.take i).map (Value.int .i64)) → (wr.alloc o).drew.grownBy w3 vr.ownBlock → w3.cell? ⟨w.heap.size, 0, none⟩ = some (.int .i64 b) ∧ w3.cell? ⟨ba, oa + i, none⟩ = some (.int .i64 (xx : Int)) ∧ w3.cell? ⟨bw, ow + j, none⟩ = some (.int .i64 y)) := by
                intro w3 o vr hr hg
                have hB3 : Below wq.heap.size wq w3 := Below.grown ((HGI.out.2.alloc HSZ.out o).drew) hg (by have := HSZ.out; simp; omega) (fun k hk => (hr.lt k hk).1)
                have hBb := HGR.out.2.trans (hB3.mono HGR.out.2.size)
                have hT3 := ttAt_step H7.out hBb
                refine ⟨hT3.2.1.1.1, ?_, ?_⟩
                · obtain ⟨_, _, e, hc⟩ := sl_cell hT3.2.2.1 i hil
                  obtain ⟨_, _, e', hc'⟩ := sl_cell HT.out.2.2.1 i hil
                  cases e
                  cases e'
                  rw [hc, ← hc']
                  exact HCA.out
                · obtain ⟨_, _, e, hc⟩ := sl_cell hT3.2.2.2 j hlm
                  cases e
                  rw [hc, HY.out]
              go_wp2
              go_region_held_law (fun W => W.cell? ⟨w.heap.size, 0, none⟩ = some (.int .i64 b) ∧ W.cell? ⟨ba, oa + i, none⟩ = some (.int .i64 (xx : Int)) ∧ W.cell? ⟨bw, ow + j, none⟩ = some (.int .i64 y)) (first | go_keep | exact HKEEP.out _ _ _ HOWN.out hgrow5)
                (first
                  | (refine step_append_lies _ rfl (.tmp 95) (.tmp 108) 26 rfl wq.heap.size 3 i0 (.int .i64 0) 1 8 Try.underlying26 hi0 hz0 hz1 hz2 rfl (by decide) _ i _ rfl (World.ownsRow.alloc (w := wr) HOWN.out _) ⟨wr.heap.size, 0, none⟩ 1 1 [.int .i64 u] (by simp [Act.eval]) rfl (one_new wr _ _) (fun u hu => by simp at hu; subst hu; rfl) (by omega) (by unfold maxLen; omega) (by omega) (by have := HSZ.out; simp; omega) (wr.heap.size + 1) (by simp) ?_; intro g5 cg5 w6 hown5 hgrow5 hat5 hlt5; have HO5 := hide hown5; have HG5 := hide hgrow5)
                  | (go_at_call 14; refine (HDC.out _).mono ?_; rintro e w' ⟨rfl, rfl⟩))
              all_goals
                go_wp2
                go_roundw
                case rel =>
                  refine ⟨i + 1, by omega, by go_num, ?_⟩
                  rw [HDT.out]
                  exact growR_push (o := .cells #[.int .i64 u] 3) HGI.out (by rw [HTLi.out]; exact HO5.out) ⟨HG5.out.os, HG5.out.tape, HG5.out.output, HG5.out.size, HG5.out.block⟩
                case measure => simp [intOf]; omega
            · have hili : ¬ (i : Int) < (la : Int) := by omega
              obtain rfl : la = i := by omega
              have HFULL : Hid (D.take la = D) := List.take_of_length_le (by have := HDL1.out; omega)
              rw [HFULL.out] at HGI
              obtain ⟨ar, cr, rfl, hsr⟩ := sl_of_owns rfl (by unfold maxLen; have := HDL1.out; omega) HDW1.out HGI.out.1
              have hsr1 := hsr.1
              rw [HDL1.out] at hsr1 ⊢
              have HPC := hide (HPO1.out ar cr wr hsr1)
              clear hsr hsr1
              go_wp2_with fail
              clear p0
              refine HPC.out.mono ?_
              rintro e w' ⟨rfl, nn, hw'⟩
              have HGW := hide (grow_below HGR.out (below_step HGI.out.2 (below_drewN (Below.refl wr.heap.size wr) nn)))
              rw [hw']
              clear hw' w' HPC
              generalize wr.drewN nn = w5 at HGW ⊢
              have HTLl : Hid ((V.take j).length = j) := by show _ = _; rw [List.length_take]; have := HVL.out; omega
              have HOWN := hide HGW.out.1
              rw [HTLl.out] at HOWN
              have HSZ := hide HGW.out.2.size
              generalize packL b D = pk at HVK1
              go_wp2_with (at_builtin; refine wpList_append_own _ rfl _ _ 26 rfl w7.heap.size 3 i0 (.int .i64 0) 1 8 Try.underlying26 hi0 hz0 hz1 hz2 rfl (by decide) _ j ((V.take j).map (Value.int .i64)) rfl (HOWN.out.alloc _) ⟨w5.heap.size, 0, none⟩ 1 1 [.int .i64 pk] rfl rfl (one_new _ _ _) (fun u hu => by simp at hu; subst hu; rfl) (by unfold maxLen; omega) (by omega) (by have := HSZ.out; simp; omega) ?_; intro v3 w6 hown hgrow _)
              go_roundw
              case rel =>
                exact ⟨j + 1, by omega, by go_num, by rw [HVK1.out]; exact grow_push HGW.out (by rw [HTLl.out]; exact hown) hgrow⟩
              case measure => simp [intOf]; omega
        · have hlmi : ¬ (j : Int) < (lw : Int) := by omega
          obtain rfl : lw = j := by omega
          have HFULL : Hid (V.take lw = V) := List.take_of_length_le (by have := HVL.out; omega)
          rw [HFULL.out] at HGR
          obtain ⟨ar, cr, rfl, hsr⟩ := sl_of_owns rfl (by unfold maxLen; have := HVL.out; omega) HVW.out HGR.out.1
          have hsr1 := hsr.1
          rw [HVL.out] at hsr1 ⊢
          have H8 := hide (ttAt_step H7.out HGR.out.2)
          have HM8 := hide (autoAt_below HM7.out HGR.out.2)
          have HTC := hide (HTA.out ar cr wr H8.out.2.1.2.1 H8.out.2.1.2.2 hsr1)
          obtain ⟨p0, p1, p2, p3⟩ := H8.out.2.1.1
          clear hsr hsr1 HTA HDK HDW HDL HDO HPO HVK HVW HVL HFULL HGR H7 HM7
          go_wp2_with fail
          clear p0 p1 p2 p3
          refine HTC.out.mono ?_
          rintro e w9 ⟨rfl, hb9⟩
          have H9 := hide (ttAt_step H8.out hb9)
          have HM9 := hide (autoAt_below HM8.out hb9)
          clear hb9 H8 HM8 HTC
          by_cases h0 : trn = 0
          · have hti : (trn : Int) < 1 := by omega
            go_wp2
            go_ret
            exact ⟨by simp, H9.out.1⟩
          · have hti : ¬ (trn : Int) < 1 := by omega
            obtain ⟨tr, rfl⟩ : ∃ q, trn = q + 1 := ⟨trn - 1, by omega⟩
            have hcast : ((tr + 1 : Nat) : Int) = (tr : Int) + 1 := by omega
            rw [hcast] at hti HM9 HTM ⊢
            have hAM : autoC b ((tr : Int) + 1) MN MN.length = 0 := by have := HSW.out.auto; rwa [hcast] at this
            have hmM : (manyU b ((tr : Int) + 1)).toNat = mu := by rw [hcast] at hmu; exact hmu
            have htr4 : tr ≤ 4 := by omega
            have hML := HSW.out.len
            clear HSW hmu h0
            by_cases hx : 0 ≤ x ∧ x < kindsI b
            · obtain ⟨xn, rfl⟩ : ∃ q : Nat, x = (q : Int) := ⟨x.toNat, by omega⟩
              obtain ⟨mf, hfc, hpm, hmf, hmF, hAF, hFL, hsay⟩ := fx_well (E := ME) hAM hx.2
              have HF1 := hide (fun W g1 g2 => HFX.out b ((tr : Int) + 1) am MN.length cm am' MN.length cm' MN ME 0 (xn : Int) W g1 g2)
              unfold PairR at HF1
              rw [hfc, show okI 0 b = b from rfl, show okI 0 ((tr : Int) + 1 - 1) = (tr : Int) by (show (tr : Int) + 1 - 1 = (tr : Int)); omega, errV_yes rfl] at HF1
              generalize fixN b ((tr : Int) + 1) MN ME MN.length 0 (xn : Int) = FN at HF1 hAF hFL hsay
              generalize fixE b ((tr : Int) + 1) MN ME MN.length 0 (xn : Int) = FE at HF1 hAF hFL hsay
              have hUok := restW_ok b h2 tr l hpm
              obtain ⟨hOok, hOtk⟩ := hsay _ hUok
              rw [hmM] at hOok
              have hUL : (restW b tr l).length = lw := by rw [restW_len, hLw]
              have hOL : (reW (fixT b tr 0 (xn : Int) mf) (restW b tr l)).length = lw := by rw [reW_len, hUL]
              obtain ⟨htu, hru⟩ := takes_ok hAF hFL (word_of_okW (l := restW b tr l) (by rw [hmF]; exact hUok) (by omega))
              obtain ⟨hto, hro⟩ := takes_ok hAM hML (word_of_okW (l := reW (fixT b tr 0 (xn : Int) mf) (restW b tr l)) (by rw [hmM]; exact hOok) (by omega))
              have HTU := hide (fun ao co az cz az' cz' W g1 g2 g3 => takes_u b tr az az' FN.length cz FN.length cz' FN FE ao lw co (restW b tr l) W g1 g2 g3)
              have HTO := hide (fun ao co W g1 g2 g3 => HTM.out ao co lw (reW (fixT b tr 0 (xn : Int) mf) (restW b tr l)) W g1 g2 g3)
              rw [htu, hru, hOtk, errV_yes rfl] at HTU
              rw [hto, hro, errV_yes rfl] at HTO
              have HUK : Hid (∀ i, i < lw → (restW b tr l).take (i + 1) = (restW b tr l).take i ++ [packL b (restD b tr (l.getD i 0))]) := fun i hi => restW_take b tr l (by omega)
              have HUB : Hid (∀ i, i < lw → 0 ≤ packL b (restD b tr (l.getD i 0)) ∧ packL b (restD b tr (l.getD i 0)) < (mf : Int)) := fun i hi => by
                have := okW_get hUok (i := i) (by omega)
                rwa [restW_get b tr l (by omega)] at this
              have HOK : Hid (∀ i, i < lw → (reW (fixT b tr 0 (xn : Int) mf) (restW b tr l)).take (i + 1) = (reW (fixT b tr 0 (xn : Int) mf) (restW b tr l)).take i ++ [(withL b tr 0 (packL b (restD b tr (l.getD i 0)))).getD xn 0]) := fun i hi => by
                have hb := HUB.out i hi
                rw [reW_take _ _ (by omega), restW_get b tr l (by omega), fixT_get b tr 0 (xn : Int) mf hb.1 hb.2, withL_get b tr 0 _ (by omega)]
              have HUW : Hid (∀ z ∈ restW b tr l, (Lit.int .i64 z).wf = true) := fun z hz => by
                have := hUok z hz
                exact WalkArith.wf_i64 (by omega)
              have HOW : Hid (∀ z ∈ reW (fixT b tr 0 (xn : Int) mf) (restW b tr l), (Lit.int .i64 z).wf = true) := fun z hz => by
                have := hOok z hz
                exact WalkArith.wf_i64 (by omega)
              have HUL := hide hUL
              have HOL := hide hOL
              have HDK : Hid (∀ y k, 1 ≤ k → k < tr + 1 → (restD b tr y).take (k + 1 - 1) = (restD b tr y).take (k - 1) ++ [dOf b (tr + 1) y k]) := fun y k q1 q2 => by
                have := restD_take b tr y (j := k - 1) (by omega)
                rw [show k - 1 + 1 = k by omega] at this
                exact this
              have HDL := hide (fun y => restD_len b tr y)
              have HDW : Hid (∀ y, ∀ z ∈ restD b tr y, (Lit.int .i64 z).wf = true) := fun y z hz => by
                obtain ⟨q, hq, rfl⟩ := List.getElem_of_mem hz
                have := restD_bd b h2 tr y q hq
                rw [getD_at _ q hq] at this
                exact dig_wf h2 this
              have HDO := hide (fun y i W hi hl hl' => digitOf_any b (tr + 1) y i W h1 h2 (by omega) hi hl hl')
              rw [hcast] at HDO
              have HPO := hide (fun ad cd y W h => packOf_any b ad tr cd (restD b tr y) W h1 h2 (by omega) (restD_dig b h2 tr y) h)
              have HWO := hide (fun y W hl hl' => withoutOf_any b tr 0 y W h1 h2 htr4 (Nat.zero_le _) hl hl')
              rw [show ((0 : Nat) : Int) = 0 from rfl] at HWO
              unfold GivesRow at HWO
              have HWL := hide (fun y => withL_len b tr 0 y)
              have hxk : xn < (kindsI b).toNat := by omega
              clear hsay hUok hOok hOtk hUL hOL htu hru hto hro hAF hFL hfc hpm hmF hAM hmM hML hcast hx HTM HFX HLOK
              generalize reW (fixT b tr 0 (xn : Int) mf) (restW b tr l) = O at HTU HTO HOK HOW HOL
              generalize restW b tr l = U at HTU HUK HUW HUL
              generalize tkB MN ME O = tq at HTU HTO
              obtain ⟨p0, p1, p2, p3⟩ := HM9.out.1
              go_wp2_with fail
              clear p0 p1 p2 p3
              refine (HF1.out w9 HM9.out.2.1 HM9.out.2.2).mono ?_
              rintro e wA ⟨af, cf, af', cf', rfl, hnewF, hbA⟩
              have hbz := (Below.refl wA.heap.size wA).alloc (Nat.le_refl _) (.cells #[.int .i64 b, .int .i64 (tr : Int), .slice af FN.length cf, .slice af' FN.length cf'] 25)
              have HB := hide (ttAt_step (ttAt_step H9.out hbA) hbz)
              have HMB := hide (autoAt_below (autoAt_below HM9.out hbA) hbz)
              have HFB := hide (autoAt_new (b := b) (t := (tr : Int)) (cap := cf) (cap' := cf') (T := 25) hnewF.here.1 hnewF.here.2)
              clear hbz hbA hnewF HF1 H9 HM9
              go_wp2
              generalize wA.alloc (.cells #[.int .i64 b, .int .i64 (tr : Int), .slice af FN.length cf, .slice af' FN.length cf'] 25) = wB at HB HMB HFB ⊢
              go_loopw [25, 26, 27] (fun v v' lv wx => ∃ i : Nat, i ≤ lw ∧ lv = .int .i64 i ∧ TwoR wB (U.take i) (O.take i) v v' wx) (fun _ _ lv _ => lw - (intOf lv).toNat)
              case atStart => exact ⟨0, by omega, rfl, twoR_nil wB⟩
              case round =>
                obtain ⟨j, hj, rfl, htw⟩ := hrel
                have HTW := hide htw
                clear htw
                by_cases hlm : j < lw
                · have hlmi : (j : Int) < (lw : Int) := by omega
                  have HUK1 := hide (HUK.out j hlm)
                  have HOK1 := hide (HOK.out j hlm)
                  have HUB1 := hide (HUB.out j hlm)
                  have hyb := HLB.out j hlm
                  obtain ⟨y, hy⟩ : ∃ y : Int, l.getD j 0 = y := ⟨_, rfl⟩
                  rw [hy] at HUK1 HOK1 HUB1 hyb
                  have HY := hide hy
                  have HDK1 := hide (HDK.out y)
                  have HDL1 := hide (HDL.out y)
                  have HDW1 := hide (HDW.out y)
                  have HPO1 := hide (fun ad cd W h => HPO.out ad cd y W h)
                  have HDO1 := hide (fun i W hi => HDO.out y i W hi hyb.1 (by omega))
                  clear hy hyb
                  generalize hD : restD b tr y = D at HUK1 HOK1 HUB1 HDK1 HDL1 HDW1 HPO1
                  clear hD
                  go_wp2
                  obtain ⟨wq, hwq⟩ : ∃ wq : World, wq = wr := ⟨_, rfl⟩
                  rw [← hwq] at HTW ⊢
                  clear hwq wr
                  go_loopw [28, 29] (fun v iv wx => ∃ i : Nat, 1 ≤ i ∧ i ≤ tr + 1 ∧ iv = .int .i64 i ∧ GrowR wq (D.take (i - 1)) v wx) (fun _ iv _ => tr + 1 - (intOf iv).toNat)
                  case atStart => exact ⟨1, by omega, by omega, rfl, ⟨World.ownsRow_nil _ _ _ _, Below.refl _ _⟩⟩
                  case round =>
                    obtain ⟨i, hi1, hi, rfl, hgi⟩ := hrel
                    have HGI := hide hgi
                    have HBL := hide (HTW.out.2.2.2.trans (hgi.2.mono HTW.out.2.2.2.size))
                    have HT := hide (ttAt_step HB.out HBL.out)
                    obtain ⟨p0, -, -, -⟩ := HT.out.2.1.1
                    clear hgi
                    by_cases hil : i < tr + 1
                    · have hili : (i : Int) < (tr : Int) + 1 := by omega
                      obtain ⟨bw, ow, rfl, hcw⟩ := sl_cell HT.out.2.2.2 j hlm
                      rw [HY.out] at hcw
                      have HDT := hide (HDK1.out i hi1 hil)
                      have HDC := hide (fun W => HDO1.out i W hil)
                      have HCW := hide hcw
                      generalize dOf b (tr + 1) y i = u at HDT HDC
                      have HTLi : Hid ((D.take (i - 1)).length = i - 1) := by show _ = _; rw [List.length_take]; have := HDL1.out; omega
                      have HOWN := hide HGI.out.1
                      rw [HTLi.out] at HOWN
                      have HSZ := hide HGI.out.2.size
                      have HKEEP : Hid (∀ (w3 : World) (o : Obj) (vr : Value), wr.ownsRow wq.heap.size 3 1 vr (i - 1) ((D.take (i - 1)).map (Value.int .i64)) → (wr.alloc o).drew.grownBy w3 vr.ownBlock → w3.cell? ⟨w.heap.size, 0, none⟩ = some (.int .i64 b) ∧ w3.cell? ⟨bw, ow + j, none⟩ = some (.int .i64 y)) := by
                        intro w3 o vr hr hg
                        have hB3 : Below wq.heap.size wq w3 := Below.grown ((HGI.out.2.alloc HSZ.out o).drew) hg (by have := HSZ.out; simp; omega) (fun k hk => (hr.lt k hk).1)
                        have hBb := HTW.out.2.2.2.trans (hB3.mono HTW.out.2.2.2.size)
                        have hT3 := ttAt_step HB.out hBb
                        refine ⟨hT3.2.1.1.1, ?_⟩
                        obtain ⟨_, _, e, hc⟩ := sl_cell hT3.2.2.2 j hlm
                        cases e
                        rw [hc, HY.out]
                      go_wp2
                      go_region_held_law (fun W => W.cell? ⟨w.heap.size, 0, none⟩ = some (.int .i64 b) ∧ W.cell? ⟨bw, ow + j, none⟩ = some (.int .i64 y)) (first | go_keep | exact HKEEP.out _ _ _ HOWN.out hgrow5)
                        (first
                          | (refine step_append_lies _ rfl (.tmp 160) (.tmp 170) 26 rfl wq.heap.size 3 i0 (.int .i64 0) 1 8 Try.underlying26 hi0 hz0 hz1 hz2 rfl (by decide) _ (i - 1) _ rfl (World.ownsRow.alloc (w := wr) HOWN.out _) ⟨wr.heap.size, 0, none⟩ 1 1 [.int .i64 u] (by simp [Act.eval]) rfl (one_new wr _ _) (fun u hu => by simp at hu; subst hu; rfl) (by omega) (by unfold maxLen; omega) (by omega) (by have := HSZ.out; simp; omega) (wr.heap.size + 1) (by simp) ?_; intro g5 cg5 w6 hown5 hgrow5 hat5 hlt5; have HO5 := hide hown5; have HG5 := hide hgrow5)
                          | (go_at_call 14; refine (HDC.out _).mono ?_; rintro e w' ⟨rfl, rfl⟩))
                      all_goals
                        go_wp2
                        go_roundw
                        case rel =>
                          refine ⟨i + 1, by omega, by omega, by go_num, ?_⟩
                          rw [HDT.out]
                          exact growR_push (o := .cells #[.int .i64 u] 3) HGI.out (by have h5 := HO5.out; rw [HTLi.out]; rw [show i - 1 + 1 = i by omega] at h5 ⊢; exact h5) ⟨HG5.out.os, HG5.out.tape, HG5.out.output, HG5.out.size, HG5.out.block⟩
                        case measure => simp [intOf]; omega
                    · have hili : ¬ (i : Int) < (tr : Int) + 1 := by omega
                      obtain rfl : i = tr + 1 := by omega
                      have HFULL : Hid (D.take (tr + 1 - 1) = D) := List.take_of_length_le (by have := HDL1.out; omega)
                      rw [HFULL.out] at HGI
                      obtain ⟨ar, cr, rfl, hsr⟩ := sl_of_owns rfl (by unfold maxLen; have := HDL1.out; omega) HDW1.out HGI.out.1
                      have hsr1 := hsr.1
                      rw [HDL1.out] at hsr1 ⊢
                      have HPC := hide (HPO1.out ar cr wr hsr1)
                      clear hsr hsr1
                      go_wp2_with fail
                      clear p0
                      refine HPC.out.mono ?_
                      rintro e w' ⟨rfl, nn, hw'⟩
                      have HGW := hide (twoR_below HTW.out (below_step HGI.out.2 (below_drewN (Below.refl wr.heap.size wr) nn)))
                      rw [hw']
                      clear hw' w' HPC
                      generalize wr.drewN nn = w5 at HGW ⊢
                      have HTLu : Hid ((U.take j).length = j) := by show _ = _; rw [List.length_take]; have := HUL.out; omega
                      have HTLo : Hid ((O.take j).length = j) := by show _ = _; rw [List.length_take]; have := HOL.out; omega
                      have HOWN := hide HGW.out.1
                      rw [HTLu.out] at HOWN
                      have HSZ := hide HGW.out.2.2.2.size
                      generalize packL b D = pk at HUK1 HOK1 HUB1
                      go_wp2_with (at_builtin; refine wpList_append_own_at _ rfl _ _ 26 rfl wB.heap.size 3 i0 (.int .i64 0) 1 8 Try.underlying26 hi0 hz0 hz1 hz2 rfl (by decide) _ j ((U.take j).map (Value.int .i64)) rfl (HOWN.out.alloc _) ⟨w5.heap.size, 0, none⟩ 1 1 [.int .i64 pk] rfl rfl (one_new _ _ _) (fun u hu => by simp at hu; subst hu; rfl) (by unfold maxLen; omega) (by omega) (by have := HSZ.out; simp; omega) ?_; intro v3 w6 hown hgrow _ hat)
                      have htx := twoR_left2 HGW.out (by rw [HTLu.out]; exact hown) hgrow hat
                      rw [← HUK1.out] at htx
                      have HTLu1 : Hid ((U.take (j + 1)).length = j + 1) := by show _ = _; rw [List.length_take]; have := HUL.out; omega
                      obtain ⟨au, cu, rfl, hsu⟩ := sl_of_owns rfl (by unfold maxLen; have := HTLu1.out; omega) (fun z hz => HUW.out z (List.mem_of_mem_take hz)) htx.1
                      have hsu1 := hsu.1
                      rw [HTLu1.out] at hsu1 htx ⊢
                      have HTX := hide htx
                      have HSU := hide hsu1
                      obtain ⟨bu, ou, rfl, hcu⟩ := sl_cell hsu1 j (by omega)
                      rw [HUK1.out, getD_push HTLu.out] at hcu
                      have hj1 : (j : Int) < ((j + 1 : Nat) : Int) := by omega
                      have hj2 : (j : Int) < (j : Int) + 1 := by omega
                      clear hown hgrow hat htx hsu hsu1 HGW HOWN HSZ HGI HBL HT
                      have HWC := hide (fun W => HWO.out pk W HUB1.out.1 (by have := HUB1.out.2; omega))
                      have hWL := HWL.out pk
                      generalize withL b tr 0 pk = WL at HWC hWL HOK1
                      have hxl : xn < WL.length := by omega
                      have hxli : (xn : Int) < (WL.length : Int) := by omega
                      obtain ⟨z, hz⟩ : ∃ z : Int, WL.getD xn 0 = z := ⟨_, rfl⟩
                      rw [hz] at HOK1
                      have HZ := hide hz
                      clear hz hWL
                      have HKEEP7 : Hid (∀ W, Below w6.heap.size w6 W → W.cell? ⟨w.heap.size, 0, none⟩ = some (.int .i64 b) ∧ W.cell? ⟨bu, ou + j, none⟩ = some (.int .i64 pk)) := by
                        intro W hW
                        refine ⟨(ttAt_step HB.out (below_step HTX.out.2.2.2 hW)).2.1.1.1, ?_⟩
                        obtain ⟨_, _, e, hc⟩ := sl_cell (sl_below HSU.out hW) j (by omega)
                        cases e
                        rw [hc, HUK1.out, getD_push HTLu.out]
                      have HKEEP8 : Hid (∀ W v9, TwoR wB (O.take j ++ [z]) (U.take (j + 1)) v9 (.slice (some ⟨bu, ou, none⟩) (j + 1) cu) W → W.cell? ⟨w.heap.size, 0, none⟩ = some (.int .i64 b) ∧ W.cell? ⟨bu, ou + j, none⟩ = some (.int .i64 pk)) := by
                        intro W v9 h
                        refine ⟨(ttAt_step HB.out h.2.2.2).2.1.1.1, ?_⟩
                        obtain ⟨a8, c8, e8, hs8⟩ := sl_of_owns rfl (by unfold maxLen; have := HTLu1.out; omega) (fun z hz => HUW.out z (List.mem_of_mem_take hz)) h.2.1
                        injection e8 with e1 e2 e3
                        subst e1
                        obtain ⟨_, _, e, hc⟩ := sl_cell hs8.1 j (by have := HTLu1.out; omega)
                        cases e
                        rw [hc, HUK1.out, getD_push HTLu.out]
                      have p0 := (HKEEP7.out w6 (Below.refl _ _)).1
                      go_wp2
                      go_region_law
                        (first
                          | (refine step_append_lies _ rfl (.tmp 179) (.tmp 191) 26 rfl wB.heap.size 3 i0 (.int .i64 0) 1 8 Try.underlying26 hi0 hz0 hz1 hz2 rfl (by decide) _ j _ rfl (World.ownsRow.alloc (w := w7) HOWN7.out _) ⟨w7.heap.size, 0, none⟩ 1 1 [.int .i64 z] (by simp [Act.eval]) rfl (one_new w7 _ _) (fun u hu => by simp at hu; subst hu; rfl) (by omega) (by unfold maxLen; omega) (by omega) (by have := HSZ7.out; simp; omega) (w7.heap.size + 1) (by simp) ?_; intro g5 cg5 w8 hown5 hgrow5 hat5 hlt5; have HT8 := hide (twoR_left (o := .cells #[.int .i64 z] 3) (twoR_swap HT7.out) (by rw [HTLo.out]; exact hown5) ⟨hgrow5.os, hgrow5.tape, hgrow5.output, hgrow5.size, hgrow5.block⟩ hat5))
                          | (go_simp; go_at_call 18; refine (HWC.out _).mono ?_; rintro e w7 ⟨ao, co, rfl, hso, hb7⟩; obtain ⟨bo, oo, rfl, hco⟩ := sl_cell hso.1 xn hxl; rw [HZ.out] at hco; have HB7 := hide (below_step (Below.refl w6.heap.size w6).drew hb7); have HT7 := hide (twoR_below HTX.out HB7.out); have HOWN7 := hide HT7.out.2.1; rw [HTLo.out] at HOWN7; have HSZ7 := hide HT7.out.2.2.2.size; clear hso hb7))
                      all_goals
                        go_wp2
                        go_roundw
                        case rel =>
                          refine ⟨j + 1, by omega, by go_num, ?_⟩
                          rw [HOK1.out]
                          have h9 := HT8.out
                          rw [HTLo.out] at h9
                          exact twoR_swap h9
                        case measure => simp [intOf]; omega
                · have hlmi : ¬ (j : Int) < (lw : Int) := by omega
                  obtain rfl : lw = j := by omega
                  have HFU : Hid (U.take lw = U) := List.take_of_length_le (by have := HUL.out; omega)
                  have HFO : Hid (O.take lw = O) := List.take_of_length_le (by have := HOL.out; omega)
                  rw [HFU.out, HFO.out] at HTW
                  obtain ⟨au, cu, rfl, hsu⟩ := sl_of_owns rfl (by unfold maxLen; have := HUL.out; omega) HUW.out HTW.out.1
                  obtain ⟨ao, co, rfl, hso⟩ := sl_of_owns rfl (by unfold maxLen; have := HOL.out; omega) HOW.out HTW.out.2.1
                  have hsu1 := hsu.1
                  have hso1 := hso.1
                  rw [HUL.out] at hsu1 ⊢
                  rw [HOL.out] at hso1 ⊢
                  have HSO := hide hso1
                  have HBZ := hide HTW.out.2.2.2
                  have HFZ := hide (autoAt_below HFB.out HBZ.out)
                  have HMZ := hide (autoAt_below HMB.out HBZ.out)
                  have HTU1 := hide (HTU.out au cu af cf af' cf' wr HFZ.out.2.1 HFZ.out.2.2 hsu1)
                  obtain ⟨p0, p1, p2, p3⟩ := HFZ.out.1
                  clear hsu hso hsu1 hso1 HTW
                  go_wp2_with fail
                  clear p0 p1 p2 p3
                  refine HTU1.out.mono ?_
                  rintro e wC ⟨rfl, hbC⟩
                  have HMC := hide (autoAt_below HMZ.out hbC)
                  have HTO1 := hide (HTO.out ao co wC HMC.out.2.1 HMC.out.2.2 (sl_below HSO.out hbC))
                  have HBC := hide (below_step (below_step HB.out.1 HBZ.out) hbC)
                  obtain ⟨p0, p1, p2, p3⟩ := HMC.out.1
                  clear hbC
                  go_wp2_with fail
                  clear p0 p1 p2 p3
                  refine HTO1.out.mono ?_
                  rintro e wD ⟨rfl, hbD⟩
                  have HBD := hide (below_step HBC.out hbD)
                  clear hbD
                  go_wp2
                  go_ret
                  exact ⟨by simp, HBD.out⟩
            · have hfc : fixC b ((tr : Int) + 1) MN MN.length 0 x ≠ 0 := by
                unfold fixC
                rw [if_pos hAM, if_neg (fun h => hx h.2)]
                decide
              have HF1 := hide (fun W g1 g2 => HFX.out b ((tr : Int) + 1) am MN.length cm am' MN.length cm' MN ME 0 x W g1 g2)
              unfold PairR at HF1
              rw [errV_no hfc] at HF1
              have HRD := hide (fun W => radix_yes b W h1 h2)
              clear hfc
              obtain ⟨p0, p1, p2, p3⟩ := HM9.out.1
              go_wp2_with fail
              clear p0 p1 p2 p3
              refine (HF1.out w9 HM9.out.2.1 HM9.out.2.2).mono ?_
              rintro e wA ⟨af, cf, af', cf', rfl, -, hbA⟩
              generalize okI (fixC b ((tr : Int) + 1) MN MN.length 0 x) b = f0
              generalize okI (fixC b ((tr : Int) + 1) MN MN.length 0 x) ((tr : Int) + 1 - 1) = f1
              generalize fixN b ((tr : Int) + 1) MN ME MN.length 0 x = FN
              have hbz := (Below.refl wA.heap.size wA).alloc (Nat.le_refl _) (.cells #[.int .i64 f0, .int .i64 f1, .slice af FN.length cf, .slice af' FN.length cf'] 25)
              have HB := hide (ttAt_step (ttAt_step H9.out hbA) hbz)
              obtain ⟨p0, -, -, -⟩ := HB.out.2.1.1
              clear hbz hbA HF1 H9 HM9
              by_cases hx0 : x < 0
              · go_wp2_with (go_at_call 17; refine (HRD.out _).mono ?_; rintro e w' ⟨rfl, hw'⟩; obtain rfl := hw'.symm)
                go_ret
                exact ⟨by simp, HB.out.1⟩
              · have hxk : kindsI b ≤ x := by omega
                go_wp2_with (go_at_call 17; refine (HRD.out _).mono ?_; rintro e w' ⟨rfl, hw'⟩; obtain rfl := hw'.symm)
                go_ret
                exact ⟨by simp, HB.out.1⟩
    · rw [errV_no hc, if_neg hc]
      go_wp2
      go_ret
      exact ⟨by simp, H7.out.1⟩
  · rw [errV_no hc]
    clear hc HW
    go_wp2
    go_ret
    exact ⟨by simp, H6.out.1⟩
end Go.Proofs.Ytkighkpmebcnhac
