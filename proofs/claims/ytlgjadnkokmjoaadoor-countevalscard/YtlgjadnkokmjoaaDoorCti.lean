/- count.Eval: contract. -/
import Derived.Test.YtlgjadnkokmjoaaDoorCth
namespace Go.Proofs.YtlgjadnkokmjoaaDoor
open Go.RowKit

theorem amtB_bd {x : Int} (h : amtB x = true) : 0 ≤ x ∧ x ≤ 1152921504606846976 := of_decide_eq_true h
theorem thrL_bd {n : Nat} {row : List Int} {S : List (List Int)} (hr : bdL n row) (hq : ∀ s, s < n → bdL n (S.getD s [])) : bdL n (thrL row S) := by
  refine ⟨(thrL_len _ _).trans hr.1, fun t ht => ?_⟩
  rw [thrL_get (by rw [hr.1]; exact ht)]
  exact capI_bd (csum_nn fun i hi => Int.mul_nonneg (hr.2 i (by rw [← hr.1]; exact hi)).1 ((hq i (by rw [← hr.1]; exact hi)).2 t ht).1)
theorem bdL_wf {n : Nat} {l : List Int} (h : bdL n l) : ∀ x ∈ l, (Lit.int .i64 x).wf = true := fun x hx => by
  obtain ⟨i, hi, rfl⟩ := List.getElem_of_mem hx
  have := h.2 i (by rw [← h.1]; exact hi)
  rw [getD_at _ i hi] at this
  exact WalkArith.wf_i64 (by omega)
theorem bdL_of {n : Nat} {l : List Int} (hl : l.length = n) (h : l.all amtB = true) : bdL n l :=
  ⟨hl, fun i hi => by have := amtB_bd (allD_at (d := 0) h (i := i) (by omega)); omega⟩
/-- What a sound one has. -/
structure RepOk (n m : Nat) (F : List Int) (S : List (List (List Int))) (L : List Int) : Prop where
  pos : 0 < n
  few : n ≤ 80
  fst : bdL n F
  last : bdL n L
  len : S.length = m
  step : ∀ x, x < m → (S.getD x []).length = n ∧ ∀ s, s < n → bdL n ((S.getD x []).getD s [])
theorem repC_ok {b t : Int} {F : List Int} {S : List (List (List Int))} {L : List Int} (h : repC b t F S L = 0) : RepOk F.length (manyU b t).toNat F S L := by
  unfold repC at h
  split at h
  · split at h
    · cases h
    · split at h
      · cases h
      · split at h
        · rename_i hM h0 h80 hsh
          split at h
          · rename_i hct
            simp only [shapeB, Bool.and_eq_true, decide_eq_true_eq] at hsh
            simp only [cntsB, Bool.and_eq_true] at hct
            obtain ⟨⟨s1, s2⟩, s3⟩ := hsh
            obtain ⟨⟨c1, c2⟩, c3⟩ := hct
            refine ⟨by omega, by omega, bdL_of rfl c1, bdL_of s1 c2, s2, fun x hx => ?_⟩
            have hs := allD_at (d := []) s3 (i := x) (by omega)
            have hc := allD_at (d := []) c3 (i := x) (by omega)
            simp only [shpB, Bool.and_eq_true, decide_eq_true_eq] at hs
            refine ⟨hs.1, fun s hs' => bdL_of ?_ (allD_at (d := []) hc (i := s) (by omega))⟩
            exact of_decide_eq_true (allD_at (d := []) hs.2 (i := s) (by omega))
          · cases h
        · cases h
  · rename_i hM
    exact absurd h hM
def EvlR (w : World) (v c : Int) (e : Ending) (w' : World) : Prop := e = .returned (.tuple #[.int .i64 v, errV c]) ∧ Below w.heap.size w w'
theorem evGo_step {S : List (List (List Int))} {row l : List Int} {k : Nat} (hk : k < l.length) : evGo S row (l.drop k) = if (thrL row (S.getD (l.getD k 0).toNat [])).all amtB = true then evGo S (thrL row (S.getD (l.getD k 0).toNat [])) (l.drop (k + 1)) else none := by
  have e : l.drop k = l.getD k 0 :: l.drop (k + 1) := by
    rw [List.drop_eq_getElem_cons hk]
    congr 1
    exact (getD_at _ k hk).symm
  rw [e]
  rfl
set_option maxHeartbeats 8000000 in
set_option maxRecDepth 8000 in
theorem eval_ok (b t : Int) (a1 : Option Addr) (n c1 : Nat) (a2 : Option Addr) (m c2 : Nat) (a3 : Option Addr) (c3 : Nat) (F : List Int) (S : List (List (List Int))) (L : List Int) (aw : Option Addr) (lw cw : Nat) (l : List Int) (w : World) (hF : Sl w a1 n F) (hS : Sl3 w a2 m S) (hL : Sl w a3 n L) (hl : Sl w aw lw l)
    (hR : repC b t F S L = 0) (hO : RepOk n m F S L) (hW : wordC m l = 0) :
    Calls Tryd.prog 18 #[.agg #[.int .i64 b, .int .i64 t, .slice a1 n c1, .slice a2 m c2, .slice a3 n c3], .slice aw lw cw] w (EvlR w ((evlX F S L l).getD 0) (if (evlX F S L l).isSome = true then 0 else 3)) := by
  have hB0 : Below w.heap.size w (w.alloc (.cells #[.int .i64 b, .int .i64 t, .slice a1 n c1, .slice a2 m c2, .slice a3 n c3] 38)) := (Below.refl _ _).alloc (Nat.le_refl _) _
  have HB0 := hide hB0
  have HAT := hide (fun w' => @box5R w w' (.int .i64 b) (.int .i64 t) (.slice a1 n c1) (.slice a2 m c2) (.slice a3 n c3) 38)
  have HCK := hide (countCheck_any b t a1 n c1 a2 m c2 a3 n c3 F S L _ (sl_below hF hB0) (sl3_below hS hB0) (sl_below hL hB0))
  rw [hR, errV_zero] at HCK
  have HCW := hide (fun W (h : Below w.heap.size w W) => checkWord_any m aw lw cw l W (sl_below hl h))
  rw [hW, errV_zero] at HCW
  have hlw := wordC_zero hW
  rw [hl.1] at hlw
  have HLW := hide hlw.2
  have hl400 := hlw.1
  have HF := hide hF
  have HS := hide hS
  have HL := hide hL
  have HW := hide hl
  have HO := hide hO
  have h80 := hO.few
  have hlen := hl.1
  have HST : Hid (∀ (k : Nat) (row : List Int), k < lw → evGo S row (l.drop k) = if (thrL row (S.getD (l.getD k 0).toNat [])).all amtB = true then evGo S (thrL row (S.getD (l.getD k 0).toNat [])) (l.drop (k + 1)) else none) := fun k row hk => evGo_step (by omega)
  have HNONE : Hid (evGo S F l = none → ∀ W, Below w.heap.size w W → EvlR w ((evlX F S L l).getD 0) (if (evlX F S L l).isSome = true then 0 else 3) (.returned (.tuple #[.int .i64 0, .iface 26 (.int .i64 3)])) W) := fun h W hW => by
    have e : evlX F S L l = none := by unfold evlX; rw [h]
    rw [e]
    exact ⟨rfl, hW⟩
  have HFULL : Hid (∀ row, evGo S F l = some row → amtB (evS row L) = false → 0 ≤ evS row L → ∀ W, Below w.heap.size w W → EvlR w ((evlX F S L l).getD 0) (if (evlX F S L l).isSome = true then 0 else 3) (.returned (.tuple #[.int .i64 0, .iface 26 (.int .i64 3)])) W) := fun row h h2 h3 W hW => by
    have h4 : ¬ evS row L ≤ 1152921504606846976 := fun h5 => by
      have := of_decide_eq_false h2
      exact this ⟨h3, h5⟩
    have e : evlX F S L l = none := by unfold evlX; rw [h]; exact if_neg h4
    rw [e]
    exact ⟨rfl, hW⟩
  have HDONE : Hid (∀ row, evGo S F l = some row → amtB (evS row L) = true → ∀ W, Below w.heap.size w W → EvlR w ((evlX F S L l).getD 0) (if (evlX F S L l).isSome = true then 0 else 3) (.returned (.tuple #[.int .i64 (evS row L), .nilIface])) W) := fun row h h2 W hW => by
    have e : evlX F S L l = some (evS row L) := by unfold evlX; rw [h]; exact if_pos (amtB_bd h2).2
    rw [e]
    exact ⟨rfl, hW⟩
  have HDR : Hid (l.drop lw = []) := by show _ = _; rw [← hlen]; simp
  have HD0 : Hid (l.drop 0 = l) := by show _ = _; rfl
  generalize EvlR w ((evlX F S L l).getD 0) (if (evlX F S L l).isSome = true then 0 else 3) = R at HNONE HFULL HDONE ⊢
  clear hF hS hL hl hR hO hW hlw hlen hB0
  generalize hwb : w.alloc (.cells #[.int .i64 b, .int .i64 t, .slice a1 n c1, .slice a2 m c2, .slice a3 n c3] 38) = wb at HB0 HAT HCK
  obtain ⟨p0, p1, p2, p3, p4⟩ := HAT.out wb (Below.refl _ _)
  go_enter Tryd.func18, Tryd.ntmps18
  go_wp2_with fail
  clear hwb p0 p1 p2 p3 p4
  refine HCK.out.mono ?_
  rintro e w1 ⟨rfl, hb1⟩
  have HB1 := hide hb1
  have HCW1 := hide (HCW.out w1 (below_step HB0.out hb1))
  obtain ⟨p0, p1, p2, p3, p4⟩ := HAT.out w1 hb1
  clear hb1 HCK HCW
  go_wp2_with (refine HCW1.out.mono ?_; rintro e w' ⟨rfl, hw⟩; rw [hw]; clear hw w')
  clear p0 p1 p2 p3 p4 HCW1
  go_loopw [8, 29] (fun u i wx => ∃ k : Nat, k ≤ lw ∧ i = .int .i64 k ∧ ∃ ra rc row, u = .slice ra n rc ∧ Sl wx ra n row ∧ bdL n row ∧ evGo S F l = evGo S row (l.drop k) ∧ Below wb.heap.size wb wx) (fun _ i _ => lw - (intOf i).toNat)
  case atStart => exact ⟨0, by omega, rfl, a1, c1, F, rfl, sl_below HF.out (below_step HB0.out HB1.out), HO.out.fst, by rw [HD0.out], HB1.out⟩
  case round =>
    obtain ⟨k, hk, rfl, ra, rc, row, rfl, hrow, hbd, hgo, hbw⟩ := hrel
    have HROW := hide hrow
    have HBD := hide hbd
    have HGO := hide hgo
    have HBW := hide hbw
    obtain ⟨p0, p1, p2, p3, p4⟩ := HAT.out wr hbw
    clear hrow hbd hgo hbw
    by_cases hlt : k < lw
    · have hlti : (k : Int) < (lw : Int) := by omega
      obtain ⟨bl, ol, rfl, hcl⟩ := sl_cell (sl_below HW.out (below_step HB0.out HBW.out)) k hlt
      have hx := HLW.out k hlt
      have HSTK := hide (HST.out k row hlt)
      obtain ⟨x, hxe⟩ : ∃ x : Nat, l.getD k 0 = (x : Int) := ⟨(l.getD k 0).toNat, by omega⟩
      rw [hxe] at hcl hx HSTK
      rw [Int.toNat_natCast] at HSTK
      have hxm : (x : Int) < (m : Int) := hx.2
      obtain ⟨b2, o2, a4, c4, rfl, hc4, hs4⟩ := sl3_cell (sl3_below HS.out (below_step HB0.out HBW.out)) x (by omega)
      obtain ⟨hx1, hx2⟩ := HO.out.step x (by omega)
      rw [hx1] at hc4 hs4
      have HTB := hide (thrL_bd HBD.out hx2)
      have HTC := hide (through_any ra n rc row a4 c4 (S.getD x []) wr HROW.out hs4 (by omega) HBD.out hx2)
      unfold NewRow at HTC
      rw [thrL_len, HBD.out.1] at HTC
      generalize S.getD x [] = sx at hc4 HSTK HTB HTC
      generalize thrL row sx = row' at HSTK HTB HTC
      clear hs4 hx1 hx2 hxe hx
      go_wp2_with fail
      clear p0 p1 p2 p3 p4 hc4 hcl
      refine HTC.out.mono ?_
      rintro e w2 ⟨g, rfl, hg, hr2, hb2⟩
      have hs2 := sl_of_rowIs HTB.out.1 (by unfold maxLen; omega) (bdL_wf HTB.out) hr2
      have HS2 := hide hs2
      have HB2 := hide (below_step HBW.out hb2)
      have HAC := hide (areCounts_any (some ⟨g, 0, none⟩) n n row' w2 hs2)
      unfold retQ at HAC
      clear hs2 hr2 hb2 hg HTC
      generalize row'.all amtB = q at HSTK HAC
      cases q with
      | true =>
        rw [if_pos rfl] at HSTK
        have HGN := hide (HGO.out.trans HSTK.out)
        go_wp2_with (refine HAC.out.mono ?_; rintro e w' ⟨rfl, hw⟩; rw [hw]; clear hw w')
        go_roundw
        case rel => exact ⟨k + 1, by omega, by go_num, _, _, row', rfl, HS2.out, HTB.out, HGN.out, HB2.out⟩
        case measure => simp [intOf]; omega
      | false =>
        rw [if_neg (by decide)] at HSTK
        have HFIN := hide (HNONE.out (HGO.out.trans HSTK.out) w2 (below_step HB0.out HB2.out))
        go_wp2_with (refine HAC.out.mono ?_; rintro e w' ⟨rfl, hw⟩; rw [hw]; clear hw w')
        exact HFIN.out
    · have hlti : ¬ (k : Int) < (lw : Int) := by omega
      obtain rfl : k = lw := by omega
      rw [HDR.out] at HGO
      have HGS : Hid (evGo S F l = some row) := HGO.out
      have hsl := sl_below HL.out (below_step HB0.out HBW.out)
      have HAD := hide (addedI_any 46 #[] (fun i => .int .i64 (L.getD i 0)) (fun i => L.getD i 0) ra n rc row a3 n c3 wr (enters_of Tryd.func46 (by kernel_rfl) rfl) HROW.out (fun i hi => by obtain ⟨b9, o9, e9, h9⟩ := sl_cell hsl i hi; exact ⟨b9, o9, e9, h9⟩) (Nat.le_refl _) (fun i _ => evl1_any (L.getD i 0) wr) HBD.out.2 HO.out.last.2)
      have hes : evS row L = capI (csum (fun i => row.getD i 0 * L.getD i 0) n) := by unfold evS; rw [HBD.out.1]
      rw [← hes] at HAD
      unfold retI at HAD
      have hpos : 0 ≤ evS row L ∧ evS row L ≤ 1152921504606846977 := by
        rw [hes]
        exact capI_bd (csum_nn fun i hi => Int.mul_nonneg (HBD.out.2 i hi).1 (HO.out.last.2 i hi).1)
      have HFUL := hide (fun h => HFULL.out row HGS.out h hpos.1)
      have HDON := hide (HDONE.out row HGS.out)
      generalize evS row L = v at HAD HFUL HDON hpos
      have hba := (Below.refl wr.heap.size wr).alloc (Nat.le_refl _) (.cells #[.int .i64 v] 3)
      have HBA := hide (below_step HB0.out (below_step HBW.out hba))
      have hs1 : Sl (wr.alloc (.cells #[.int .i64 v] 3)) (some ⟨wr.heap.size, 0, none⟩) 1 [v] := by
        refine ⟨rfl, by decide, fun y hy => by simp at hy; rw [hy]; exact WalkArith.wf_i64 (by omega), Or.inr ⟨_, _, rfl, fun i hi => ?_⟩⟩
        rw [cell_of_row _ _ (0 + i) _ 3 (0, 0) (heap_alloc_last wr _)]
        obtain rfl : i = 0 := by omega
        rfl
      have HAC := hide (areCounts_any (some ⟨wr.heap.size, 0, none⟩) 1 1 [v] _ hs1)
      unfold retQ at HAC
      rw [show [v].all amtB = amtB v by simp] at HAC
      clear hs1 hba hsl hes
      generalize amtB v = q at HAC HFUL HDON
      cases q with
      | true =>
        have HFIN := hide (HDON.out rfl _ HBA.out)
        go_wp2_with (first
          | (go_at_call 45; refine HAD.out.mono ?_; rintro e w' ⟨rfl, hw⟩; rw [hw]; clear hw w')
          | (go_at_call 27; refine HAC.out.mono ?_; rintro e w' ⟨rfl, hw⟩; rw [hw]; clear hw w'))
        exact HFIN.out
      | false =>
        have HFIN := hide (HFUL.out rfl _ HBA.out)
        go_wp2_with (first
          | (go_at_call 45; refine HAD.out.mono ?_; rintro e w' ⟨rfl, hw⟩; rw [hw]; clear hw w')
          | (go_at_call 27; refine HAC.out.mono ?_; rintro e w' ⟨rfl, hw⟩; rw [hw]; clear hw w'))
        exact HFIN.out
end Go.Proofs.YtlgjadnkokmjoaaDoor
