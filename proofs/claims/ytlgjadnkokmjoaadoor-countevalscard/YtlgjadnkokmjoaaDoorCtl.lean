/- The reference's EvalRep: contract. -/
import Derived.Test.YtlgjadnkokmjoaaDoorAe
import Derived.Test.YtlgjadnkokmjoaaDoorCtk
import Derived.Test.YtlgjadnkokmjoaaDoorNs
namespace Go.Proofs.YtlgjadnkokmjoaaDoor
open Go.RowKit

/-- A row of which t numbers are there, and the next one comes up. -/
def PartAt (w : World) (T : List Int) (n t : Nat) (v : Int) (wx : World) : Prop := wx.rowIs w.heap.size 3 n (fun i => .int .i64 (if i < t then T.getD i 0 else if i = t then v else 0)) ∧ Below w.heap.size w wx
theorem partAt_start {w : World} {T : List Int} {n t : Nat} {wx : World} (h : FillAt w T n t wx) : PartAt w T n t 0 wx :=
  ⟨h.1.congr fun i _ => by
    by_cases e : i < t
    · rw [if_pos e, if_pos e]
    · rw [if_neg e, if_neg e]
      by_cases e2 : i = t
      · rw [if_pos e2]
      · rw [if_neg e2], h.2⟩
theorem partAt_end {w : World} {T : List Int} {n t : Nat} {wx : World} (h : PartAt w T n t (T.getD t 0) wx) : FillAt w T n (t + 1) wx :=
  ⟨h.1.congr fun i _ => by
    by_cases e : i < t
    · rw [if_pos e, if_pos (by omega)]
    · rw [if_neg e]
      by_cases e2 : i = t
      · subst e2; rw [if_pos rfl, if_pos (by omega)]
      · rw [if_neg e2, if_neg (by omega)], h.2⟩
theorem partAt_below {w : World} {T : List Int} {n t : Nat} {v : Int} {wx W : World} (h : PartAt w T n t v wx) (hb : Below wx.heap.size wx W) : PartAt w T n t v W := by
  obtain ⟨⟨c, h1, h2, h3⟩, h4⟩ := h
  exact ⟨⟨c, (hb.block _ (Array.getElem?_eq_some_iff.1 h1).1).trans h1, h2, h3⟩, below_step h4 hb⟩
theorem partAt_put {w : World} {T : List Int} {n t : Nat} {v : Int} {wx : World} (h : PartAt w T n t v wx) (v' : Int) : PartAt w T n t v' (wx.setCell ⟨w.heap.size, t, none⟩ (.int .i64 v')) := by
  refine ⟨(h.1.set t _).congr fun i _ => ?_, h.2.setCell (Nat.le_refl _) _⟩
  by_cases e : i = t
  · subst e; rw [if_pos rfl, if_neg (by omega), if_pos rfl]
  · rw [if_neg e]
    by_cases e2 : i < t
    · rw [if_pos e2, if_pos e2]
    · rw [if_neg e2, if_neg e2, if_neg e, if_neg e]
def ErfR (w : World) (v c : Int) (e : Ending) (w' : World) : Prop := e = .returned (.tuple #[.int .i64 v, .int .i64 c]) ∧ Below w.heap.size w w'
def erS (i : Nat) : Nat := ([51, 52, 53, 54, 55, 56, 57, 58, 59, 60, 61, 62, 63, 64, 65, 66, 67, 68, 69, 70, 71, 72, 73, 74, 75, 76] : List Nat).getD i 0
theorem erS_inj : ∀ i : Fin 26, ∀ j : Fin 26, erS i.val = erS j.val → i = j := by decide +kernel
theorem erS_lt : ∀ i : Fin 26, erS i.val < 102 := by decide +kernel
set_option maxHeartbeats 32000000 in
set_option maxRecDepth 8000 in
theorem evalRep_ok (b t0 : Int) (a1 : Option Addr) (n c1 : Nat) (a2 : Option Addr) (m c2 : Nat) (a3 : Option Addr) (c3 : Nat) (F : List Int) (S : List (List (List Int))) (L : List Int) (aw : Option Addr) (lw cw : Nat) (l : List Int) (w : World) (hF : Sl w a1 n F) (hS : Sl3 w a2 m S) (hL : Sl w a3 n L) (hl : Sl w aw lw l)
    (hR : repC b t0 F S L = 0) (hO : RepOk n m F S L) (hW : wordC m l = 0) :
    Calls Tryd.prog 17 #[.agg #[.int .i64 b, .int .i64 t0, .slice a1 n c1, .slice a2 m c2, .slice a3 n c3], .slice aw lw cw] w (ErfR w ((evlX F S L l).getD 0) (if (evlX F S L l).isSome = true then 0 else 3)) := by
  have hB0 : Below w.heap.size w (w.alloc (.cells #[.int .i64 b, .int .i64 t0, .slice a1 n c1, .slice a2 m c2, .slice a3 n c3] 38)) := (Below.refl _ _).alloc (Nat.le_refl _) _
  have HB0 := hide hB0
  have HAT := hide (fun w' => @box5R w w' (.int .i64 b) (.int .i64 t0) (.slice a1 n c1) (.slice a2 m c2) (.slice a3 n c3) 38)
  have HCK := hide (repFault_any b t0 a1 n c1 a2 m c2 a3 n c3 F S L _ (sl_below hF hB0) (sl3_below hS hB0) (sl_below hL hB0))
  rw [hR] at HCK
  have HCW := hide (fun W (h : Below w.heap.size w W) => longFault_u m aw lw cw l W (sl_below hl h))
  rw [hW] at HCW
  have hlw := wordC_zero hW
  rw [hl.1] at hlw
  have HLW := hide hlw.2
  have hl400 := hlw.1
  have HF := hide hF
  have HS := hide hS
  have HL := hide hL
  have HW := hide hl
  have HO := hide hO
  have h80 := hO.few
  have hn0 := hO.pos
  have hlen := hl.1
  have hmk := make_ints n (by omega)
  have HST : Hid (∀ (k : Nat) (row : List Int), k < lw → evGo S row (l.drop k) = if (thrL row (S.getD (l.getD k 0).toNat [])).all amtB = true then evGo S (thrL row (S.getD (l.getD k 0).toNat [])) (l.drop (k + 1)) else none) := fun k row hk => evGo_step (by omega)
  have HNONE : Hid (evGo S F l = none → ∀ W, Below w.heap.size w W → ErfR w ((evlX F S L l).getD 0) (if (evlX F S L l).isSome = true then 0 else 3) (.returned (.tuple #[.int .i64 0, .int .i64 3])) W) := fun h W hW => by
    have e : evlX F S L l = none := by unfold evlX; rw [h]
    rw [e]
    exact ⟨rfl, hW⟩
  have HFULL : Hid (∀ row, evGo S F l = some row → ¬ evS row L ≤ 1152921504606846976 → ∀ W, Below w.heap.size w W → ErfR w ((evlX F S L l).getD 0) (if (evlX F S L l).isSome = true then 0 else 3) (.returned (.tuple #[.int .i64 0, .int .i64 3])) W) := fun row h h4 W hW => by
    have e : evlX F S L l = none := by unfold evlX; rw [h]; exact if_neg h4
    rw [e]
    exact ⟨rfl, hW⟩
  have HDONE : Hid (∀ row, evGo S F l = some row → evS row L ≤ 1152921504606846976 → ∀ W, Below w.heap.size w W → ErfR w ((evlX F S L l).getD 0) (if (evlX F S L l).isSome = true then 0 else 3) (.returned (.tuple #[.int .i64 (evS row L), .int .i64 0])) W) := fun row h h2 W hW => by
    have e : evlX F S L l = some (evS row L) := by unfold evlX; rw [h]; exact if_pos h2
    rw [e]
    exact ⟨rfl, hW⟩
  have HDR : Hid (l.drop lw = []) := by show _ = _; rw [← hlen]; simp
  have HD0 : Hid (l.drop 0 = l) := by show _ = _; rfl
  generalize ErfR w ((evlX F S L l).getD 0) (if (evlX F S L l).isSome = true then 0 else 3) = R at HNONE HFULL HDONE ⊢
  clear hF hS hL hl hR hO hW hlw hlen hB0
  generalize hwb : w.alloc (.cells #[.int .i64 b, .int .i64 t0, .slice a1 n c1, .slice a2 m c2, .slice a3 n c3] 38) = wb at HB0 HAT HCK
  obtain ⟨p0, p1, p2, p3, p4⟩ := HAT.out wb (Below.refl _ _)
  go_enter Tryd.func17, Tryd.ntmps17
  go_wp2_with fail
  clear hwb p0 p1 p2 p3 p4
  refine HCK.out.mono ?_
  rintro e w1 ⟨rfl, hb1⟩
  have HB1 := hide hb1
  have HCW1 := hide (HCW.out w1 (below_step HB0.out hb1))
  obtain ⟨p0, p1, p2, p3, p4⟩ := HAT.out w1 hb1
  clear hb1 HCK HCW
  go_wp2_with (refine HCW1.out.mono ?_; rintro e w' ⟨rfl, hw⟩; rw [hw]; clear hw w')
  clear p0 p1 p2 p3 p4 HCW1
  go_loopw [8, 9] (fun u i wx => ∃ k : Nat, k ≤ lw ∧ i = .int .i64 k ∧ ∃ ra rc row, u = .slice ra n rc ∧ Sl wx ra n row ∧ bdL n row ∧ evGo S F l = evGo S row (l.drop k) ∧ Below wb.heap.size wb wx) (fun _ i _ => lw - (intOf i).toNat)
  case atStart => exact ⟨0, by omega, rfl, a1, c1, F, rfl, sl_below HF.out (below_step HB0.out HB1.out), HO.out.fst, by rw [HD0.out], HB1.out⟩
  case round =>
    obtain ⟨k, hk, rfl, ra, rc, row, rfl, hrow, hbd, hgo, hbw⟩ := hrel
    have HROW := hide hrow
    have HBD := hide hbd
    have HGO := hide hgo
    have HBW := hide hbw
    clear hgo hbd
    by_cases hlt : k < lw
    · have hlti : (k : Int) < (lw : Int) := by omega
      obtain ⟨bl, ol, rfl, hcl⟩ := sl_cell (sl_below HW.out (below_step HB0.out HBW.out)) k hlt
      obtain ⟨br, orr, rfl, -⟩ := sl_cell hrow 0 hn0
      have hx := HLW.out k hlt
      have HSTK := hide (HST.out k row hlt)
      obtain ⟨x, hxe⟩ : ∃ x : Nat, l.getD k 0 = (x : Int) := ⟨(l.getD k 0).toNat, by omega⟩
      rw [hxe] at hcl hx HSTK
      rw [Int.toNat_natCast] at HSTK
      have hxm : (x : Int) < (m : Int) := hx.2
      obtain ⟨b2, o2, a4, c4, rfl, hc4, hs4⟩ := sl3_cell (sl3_below HS.out (below_step HB0.out HBW.out)) x (by omega)
      obtain ⟨hx1, hx2⟩ := HO.out.step x (by omega)
      rw [hx1] at hc4 hs4
      obtain ⟨b4, o4, -, -, rfl, -, -⟩ := sl2_cell hs4 0 hn0
      have HTB := hide (thrL_bd HBD.out hx2)
      have HBX := hide (HAT.out wr hbw).2.2.2.1
      have HCL := hide hcl
      have HC4 := hide hc4
      have HS4 := hide hs4
      have HX2 := hide hx2
      generalize S.getD x [] = sx at HSTK HTB HS4 HX2
      have HTG : Hid (∀ t, t < n → (thrL row sx).getD t 0 = ccap (fun i => row.getD i 0 * (sx.getD i []).getD t 0) n) := fun t ht => by
        rw [thrL_get (by rw [HBD.out.1]; exact ht), HBD.out.1, ccap_eq fun i hi => Int.mul_nonneg (HBD.out.2 i hi).1 ((HX2.out i hi).2 t ht).1]
      generalize thrL row sx = row' at HSTK HTB HTG
      clear hs4 hx1 hx2 hxe hx hcl hc4 hrow hbw
      have H0 := hide (fillAt_start wr row' n)
      go_upto_region 13 with fail
      generalize wr.alloc (.cells (madeCells #[.int .i64 0] n) 3) = W1 at H0 ⊢
      obtain ⟨wq, hwq⟩ : ∃ wq : World, wq = wr := ⟨_, rfl⟩
      rw [← hwq] at HROW HBW HBX HCL HC4 HS4 H0 ⊢
      clear hwq wr
      go_wp2
      go_loopw [11] (fun tv wx => ∃ t : Nat, t ≤ n ∧ tv = .int .i64 t ∧ FillAt wq row' n t wx ∧ ∀ i, i < t → amtB (row'.getD i 0) = true) (fun tv _ => n - (intOf tv).toNat)
      case atStart => exact ⟨0, by omega, rfl, H0.out, fun i hi => by omega⟩
      case round =>
        obtain ⟨t, ht, rfl, hfl, hd⟩ := hrel
        have HFL := hide hfl
        have HD := hide hd
        clear hfl hd
        by_cases htn : t < n
        · have htni : (t : Int) < (n : Int) := by omega
          have HGN := hide (HTG.out t htn)
          have HGB : Hid (∀ i, i ≤ n → 0 ≤ ccap (fun i => row.getD i 0 * (sx.getD i []).getD t 0) i ∧ ccap (fun i => row.getD i 0 * (sx.getD i []).getD t 0) i ≤ 1152921504606846977) := fun i hi => by
            rw [ccap_eq fun j hj => Int.mul_nonneg (HBD.out.2 j (by omega)).1 ((HX2.out j (by omega)).2 t htn).1]
            exact capI_bd (csum_nn fun j hj => Int.mul_nonneg (HBD.out.2 j (by omega)).1 ((HX2.out j (by omega)).2 t htn).1)
          have HGS : Hid (∀ i, ccap (fun i => row.getD i 0 * (sx.getD i []).getD t 0) (i + 1) = capI (ccap (fun i => row.getD i 0 * (sx.getD i []).getD t 0) i + row.getD i 0 * (sx.getD i []).getD t 0)) := fun i => rfl
          have HGZ : Hid (ccap (fun i => row.getD i 0 * (sx.getD i []).getD t 0) 0 = 0) := rfl
          generalize ccap (fun i => row.getD i 0 * (sx.getD i []).getD t 0) = G at HGN HGB HGS HGZ
          have HP0 := hide (partAt_start HFL.out)
          go_wp2
          go_loopw [12] (fun sv wx => ∃ s : Nat, s ≤ n ∧ sv = .int .i64 s ∧ PartAt wq row' n t (G s) wx) (fun sv _ => n - (intOf sv).toNat)
          case atStart => exact ⟨0, by omega, rfl, by rw [HGZ.out]; exact HP0.out⟩
          case round =>
            obtain ⟨s, hs, rfl, hpt⟩ := hrel
            have HPT := hide hpt
            clear hpt
            by_cases hsn : s < n
            · have hsni : (s : Int) < (n : Int) := by omega
              obtain ⟨_, _, e6, hc6⟩ := sl_cell (sl_below HROW.out HPT.out.2) s hsn
              cases e6
              obtain ⟨_, _, a5, c5, e7, hc7, hs7⟩ := sl2_cell (sl2_below HS4.out HPT.out.2) s hsn
              cases e7
              rw [(HX2.out s hsn).1] at hc7 hs7
              obtain ⟨b5, o5, rfl, hc8⟩ := sl_cell hs7 t htn
              have HMO := hide (fun W => more_any (G s) (row.getD s 0) ((sx.getD s []).getD t 0) W (HGB.out s hs) (HBD.out.2 s hsn) ((HX2.out s hsn).2 t htn))
              have HGV := hide (HGS.out s)
              have HVB := hide (HGB.out (s + 1) hsn)
              rw [← HGS.out s] at HMO
              unfold retI at HMO
              have hcN := rowIs_eq HPT.out.1 htn (congrArg (Value.int .i64) ((if_neg (Nat.lt_irrefl t)).trans (if_pos rfl)))
              have hfN := HPT.out.1.frozen t
              have hbx := HBX.out
              have hcl := HCL.out
              have hc4 := HC4.out
              have hbx' := (HPT.out.2.cell (p := ⟨w.heap.size, 3, none⟩) (World.block_lt_of_cell? wq _ hbx)).trans hbx
              have hcl' := (HPT.out.2.cell (p := ⟨bl, ol + k, none⟩) (World.block_lt_of_cell? wq _ hcl)).trans hcl
              have hc4' := (HPT.out.2.cell (p := ⟨b2, o2 + x, none⟩) (World.block_lt_of_cell? wq _ hc4)).trans hc4
              have HFX : Hid (∀ W, Below wr.heap.size wr W → W.cell? ⟨wq.heap.size, t, none⟩ = some (.int .i64 (G s)) ∧ W.frozen? ⟨wq.heap.size, t, none⟩ = false ∧ W.cell? ⟨br, orr + s, none⟩ = some (.int .i64 (row.getD s 0)) ∧ W.cell? ⟨w.heap.size, 3, none⟩ = some (.slice (some ⟨b2, o2, none⟩) m c2) ∧ W.cell? ⟨bl, ol + k, none⟩ = some (.int .i64 (x : Int)) ∧ W.cell? ⟨b2, o2 + x, none⟩ = some (.slice (some ⟨b4, o4, none⟩) n c4) ∧ W.cell? ⟨b4, o4 + s, none⟩ = some (.slice (some ⟨b5, o5, none⟩) n c5) ∧ W.cell? ⟨b5, o5 + t, none⟩ = some (.int .i64 ((sx.getD s []).getD t 0))) := fun W hW => by
                have kk : ∀ (p : Addr) (u : Value), wr.cell? p = some u → W.cell? p = some u := fun p u h => (hW.cell (World.block_lt_of_cell? wr _ h)).trans h
                exact ⟨kk _ _ hcN, (partAt_below HPT.out hW).1.frozen t, kk _ _ hc6, kk _ _ hbx', kk _ _ hcl', kk _ _ hc4', kk _ _ hc7, kk _ _ hc8⟩
              generalize row.getD s 0 = x1 at HMO HFX
              generalize (sx.getD s []).getD t 0 = y1 at HMO HFX
              generalize hv : G s = v at HMO HPT HFX
              generalize hv1 : G (s + 1) = v1 at HMO HVB
              have HGV2 : Hid (G (s + 1) = v1) := hv1
              clear HGV
              have HGV := HGV2
              clear HGV2 hv hv1 hcN hfN hbx hcl hc4 hbx' hcl' hc4' hs7 hc6 hc7 hc8
              go_upto_region 19 with fail
              refine region_last (by kernel_rfl) (rvOn_spec (by decide +kernel)) 26 rfl erS (fun i => ([.slice (some ⟨wq.heap.size, 0, none⟩) n n, .int .i64 (t : Int), .slice (some ⟨wq.heap.size, 0, none⟩) n n, .int .i64 (t : Int), .pointer (some ⟨wq.heap.size, t, none⟩), .int .i64 (v), .slice (some ⟨br, orr, none⟩) n rc, .int .i64 (s : Int), .pointer (some ⟨br, orr + s, none⟩), .int .i64 (x1), .pointer (some ⟨w.heap.size, 3, none⟩), .slice (some ⟨b2, o2, none⟩) m c2, .slice (some ⟨bl, ol, none⟩) lw cw, .int .i64 (k : Int), .pointer (some ⟨bl, ol + k, none⟩), .int .i64 (x : Int), .pointer (some ⟨b2, o2 + x, none⟩), .slice (some ⟨b4, o4, none⟩) n c4, .int .i64 (s : Int), .pointer (some ⟨b4, o4 + s, none⟩), .slice (some ⟨b5, o5, none⟩) n c5, .int .i64 (t : Int), .pointer (some ⟨b5, o5 + t, none⟩), .int .i64 (y1), .int .i64 (v1), .pointer (some ⟨wq.heap.size, t, none⟩)] : List Value).getD i undef) (fun i j hi hj e => by have := erS_inj ⟨i, hi⟩ ⟨j, hj⟩ e; injection this) (fun i hi => erS_lt ⟨i, hi⟩) (by decide +kernel) ?_ ?_
              · intro T W i o hi ho hsz hdep hst hb
                have e1 : T[1]? = some (.slice (some ⟨bl, ol, none⟩) lw cw) := hst 1 (by decide +kernel)
                have e2 : T[2]? = some (.pointer (some ⟨w.heap.size, 0, none⟩)) := hst 2 (by decide +kernel)
                have e8 : T[8]? = some (.slice (some ⟨br, orr, none⟩) n rc) := hst 8 (by decide +kernel)
                have e9 : T[9]? = some (.int .i64 (k : Int)) := hst 9 (by decide +kernel)
                have e10 : T[10]? = some (.slice (some ⟨wq.heap.size, 0, none⟩) n n) := hst 10 (by decide +kernel)
                have e11 : T[11]? = some (.int .i64 (t : Int)) := hst 11 (by decide +kernel)
                have e12 : T[12]? = some (.int .i64 (s : Int)) := hst 12 (by decide +kernel)
                obtain ⟨kN, kF, kR, kB, kW, kS, kQ, kY⟩ := HFX.out W hb
                have HBW := hide hb
                clear hsz hst hb
                rcases (by omega : i = 0 ∨ i = 1 ∨ i = 2 ∨ i = 3 ∨ i = 4 ∨ i = 5 ∨ i = 6 ∨ i = 7 ∨ i = 8 ∨ i = 9 ∨ i = 10 ∨ i = 11 ∨ i = 12 ∨ i = 13 ∨ i = 14 ∨ i = 15 ∨ i = 16 ∨ i = 17 ∨ i = 18 ∨ i = 19 ∨ i = 20 ∨ i = 21 ∨ i = 22 ∨ i = 23 ∨ i = 24 ∨ i = 25) with rfl | rfl | rfl | rfl | rfl | rfl | rfl | rfl | rfl | rfl | rfl | rfl | rfl | rfl | rfl | rfl | rfl | rfl | rfl | rfl | rfl | rfl | rfl | rfl | rfl | rfl
                · injection ho with ho
                  subst ho
                  clear hdep
                  refine wpOp_step (o := _) rfl fun K2 hK => ?_
                  rw [if_pos (by rfl)]
                  have HK := hide hK
                  clear hK
                  go_simp
                  exact HK.out _ _ ⟨rfl, HBW.out⟩
                · injection ho with ho
                  subst ho
                  clear hdep
                  refine wpOp_step (o := _) rfl fun K2 hK => ?_
                  rw [if_pos (by rfl)]
                  have HK := hide hK
                  clear hK
                  go_simp
                  exact HK.out _ _ ⟨rfl, HBW.out⟩
                · injection ho with ho
                  subst ho
                  clear hdep
                  refine wpOp_step (o := _) rfl fun K2 hK => ?_
                  rw [if_pos (by rfl)]
                  have HK := hide hK
                  clear hK
                  go_simp
                  exact HK.out _ _ ⟨rfl, HBW.out⟩
                · injection ho with ho
                  subst ho
                  clear hdep
                  refine wpOp_step (o := _) rfl fun K2 hK => ?_
                  rw [if_pos (by rfl)]
                  have HK := hide hK
                  clear hK
                  go_simp
                  exact HK.out _ _ ⟨rfl, HBW.out⟩
                · injection ho with ho
                  subst ho
                  have d2 : T[53]? = some (.slice (some ⟨wq.heap.size, 0, none⟩) n n) := hdep { on := 2, ground := .data } (by simp) rfl
                  have d3 : T[54]? = some (.int .i64 (t : Int)) := hdep { on := 3, ground := .data } (by simp) rfl
                  clear hdep
                  refine wpOp_step (o := _) rfl fun K2 hK => ?_
                  rw [if_pos (by rfl)]
                  have HK := hide hK
                  clear hK
                  go_simp
                  exact HK.out _ _ ⟨rfl, HBW.out⟩
                · injection ho with ho
                  subst ho
                  have d4 : T[55]? = some (.pointer (some ⟨wq.heap.size, t, none⟩)) := hdep { on := 4, ground := .data } (by simp) rfl
                  clear hdep
                  refine wpOp_step (o := _) rfl fun K2 hK => ?_
                  rw [if_pos (by rfl)]
                  have HK := hide hK
                  clear hK
                  go_simp
                  exact HK.out _ _ ⟨rfl, HBW.out⟩
                · injection ho with ho
                  subst ho
                  clear hdep
                  refine wpOp_step (o := _) rfl fun K2 hK => ?_
                  rw [if_pos (by rfl)]
                  have HK := hide hK
                  clear hK
                  go_simp
                  exact HK.out _ _ ⟨rfl, HBW.out⟩
                · injection ho with ho
                  subst ho
                  clear hdep
                  refine wpOp_step (o := _) rfl fun K2 hK => ?_
                  rw [if_pos (by rfl)]
                  have HK := hide hK
                  clear hK
                  go_simp
                  exact HK.out _ _ ⟨rfl, HBW.out⟩
                · injection ho with ho
                  subst ho
                  have d6 : T[57]? = some (.slice (some ⟨br, orr, none⟩) n rc) := hdep { on := 6, ground := .data } (by simp) rfl
                  have d7 : T[58]? = some (.int .i64 (s : Int)) := hdep { on := 7, ground := .data } (by simp) rfl
                  clear hdep
                  refine wpOp_step (o := _) rfl fun K2 hK => ?_
                  rw [if_pos (by rfl)]
                  have HK := hide hK
                  clear hK
                  go_simp
                  exact HK.out _ _ ⟨rfl, HBW.out⟩
                · injection ho with ho
                  subst ho
                  have d8 : T[59]? = some (.pointer (some ⟨br, orr + s, none⟩)) := hdep { on := 8, ground := .data } (by simp) rfl
                  clear hdep
                  refine wpOp_step (o := _) rfl fun K2 hK => ?_
                  rw [if_pos (by rfl)]
                  have HK := hide hK
                  clear hK
                  go_simp
                  exact HK.out _ _ ⟨rfl, HBW.out⟩
                · injection ho with ho
                  subst ho
                  clear hdep
                  refine wpOp_step (o := _) rfl fun K2 hK => ?_
                  rw [if_pos (by rfl)]
                  have HK := hide hK
                  clear hK
                  go_simp
                  exact HK.out _ _ ⟨rfl, HBW.out⟩
                · injection ho with ho
                  subst ho
                  have d10 : T[61]? = some (.pointer (some ⟨w.heap.size, 3, none⟩)) := hdep { on := 10, ground := .data } (by simp) rfl
                  clear hdep
                  refine wpOp_step (o := _) rfl fun K2 hK => ?_
                  rw [if_pos (by rfl)]
                  have HK := hide hK
                  clear hK
                  go_simp
                  exact HK.out _ _ ⟨rfl, HBW.out⟩
                · injection ho with ho
                  subst ho
                  clear hdep
                  refine wpOp_step (o := _) rfl fun K2 hK => ?_
                  rw [if_pos (by rfl)]
                  have HK := hide hK
                  clear hK
                  go_simp
                  exact HK.out _ _ ⟨rfl, HBW.out⟩
                · injection ho with ho
                  subst ho
                  clear hdep
                  refine wpOp_step (o := _) rfl fun K2 hK => ?_
                  rw [if_pos (by rfl)]
                  have HK := hide hK
                  clear hK
                  go_simp
                  exact HK.out _ _ ⟨rfl, HBW.out⟩
                · injection ho with ho
                  subst ho
                  have d12 : T[63]? = some (.slice (some ⟨bl, ol, none⟩) lw cw) := hdep { on := 12, ground := .data } (by simp) rfl
                  have d13 : T[64]? = some (.int .i64 (k : Int)) := hdep { on := 13, ground := .data } (by simp) rfl
                  clear hdep
                  refine wpOp_step (o := _) rfl fun K2 hK => ?_
                  rw [if_pos (by rfl)]
                  have HK := hide hK
                  clear hK
                  go_simp
                  exact HK.out _ _ ⟨rfl, HBW.out⟩
                · injection ho with ho
                  subst ho
                  have d14 : T[65]? = some (.pointer (some ⟨bl, ol + k, none⟩)) := hdep { on := 14, ground := .data } (by simp) rfl
                  clear hdep
                  refine wpOp_step (o := _) rfl fun K2 hK => ?_
                  rw [if_pos (by rfl)]
                  have HK := hide hK
                  clear hK
                  go_simp
                  exact HK.out _ _ ⟨rfl, HBW.out⟩
                · injection ho with ho
                  subst ho
                  have d11 : T[62]? = some (.slice (some ⟨b2, o2, none⟩) m c2) := hdep { on := 11, ground := .data } (by simp) rfl
                  have d15 : T[66]? = some (.int .i64 (x : Int)) := hdep { on := 15, ground := .data } (by simp) rfl
                  clear hdep
                  refine wpOp_step (o := _) rfl fun K2 hK => ?_
                  rw [if_pos (by rfl)]
                  have HK := hide hK
                  clear hK
                  go_simp
                  exact HK.out _ _ ⟨rfl, HBW.out⟩
                · injection ho with ho
                  subst ho
                  have d16 : T[67]? = some (.pointer (some ⟨b2, o2 + x, none⟩)) := hdep { on := 16, ground := .data } (by simp) rfl
                  clear hdep
                  refine wpOp_step (o := _) rfl fun K2 hK => ?_
                  rw [if_pos (by rfl)]
                  have HK := hide hK
                  clear hK
                  go_simp
                  exact HK.out _ _ ⟨rfl, HBW.out⟩
                · injection ho with ho
                  subst ho
                  clear hdep
                  refine wpOp_step (o := _) rfl fun K2 hK => ?_
                  rw [if_pos (by rfl)]
                  have HK := hide hK
                  clear hK
                  go_simp
                  exact HK.out _ _ ⟨rfl, HBW.out⟩
                · injection ho with ho
                  subst ho
                  have d17 : T[68]? = some (.slice (some ⟨b4, o4, none⟩) n c4) := hdep { on := 17, ground := .data } (by simp) rfl
                  have d18 : T[69]? = some (.int .i64 (s : Int)) := hdep { on := 18, ground := .data } (by simp) rfl
                  clear hdep
                  refine wpOp_step (o := _) rfl fun K2 hK => ?_
                  rw [if_pos (by rfl)]
                  have HK := hide hK
                  clear hK
                  go_simp
                  exact HK.out _ _ ⟨rfl, HBW.out⟩
                · injection ho with ho
                  subst ho
                  have d19 : T[70]? = some (.pointer (some ⟨b4, o4 + s, none⟩)) := hdep { on := 19, ground := .data } (by simp) rfl
                  clear hdep
                  refine wpOp_step (o := _) rfl fun K2 hK => ?_
                  rw [if_pos (by rfl)]
                  have HK := hide hK
                  clear hK
                  go_simp
                  exact HK.out _ _ ⟨rfl, HBW.out⟩
                · injection ho with ho
                  subst ho
                  clear hdep
                  refine wpOp_step (o := _) rfl fun K2 hK => ?_
                  rw [if_pos (by rfl)]
                  have HK := hide hK
                  clear hK
                  go_simp
                  exact HK.out _ _ ⟨rfl, HBW.out⟩
                · injection ho with ho
                  subst ho
                  have d20 : T[71]? = some (.slice (some ⟨b5, o5, none⟩) n c5) := hdep { on := 20, ground := .data } (by simp) rfl
                  have d21 : T[72]? = some (.int .i64 (t : Int)) := hdep { on := 21, ground := .data } (by simp) rfl
                  clear hdep
                  refine wpOp_step (o := _) rfl fun K2 hK => ?_
                  rw [if_pos (by rfl)]
                  have HK := hide hK
                  clear hK
                  go_simp
                  exact HK.out _ _ ⟨rfl, HBW.out⟩
                · injection ho with ho
                  subst ho
                  have d22 : T[73]? = some (.pointer (some ⟨b5, o5 + t, none⟩)) := hdep { on := 22, ground := .data } (by simp) rfl
                  clear hdep
                  refine wpOp_step (o := _) rfl fun K2 hK => ?_
                  rw [if_pos (by rfl)]
                  have HK := hide hK
                  clear hK
                  go_simp
                  exact HK.out _ _ ⟨rfl, HBW.out⟩
                · injection ho with ho
                  subst ho
                  have d5 : T[56]? = some (.int .i64 (v)) := hdep { on := 5, ground := .data } (by simp) rfl
                  have d9 : T[60]? = some (.int .i64 (x1)) := hdep { on := 9, ground := .data } (by simp) rfl
                  have d23 : T[74]? = some (.int .i64 (y1)) := hdep { on := 23, ground := .data } (by simp) rfl
                  clear hdep
                  refine wpOp_step (o := _) rfl fun K2 hK => ?_
                  rw [if_pos (by rfl)]
                  have HK := hide hK
                  clear hK
                  go_simp
                  refine (HMO.out W).mono ?_
                  rintro e w9 ⟨rfl, hw9⟩
                  rw [hw9]
                  exact HK.out _ _ ⟨rfl, HBW.out⟩
                · injection ho with ho
                  subst ho
                  have d0 : T[51]? = some (.slice (some ⟨wq.heap.size, 0, none⟩) n n) := hdep { on := 0, ground := .data } (by simp) rfl
                  have d1 : T[52]? = some (.int .i64 (t : Int)) := hdep { on := 1, ground := .data } (by simp) rfl
                  clear hdep
                  refine wpOp_step (o := _) rfl fun K2 hK => ?_
                  rw [if_pos (by rfl)]
                  have HK := hide hK
                  clear hK
                  go_simp
                  exact HK.out _ _ ⟨rfl, HBW.out⟩
              · intro T W o ho hsz hval hst hb
                have e1 : T[1]? = some (.slice (some ⟨bl, ol, none⟩) lw cw) := hst 1 (by decide +kernel)
                have e2 : T[2]? = some (.pointer (some ⟨w.heap.size, 0, none⟩)) := hst 2 (by decide +kernel)
                have e8 : T[8]? = some (.slice (some ⟨br, orr, none⟩) n rc) := hst 8 (by decide +kernel)
                have e9 : T[9]? = some (.int .i64 (k : Int)) := hst 9 (by decide +kernel)
                have e10 : T[10]? = some (.slice (some ⟨wq.heap.size, 0, none⟩) n n) := hst 10 (by decide +kernel)
                have e11 : T[11]? = some (.int .i64 (t : Int)) := hst 11 (by decide +kernel)
                have e12 : T[12]? = some (.int .i64 (s : Int)) := hst 12 (by decide +kernel)
                obtain ⟨kN, kF, kR, kB, kW, kS, kQ, kY⟩ := HFX.out W hb
                injection ho with ho
                subst ho
                have d24 : T[75]? = some (.int .i64 (v1)) := hval 24 (by decide +kernel)
                have d25 : T[76]? = some (.pointer (some ⟨wq.heap.size, t, none⟩)) := hval 25 (by decide +kernel)
                have HBW := hide hb
                have HST := hide hst
                have HVA := hide hval
                have HSZ := hide hsz
                clear hval hst hb hsz
                refine wpOp_step (o := _) rfl fun K2 hK => ?_
                rw [if_pos (by rfl)]
                have HK := hide hK
                clear hK
                go_simp
                refine HK.out _ _ ?_
                have hT := rv_list (fun i hi => erS_lt ⟨i, hi⟩) HSZ.out HVA.out HST.out [25, 24, 23, 22, 21, 20, 19, 18, 17, 16, 15, 14, 13, 12, 11, 10, 9, 8, 7, 6, 5, 4, 3, 2, 1, 0] rfl
                simp only [rvSet, erS, List.getD_cons_zero, List.getD_cons_succ, List.setIfInBounds_toArray, List.set_cons_zero, List.set_cons_succ] at hT
                rw [hT]
                clear hT HK HVA HST HSZ e1 e2 e8 e9 e10 e11 e12 d24 d25
                have HNX := hide (partAt_put (partAt_below HPT.out HBW.out) v1)
                clear HBW kN kF kR kB kW kS kQ kY HPT HFX
                generalize W.setCell ⟨wq.heap.size, t, none⟩ (.int .i64 v1) = W2 at HNX ⊢
                clear W
                go_wp2
                go_roundw
                case rel => exact ⟨s + 1, by omega, by go_num, by rw [HGV.out]; exact HNX.out⟩
                case measure => simp [intOf]; omega
            · have hsni : ¬ (s : Int) < (n : Int) := by omega
              obtain rfl : s = n := by omega
              have HPE : Hid (PartAt wq row' s t (row'.getD t 0) wr) := by show PartAt _ _ _ _ _ _; rw [HGN.out]; exact HPT.out
              have hcN := rowIs_eq HPE.out.1 htn (congrArg (Value.int .i64) ((if_neg (Nat.lt_irrefl t)).trans (if_pos rfl)))
              have HFE := hide (partAt_end HPE.out)
              have hvb := HTB.out.2 t htn
              have HDT := hide (fun h => upto_step (P := fun i => amtB (row'.getD i 0) = true) HD.out h)
              have HBAD : Hid (amtB (row'.getD t 0) = false → row'.all amtB = false) := fun h => allD_no t (by rw [HTB.out.1]; exact htn) h
              have HBE := hide (below_step HB0.out (below_step HBW.out HPE.out.2))
              generalize row'.getD t 0 = v at hcN hvb HDT HBAD
              clear HPE HPT
              by_cases hov : 1152921504606846976 < v
              · have HFIN := hide (HNONE.out (by rw [HGO.out, HSTK.out, HBAD.out (decide_eq_false (fun h => by omega))]; rfl) wr HBE.out)
                go_wp2
                exact HFIN.out
              · have HDT2 := hide (HDT.out (decide_eq_true (by omega)))
                go_wp2
                go_roundw
                case rel => exact ⟨t + 1, by omega, by go_num, HFE.out, HDT2.out⟩
                case measure => simp [intOf]; omega
        · have htni : ¬ (t : Int) < (n : Int) := by omega
          obtain rfl : t = n := by omega
          have hall : row'.all amtB = true := allD_yes (d := 0) fun i hi => HD.out i (by rw [← HTB.out.1]; exact hi)
          have HGN : Hid (evGo S F l = evGo S row' (l.drop (k + 1))) := by show _ = _; rw [HGO.out, HSTK.out, if_pos hall]
          have HSN := hide (fillAt_end HFL.out HTB.out.1 (by unfold maxLen; omega) (bdL_wf HTB.out))
          have HBN := hide (below_step HBW.out HFL.out.2)
          clear hall
          go_wp2
          go_roundw
          case rel => exact ⟨k + 1, by omega, by go_num, _, _, row', rfl, HSN.out, HTB.out, HGN.out, HBN.out⟩
          case measure => simp [intOf]; omega
    · have hlti : ¬ (k : Int) < (lw : Int) := by omega
      obtain rfl : k = lw := by omega
      rw [HDR.out] at HGO
      have HGS : Hid (evGo S F l = some row) := HGO.out
      have HLR := hide (sl_below HL.out (below_step HB0.out HBW.out))
      have hes : evS row L = ccap (fun i => row.getD i 0 * L.getD i 0) n := by
        unfold evS
        rw [HBD.out.1, ccap_eq fun i hi => Int.mul_nonneg (HBD.out.2 i hi).1 (HO.out.last.2 i hi).1]
      have HFUL := hide (HFULL.out row HGS.out)
      have HDON := hide (HDONE.out row HGS.out)
      rw [hes] at HFUL HDON
      have HGB : Hid (∀ i, i ≤ n → 0 ≤ ccap (fun i => row.getD i 0 * L.getD i 0) i ∧ ccap (fun i => row.getD i 0 * L.getD i 0) i ≤ 1152921504606846977) := fun i hi => by
        rw [ccap_eq fun j hj => Int.mul_nonneg (HBD.out.2 j (by omega)).1 (HO.out.last.2 j (by omega)).1]
        exact capI_bd (csum_nn fun j hj => Int.mul_nonneg (HBD.out.2 j (by omega)).1 (HO.out.last.2 j (by omega)).1)
      have HGT : Hid (∀ i, ccap (fun i => row.getD i 0 * L.getD i 0) (i + 1) = capI (ccap (fun i => row.getD i 0 * L.getD i 0) i + row.getD i 0 * L.getD i 0)) := fun i => rfl
      have HGZ : Hid (ccap (fun i => row.getD i 0 * L.getD i 0) 0 = 0) := rfl
      generalize ccap (fun i => row.getD i 0 * L.getD i 0) = G at HFUL HDON HGB HGT HGZ hes
      obtain ⟨wq, hwq⟩ : ∃ wq : World, wq = wr := ⟨_, rfl⟩
      have HR0 : Hid (Below wq.heap.size wq wr) := by show Below _ _ _; rw [hwq]; exact Below.refl _ _
      rw [← hwq] at HROW HBW HLR
      clear hwq hes hrow hbw HGO
      go_wp2
      go_loopw [13, 14] (fun u i wx => ∃ s : Nat, s ≤ n ∧ i = .int .i64 s ∧ u = .int .i64 (G s) ∧ Below wq.heap.size wq wx) (fun _ i _ => n - (intOf i).toNat)
      case atStart => exact ⟨0, by omega, rfl, by rw [HGZ.out], HR0.out⟩
      case round =>
        obtain ⟨s, hs, rfl, rfl, hb⟩ := hrel
        have HB := hide hb
        clear hb
        by_cases hsn : s < n
        · have hsni : (s : Int) < (n : Int) := by omega
          obtain ⟨b6, o6, rfl, hc6⟩ := sl_cell (sl_below HROW.out HB.out) s hsn
          obtain ⟨b7, o7, rfl, hc7⟩ := sl_cell (sl_below HLR.out HB.out) s hsn
          obtain ⟨p0, p1, p2, p3, p4⟩ := HAT.out wr (below_step HBW.out HB.out)
          have HMO := hide (fun W => more_any (G s) (row.getD s 0) (L.getD s 0) W (HGB.out s hs) (HBD.out.2 s hsn) (HO.out.last.2 s hsn))
          rw [← HGT.out s] at HMO
          unfold retI at HMO
          have HVB := hide (HGB.out (s + 1) hsn)
          generalize row.getD s 0 = x1 at hc6 HMO
          generalize L.getD s 0 = y1 at hc7 HMO
          generalize hv : G s = v at HMO ⊢
          generalize hv1 : G (s + 1) = v1 at HMO HVB
          have HV1 : Hid (G (s + 1) = v1) := hv1
          clear hv hv1
          go_upto_region 27 with fail
          go_quiet (first | (go_at_call 42; refine Calls.quiet_of_same (HMO.out _)))
          clear hc6 hc7 p0 p1 p2 p3 p4
          go_wp2
          go_roundw
          case rel => exact ⟨s + 1, by omega, by go_num, by rw [HV1.out], below_drewN HB.out _⟩
          case measure => simp [intOf]; omega
        · have hsni : ¬ (s : Int) < (n : Int) := by omega
          obtain rfl : s = n := by omega
          have HBE := hide (below_step HB0.out (below_step HBW.out HB.out))
          generalize G s = v at HFUL HDON ⊢
          by_cases hov : 1152921504606846976 < v
          · have HFIN := hide (HFUL.out (by omega) wr HBE.out)
            go_wp2
            exact HFIN.out
          · have HFIN := hide (HDON.out (by omega) wr HBE.out)
            go_wp2
            exact HFIN.out
end Go.Proofs.YtlgjadnkokmjoaaDoor
