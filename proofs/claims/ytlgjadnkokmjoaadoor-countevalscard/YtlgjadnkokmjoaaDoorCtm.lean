/- CountEvals: the reference's EvalRep at whatever it is given; the law's whole walk. -/
import Derived.Test.YtlgjadnkokmjoaaDoorCtl
import Derived.Test.YtlgjadnkokmjoaaDoorRe
namespace Go.Proofs.YtlgjadnkokmjoaaDoor
open Go.RowKit

set_option maxHeartbeats 4000000 in
set_option maxRecDepth 4000 in
theorem evalRep_any (b t : Int) (a1 : Option Addr) (n1 c1 : Nat) (a2 : Option Addr) (n2 c2 : Nat) (a3 : Option Addr) (n3 c3 : Nat) (F : List Int) (S : List (List (List Int))) (L : List Int) (aw : Option Addr) (lw cw : Nat) (l : List Int) (w : World) (hF : Sl w a1 n1 F) (hS : Sl3 w a2 n2 S) (hL : Sl w a3 n3 L) (hl : Sl w aw lw l) :
    Calls Tryd.prog 17 #[.agg #[.int .i64 b, .int .i64 t, .slice a1 n1 c1, .slice a2 n2 c2, .slice a3 n3 c3], .slice aw lw cw] w (ErfR w (evlV b t F S L l) (evlC b t F S L l)) := by
  by_cases hR : repC b t F S L = 0
  · have hO := repC_ok hR
    have e1 : F.length = n1 := hF.1
    have e2 : (manyU b t).toNat = n2 := by rw [← hO.len]; exact hS.1
    have e3 : n3 = n1 := by rw [← e1, ← hO.last.1]; exact hL.1.symm
    subst e3
    rw [e1, e2] at hO
    by_cases hW : wordC n2 l = 0
    · have hc : evlC b t F S L l = if (evlX F S L l).isSome = true then 0 else 3 := by unfold evlC; rw [if_pos hR, hO.len, if_pos hW]
      have hv : evlV b t F S L l = (evlX F S L l).getD 0 := by
        unfold evlV
        rw [hc]
        cases evlX F S L l with
        | none => rfl
        | some v => rfl
      rw [hc, hv]
      exact evalRep_ok b t a1 n3 c1 a2 n2 c2 a3 c3 F S L aw lw cw l w hF hS hL hl hR hO hW
    · have hc : evlC b t F S L l = wordC n2 l := by unfold evlC; rw [if_pos hR, hO.len, if_neg hW]
      have hv : evlV b t F S L l = 0 := by unfold evlV; rw [hc, if_neg hW]
      rw [hc, hv]
      unfold ErfR
      have hB0 : Below w.heap.size w (w.alloc (.cells #[.int .i64 b, .int .i64 t, .slice a1 n3 c1, .slice a2 n2 c2, .slice a3 n3 c3] 38)) := (Below.refl _ _).alloc (Nat.le_refl _) _
      have HB0 := hide hB0
      have HAT := hide (fun w' => @box5R w w' (.int .i64 b) (.int .i64 t) (.slice a1 n3 c1) (.slice a2 n2 c2) (.slice a3 n3 c3) 38)
      have HCK := hide (repFault_any b t a1 n3 c1 a2 n2 c2 a3 n3 c3 F S L _ (sl_below hF hB0) (sl3_below hS hB0) (sl_below hL hB0))
      rw [hR] at HCK
      have HCW := hide (fun W (h : Below w.heap.size w W) => longFault_u n2 aw lw cw l W (sl_below hl h))
      have hc0 : (wordC n2 l == 0) = false := by simp; exact hW
      have HC0 := hide hW
      generalize wordC n2 l = c at HCW hc0 HC0 ⊢
      clear hF hS hL hl hR hO hc hv hB0 e1 e2
      generalize hwb : w.alloc (.cells #[.int .i64 b, .int .i64 t, .slice a1 n3 c1, .slice a2 n2 c2, .slice a3 n3 c3] 38) = wb at HB0 HAT HCK
      obtain ⟨p0, p1, p2, p3, p4⟩ := HAT.out wb (Below.refl _ _)
      go_enter Tryd.func17, Tryd.ntmps17
      go_wp2_with fail
      clear hwb p0 p1 p2 p3 p4
      refine HCK.out.mono ?_
      rintro e w1 ⟨rfl, hb1⟩
      have HB1 := hide (below_step HB0.out hb1)
      have HCW1 := hide (HCW.out w1 (below_step HB0.out hb1))
      obtain ⟨p0, p1, p2, p3, p4⟩ := HAT.out w1 hb1
      clear hb1 HCK HCW
      go_wp2_with (refine HCW1.out.mono ?_; rintro e w' ⟨rfl, hw⟩; rw [hw]; clear hw w')
      go_ret2
      exact ⟨rfl, HB1.out⟩
  · have hc : evlC b t F S L l = repC b t F S L := by unfold evlC; rw [if_neg hR]
    have hv : evlV b t F S L l = 0 := by unfold evlV; rw [hc, if_neg hR]
    rw [hc, hv]
    unfold ErfR
    have hB0 : Below w.heap.size w (w.alloc (.cells #[.int .i64 b, .int .i64 t, .slice a1 n1 c1, .slice a2 n2 c2, .slice a3 n3 c3] 38)) := (Below.refl _ _).alloc (Nat.le_refl _) _
    have HB0 := hide hB0
    have HAT := hide (fun w' => @box5R w w' (.int .i64 b) (.int .i64 t) (.slice a1 n1 c1) (.slice a2 n2 c2) (.slice a3 n3 c3) 38)
    have HCK := hide (repFault_any b t a1 n1 c1 a2 n2 c2 a3 n3 c3 F S L _ (sl_below hF hB0) (sl3_below hS hB0) (sl_below hL hB0))
    have hc0 : (repC b t F S L == 0) = false := by simp; exact hR
    have hr0 := hR
    generalize repC b t F S L = c at HCK hc0 hr0 ⊢
    clear hF hS hL hl hc hv hB0
    generalize hwb : w.alloc (.cells #[.int .i64 b, .int .i64 t, .slice a1 n1 c1, .slice a2 n2 c2, .slice a3 n3 c3] 38) = wb at HB0 HAT HCK
    obtain ⟨p0, p1, p2, p3, p4⟩ := HAT.out wb (Below.refl _ _)
    go_enter Tryd.func17, Tryd.ntmps17
    go_wp2_with fail
    clear hwb p0 p1 p2 p3 p4
    refine HCK.out.mono ?_
    rintro e w1 ⟨rfl, hb1⟩
    have HB1 := hide (below_step HB0.out hb1)
    clear hb1 HCK
    go_wp2
    go_ret2
    exact ⟨rfl, HB1.out⟩
set_option maxHeartbeats 4000000 in
set_option maxRecDepth 4000 in
theorem countevals_any (b t : Int) (a1 : Option Addr) (n1 c1 : Nat) (a2 : Option Addr) (n2 c2 : Nat) (a3 : Option Addr) (n3 c3 : Nat) (F : List Int) (S : List (List (List Int))) (L : List Int) (aw : Option Addr) (lw cw : Nat) (l : List Int) (w : World) (hF : Sl w a1 n1 F) (hS : Sl3 w a2 n2 S) (hL : Sl w a3 n3 L) (hl : Sl w aw lw l) (hg : Handle w) :
    Calls Tryd.prog 5 #[.agg #[.int .i64 b, .int .i64 t, .slice a1 n1 c1, .slice a2 n2 c2, .slice a3 n3 c3], .slice aw lw cw] w fun e w' => e = .returned (.bool true) ∧ Below w.heap.size w w' := by
  have hB0 : Below w.heap.size w (w.alloc (.cells #[.int .i64 b, .int .i64 t, .slice a1 n1 c1, .slice a2 n2 c2, .slice a3 n3 c3] 38)) := (Below.refl _ _).alloc (Nat.le_refl _) _
  have HB0 := hide hB0
  have HAT := hide (fun w' => @box5R w w' (.int .i64 b) (.int .i64 t) (.slice a1 n1 c1) (.slice a2 n2 c2) (.slice a3 n3 c3) 38)
  have HC1 := hide (evalRep_any b t a1 n1 c1 a2 n2 c2 a3 n3 c3 F S L aw lw cw l _ (sl_below hF hB0) (sl3_below hS hB0) (sl_below hL hB0) (sl_below hl hB0))
  have HC2 := hide (fun W (h : Below w.heap.size w W) => eval_any b t a1 n1 c1 a2 n2 c2 a3 n3 c3 F S L aw lw cw l W (sl_below hF h) (sl3_below hS h) (sl_below hL h) (sl_below hl h))
  have HH : Hid (∀ W, Below w.heap.size w W → Handle W) := fun W h => hg.below h
  have HES := hide (fun c W (h : Handle W) => error_same c W h)
  unfold ErfR at HC1
  unfold EvlR at HC2
  clear hF hS hL hl hg hB0
  generalize evlV b t F S L l = v at HC1 HC2
  generalize evlC b t F S L l = c at HC1 HC2
  generalize hwb : w.alloc (.cells #[.int .i64 b, .int .i64 t, .slice a1 n1 c1, .slice a2 n2 c2, .slice a3 n3 c3] 38) = wb at HB0 HAT HC1
  obtain ⟨p0, p1, p2, p3, p4⟩ := HAT.out wb (Below.refl _ _)
  go_enter Tryd.func5, Tryd.ntmps5
  go_wp2_with fail
  clear hwb p0 p1 p2 p3 p4
  refine HC1.out.mono ?_
  rintro e w1 ⟨rfl, hb1⟩
  have HB1 := hide (below_step HB0.out hb1)
  have HCC := hide (HC2.out w1 HB1.out)
  obtain ⟨p0, p1, p2, p3, p4⟩ := HAT.out w1 hb1
  clear hb1 HC1 HC2
  go_wp2_with fail
  clear p0 p1 p2 p3 p4
  refine HCC.out.mono ?_
  rintro e w2 ⟨rfl, hb2⟩
  have HB2 := hide (below_step HB1.out hb2)
  have HER := hide (HES.out c w2 (HH.out w2 HB2.out))
  clear hb2 HCC
  go_wp2_with fail
  refine HER.out.mono ?_
  rintro e w3 ⟨rfl, hb3⟩
  have HB3 := hide (below_step HB2.out hb3)
  clear hb3 HER
  go_wp2
  go_ret
  exact ⟨by simp, HB3.out⟩
end Go.Proofs.YtlgjadnkokmjoaaDoor
