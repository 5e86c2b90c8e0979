/- count.Eval at whatever it is given; the reference's amount, more, RepFault: contracts. -/
import Derived.Test.YtlgjadnkokmjoaaDoorCti
import Derived.Test.YtlgjadnkokmjoaaDoorLp
namespace Go.Proofs.YtlgjadnkokmjoaaDoor
open Go.RowKit

set_option maxHeartbeats 4000000 in
set_option maxRecDepth 4000 in
theorem eval_any (b t : Int) (a1 : Option Addr) (n1 c1 : Nat) (a2 : Option Addr) (n2 c2 : Nat) (a3 : Option Addr) (n3 c3 : Nat) (F : List Int) (S : List (List (List Int))) (L : List Int) (aw : Option Addr) (lw cw : Nat) (l : List Int) (w : World) (hF : Sl w a1 n1 F) (hS : Sl3 w a2 n2 S) (hL : Sl w a3 n3 L) (hl : Sl w aw lw l) :
    Calls Tryd.prog 18 #[.agg #[.int .i64 b, .int .i64 t, .slice a1 n1 c1, .slice a2 n2 c2, .slice a3 n3 c3], .slice aw lw cw] w (EvlR w (evlV b t F S L l) (evlC b t F S L l)) := by
  by_cases hR : repC b t F S L = 0
  · have hO := repC_ok hR
    have e1 : F.length = n1 := hF.1
    have e2 : (manyU b t).toNat = n2 := by rw [← hO.len]; exact hS.1
    have e3 : n3 = n1 := by rw [← e1, ← hO.last.1]; exact hL.1.symm
    subst e3
    rw [e1, e2] at hO
    by_cases hW : wordC n2 l = 0
    · have hc : evlC b t F S L l = if (evlX F S L l).isSome = true then 0 else 3 := by unfold evlC; rw [if_pos hR, hO.len, if_pos hW]
      have hv : evlV b t F S L l = (evlX F S L l).getD 0 := by
        unfold evlV
        rw [hc]
        cases evlX F S L l with
        | none => rfl
        | some v => rfl
      rw [hc, hv]
      exact eval_ok b t a1 n3 c1 a2 n2 c2 a3 c3 F S L aw lw cw l w hF hS hL hl hR hO hW
    · have hc : evlC b t F S L l = wordC n2 l := by unfold evlC; rw [if_pos hR, hO.len, if_neg hW]
      have hv : evlV b t F S L l = 0 := by unfold evlV; rw [hc, if_neg hW]
      rw [hc, hv]
      unfold EvlR
      rw [errV_no hW]
      have hB0 : Below w.heap.size w (w.alloc (.cells #[.int .i64 b, .int .i64 t, .slice a1 n3 c1, .slice a2 n2 c2, .slice a3 n3 c3] 38)) := (Below.refl _ _).alloc (Nat.le_refl _) _
      have HB0 := hide hB0
      have HAT := hide (fun w' => @box5R w w' (.int .i64 b) (.int .i64 t) (.slice a1 n3 c1) (.slice a2 n2 c2) (.slice a3 n3 c3) 38)
      have HCK := hide (countCheck_any b t a1 n3 c1 a2 n2 c2 a3 n3 c3 F S L _ (sl_below hF hB0) (sl3_below hS hB0) (sl_below hL hB0))
      rw [hR, errV_zero] at HCK
      have HCW := hide (fun W (h : Below w.heap.size w W) => checkWord_any n2 aw lw cw l W (sl_below hl h))
      rw [errV_no hW] at HCW
      generalize wordC n2 l = c at HCW ⊢
      clear hF hS hL hl hR hO hW hc hv hB0 e1 e2
      generalize hwb : w.alloc (.cells #[.int .i64 b, .int .i64 t, .slice a1 n3 c1, .slice a2 n2 c2, .slice a3 n3 c3] 38) = wb at HB0 HAT HCK
      obtain ⟨p0, p1, p2, p3, p4⟩ := HAT.out wb (Below.refl _ _)
      go_enter Tryd.func18, Tryd.ntmps18
      go_wp2_with fail
      clear hwb p0 p1 p2 p3 p4
      refine HCK.out.mono ?_
      rintro e w1 ⟨rfl, hb1⟩
      have HB1 := hide (below_step HB0.out hb1)
      have HCW1 := hide (HCW.out w1 (below_step HB0.out hb1))
      obtain ⟨p0, p1, p2, p3, p4⟩ := HAT.out w1 hb1
      clear hb1 HCK HCW
      go_wp2_with (refine HCW1.out.mono ?_; rintro e w' ⟨rfl, hw⟩; rw [hw]; clear hw w')
      go_ret2
      exact ⟨rfl, HB1.out⟩
  · have hc : evlC b t F S L l = repC b t F S L := by unfold evlC; rw [if_neg hR]
    have hv : evlV b t F S L l = 0 := by unfold evlV; rw [hc, if_neg hR]
    rw [hc, hv]
    unfold EvlR
    rw [errV_no hR]
    have hB0 : Below w.heap.size w (w.alloc (.cells #[.int .i64 b, .int .i64 t, .slice a1 n1 c1, .slice a2 n2 c2, .slice a3 n3 c3] 38)) := (Below.refl _ _).alloc (Nat.le_refl _) _
    have HB0 := hide hB0
    have HAT := hide (fun w' => @box5R w w' (.int .i64 b) (.int .i64 t) (.slice a1 n1 c1) (.slice a2 n2 c2) (.slice a3 n3 c3) 38)
    have HCK := hide (countCheck_any b t a1 n1 c1 a2 n2 c2 a3 n3 c3 F S L _ (sl_below hF hB0) (sl3_below hS hB0) (sl_below hL hB0))
    rw [errV_no hR] at HCK
    generalize repC b t F S L = c at HCK ⊢
    clear hF hS hL hl hR hc hv hB0
    generalize hwb : w.alloc (.cells #[.int .i64 b, .int .i64 t, .slice a1 n1 c1, .slice a2 n2 c2, .slice a3 n3 c3] 38) = wb at HB0 HAT HCK
    obtain ⟨p0, p1, p2, p3, p4⟩ := HAT.out wb (Below.refl _ _)
    go_enter Tryd.func18, Tryd.ntmps18
    go_wp2_with fail
    clear hwb p0 p1 p2 p3 p4
    refine HCK.out.mono ?_
    rintro e w1 ⟨rfl, hb1⟩
    have HB1 := hide (below_step HB0.out hb1)
    clear hb1 HCK
    go_wp2
    go_ret2
    exact ⟨rfl, HB1.out⟩
set_option maxHeartbeats 1000000 in
theorem amount_any (x : Int) (w : World) : Calls Tryd.prog 65 #[.int .i64 x] w (retQ (amtB x) w) := by
  unfold amtB
  by_cases h0 : 0 ≤ x
  · by_cases h1 : x ≤ 1152921504606846976
    · rw [decide_eq_true (show 0 ≤ x ∧ x ≤ 1152921504606846976 from ⟨h0, h1⟩)]
      go_enter Tryd.func65, Tryd.ntmps65
      go_wp2
      go_ret
      exact ⟨by simp, rfl⟩
    · rw [decide_eq_false (show ¬ (0 ≤ x ∧ x ≤ 1152921504606846976) from fun h => h1 h.2)]
      go_enter Tryd.func65, Tryd.ntmps65
      go_wp2
      go_ret
      exact ⟨by simp, rfl⟩
  · rw [decide_eq_false (show ¬ (0 ≤ x ∧ x ≤ 1152921504606846976) from fun h => h0 h.1)]
    go_enter Tryd.func65, Tryd.ntmps65
    go_wp2
    go_ret
    exact ⟨by simp, rfl⟩
set_option maxHeartbeats 4000000 in
set_option maxRecDepth 4000 in
theorem more_any (s a b : Int) (w : World) (hs : 0 ≤ s ∧ s ≤ 1152921504606846977) (ha : 0 ≤ a ∧ a ≤ 1152921504606846977) (hb : 0 ≤ b ∧ b ≤ 1152921504606846977) :
    Calls Tryd.prog 42 #[.int .i64 s, .int .i64 a, .int .i64 b] w (retI (capI (s + a * b)) w) := by
  have hp : 0 ≤ a * b := Int.mul_nonneg ha.1 hb.1
  by_cases h1 : 1152921504606846976 < s
  · have hv : capI (s + a * b) = 1152921504606846977 := if_neg (by omega)
    rw [hv]
    clear hv hp
    go_enter Tryd.func42, Tryd.ntmps42
    go_wp2
    go_ret
    exact ⟨rfl, rfl⟩
  by_cases h2 : 0 < a
  · have hqd : (1152921504606846976 - s).tdiv a = (1152921504606846976 - s) / a := Int.tdiv_eq_ediv_of_nonneg (by omega)
    have hq1 : 0 ≤ (1152921504606846976 - s) / a := Int.ediv_nonneg (by omega) (by omega)
    have hq2 : (1152921504606846976 - s) / a ≤ 1152921504606846976 := by
      have h3 := Int.ediv_le_self (a := 1152921504606846976 - s) a (by omega)
      omega
    have hD := Int.ediv_lt_iff_lt_mul (a := 1152921504606846976 - s) (b := b) (c := a) h2
    rw [Int.mul_comm b a] at hD
    have hw0 : IntKind.i64.wrap (1152921504606846976 - s) = 1152921504606846976 - s := by rw [IntKind.wrap_i64]; omega
    have hwq : IntKind.i64.wrap ((1152921504606846976 - s) / a) = (1152921504606846976 - s) / a := by rw [IntKind.wrap_i64]; omega
    have hwq2 : wrap64 ((1152921504606846976 - s) / a) = (1152921504606846976 - s) / a := by unfold wrap64; omega
    have ha0 : ¬ a = 0 := by omega
    by_cases hlt : (1152921504606846976 - s) / a < b
    · have hm : 1152921504606846976 - s < a * b := hD.1 hlt
      have hv : capI (s + a * b) = 1152921504606846977 := if_neg (by omega)
      rw [hv]
      clear hD hv hp hm hq1 hq2
      go_enter Tryd.func42, Tryd.ntmps42
      go_wp2
      go_ret
      exact ⟨rfl, rfl⟩
    · have hm : ¬ 1152921504606846976 - s < a * b := fun h => hlt (hD.2 h)
      have hv : capI (s + a * b) = s + a * b := if_pos (by omega)
      rw [hv]
      have hw1 : IntKind.i64.wrap (a * b) = a * b := by rw [IntKind.wrap_i64]; omega
      have hw2 : IntKind.i64.wrap (s + a * b) = s + a * b := by rw [IntKind.wrap_i64]; omega
      clear hD hv hp hm hq1 hq2
      go_enter Tryd.func42, Tryd.ntmps42
      go_wp2
      go_ret
      exact ⟨rfl, rfl⟩
  · obtain rfl : a = 0 := by omega
    have hv : capI (s + 0 * b) = s := by unfold capI; split <;> omega
    rw [hv]
    clear hv hp
    go_enter Tryd.func42, Tryd.ntmps42
    go_wp2
    go_ret
    exact ⟨rfl, rfl⟩
end Go.Proofs.YtlgjadnkokmjoaaDoor
