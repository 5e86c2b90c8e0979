/- least.Check, Same, Differ: contracts. -/
import Derived.Test.YtihhlddbppljpabDoorCg
namespace Go.Proofs.YtihhlddbppljpabDoor
open Go.RowKit

set_option maxHeartbeats 4000000 in
set_option maxRecDepth 4000 in
theorem checkBoth_u (b t : Int) (a1 : Option Addr) (n c1 : Nat) (e1 : Option Addr) (k d1 : Nat) (b' t' : Int) (a2 : Option Addr) (n' c2 : Nat) (e2 : Option Addr) (k' d2 : Nat) (N N' : List (List Int)) (w : World) (h1 : Sl2 w a1 n N) (g1 : k ≤ maxLen) (h2 : Sl2 w a2 n' N') (g2 : k' ≤ maxLen) :
    Calls Tryd.prog 36 #[.agg #[.int .i64 b, .int .i64 t, .slice a1 n c1, .slice e1 k d1], .agg #[.int .i64 b', .int .i64 t', .slice a2 n' c2, .slice e2 k' d2]] w fun e w' => e = .returned (errV (alikeC b t N k b' t' N' k')) ∧ Below w.heap.size w w' := by
  have hB := below_two w (.cells #[.int .i64 b, .int .i64 t, .slice a1 n c1, .slice e1 k d1] 25) (.cells #[.int .i64 b', .int .i64 t', .slice a2 n' c2, .slice e2 k' d2] 25)
  have HB := hide hB
  have HF1 := hide (check_u b t a1 e1 n c1 k d1 N _ (sl2_below h1 hB) g1)
  have HF2 := hide (fun W h => check_u b' t' a2 e2 n' c2 k' d2 N' W h g2)
  have HS2 := hide (sl2_below h2 hB)
  have HBX := hide (fun w' => @two_boxes w w' (.int .i64 b) (.int .i64 t) (.slice a1 n c1) (.slice e1 k d1) (.int .i64 b') (.int .i64 t') (.slice a2 n' c2) (.slice e2 k' d2) 25)
  clear h1 h2 g1 g2 hB
  have HC : Hid (alikeC b t N k b' t' N' k' = if autoC b t N k = 0 then (if autoC b' t' N' k' = 0 then (if b = b' ∧ t = t' then 0 else 2) else autoC b' t' N' k') else autoC b t N k) := rfl
  generalize alikeC b t N k b' t' N' k' = R at HC ⊢
  generalize autoC b t N k = x at HC HF1
  generalize autoC b' t' N' k' = y at HC HF2
  generalize hW0 : (w.alloc (.cells #[.int .i64 b, .int .i64 t, .slice a1 n c1, .slice e1 k d1] 25)).alloc (.cells #[.int .i64 b', .int .i64 t', .slice a2 n' c2, .slice e2 k' d2] 25) = w0 at HB HF1 HS2 HBX
  obtain ⟨⟨p0, p1, p2, p3⟩, q0, q1, q2, q3⟩ := HBX.out w0 (Below.refl _ _)
  go_enter Tryd.func36, Tryd.ntmps36
  go_wp2_with fail
  clear hW0 p0 p1 p2 p3 q0 q1 q2 q3
  refine HF1.out.mono ?_
  rintro e w1 ⟨rfl, hb1⟩
  have HB1 := hide hb1
  have HW1 := hide (below_step HB.out hb1)
  clear hb1 HF1
  by_cases hx : x = 0
  · rw [if_pos hx] at HC
    rw [errV_yes hx]
    obtain ⟨⟨p0, p1, p2, p3⟩, q0, q1, q2, q3⟩ := HBX.out w1 HB1.out
    go_wp2_with fail
    refine (HF2.out w1 (sl2_below HS2.out HB1.out)).mono ?_
    rintro e w2 ⟨rfl, hb2⟩
    have HB2 := hide (below_step HB1.out hb2)
    have HW2 := hide (below_step HW1.out hb2)
    clear hb2 p0 p1 p2 p3 q0 q1 q2 q3
    by_cases hy : y = 0
    · rw [if_pos hy] at HC
      rw [errV_yes hy]
      obtain ⟨⟨p0, p1, p2, p3⟩, q0, q1, q2, q3⟩ := HBX.out w2 HB2.out
      by_cases h : b = b' ∧ t = t'
      · rw [if_pos h] at HC
        obtain ⟨rfl, rfl⟩ := h
        have hbb : (b != b) = false := by simp
        have htt : (t != t) = false := by simp
        go_wp2
        go_ret
        exact ⟨by rw [HC.out]; simp [errV], HW2.out⟩
      · rw [if_neg h] at HC
        have h' : (b != b') = true ∨ ((b != b') = false ∧ (t != t') = true) := by
          by_cases hb : b = b'
          · exact .inr ⟨by simpa using hb, by simpa using fun e => h ⟨hb, e⟩⟩
          · exact .inl (by simpa using hb)
        clear h
        rcases h' with h | ⟨h, h'⟩
        all_goals
          go_wp2
          go_ret
          exact ⟨by rw [HC.out]; simp [errV], HW2.out⟩
    · rw [if_neg hy] at HC
      rw [errV_no hy]
      have HY := hide hy
      clear hy
      go_wp2
      go_ret
      exact ⟨by rw [HC.out, errV_no HY.out]; simp, HW2.out⟩
  · rw [if_neg hx] at HC
    rw [errV_no hx]
    have HX := hide hx
    clear hx
    go_wp2
    go_ret
    exact ⟨by rw [HC.out, errV_no HX.out]; simp, HW1.out⟩

/-- Where two automata differ: the first word that one of them takes alone. -/
def diffP (b t : Int) (N : List (List Int)) (E : List Bool) (N' : List (List Int)) (E' : List Bool) : Option (Int × List Int) := firstP (prodN N N' (manyU b t).toNat) (prodE 6 N.length N'.length E E')
theorem alikeC_zero {b t : Int} {N : List (List Int)} {k : Nat} {b' t' : Int} {N' : List (List Int)} {k' : Nat} (h : alikeC b t N k b' t' N' k' = 0) : autoC b t N k = 0 ∧ autoC b' t' N' k' = 0 ∧ b = b' ∧ t = t' := by
  unfold alikeC at h
  split at h
  · split at h
    · split at h
      · rename_i h1 h2 h3
        exact ⟨h1, h2, h3⟩
      · cases h
    · contradiction
  · contradiction

set_option maxHeartbeats 8000000 in
set_option maxRecDepth 8000 in
theorem lapart_u (b t : Int) (a : Option Addr) (n cap : Nat) (a' : Option Addr) (k cap' : Nat) (N : List (List Int)) (E : List Bool) (b2 t2 : Int) (a2 : Option Addr) (n2 cap2 : Nat) (a2' : Option Addr) (k2 cap2' : Nat) (N2 : List (List Int)) (E2 : List Bool) (w : World)
    (hs : Sl2 w a n N) (he : SlB w a' k E) (hs2 : Sl2 w a2 n2 N2) (he2 : SlB w a2' k2 E2) (hC : alikeC b t N k b2 t2 N2 k2 = 0) :
    Calls Tryd.prog 37 #[.agg #[.int .i64 b, .int .i64 t, .slice a n cap, .slice a' k cap'], .agg #[.int .i64 b2, .int .i64 t2, .slice a2 n2 cap2, .slice a2' k2 cap2']] w (FirstU w (diffP b t N E N2 E2)) := by
  obtain ⟨h1, h2, rfl, rfl⟩ := alikeC_zero hC
  obtain ⟨-, e1, g1, -⟩ := autoC_zero h1
  obtain ⟨-, e2, g2, -⟩ := autoC_zero h2
  have m1 := autoC_80 h1
  have m2 := autoC_80 h2
  unfold diffP
  have l1 := hs.1
  have l2 := hs2.1
  subst e1
  subst e2
  rw [l1] at g1 m1 he ⊢
  rw [l2] at g2 m2 he2 ⊢
  exact apart_any b t a n cap a' cap' _ N E b t a2 n2 cap2 a2' cap2' N2 E2 w hs he g1 hs2 he2 g2 (Nat.le_trans (Nat.mul_le_mul m1 m2) (by decide))

def sameB (b t : Int) (N : List (List Int)) (E : List Bool) (k : Nat) (b' t' : Int) (N' : List (List Int)) (E' : List Bool) (k' : Nat) : Bool := if alikeC b t N k b' t' N' k' = 0 then (diffP b t N E N' E').isNone else false
def diffE (b t : Int) (N : List (List Int)) (E : List Bool) (k : Nat) (b' t' : Int) (N' : List (List Int)) (E' : List Bool) (k' : Nat) : Int := if alikeC b t N k b' t' N' k' = 0 then (if (diffP b t N E N' E').isSome = true then 0 else 4) else alikeC b t N k b' t' N' k'
def diffW (b t : Int) (N : List (List Int)) (E : List Bool) (k : Nat) (b' t' : Int) (N' : List (List Int)) (E' : List Bool) (k' : Nat) : List Int := if alikeC b t N k b' t' N' k' = 0 then wordO (diffP b t N E N' E') else []

set_option maxHeartbeats 8000000 in
set_option maxRecDepth 8000 in
theorem same_u (b t : Int) (a : Option Addr) (n cap : Nat) (a' : Option Addr) (k cap' : Nat) (N : List (List Int)) (E : List Bool) (b2 t2 : Int) (a2 : Option Addr) (n2 cap2 : Nat) (a2' : Option Addr) (k2 cap2' : Nat) (N2 : List (List Int)) (E2 : List Bool) (w : World)
    (hs : Sl2 w a n N) (he : SlB w a' k E) (hs2 : Sl2 w a2 n2 N2) (he2 : SlB w a2' k2 E2) :
    Calls Tryd.prog 24 #[.agg #[.int .i64 b, .int .i64 t, .slice a n cap, .slice a' k cap'], .agg #[.int .i64 b2, .int .i64 t2, .slice a2 n2 cap2, .slice a2' k2 cap2']] w fun e w' => e = .returned (.tuple #[.bool (sameB b t N E k b2 t2 N2 E2 k2), errV (alikeC b t N k b2 t2 N2 k2)]) ∧ Below w.heap.size w w' := by
  have hB := below_two w (.cells #[.int .i64 b, .int .i64 t, .slice a n cap, .slice a' k cap'] 25) (.cells #[.int .i64 b2, .int .i64 t2, .slice a2 n2 cap2, .slice a2' k2 cap2'] 25)
  have HB := hide hB
  have HCB := hide (checkBoth_u b t a n cap a' k cap' b2 t2 a2 n2 cap2 a2' k2 cap2' N N2 _ (sl2_below hs hB) he.2.1 (sl2_below hs2 hB) he2.2.1)
  have HAP := hide (fun W (h : Below _ _ W) hC => lapart_u b t a n cap a' k cap' N E b2 t2 a2 n2 cap2 a2' k2 cap2' N2 E2 W (sl2_below (sl2_below hs hB) h) (slB_below (slB_below he hB) h) (sl2_below (sl2_below hs2 hB) h) (slB_below (slB_below he2 hB) h) hC)
  have HBX := hide (fun w' => @two_boxes w w' (.int .i64 b) (.int .i64 t) (.slice a n cap) (.slice a' k cap') (.int .i64 b2) (.int .i64 t2) (.slice a2 n2 cap2) (.slice a2' k2 cap2') 25)
  clear hs he hs2 he2 hB
  have HSM : Hid (sameB b t N E k b2 t2 N2 E2 k2 = if alikeC b t N k b2 t2 N2 k2 = 0 then (diffP b t N E N2 E2).isNone else false) := rfl
  generalize sameB b t N E k b2 t2 N2 E2 k2 = sv at HSM ⊢
  generalize diffP b t N E N2 E2 = r at HSM HAP
  generalize alikeC b t N k b2 t2 N2 k2 = c at HSM HCB HAP ⊢
  unfold FirstU at HAP
  generalize hW0 : (w.alloc (.cells #[.int .i64 b, .int .i64 t, .slice a n cap, .slice a' k cap'] 25)).alloc (.cells #[.int .i64 b2, .int .i64 t2, .slice a2 n2 cap2, .slice a2' k2 cap2'] 25) = w0 at HB HCB HAP HBX
  obtain ⟨⟨p0, p1, p2, p3⟩, q0, q1, q2, q3⟩ := HBX.out w0 (Below.refl _ _)
  go_enter Tryd.func24, Tryd.ntmps24
  go_wp2_with fail
  clear hW0 p0 p1 p2 p3 q0 q1 q2 q3
  refine HCB.out.mono ?_
  rintro e w1 ⟨rfl, hb1⟩
  have HB1 := hide hb1
  have HW1 := hide (below_step HB.out hb1)
  clear hb1 HCB
  by_cases hc : c = 0
  · rw [errV_yes hc]
    rw [if_pos hc] at HSM
    have HC0 := hide hc
    have HA1 := hide (HAP.out w1 HB1.out hc)
    obtain ⟨⟨p0, p1, p2, p3⟩, q0, q1, q2, q3⟩ := HBX.out w1 HB1.out
    clear hc HAP
    go_wp2_with (go_at_call 37; refine HA1.out.mono ?_; rintro e w2 ⟨ax, cx, rfl, hsx, hbx⟩; have HB2 := hide (below_step HW1.out hbx); clear hsx hbx)
    go_ret2
    exact ⟨by rw [HSM.out, errV_yes HC0.out]; cases r <;> simp, HB2.out⟩
  · rw [errV_no hc]
    rw [if_neg hc] at HSM
    have HCN := hide hc
    clear hc HAP
    go_wp2
    go_ret2
    exact ⟨by rw [HSM.out, errV_no HCN.out]; simp, HW1.out⟩

set_option maxHeartbeats 8000000 in
set_option maxRecDepth 8000 in
theorem differ_u (b t : Int) (a : Option Addr) (n cap : Nat) (a' : Option Addr) (k cap' : Nat) (N : List (List Int)) (E : List Bool) (b2 t2 : Int) (a2 : Option Addr) (n2 cap2 : Nat) (a2' : Option Addr) (k2 cap2' : Nat) (N2 : List (List Int)) (E2 : List Bool) (w : World)
    (hs : Sl2 w a n N) (he : SlB w a' k E) (hs2 : Sl2 w a2 n2 N2) (he2 : SlB w a2' k2 E2) :
    Calls Tryd.prog 25 #[.agg #[.int .i64 b, .int .i64 t, .slice a n cap, .slice a' k cap'], .agg #[.int .i64 b2, .int .i64 t2, .slice a2 n2 cap2, .slice a2' k2 cap2']] w (OfU w (diffW b t N E k b2 t2 N2 E2 k2) (errV (diffE b t N E k b2 t2 N2 E2 k2))) := by
  have hB := below_two w (.cells #[.int .i64 b, .int .i64 t, .slice a n cap, .slice a' k cap'] 25) (.cells #[.int .i64 b2, .int .i64 t2, .slice a2 n2 cap2, .slice a2' k2 cap2'] 25)
  have HB := hide hB
  have HCB := hide (checkBoth_u b t a n cap a' k cap' b2 t2 a2 n2 cap2 a2' k2 cap2' N N2 _ (sl2_below hs hB) he.2.1 (sl2_below hs2 hB) he2.2.1)
  have HAP := hide (fun W (h : Below _ _ W) hC => lapart_u b t a n cap a' k cap' N E b2 t2 a2 n2 cap2 a2' k2 cap2' N2 E2 W (sl2_below (sl2_below hs hB) h) (slB_below (slB_below he hB) h) (sl2_below (sl2_below hs2 hB) h) (slB_below (slB_below he2 hB) h) hC)
  have HBX := hide (fun w' => @two_boxes w w' (.int .i64 b) (.int .i64 t) (.slice a n cap) (.slice a' k cap') (.int .i64 b2) (.int .i64 t2) (.slice a2 n2 cap2) (.slice a2' k2 cap2') 25)
  clear hs he hs2 he2 hB
  have HDE : Hid (diffE b t N E k b2 t2 N2 E2 k2 = if alikeC b t N k b2 t2 N2 k2 = 0 then (if (diffP b t N E N2 E2).isSome = true then 0 else 4) else alikeC b t N k b2 t2 N2 k2) := rfl
  have HDW : Hid (diffW b t N E k b2 t2 N2 E2 k2 = if alikeC b t N k b2 t2 N2 k2 = 0 then wordO (diffP b t N E N2 E2) else []) := rfl
  generalize diffE b t N E k b2 t2 N2 E2 k2 = de at HDE ⊢
  generalize diffW b t N E k b2 t2 N2 E2 k2 = dw at HDW ⊢
  generalize diffP b t N E N2 E2 = r at HDE HDW HAP
  generalize alikeC b t N k b2 t2 N2 k2 = c at HDE HDW HCB HAP ⊢
  unfold FirstU at HAP
  generalize hW0 : (w.alloc (.cells #[.int .i64 b, .int .i64 t, .slice a n cap, .slice a' k cap'] 25)).alloc (.cells #[.int .i64 b2, .int .i64 t2, .slice a2 n2 cap2, .slice a2' k2 cap2'] 25) = w0 at HB HCB HAP HBX
  obtain ⟨⟨p0, p1, p2, p3⟩, q0, q1, q2, q3⟩ := HBX.out w0 (Below.refl _ _)
  go_enter Tryd.func25, Tryd.ntmps25
  go_wp2_with fail
  clear hW0 p0 p1 p2 p3 q0 q1 q2 q3
  refine HCB.out.mono ?_
  rintro e w1 ⟨rfl, hb1⟩
  have HB1 := hide hb1
  have HW1 := hide (below_step HB.out hb1)
  clear hb1 HCB
  by_cases hc : c = 0
  · rw [errV_yes hc]
    rw [if_pos hc] at HDE HDW
    have HA1 := hide (HAP.out w1 HB1.out hc)
    obtain ⟨⟨p0, p1, p2, p3⟩, q0, q1, q2, q3⟩ := HBX.out w1 HB1.out
    clear hc HAP
    rw [← HDW.out] at HA1
    rcases r with _ | p
    · go_wp2_with (go_at_call 37; refine HA1.out.mono ?_; rintro e w2 ⟨ax, cx, rfl, hsx, hbx⟩; have HB2 := hide (below_step HW1.out hbx); clear hsx hbx)
      go_ret2
      unfold OfU
      rw [HDW.out, HDE.out]
      exact ⟨none, 0, by simp [wordO, errV], ⟨sl_nil _, fun _ h => by cases h⟩, HB2.out⟩
    · go_wp2_with (go_at_call 37; refine HA1.out.mono ?_; rintro e w2 ⟨ax, cx, rfl, hsx, hbx⟩; have HB2 := hide (below_step HW1.out hbx); have HS2 := hide (hsx.mono HW1.out.size); clear hsx hbx)
      go_ret2
      unfold OfU
      rw [HDE.out]
      exact ⟨ax, cx, by simp [errV], HS2.out, HB2.out⟩
  · rw [errV_no hc]
    rw [if_neg hc] at HDE HDW
    have HCN := hide hc
    clear hc HAP
    go_wp2
    go_ret2
    unfold OfU
    rw [HDW.out, HDE.out, errV_no HCN.out]
    exact ⟨none, 0, by simp, ⟨sl_nil _, fun _ h => by cases h⟩, HW1.out⟩
end Go.Proofs.YtihhlddbppljpabDoor
