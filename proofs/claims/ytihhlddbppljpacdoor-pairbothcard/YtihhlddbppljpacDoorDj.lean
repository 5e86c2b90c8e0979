/- pair.Both: contract. -/
import Derived.Test.YtihhlddbppljpacDoorBy
import Derived.Test.YtihhlddbppljpacDoorDd
import Derived.Test.YtihhlddbppljpacDoorDi
namespace Go.Proofs.YtihhlddbppljpacDoor
open Go.RowKit

set_option maxHeartbeats 4000000 in
set_option maxRecDepth 8000 in
theorem both_range (b t : Int) (a : Option Addr) (n cap : Nat) (a' : Option Addr) (k cap' : Nat) (b2 t2 : Int) (a2 : Option Addr) (n2 cap2 : Nat) (a2' : Option Addr) (k2 cap2' : Nat) (how : Int) (w : World) (hh : how < 0 ∨ 15 < how) :
    Calls Tryd.prog 5 #[.agg #[.int .i64 b, .int .i64 t, .slice a n cap, .slice a' k cap'], .agg #[.int .i64 b2, .int .i64 t2, .slice a2 n2 cap2, .slice a2' k2 cap2'], .int .i64 how] w (PairR w 0 0 [] [] 1) := by
  have HB := hide (below_three w (.cells #[.int .i64 b, .int .i64 t, .slice a n cap, .slice a' k cap'] 25) (.cells #[.int .i64 b2, .int .i64 t2, .slice a2 n2 cap2, .slice a2' k2 cap2'] 25) (.cells #[.int .i64 0, .int .i64 0, .slice none 0 0, .slice none 0 0] 25))
  have HBX := hide (@three_boxes w _ (.int .i64 b) (.int .i64 t) (.slice a n cap) (.slice a' k cap') (.int .i64 b2) (.int .i64 t2) (.slice a2 n2 cap2) (.slice a2' k2 cap2') 25 (.cells #[.int .i64 0, .int .i64 0, .slice none 0 0, .slice none 0 0] 25) (Below.refl _ _)).1
  go_enter Tryd.func5, Tryd.ntmps5
  by_cases h0 : how < 0
  · have h0' : decide (how < 0) = true := by simpa using h0
    go_wp2
    obtain ⟨⟨z0, z1, z2, z3⟩, -⟩ := box_cells HBX.out
    exact bodyPost_ret (v := .tuple #[.agg #[.int .i64 0, .int .i64 0, .slice none 0 0, .slice none 0 0], .iface 26 (.int .i64 1)]) (by simp [results, Tryd.results5, go_sem, z0, z1, z2, z3]) rfl ⟨none, 0, none, 0, rfl, autoNew_nil _ _, HB.out⟩
  · have h1 : 16 ≤ how := by omega
    have h0' : decide (how < 0) = false := by simpa using h0
    go_wp2
    obtain ⟨⟨z0, z1, z2, z3⟩, -⟩ := box_cells HBX.out
    exact bodyPost_ret (v := .tuple #[.agg #[.int .i64 0, .int .i64 0, .slice none 0 0, .slice none 0 0], .iface 26 (.int .i64 1)]) (by simp [results, Tryd.results5, go_sem, z0, z1, z2, z3]) rfl ⟨none, 0, none, 0, rfl, autoNew_nil _ _, HB.out⟩

set_option maxHeartbeats 4000000 in
set_option maxRecDepth 8000 in
theorem both_in (b t : Int) (a : Option Addr) (n cap : Nat) (a' : Option Addr) (k cap' : Nat) (N : List (List Int)) (E : List Bool) (b2 t2 : Int) (a2 : Option Addr) (n2 cap2 : Nat) (a2' : Option Addr) (k2 cap2' : Nat) (N2 : List (List Int)) (E2 : List Bool) (how : Int) (w : World)
    (hs : Sl2 w a n N) (he : SlB w a' k E) (hs2 : Sl2 w a2 n2 N2) (he2 : SlB w a2' k2 E2) (h0 : 0 ≤ how) (h15 : how ≤ 15) (hC : alikeC b t N k b2 t2 N2 k2 ≠ 0) :
    Calls Tryd.prog 5 #[.agg #[.int .i64 b, .int .i64 t, .slice a n cap, .slice a' k cap'], .agg #[.int .i64 b2, .int .i64 t2, .slice a2 n2 cap2, .slice a2' k2 cap2'], .int .i64 how] w (PairR w 0 0 [] [] (alikeC b t N k b2 t2 N2 k2)) := by
  have hB := below_three w (.cells #[.int .i64 b, .int .i64 t, .slice a n cap, .slice a' k cap'] 25) (.cells #[.int .i64 b2, .int .i64 t2, .slice a2 n2 cap2, .slice a2' k2 cap2'] 25) (.cells #[.int .i64 0, .int .i64 0, .slice none 0 0, .slice none 0 0] 25)
  have HB := hide hB
  have HAL := hide (checkBoth_u b t a n cap a' k cap' b2 t2 a2 n2 cap2 a2' k2 cap2' N N2 _ (sl2_below hs hB) he.2.1 (sl2_below hs2 hB) he2.2.1)
  have HBX := hide (fun w' => @three_boxes w w' (.int .i64 b) (.int .i64 t) (.slice a n cap) (.slice a' k cap') (.int .i64 b2) (.int .i64 t2) (.slice a2 n2 cap2) (.slice a2' k2 cap2') 25 (.cells #[.int .i64 0, .int .i64 0, .slice none 0 0, .slice none 0 0] 25))
  clear hs he hs2 he2 hB
  unfold PairR
  rw [errV_no hC] at HAL ⊢
  generalize alikeC b t N k b2 t2 N2 k2 = c at HAL ⊢
  obtain ⟨-, hbb⟩ := HBX.out _ (Below.refl _ _)
  obtain ⟨⟨p0, p1, p2, p3⟩, q0, q1, q2, q3⟩ := two_boxes hbb
  have h0' : decide (how < 0) = false := by simp; omega
  have h1' : ¬ 16 ≤ how := by omega
  clear hbb
  go_enter Tryd.func5, Tryd.ntmps5
  go_wp2_with fail
  refine HAL.out.mono ?_
  rintro e w1 ⟨rfl, hb1⟩
  obtain ⟨hr, -⟩ := HBX.out w1 hb1
  obtain ⟨⟨r0, r1, r2, r3⟩, rf⟩ := box_cells hr
  have HR := hide hr
  have HB1 := hide (below_step HB.out hb1)
  clear hr hb1 p0 p1 p2 p3 q0 q1 q2 q3
  go_wp2
  obtain ⟨⟨hset, -, -⟩, hbel⟩ := box_set (v0 := .int .i64 0) (v1 := .int .i64 0) (v2 := .slice none 0 0) (v3 := .slice none 0 0) HR.out rfl
  obtain ⟨⟨z0, z1, z2, z3⟩, -⟩ := box_cells hset
  exact bodyPost_ret (v := .tuple #[.agg #[.int .i64 0, .int .i64 0, .slice none 0 0, .slice none 0 0], .iface 26 (.int .i64 c)]) (by simp [results, Tryd.results5, go_sem, z0, z1, z2, z3]) rfl ⟨none, 0, none, 0, rfl, autoNew_nil _ _, hbel _ _ HB1.out (by omega)⟩

/-- The least one, or too many. -/
def BothW (w : World) (b t : Int) (LN : List (List Int)) (LE : List Bool) (LK : Nat) (e : Ending) (w' : World) : Prop := (LK ≤ 80 → PairR w b t LN LE 0 e w') ∧ (80 < LK → PairR w 0 0 [] [] 3 e w')

set_option maxHeartbeats 4000000 in
set_option maxRecDepth 8000 in
theorem both_ok (b t : Int) (a : Option Addr) (n cap : Nat) (a' : Option Addr) (cap' : Nat) (N : List (List Int)) (E : List Bool) (a2 : Option Addr) (n2 cap2 : Nat) (a2' : Option Addr) (cap2' : Nat) (N2 : List (List Int)) (E2 : List Bool) (how : Int) (w : World)
    (hs : Sl2 w a n N) (he : SlB w a' n E) (hs2 : Sl2 w a2 n2 N2) (he2 : SlB w a2' n2 E2) (h0 : 0 ≤ how) (h15 : how ≤ 15) (hC : alikeC b t N n b t N2 n2 = 0) :
    Calls Tryd.prog 5 #[.agg #[.int .i64 b, .int .i64 t, .slice a n cap, .slice a' n cap'], .agg #[.int .i64 b, .int .i64 t, .slice a2 n2 cap2, .slice a2' n2 cap2'], .int .i64 how] w (BothW w b t (leastN (bothP b t N N2) (bothQ how N N2 E E2) (manyU b t).toNat) (leastE (bothP b t N N2) (bothQ how N N2 E E2) (manyU b t).toNat) (bothK b t how N N2 E E2)) := by
  obtain ⟨hA1, hA2, -, -⟩ := alikeC_zero hC
  obtain ⟨hM, -, hG, -⟩ := autoC_zero hA1
  obtain ⟨-, -, hG2, -⟩ := autoC_zero hA2
  have h80 := autoC_80 hA1
  have h80' := autoC_80 hA2
  have hL := hs.1
  have hL2 := hs2.1
  rw [hL] at hG h80
  rw [hL2] at hG2 h80'
  have hn : n * n2 ≤ 6400 := Nat.le_trans (Nat.mul_le_mul h80 h80') (by decide)
  have hB := below_three w (.cells #[.int .i64 b, .int .i64 t, .slice a n cap, .slice a' n cap'] 25) (.cells #[.int .i64 b, .int .i64 t, .slice a2 n2 cap2, .slice a2' n2 cap2'] 25) (.cells #[.int .i64 0, .int .i64 0, .slice none 0 0, .slice none 0 0] 25)
  have HB := hide hB
  have HAL := hide (checkBoth_u b t a n cap a' n cap' b t a2 n2 cap2 a2' n2 cap2' N N2 _ (sl2_below hs hB) he.2.1 (sl2_below hs2 hB) he2.2.1)
  rw [errV_yes hC] at HAL
  have HBX := hide (fun w' => @three_boxes w w' (.int .i64 b) (.int .i64 t) (.slice a n cap) (.slice a' n cap') (.int .i64 b) (.int .i64 t) (.slice a2 n2 cap2) (.slice a2' n2 cap2') 25 (.cells #[.int .i64 0, .int .i64 0, .slice none 0 0, .slice none 0 0] 25))
  have HCO := hide (fun W (h : Below _ _ W) => couples_any b t a n cap a' cap' (manyU b t).toNat N E b t a2 n2 cap2 a2' cap2' N2 E2 how W (sl2_below hs (below_step hB h)) (slB_below he (below_step hB h)) (sl2_below hs2 (below_step hB h)) (slB_below he2 (below_step hB h)) hG hG2 hn h0 h15)
  unfold GivesAuto at HCO
  have hP := prod_good hG hG2 hn
  have hCG := coup_good hP
  rw [← coup_len hP] at hCG
  have HLW := hide (fun ax cx ax' cx' W h1 h2 => leastw_any b t ax (coupN (prodN N N2 (manyU b t).toNat)).length cx (manyU b t).toNat (coupN (prodN N N2 (manyU b t).toNat)) ax' cx' (coupE (prodN N N2 (manyU b t).toNat) (prodE how n n2 E E2)) W h1 h2 hCG (autoM_good hM hCG (by have := hCG.2.2.1; omega)))
  obtain ⟨e1, e2, e3⟩ := coup_least hP (prodE how n n2 E E2)
  unfold LeastR LeastU at HLW
  rw [e1, e2, e3] at HLW
  have hbP : bothP b t N N2 = prodN N N2 (manyU b t).toNat := rfl
  have hbQ : bothQ how N N2 E E2 = prodE how n n2 E E2 := by unfold bothQ; rw [hL, hL2]
  unfold bothK
  rw [hbP, hbQ]
  clear hs he hs2 he2 hA1 hA2 hC hM hG hG2 h80 h80' hn hP hCG e1 e2 e3 hbP hbQ
  generalize coupN (prodN N N2 (manyU b t).toNat) = CN at HCO HLW
  generalize coupE (prodN N N2 (manyU b t).toNat) (prodE how n n2 E E2) = CE at HCO HLW
  generalize leastN (prodN N N2 (manyU b t).toNat) (prodE how n n2 E E2) (manyU b t).toNat = LN at HLW ⊢
  generalize leastE (prodN N N2 (manyU b t).toNat) (prodE how n n2 E E2) (manyU b t).toNat = LE at HLW ⊢
  generalize leastK (prodN N N2 (manyU b t).toNat) (prodE how n n2 E E2) (manyU b t).toNat = LK at HLW ⊢
  generalize hW0 : ((w.alloc (.cells #[.int .i64 b, .int .i64 t, .slice a n cap, .slice a' n cap'] 25)).alloc (.cells #[.int .i64 b, .int .i64 t, .slice a2 n2 cap2, .slice a2' n2 cap2'] 25)).alloc (.cells #[.int .i64 0, .int .i64 0, .slice none 0 0, .slice none 0 0] 25) = wb at HB HAL HBX HCO
  have HSZ0 : Hid (wb.heap.size = w.heap.size + 3) := by show _ = _; rw [← hW0]; simp
  obtain ⟨-, hbb⟩ := HBX.out wb (Below.refl _ _)
  obtain ⟨⟨p0, p1, p2, p3⟩, q0, q1, q2, q3⟩ := two_boxes hbb
  have h0' : decide (how < 0) = false := by simp; omega
  have h1' : ¬ 16 ≤ how := by omega
  clear hbb hB
  go_enter Tryd.func5, Tryd.ntmps5
  go_wp2_with fail
  clear hW0 p0 p1 p2 p3 q0 q1 q2 q3
  refine HAL.out.mono ?_
  rintro e w1 ⟨rfl, hb1⟩
  obtain ⟨-, hbb⟩ := HBX.out w1 hb1
  obtain ⟨⟨p0, p1, p2, p3⟩, q0, q1, q2, q3⟩ := two_boxes hbb
  have HB1 := hide hb1
  clear hb1 hbb HAL
  go_wp2_with fail
  clear p0 p1 p2 p3 q0 q1 q2 q3
  refine (HCO.out w1 HB1.out).mono ?_
  rintro e w2 ⟨ax, cx, ax', cx', rfl, hnew, hb2⟩
  have HB2 := hide (below_step HB1.out hb2)
  have HL2 := hide (HLW.out ax cx ax' cx' w2 hnew.here.1 hnew.here.2)
  clear hnew hb2 HCO HLW
  go_wp2_with fail
  refine HL2.out.mono ?_
  rintro e w3 ⟨hyes, hno⟩
  clear HL2
  by_cases hK : LK ≤ 80
  · obtain ⟨ay, cy, ay', cy', rfl, hnew, hb3⟩ := hyes hK
    obtain ⟨hr, -⟩ := HBX.out w3 (below_step HB2.out hb3)
    obtain ⟨⟨r0, r1, r2, r3⟩, rf⟩ := box_cells hr
    have HR := hide hr
    have HB3 := hide (below_step HB.out (below_step HB2.out hb3))
    have HNEW := hide hnew
    have HSW := hide HB2.out.size
    clear hr hb3 hyes hno hnew
    go_wp2
    obtain ⟨⟨hset, hsz, hoth⟩, hbel⟩ := box_set (v0 := .int .i64 b) (v1 := .int .i64 t) (v2 := .slice ay LN.length cy) (v3 := .slice ay' LN.length cy') HR.out rfl
    have hfin : AutoNew w ay LN.length LN ay' LE ((((w3.setCell ⟨w.heap.size + 2, 0, none⟩ (.int .i64 b)).setCell ⟨w.heap.size + 2, 1, none⟩ (.int .i64 t)).setCell ⟨w.heap.size + 2, 2, none⟩ (.slice ay LN.length cy)).setCell ⟨w.heap.size + 2, 3, none⟩ (.slice ay' LN.length cy')) := fun W' hW' => HNEW.out W' (fun x hx hxl => by
      have h1 := HSW.out
      have h2 := HSZ0.out
      rw [hW' x (by omega) (by rw [hsz]; exact hxl), hoth x (by omega)])
    have hb := hbel w w.heap.size HB3.out (by omega)
    obtain ⟨⟨z0, z1, z2, z3⟩, -⟩ := box_cells hset
    exact bodyPost_ret (v := .tuple #[.agg #[.int .i64 b, .int .i64 t, .slice ay LN.length cy, .slice ay' LN.length cy'], .nilIface]) (by simp [results, Tryd.results5, go_sem, z0, z1, z2, z3]) rfl ⟨fun _ => ⟨ay, cy, ay', cy', rfl, hfin, hb⟩, fun h => by omega⟩
  · obtain ⟨rfl, hb3⟩ := hno (by omega)
    obtain ⟨hr, -⟩ := HBX.out w3 (below_step HB2.out hb3)
    obtain ⟨⟨r0, r1, r2, r3⟩, rf⟩ := box_cells hr
    have HR := hide hr
    have HB3 := hide (below_step HB.out (below_step HB2.out hb3))
    clear hr hb3 hyes hno
    go_wp2
    obtain ⟨⟨hset, hsz, hoth⟩, hbel⟩ := box_set (v0 := .int .i64 0) (v1 := .int .i64 0) (v2 := .slice none 0 0) (v3 := .slice none 0 0) HR.out rfl
    have hb := hbel w w.heap.size HB3.out (by omega)
    obtain ⟨⟨z0, z1, z2, z3⟩, -⟩ := box_cells hset
    exact bodyPost_ret (v := .tuple #[.agg #[.int .i64 0, .int .i64 0, .slice none 0 0, .slice none 0 0], .iface 26 (.int .i64 3)]) (by simp [results, Tryd.results5, go_sem, z0, z1, z2, z3]) rfl ⟨fun h => by omega, fun _ => ⟨none, 0, none, 0, rfl, autoNew_nil _ _, hb⟩⟩

theorem both_u (b t : Int) (a : Option Addr) (n cap : Nat) (a' : Option Addr) (k cap' : Nat) (N : List (List Int)) (E : List Bool) (b2 t2 : Int) (a2 : Option Addr) (n2 cap2 : Nat) (a2' : Option Addr) (k2 cap2' : Nat) (N2 : List (List Int)) (E2 : List Bool) (how : Int) (w : World)
    (hs : Sl2 w a n N) (he : SlB w a' k E) (hs2 : Sl2 w a2 n2 N2) (he2 : SlB w a2' k2 E2) :
    Calls Tryd.prog 5 #[.agg #[.int .i64 b, .int .i64 t, .slice a n cap, .slice a' k cap'], .agg #[.int .i64 b2, .int .i64 t2, .slice a2 n2 cap2, .slice a2' k2 cap2'], .int .i64 how] w (PairR w (okI (bothC how b t N E k b2 t2 N2 E2 k2) b) (okI (bothC how b t N E k b2 t2 N2 E2 k2) t) (bothN how b t N E k b2 t2 N2 E2 k2) (bothE how b t N E k b2 t2 N2 E2 k2) (bothC how b t N E k b2 t2 N2 E2 k2)) := by
  by_cases hh : 0 ≤ how ∧ how ≤ 15
  · by_cases hC : alikeC b t N k b2 t2 N2 k2 = 0
    · obtain ⟨hA1, hA2, rfl, rfl⟩ := alikeC_zero hC
      obtain rfl : k = n := by rw [(autoC_zero hA1).2.1, hs.1]
      obtain rfl : k2 = n2 := by rw [(autoC_zero hA2).2.1, hs2.1]
      refine (both_ok b t a k cap a' cap' N E a2 k2 cap2 a2' cap2' N2 E2 how w hs he hs2 he2 hh.1 hh.2 hC).mono ?_
      rintro e w' ⟨h1, h2⟩
      by_cases hK : bothK b t how N N2 E E2 ≤ 80
      · have hc : bothC how b t N E k b t N2 E2 k2 = 0 := by unfold bothC; rw [if_pos hh, if_pos hC, if_pos hK]
        unfold bothN bothE okI
        rw [hc, if_pos rfl, if_pos rfl, if_pos rfl, if_pos rfl]
        exact h1 hK
      · have hc : bothC how b t N E k b t N2 E2 k2 = 3 := by unfold bothC; rw [if_pos hh, if_pos hC, if_neg hK]
        unfold bothN bothE okI
        rw [hc, if_neg (by decide), if_neg (by decide), if_neg (by decide), if_neg (by decide)]
        exact h2 (by omega)
    · have hc := @alikeC_of b t N k b2 t2 N2 k2 how E E2 hh.1 hh.2 hC
      unfold bothN bothE okI
      rw [hc, if_neg hC, if_neg hC, if_neg hC, if_neg hC]
      exact both_in b t a n cap a' k cap' N E b2 t2 a2 n2 cap2 a2' k2 cap2' N2 E2 how w hs he hs2 he2 hh.1 hh.2 hC
  · have hc : bothC how b t N E k b2 t2 N2 E2 k2 = 1 := by unfold bothC; rw [if_neg hh]
    unfold bothN bothE okI
    rw [hc, if_neg (by decide), if_neg (by decide), if_neg (by decide), if_neg (by decide)]
    exact both_range b t a n cap a' k cap' b2 t2 a2 n2 cap2 a2' k2 cap2' how w (by omega)
end Go.Proofs.YtihhlddbppljpacDoor
