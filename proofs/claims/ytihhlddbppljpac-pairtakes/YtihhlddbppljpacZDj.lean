/- 2 texts in one. -/
import Derived.Test.YtihhlddbppljpacBy
import Derived.Test.YtihhlddbppljpacDd
import Derived.Test.YtihhlddbppljpacZDb
import Derived.Test.YtihhlddbppljpacAx
import Derived.Test.YtihhlddbppljpacZDh
/- pair.Both: contract. -/
namespace Go.Proofs.Ytihhlddbppljpac
open Go.RowKit

set_option maxHeartbeats 4000000 in
set_option maxRecDepth 8000 in
theorem both_range (b t : Int) (a : Option Addr) (n cap : Nat) (a' : Option Addr) (k cap' : Nat) (b2 t2 : Int) (a2 : Option Addr) (n2 cap2 : Nat) (a2' : Option Addr) (k2 cap2' : Nat) (how : Int) (w : World) (hh : how < 0 ∨ 15 < how) :
    Calls Try.prog 5 #[.agg #[.int .i64 b, .int .i64 t, .slice a n cap, .slice a' k cap'], .agg #[.int .i64 b2, .int .i64 t2, .slice a2 n2 cap2, .slice a2' k2 cap2'], .int .i64 how] w (PairR w 0 0 [] [] 1) := by
  have HB := hide (below_three w (.cells #[.int .i64 b, .int .i64 t, .slice a n cap, .slice a' k cap'] 25) (.cells #[.int .i64 b2, .int .i64 t2, .slice a2 n2 cap2, .slice a2' k2 cap2'] 25) (.cells #[.int .i64 0, .int .i64 0, .slice none 0 0, .slice none 0 0] 25))
  have HBX := hide (@three_boxes w _ (.int .i64 b) (.int .i64 t) (.slice a n cap) (.slice a' k cap') (.int .i64 b2) (.int .i64 t2) (.slice a2 n2 cap2) (.slice a2' k2 cap2') 25 (.cells #[.int .i64 0, .int .i64 0, .slice none 0 0, .slice none 0 0] 25) (Below.refl _ _)).1
  go_enter Try.func5, Try.ntmps5
  by_cases h0 : how < 0
  · have h0' : decide (how < 0) = true := by simpa using h0
    go_wp2
    obtain ⟨⟨z0, z1, z2, z3⟩, -⟩ := box_cells HBX.out
    exact bodyPost_ret (v := .tuple #[.agg #[.int .i64 0, .int .i64 0, .slice none 0 0, .slice none 0 0], .iface 37 (.int .i64 1)]) (by simp [results, Try.results5, go_sem, z0, z1, z2, z3]) rfl ⟨none, 0, none, 0, rfl, autoNew_nil _ _, HB.out⟩
  · have h1 : 16 ≤ how := by omega
    have h0' : decide (how < 0) = false := by simpa using h0
    go_wp2
    obtain ⟨⟨z0, z1, z2, z3⟩, -⟩ := box_cells HBX.out
    exact bodyPost_ret (v := .tuple #[.agg #[.int .i64 0, .int .i64 0, .slice none 0 0, .slice none 0 0], .iface 37 (.int .i64 1)]) (by simp [results, Try.results5, go_sem, z0, z1, z2, z3]) rfl ⟨none, 0, none, 0, rfl, autoNew_nil _ _, HB.out⟩

set_option maxHeartbeats 4000000 in
set_option maxRecDepth 8000 in
theorem both_in (b t : Int) (a : Option Addr) (n cap : Nat) (a' : Option Addr) (k cap' : Nat) (N : List (List Int)) (E : List Bool) (b2 t2 : Int) (a2 : Option Addr) (n2 cap2 : Nat) (a2' : Option Addr) (k2 cap2' : Nat) (N2 : List (List Int)) (E2 : List Bool) (how : Int) (w : World)
    (hs : Sl2 w a n N) (he : SlB w a' k E) (hs2 : Sl2 w a2 n2 N2) (he2 : SlB w a2' k2 E2) (h0 : 0 ≤ how) (h15 : how ≤ 15) (hC : alikeC b t N k b2 t2 N2 k2 ≠ 0) :
    Calls Try.prog 5 #[.agg #[.int .i64 b, .int .i64 t, .slice a n cap, .slice a' k cap'], .agg #[.int .i64 b2, .int .i64 t2, .slice a2 n2 cap2, .slice a2' k2 cap2'], .int .i64 how] w (PairR w 0 0 [] [] (alikeC b t N k b2 t2 N2 k2)) := by
  have hB := below_three w (.cells #[.int .i64 b, .int .i64 t, .slice a n cap, .slice a' k cap'] 25) (.cells #[.int .i64 b2, .int .i64 t2, .slice a2 n2 cap2, .slice a2' k2 cap2'] 25) (.cells #[.int .i64 0, .int .i64 0, .slice none 0 0, .slice none 0 0] 25)
  have HB := hide hB
  have HAL := hide (checkBoth_u b t a n cap a' k cap' b2 t2 a2 n2 cap2 a2' k2 cap2' N N2 _ (sl2_below hs hB) he.2.1 (sl2_below hs2 hB) he2.2.1)
  have HBX := hide (fun w' => @three_boxes w w' (.int .i64 b) (.int .i64 t) (.slice a n cap) (.slice a' k cap') (.int .i64 b2) (.int .i64 t2) (.slice a2 n2 cap2) (.slice a2' k2 cap2') 25 (.cells #[.int .i64 0, .int .i64 0, .slice none 0 0, .slice none 0 0] 25))
  clear hs he hs2 he2 hB
  unfold PairR
  rw [errV_no hC] at HAL ⊢
  generalize alikeC b t N k b2 t2 N2 k2 = c at HAL ⊢
  obtain ⟨-, hbb⟩ := HBX.out _ (Below.refl _ _)
  obtain ⟨⟨p0, p1, p2, p3⟩, q0, q1, q2, q3⟩ := two_boxes hbb
  have h0' : decide (how < 0) = false := by simp; omega
  have h1' : ¬ 16 ≤ how := by omega
  clear hbb
  go_enter Try.func5, Try.ntmps5
  go_wp2_with fail
  refine HAL.out.mono ?_
  rintro e w1 ⟨rfl, hb1⟩
  obtain ⟨hr, -⟩ := HBX.out w1 hb1
  obtain ⟨⟨r0, r1, r2, r3⟩, rf⟩ := box_cells hr
  have HR := hide hr
  have HB1 := hide (below_step HB.out hb1)
  clear hr hb1 p0 p1 p2 p3 q0 q1 q2 q3
  go_wp2
  obtain ⟨⟨hset, -, -⟩, hbel⟩ := box_set (v0 := .int .i64 0) (v1 := .int .i64 0) (v2 := .slice none 0 0) (v3 := .slice none 0 0) HR.out rfl
  obtain ⟨⟨z0, z1, z2, z3⟩, -⟩ := box_cells hset
  exact bodyPost_ret (v := .tuple #[.agg #[.int .i64 0, .int .i64 0, .slice none 0 0, .slice none 0 0], .iface 37 (.int .i64 c)]) (by simp [results, Try.results5, go_sem, z0, z1, z2, z3]) rfl ⟨none, 0, none, 0, rfl, autoNew_nil _ _, hbel _ _ HB1.out (by omega)⟩

/-- The least one, or too many. -/
def BothW (w : World) (b t : Int) (LN : List (List Int)) (LE : List Bool) (LK : Nat) (e : Ending) (w' : World) : Prop := (LK ≤ 80 → PairR w b t LN LE 0 e w') ∧ (80 < LK → PairR w 0 0 [] [] 3 e w')

set_option maxHeartbeats 4000000 in
set_option maxRecDepth 8000 in
theorem both_ok (b t : Int) (a : Option Addr) (n cap : Nat) (a' : Option Addr) (cap' : Nat) (N : List (List Int)) (E : List Bool) (a2 : Option Addr) (n2 cap2 : Nat) (a2' : Option Addr) (cap2' : Nat) (N2 : List (List Int)) (E2 : List Bool) (how : Int) (w : World)
    (hs : Sl2 w a n N) (he : SlB w a' n E) (hs2 : Sl2 w a2 n2 N2) (he2 : SlB w a2' n2 E2) (h0 : 0 ≤ how) (h15 : how ≤ 15) (hC : alikeC b t N n b t N2 n2 = 0) :
    Calls Try.prog 5 #[.agg #[.int .i64 b, .int .i64 t, .slice a n cap, .slice a' n cap'], .agg #[.int .i64 b, .int .i64 t, .slice a2 n2 cap2, .slice a2' n2 cap2'], .int .i64 how] w (BothW w b t (leastN (bothP b t N N2) (bothQ how N N2 E E2) (manyU b t).toNat) (leastE (bothP b t N N2) (bothQ how N N2 E E2) (manyU b t).toNat) (bothK b t how N N2 E E2)) := by
  obtain ⟨hA1, hA2, -, -⟩ := alikeC_zero hC
  obtain ⟨hM, -, hG, -⟩ := autoC_zero hA1
  obtain ⟨-, -, hG2, -⟩ := autoC_zero hA2
  have h80 := autoC_80 hA1
  have h80' := autoC_80 hA2
  have hL := hs.1
  have hL2 := hs2.1
  rw [hL] at hG h80
  rw [hL2] at hG2 h80'
  have hn : n * n2 ≤ 6400 := Nat.le_trans (Nat.mul_le_mul h80 h80') (by decide)
  have hB := below_three w (.cells #[.int .i64 b, .int .i64 t, .slice a n cap, .slice a' n cap'] 25) (.cells #[.int .i64 b, .int .i64 t, .slice a2 n2 cap2, .slice a2' n2 cap2'] 25) (.cells #[.int .i64 0, .int .i64 0, .slice none 0 0, .slice none 0 0] 25)
  have HB := hide hB
  have HAL := hide (checkBoth_u b t a n cap a' n cap' b t a2 n2 cap2 a2' n2 cap2' N N2 _ (sl2_below hs hB) he.2.1 (sl2_below hs2 hB) he2.2.1)
  rw [errV_yes hC] at HAL
  have HBX := hide (fun w' => @three_boxes w w' (.int .i64 b) (.int .i64 t) (.slice a n cap) (.slice a' n cap') (.int .i64 b) (.int .i64 t) (.slice a2 n2 cap2) (.slice a2' n2 cap2') 25 (.cells #[.int .i64 0, .int .i64 0, .slice none 0 0, .slice none 0 0] 25))
  have HCO := hide (fun W (h : Below _ _ W) => couples_any b t a n cap a' cap' (manyU b t).toNat N E b t a2 n2 cap2 a2' cap2' N2 E2 how W (sl2_below hs (below_step hB h)) (slB_below he (below_step hB h)) (sl2_below hs2 (below_step hB h)) (slB_below he2 (below_step hB h)) hG hG2 hn h0 h15)
  unfold GivesAuto at HCO
  have hP := prod_good hG hG2 hn
  have hCG := coup_good hP
  rw [← coup_len hP] at hCG
  have HLW := hide (fun ax cx ax' cx' W h1 h2 => leastw_any b t ax (coupN (prodN N N2 (manyU b t).toNat)).length cx (manyU b t).toNat (coupN (prodN N N2 (manyU b t).toNat)) ax' cx' (coupE (prodN N N2 (manyU b t).toNat) (prodE how n n2 E E2)) W h1 h2 hCG (autoM_good hM hCG (by have := hCG.2.2.1; omega)))
  obtain ⟨e1, e2, e3⟩ := coup_least hP (prodE how n n2 E E2)
  unfold LeastR LeastU at HLW
  rw [e1, e2, e3] at HLW
  have hbP : bothP b t N N2 = prodN N N2 (manyU b t).toNat := rfl
  have hbQ : bothQ how N N2 E E2 = prodE how n n2 E E2 := by unfold bothQ; rw [hL, hL2]
  unfold bothK
  rw [hbP, hbQ]
  clear hs he hs2 he2 hA1 hA2 hC hM hG hG2 h80 h80' hn hP hCG e1 e2 e3 hbP hbQ
  generalize coupN (prodN N N2 (manyU b t).toNat) = CN at HCO HLW
  generalize coupE (prodN N N2 (manyU b t).toNat) (prodE how n n2 E E2) = CE at HCO HLW
  generalize leastN (prodN N N2 (manyU b t).toNat) (prodE how n n2 E E2) (manyU b t).toNat = LN at HLW ⊢
  generalize leastE (prodN N N2 (manyU b t).toNat) (prodE how n n2 E E2) (manyU b t).toNat = LE at HLW ⊢
  generalize leastK (prodN N N2 (manyU b t).toNat) (prodE how n n2 E E2) (manyU b t).toNat = LK at HLW ⊢
  generalize hW0 : ((w.alloc (.cells #[.int .i64 b, .int .i64 t, .slice a n cap, .slice a' n cap'] 25)).alloc (.cells #[.int .i64 b, .int .i64 t, .slice a2 n2 cap2, .slice a2' n2 cap2'] 25)).alloc (.cells #[.int .i64 0, .int .i64 0, .slice none 0 0, .slice none 0 0] 25) = wb at HB HAL HBX HCO
  have HSZ0 : Hid (wb.heap.size = w.heap.size + 3) := by show _ = _; rw [← hW0]; simp
  obtain ⟨-, hbb⟩ := HBX.out wb (Below.refl _ _)
  obtain ⟨⟨p0, p1, p2, p3⟩, q0, q1, q2, q3⟩ := two_boxes hbb
  have h0' : decide (how < 0) = false := by simp; omega
  have h1' : ¬ 16 ≤ how := by omega
  clear hbb hB
  go_enter Try.func5, Try.ntmps5
  go_wp2_with fail
  clear hW0 p0 p1 p2 p3 q0 q1 q2 q3
  refine HAL.out.mono ?_
  rintro e w1 ⟨rfl, hb1⟩
  obtain ⟨-, hbb⟩ := HBX.out w1 hb1
  obtain ⟨⟨p0, p1, p2, p3⟩, q0, q1, q2, q3⟩ := two_boxes hbb
  have HB1 := hide hb1
  clear hb1 hbb HAL
  go_wp2_with fail
  clear p0 p1 p2 p3 q0 q1 q2 q3
  refine (HCO.out w1 HB1.out).mono ?_
  rintro e w2 ⟨ax, cx, ax', cx', rfl, hnew, hb2⟩
  have HB2 := hide (below_step HB1.out hb2)
  have HL2 := hide (HLW.out ax cx ax' cx' w2 hnew.here.1 hnew.here.2)
  clear hnew hb2 HCO HLW
  go_wp2_with fail
  refine HL2.out.mono ?_
  rintro e w3 ⟨hyes, hno⟩
  clear HL2
  by_cases hK : LK ≤ 80
  · obtain ⟨ay, cy, ay', cy', rfl, hnew, hb3⟩ := hyes hK
    obtain ⟨hr, -⟩ := HBX.out w3 (below_step HB2.out hb3)
    obtain ⟨⟨r0, r1, r2, r3⟩, rf⟩ := box_cells hr
    have HR := hide hr
    have HB3 := hide (below_step HB.out (below_step HB2.out hb3))
    have HNEW := hide hnew
    have HSW := hide HB2.out.size
    clear hr hb3 hyes hno hnew
    go_wp2
    obtain ⟨⟨hset, hsz, hoth⟩, hbel⟩ := box_set (v0 := .int .i64 b) (v1 := .int .i64 t) (v2 := .slice ay LN.length cy) (v3 := .slice ay' LN.length cy') HR.out rfl
    have hfin : AutoNew w ay LN.length LN ay' LE ((((w3.setCell ⟨w.heap.size + 2, 0, none⟩ (.int .i64 b)).setCell ⟨w.heap.size + 2, 1, none⟩ (.int .i64 t)).setCell ⟨w.heap.size + 2, 2, none⟩ (.slice ay LN.length cy)).setCell ⟨w.heap.size + 2, 3, none⟩ (.slice ay' LN.length cy')) := fun W' hW' => HNEW.out W' (fun x hx hxl => by
      have h1 := HSW.out
      have h2 := HSZ0.out
      rw [hW' x (by omega) (by rw [hsz]; exact hxl), hoth x (by omega)])
    have hb := hbel w w.heap.size HB3.out (by omega)
    obtain ⟨⟨z0, z1, z2, z3⟩, -⟩ := box_cells hset
    exact bodyPost_ret (v := .tuple #[.agg #[.int .i64 b, .int .i64 t, .slice ay LN.length cy, .slice ay' LN.length cy'], .nilIface]) (by simp [results, Try.results5, go_sem, z0, z1, z2, z3]) rfl ⟨fun _ => ⟨ay, cy, ay', cy', rfl, hfin, hb⟩, fun h => by omega⟩
  · obtain ⟨rfl, hb3⟩ := hno (by omega)
    obtain ⟨hr, -⟩ := HBX.out w3 (below_step HB2.out hb3)
    obtain ⟨⟨r0, r1, r2, r3⟩, rf⟩ := box_cells hr
    have HR := hide hr
    have HB3 := hide (below_step HB.out (below_step HB2.out hb3))
    clear hr hb3 hyes hno
    go_wp2
    obtain ⟨⟨hset, hsz, hoth⟩, hbel⟩ := box_set (v0 := .int .i64 0) (v1 := .int .i64 0) (v2 := .slice none 0 0) (v3 := .slice none 0 0) HR.out rfl
    have hb := hbel w w.heap.size HB3.out (by omega)
    obtain ⟨⟨z0, z1, z2, z3⟩, -⟩ := box_cells hset
    exact bodyPost_ret (v := .tuple #[.agg #[.int .i64 0, .int .i64 0, .slice none 0 0, .slice none 0 0], .iface 37 (.int .i64 3)]) (by simp [results, Try.results5, go_sem, z0, z1, z2, z3]) rfl ⟨fun h => by omega, fun _ => ⟨none, 0, none, 0, rfl, autoNew_nil _ _, hb⟩⟩

theorem both_u (b t : Int) (a : Option Addr) (n cap : Nat) (a' : Option Addr) (k cap' : Nat) (N : List (List Int)) (E : List Bool) (b2 t2 : Int) (a2 : Option Addr) (n2 cap2 : Nat) (a2' : Option Addr) (k2 cap2' : Nat) (N2 : List (List Int)) (E2 : List Bool) (how : Int) (w : World)
    (hs : Sl2 w a n N) (he : SlB w a' k E) (hs2 : Sl2 w a2 n2 N2) (he2 : SlB w a2' k2 E2) :
    Calls Try.prog 5 #[.agg #[.int .i64 b, .int .i64 t, .slice a n cap, .slice a' k cap'], .agg #[.int .i64 b2, .int .i64 t2, .slice a2 n2 cap2, .slice a2' k2 cap2'], .int .i64 how] w (PairR w (okI (bothC how b t N E k b2 t2 N2 E2 k2) b) (okI (bothC how b t N E k b2 t2 N2 E2 k2) t) (bothN how b t N E k b2 t2 N2 E2 k2) (bothE how b t N E k b2 t2 N2 E2 k2) (bothC how b t N E k b2 t2 N2 E2 k2)) := by
  by_cases hh : 0 ≤ how ∧ how ≤ 15
  · by_cases hC : alikeC b t N k b2 t2 N2 k2 = 0
    · obtain ⟨hA1, hA2, rfl, rfl⟩ := alikeC_zero hC
      obtain rfl : k = n := by rw [(autoC_zero hA1).2.1, hs.1]
      obtain rfl : k2 = n2 := by rw [(autoC_zero hA2).2.1, hs2.1]
      refine (both_ok b t a k cap a' cap' N E a2 k2 cap2 a2' cap2' N2 E2 how w hs he hs2 he2 hh.1 hh.2 hC).mono ?_
      rintro e w' ⟨h1, h2⟩
      by_cases hK : bothK b t how N N2 E E2 ≤ 80
      · have hc : bothC how b t N E k b t N2 E2 k2 = 0 := by unfold bothC; rw [if_pos hh, if_pos hC, if_pos hK]
        unfold bothN bothE okI
        rw [hc, if_pos rfl, if_pos rfl, if_pos rfl, if_pos rfl]
        exact h1 hK
      · have hc : bothC how b t N E k b t N2 E2 k2 = 3 := by unfold bothC; rw [if_pos hh, if_pos hC, if_neg hK]
        unfold bothN bothE okI
        rw [hc, if_neg (by decide), if_neg (by decide), if_neg (by decide), if_neg (by decide)]
        exact h2 (by omega)
    · have hc := @alikeC_of b t N k b2 t2 N2 k2 how E E2 hh.1 hh.2 hC
      unfold bothN bothE okI
      rw [hc, if_neg hC, if_neg hC, if_neg hC, if_neg hC]
      exact both_in b t a n cap a' k cap' N E b2 t2 a2 n2 cap2 a2' k2 cap2' N2 E2 how w hs he hs2 he2 hh.1 hh.2 hC
  · have hc : bothC how b t N E k b2 t2 N2 E2 k2 = 1 := by unfold bothC; rw [if_neg hh]
    unfold bothN bothE okI
    rw [hc, if_neg (by decide), if_neg (by decide), if_neg (by decide), if_neg (by decide)]
    exact both_range b t a n cap a' k cap' b2 t2 a2 n2 cap2 a2' k2 cap2' how w (by omega)
end Go.Proofs.Ytihhlddbppljpac

/- The walk of the law PairTakes. -/
namespace Go.Proofs.Ytihhlddbppljpac
open Go.RowKit

theorem fact_pair : bothC 6 2 1 [[0, 1], [1, 0]] [false, true] 2 2 1 [[0, 1], [1, 0]] [false, true] 2 = 0 ∧ (bothN 6 2 1 [[0, 1], [1, 0]] [false, true] 2 2 1 [[0, 1], [1, 0]] [false, true] 2).length = 1 ∧ (bothE 6 2 1 [[0, 1], [1, 0]] [false, true] 2 2 1 [[0, 1], [1, 0]] [false, true] 2).getD 0 false = false := by
  refine ⟨?_, ?_, ?_⟩ <;> decide +kernel
/-- What stands between two calls: both automata in their boxes, and the word. -/
def PtAt (w W : World) (b t : Int) (a : Option Addr) (n cap : Nat) (a' : Option Addr) (k cap' : Nat) (N : List (List Int)) (E : List Bool) (b2 t2 : Int) (a2 : Option Addr) (n2 cap2 : Nat) (a2' : Option Addr) (k2 cap2' : Nat) (N2 : List (List Int)) (E2 : List Bool) (aw : Option Addr) (lw : Nat) (l : List Int) : Prop :=
  Below w.heap.size w W ∧ AutoAt W w.heap.size b t a n cap a' k cap' N E ∧ AutoAt W (w.heap.size + 1) b2 t2 a2 n2 cap2 a2' k2 cap2' N2 E2 ∧ Sl W aw lw l
theorem ptAt_step {w W W' : World} {b t : Int} {a : Option Addr} {n cap : Nat} {a' : Option Addr} {k cap' : Nat} {N : List (List Int)} {E : List Bool} {b2 t2 : Int} {a2 : Option Addr} {n2 cap2 : Nat} {a2' : Option Addr} {k2 cap2' : Nat} {N2 : List (List Int)} {E2 : List Bool} {aw : Option Addr} {lw : Nat} {l : List Int} (h : PtAt w W b t a n cap a' k cap' N E b2 t2 a2 n2 cap2 a2' k2 cap2' N2 E2 aw lw l) (hb : Below W.heap.size W W') : PtAt w W' b t a n cap a' k cap' N E b2 t2 a2 n2 cap2 a2' k2 cap2' N2 E2 aw lw l :=
  ⟨below_step h.1 hb, autoAt_below h.2.1 hb, autoAt_below h.2.2.1 hb, sl_below h.2.2.2 hb⟩

/-- Where both are well. -/
theorem both_well {how b t b2 t2 : Int} {N N2 : List (List Int)} {E E2 : List Bool} {k k2 : Nat} (hc : bothC how b t N E k b2 t2 N2 E2 k2 = 0) :
    (0 ≤ how ∧ how ≤ 15) ∧ b2 = b ∧ t2 = t ∧ autoC b t N k = 0 ∧ autoC b t N2 k2 = 0 ∧ autoC b t (bothN how b t N E k b2 t2 N2 E2 k2) (bothN how b t N E k b2 t2 N2 E2 k2).length = 0 ∧ (bothE how b t N E k b2 t2 N2 E2 k2).length = (bothN how b t N E k b2 t2 N2 E2 k2).length ∧
      ∀ w, okW (manyU b t).toNat w → tkB (bothN how b t N E k b2 t2 N2 E2 k2) (bothE how b t N E k b2 t2 N2 E2 k2) w = howB how (tkB N E w) (tkB N2 E2 w) := by
  have hN : bothN how b t N E k b2 t2 N2 E2 k2 = leastN (bothP b t N N2) (bothQ how N N2 E E2) (manyU b t).toNat := by unfold bothN; rw [if_pos hc]
  have hEE : bothE how b t N E k b2 t2 N2 E2 k2 = leastE (bothP b t N N2) (bothQ how N N2 E E2) (manyU b t).toNat := by unfold bothE; rw [if_pos hc]
  rw [hN, hEE]
  unfold bothC at hc
  split at hc
  · rename_i hh
    split at hc
    · rename_i hC
      split at hc
      · rename_i hK
        obtain ⟨hA1, hA2, rfl, rfl⟩ := alikeC_zero hC
        obtain ⟨hM, hk1, hG, -⟩ := autoC_zero hA1
        obtain ⟨-, hk2, hG2, -⟩ := autoC_zero hA2
        have h80 := autoC_80 hA1
        have h80' := autoC_80 hA2
        have hn : N.length * N2.length ≤ 6400 := Nat.le_trans (Nat.mul_le_mul h80 h80') (by decide)
        have hP := prod_good hG hG2 hn
        have hL := least_good hP (bothQ how N N2 E E2)
        refine ⟨hh, rfl, rfl, hA1, hA2, ?_, by rw [leastN_len, leastE_len], fun w hw => ?_⟩
        · have := autoC_good hM hL hK
          rwa [← leastN_len] at this
        · exact both_tk hG hG2 hn how E E2 w hw
      · cases hc
    · rename_i hC
      exact absurd hc hC
  · cases hc

set_option maxHeartbeats 16000000 in
set_option maxRecDepth 8000 in
theorem ptakes_any (b t : Int) (a : Option Addr) (n cap : Nat) (a' : Option Addr) (k cap' : Nat) (N : List (List Int)) (E : List Bool) (b2 t2 : Int) (a2 : Option Addr) (n2 cap2 : Nat) (a2' : Option Addr) (k2 cap2' : Nat) (N2 : List (List Int)) (E2 : List Bool) (how : Int) (aw : Option Addr) (lw cw : Nat) (l : List Int) (w : World) (hs : Sl2 w a n N) (he : SlB w a' k E) (hs2 : Sl2 w a2 n2 N2) (he2 : SlB w a2' k2 E2) (hw : Sl w aw lw l) :
    Calls Try.prog 3 #[.agg #[.int .i64 b, .int .i64 t, .slice a n cap, .slice a' k cap'], .agg #[.int .i64 b2, .int .i64 t2, .slice a2 n2 cap2, .slice a2' k2 cap2'], .int .i64 how, .slice aw lw cw] w fun e w' => e = .returned (.bool true) ∧ Below w.heap.size w w' := by
  have hB0 := below_two w (.cells #[.int .i64 b, .int .i64 t, .slice a n cap, .slice a' k cap'] 25) (.cells #[.int .i64 b2, .int .i64 t2, .slice a2 n2 cap2, .slice a2' k2 cap2'] 25)
  have hbx := two_boxes (Below.refl _ ((w.alloc (.cells #[.int .i64 b, .int .i64 t, .slice a n cap, .slice a' k cap'] 25)).alloc (.cells #[.int .i64 b2, .int .i64 t2, .slice a2 n2 cap2, .slice a2' k2 cap2'] 25)))
  have H0 : Hid (PtAt w _ b t a n cap a' k cap' N E b2 t2 a2 n2 cap2 a2' k2 cap2' N2 E2 aw lw l) := ⟨hB0, ⟨hbx.1, sl2_below hs hB0, slB_below he hB0⟩, ⟨hbx.2, sl2_below hs2 hB0, slB_below he2 hB0⟩, sl_below hw hB0⟩
  have HBT := hide (fun a1 c1 a1' c1' a3 c3 a3' c3' W h1 h2 h3 h4 => both_u 2 1 a1 2 c1 a1' 2 c1' [[0, 1], [1, 0]] [false, true] 2 1 a3 2 c3 a3' 2 c3' [[0, 1], [1, 0]] [false, true] 6 W h1 h2 h3 h4)
  obtain ⟨f1, f2, f3⟩ := fact_pair
  unfold PairR at HBT
  rw [f1, f2, show okI 0 2 = 2 from rfl, show okI 0 1 = 1 from rfl, errV_yes rfl] at HBT
  have HF3 := hide f3
  clear f1 f2 f3
  generalize bothN 6 2 1 [[0, 1], [1, 0]] [false, true] 2 2 1 [[0, 1], [1, 0]] [false, true] 2 = FN at HBT
  generalize bothE 6 2 1 [[0, 1], [1, 0]] [false, true] 2 2 1 [[0, 1], [1, 0]] [false, true] 2 = FE at HBT HF3
  have hE := he.1
  have hE2 := he2.1
  have HBO := hide (fun W h1 h2 h3 h4 => both_u b t a n cap a' k cap' N E b2 t2 a2 n2 cap2 a2' k2 cap2' N2 E2 how W h1 h2 h3 h4)
  unfold PairR at HBO
  clear hs he hs2 he2 hw hB0 hbx
  generalize hW0 : (w.alloc (.cells #[.int .i64 b, .int .i64 t, .slice a n cap, .slice a' k cap'] 25)).alloc (.cells #[.int .i64 b2, .int .i64 t2, .slice a2 n2 cap2, .slice a2' k2 cap2'] 25) = w0 at H0
  go_enter Try.func3, Try.ntmps3
  go_wp2_with fail
  clear hW0
  refine (twos_any w0).mono ?_
  rintro e w1 ⟨u1, c1, u1', c1', rfl, hs1, he1, hb1⟩
  have H1 := hide (ptAt_step H0.out hb1)
  have HS1 := hide hs1
  have HE1 := hide he1
  clear hs1 he1 hb1 H0
  go_wp2_with fail
  refine (twos_any w1).mono ?_
  rintro e w2 ⟨u3, c3, u3', c3', rfl, hs3, he3, hb2⟩
  have H2 := hide (ptAt_step H1.out hb2)
  have HC := hide (HBT.out u1 c1 u1' c1' u3 c3 u3' c3' w2 (sl2_below HS1.out hb2) (slB_below HE1.out hb2) hs3 he3)
  clear hs3 he3 hb2 H1 HS1 HE1 HBT
  go_wp2_with fail
  refine HC.out.mono ?_
  rintro e w3 ⟨ax, cx, ax', cx', rfl, hnew, hb3⟩
  have hbz := (Below.refl w3.heap.size w3).alloc (Nat.le_refl _) (.cells #[.int .i64 2, .int .i64 1, .slice ax 1 cx, .slice ax' 1 cx'] 25)
  have H4 := hide (ptAt_step (ptAt_step H2.out hb3) hbz)
  have hfE := (hnew.below hbz).here.2
  have hfx := heap_alloc_last w3 (.cells #[.int .i64 2, .int .i64 1, .slice ax 1 cx, .slice ax' 1 cx'] 25)
  obtain ⟨⟨r0, r1, r2, r3⟩, -⟩ := box_cells hfx
  obtain ⟨be, oe, rfl, hce⟩ := slB_cell hfE 0 (by omega)
  rw [HF3.out, Nat.add_zero] at hce
  obtain ⟨p0, p1, p2, p3⟩ := H4.out.2.1.1
  obtain ⟨q0, q1, q2, q3⟩ := H4.out.2.2.1.1
  clear hnew hb3 hbz H2 HC hfE hfx HF3
  go_wp2_with fail
  clear p0 p1 p2 p3 q0 q1 q2 q3 r0 r1 r2 r3 hce
  generalize w3.alloc (.cells #[.int .i64 2, .int .i64 1, .slice ax 1 cx, .slice (some ⟨be, oe, none⟩) 1 cx'] 25) = w4 at H4 ⊢
  refine (HBO.out w4 H4.out.2.1.2.1 H4.out.2.1.2.2 H4.out.2.2.1.2.1 H4.out.2.2.1.2.2).mono ?_
  rintro e w5 ⟨am, cm, am', cm', rfl, hnew, hb5⟩
  have HW := hide (fun h => @both_well how b t b2 t2 N N2 E E2 k k2 h)
  generalize bothN how b t N E k b2 t2 N2 E2 k2 = MN at hnew HW ⊢
  generalize bothE how b t N E k b2 t2 N2 E2 k2 = ME at hnew HW ⊢
  generalize bothC how b t N E k b2 t2 N2 E2 k2 = c at hnew HW ⊢
  have H5 := hide (ptAt_step H4.out hb5)
  have HNEW := hide hnew
  clear hnew hb5 H4 HBO
  by_cases hc : c = 0
  · obtain ⟨hh, rfl, rfl, hA1, hA2, hAM, hML, hTK⟩ := HW.out hc
    rw [errV_yes hc, show okI c b2 = b2 by unfold okI; rw [if_pos hc], show okI c t2 = t2 by unfold okI; rw [if_pos hc]]
    clear hc HW
    have hr1 : runC b2 t2 N k l = wordC (manyU b2 t2).toNat l := by unfold runC; rw [if_pos hA1]
    have hr2 : runC b2 t2 N2 k2 l = wordC (manyU b2 t2).toNat l := by unfold runC; rw [if_pos hA2]
    have hrM : runC b2 t2 MN MN.length l = wordC (manyU b2 t2).toNat l := by unfold runC; rw [if_pos hAM]
    have ht1 : takesB b2 t2 N E l = if wordC (manyU b2 t2).toNat l = 0 then tkB N E l else false := by unfold takesB; rw [hE, hr1]; rfl
    have ht2 : takesB b2 t2 N2 E2 l = if wordC (manyU b2 t2).toNat l = 0 then tkB N2 E2 l else false := by unfold takesB; rw [hE2, hr2]; rfl
    have htM : takesB b2 t2 MN ME l = if wordC (manyU b2 t2).toNat l = 0 then tkB MN ME l else false := by unfold takesB; rw [hML, hrM]; rfl
    have HT1 := hide (fun W h1 h2 h3 => takes_u b2 t2 a a' n cap k cap' N E aw lw cw l W h1 h2 h3)
    have HT2 := hide (fun W h1 h2 h3 => takes_u b2 t2 a2 a2' n2 cap2 k2 cap2' N2 E2 aw lw cw l W h1 h2 h3)
    have HTM := hide (fun W h1 h2 h3 => takes_u b2 t2 am am' MN.length cm MN.length cm' MN ME aw lw cw l W h1 h2 h3)
    rw [ht1, hr1] at HT1
    rw [ht2, hr2] at HT2
    rw [htM, hrM] at HTM
    have HTK : Hid (wordC (manyU b2 t2).toNat l = 0 → tkB MN ME l = howB how (tkB N E l) (tkB N2 E2 l)) := fun h => hTK l (fun z hz => by
      obtain ⟨i, hi, rfl⟩ := List.getElem_of_mem hz
      have := (wordC_zero h).2 i hi
      rwa [getD_at _ i hi] at this)
    clear hr1 hr2 hrM ht1 ht2 htM hTK hA1 hA2 hAM
    generalize wordC (manyU b2 t2).toNat l = wc at HT1 HT2 HTM HTK
    generalize tkB N E l = tx at HT1 HTK
    generalize tkB N2 E2 l = ty at HT2 HTK
    generalize tkB MN ME l = tz at HTM HTK
    by_cases hc : wc = 0
    · have hk := HTK.out hc
      rw [errV_yes hc, if_pos hc] at HT1 HT2 HTM
      rw [hk] at HTM
      clear hc hk HTK
      have hbz := (Below.refl w5.heap.size w5).alloc (Nat.le_refl _) (.cells #[.int .i64 b2, .int .i64 t2, .slice am MN.length cm, .slice am' MN.length cm'] 25)
      have H6 := hide (ptAt_step H5.out hbz)
      have HM6 := hide (autoAt_new (b := b2) (t := t2) (cap := cm) (cap' := cm') (T := 25) HNEW.out.here.1 HNEW.out.here.2)
      obtain ⟨p0, p1, p2, p3⟩ := H6.out.2.1.1
      clear hbz H5 HNEW
      go_wp2_with fail
      clear p0 p1 p2 p3
      generalize w5.alloc (.cells #[.int .i64 b2, .int .i64 t2, .slice am MN.length cm, .slice am' MN.length cm'] 25) = w6 at H6 HM6 ⊢
      refine (HT1.out w6 H6.out.2.1.2.1 H6.out.2.1.2.2 H6.out.2.2.2).mono ?_
      rintro e w7 ⟨rfl, hb7⟩
      have H7 := hide (ptAt_step H6.out hb7)
      have HM7 := hide (autoAt_below HM6.out hb7)
      obtain ⟨p0, p1, p2, p3⟩ := H7.out.2.2.1.1
      clear hb7 H6 HM6 HT1
      go_wp2_with fail
      clear p0 p1 p2 p3
      refine (HT2.out w7 H7.out.2.2.1.2.1 H7.out.2.2.1.2.2 H7.out.2.2.2).mono ?_
      rintro e w8 ⟨rfl, hb8⟩
      have H8 := hide (ptAt_step H7.out hb8)
      have HM8 := hide (autoAt_below HM7.out hb8)
      obtain ⟨p0, p1, p2, p3⟩ := HM8.out.1
      clear hb8 H7 HM7 HT2
      go_wp2_with fail
      clear p0 p1 p2 p3
      refine (HTM.out w8 HM8.out.2.1 HM8.out.2.2 H8.out.2.2.2).mono ?_
      rintro e w9 ⟨rfl, hb9⟩
      have H9 := hide (below_step H8.out.1 hb9)
      clear hb9 H8 HM8 HTM
      go_wp2
      go_quiet (fail)
      go_wp2
      all_goals
        go_ret
        exact ⟨by simp [howB], below_drewN H9.out nq⟩
    · rw [errV_no hc, if_neg hc] at HT1 HT2 HTM
      clear hc HTK
      have hbz := (Below.refl w5.heap.size w5).alloc (Nat.le_refl _) (.cells #[.int .i64 b2, .int .i64 t2, .slice am MN.length cm, .slice am' MN.length cm'] 25)
      have H6 := hide (ptAt_step H5.out hbz)
      have HM6 := hide (autoAt_new (b := b2) (t := t2) (cap := cm) (cap' := cm') (T := 25) HNEW.out.here.1 HNEW.out.here.2)
      obtain ⟨p0, p1, p2, p3⟩ := H6.out.2.1.1
      clear hbz H5 HNEW
      go_wp2_with fail
      clear p0 p1 p2 p3
      generalize w5.alloc (.cells #[.int .i64 b2, .int .i64 t2, .slice am MN.length cm, .slice am' MN.length cm'] 25) = w6 at H6 HM6 ⊢
      refine (HT1.out w6 H6.out.2.1.2.1 H6.out.2.1.2.2 H6.out.2.2.2).mono ?_
      rintro e w7 ⟨rfl, hb7⟩
      have H7 := hide (ptAt_step H6.out hb7)
      have HM7 := hide (autoAt_below HM6.out hb7)
      obtain ⟨p0, p1, p2, p3⟩ := H7.out.2.2.1.1
      clear hb7 H6 HM6 HT1
      go_wp2_with fail
      clear p0 p1 p2 p3
      refine (HT2.out w7 H7.out.2.2.1.2.1 H7.out.2.2.1.2.2 H7.out.2.2.2).mono ?_
      rintro e w8 ⟨rfl, hb8⟩
      have H8 := hide (ptAt_step H7.out hb8)
      have HM8 := hide (autoAt_below HM7.out hb8)
      obtain ⟨p0, p1, p2, p3⟩ := HM8.out.1
      clear hb8 H7 HM7 HT2
      go_wp2_with fail
      clear p0 p1 p2 p3
      refine (HTM.out w8 HM8.out.2.1 HM8.out.2.2 H8.out.2.2.2).mono ?_
      rintro e w9 ⟨rfl, hb9⟩
      have H9 := hide (below_step H8.out.1 hb9)
      clear hb9 H8 HM8 HTM
      go_wp2
      go_quiet (fail)
      go_wp2
      go_ret
      exact ⟨by simp, below_drewN H9.out nq⟩
  · rw [errV_no hc]
    have HC := hide hc
    clear hc HW
    go_wp2
    go_ret
    exact ⟨by simp, H5.out.1.alloc H5.out.1.size _⟩
end Go.Proofs.Ytihhlddbppljpac
