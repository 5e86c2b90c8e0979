/- 4 texts in one. -/
import Derived.Test.YtihhlddbppljpacBy
import Derived.Test.YtihhlddbppljpacDd
import Derived.Test.YtihhlddbppljpacZDb
import Derived.Test.YtihhlddbppljpacAx
import Derived.Test.YtihhlddbppljpacZDh
/- pair.Both: contract. -/
namespace Go.Proofs.Ytihhlddbppljpac
open Go.RowKit

set_option maxHeartbeats 4000000 in
set_option maxRecDepth 8000 in
theorem both_range (b t : Int) (a : Option Addr) (n cap : Nat) (a' : Option Addr) (k cap' : Nat) (b2 t2 : Int) (a2 : Option Addr) (n2 cap2 : Nat) (a2' : Option Addr) (k2 cap2' : Nat) (how : Int) (w : World) (hh : how < 0 ∨ 15 < how) :
    Calls Try.prog 5 #[.agg #[.int .i64 b, .int .i64 t, .slice a n cap, .slice a' k cap'], .agg #[.int .i64 b2, .int .i64 t2, .slice a2 n2 cap2, .slice a2' k2 cap2'], .int .i64 how] w (PairR w 0 0 [] [] 1) := by
  have HB := hide (below_three w (.cells #[.int .i64 b, .int .i64 t, .slice a n cap, .slice a' k cap'] 25) (.cells #[.int .i64 b2, .int .i64 t2, .slice a2 n2 cap2, .slice a2' k2 cap2'] 25) (.cells #[.int .i64 0, .int .i64 0, .slice none 0 0, .slice none 0 0] 25))
  have HBX := hide (@three_boxes w _ (.int .i64 b) (.int .i64 t) (.slice a n cap) (.slice a' k cap') (.int .i64 b2) (.int .i64 t2) (.slice a2 n2 cap2) (.slice a2' k2 cap2') 25 (.cells #[.int .i64 0, .int .i64 0, .slice none 0 0, .slice none 0 0] 25) (Below.refl _ _)).1
  go_enter Try.func5, Try.ntmps5
  by_cases h0 : how < 0
  · have h0' : decide (how < 0) = true := by simpa using h0
    go_wp2
    obtain ⟨⟨z0, z1, z2, z3⟩, -⟩ := box_cells HBX.out
    exact bodyPost_ret (v := .tuple #[.agg #[.int .i64 0, .int .i64 0, .slice none 0 0, .slice none 0 0], .iface 37 (.int .i64 1)]) (by simp [results, Try.results5, go_sem, z0, z1, z2, z3]) rfl ⟨none, 0, none, 0, rfl, autoNew_nil _ _, HB.out⟩
  · have h1 : 16 ≤ how := by omega
    have h0' : decide (how < 0) = false := by simpa using h0
    go_wp2
    obtain ⟨⟨z0, z1, z2, z3⟩, -⟩ := box_cells HBX.out
    exact bodyPost_ret (v := .tuple #[.agg #[.int .i64 0, .int .i64 0, .slice none 0 0, .slice none 0 0], .iface 37 (.int .i64 1)]) (by simp [results, Try.results5, go_sem, z0, z1, z2, z3]) rfl ⟨none, 0, none, 0, rfl, autoNew_nil _ _, HB.out⟩

set_option maxHeartbeats 4000000 in
set_option maxRecDepth 8000 in
theorem both_in (b t : Int) (a : Option Addr) (n cap : Nat) (a' : Option Addr) (k cap' : Nat) (N : List (List Int)) (E : List Bool) (b2 t2 : Int) (a2 : Option Addr) (n2 cap2 : Nat) (a2' : Option Addr) (k2 cap2' : Nat) (N2 : List (List Int)) (E2 : List Bool) (how : Int) (w : World)
    (hs : Sl2 w a n N) (he : SlB w a' k E) (hs2 : Sl2 w a2 n2 N2) (he2 : SlB w a2' k2 E2) (h0 : 0 ≤ how) (h15 : how ≤ 15) (hC : alikeC b t N k b2 t2 N2 k2 ≠ 0) :
    Calls Try.prog 5 #[.agg #[.int .i64 b, .int .i64 t, .slice a n cap, .slice a' k cap'], .agg #[.int .i64 b2, .int .i64 t2, .slice a2 n2 cap2, .slice a2' k2 cap2'], .int .i64 how] w (PairR w 0 0 [] [] (alikeC b t N k b2 t2 N2 k2)) := by
  have hB := below_three w (.cells #[.int .i64 b, .int .i64 t, .slice a n cap, .slice a' k cap'] 25) (.cells #[.int .i64 b2, .int .i64 t2, .slice a2 n2 cap2, .slice a2' k2 cap2'] 25) (.cells #[.int .i64 0, .int .i64 0, .slice none 0 0, .slice none 0 0] 25)
  have HB := hide hB
  have HAL := hide (checkBoth_u b t a n cap a' k cap' b2 t2 a2 n2 cap2 a2' k2 cap2' N N2 _ (sl2_below hs hB) he.2.1 (sl2_below hs2 hB) he2.2.1)
  have HBX := hide (fun w' => @three_boxes w w' (.int .i64 b) (.int .i64 t) (.slice a n cap) (.slice a' k cap') (.int .i64 b2) (.int .i64 t2) (.slice a2 n2 cap2) (.slice a2' k2 cap2') 25 (.cells #[.int .i64 0, .int .i64 0, .slice none 0 0, .slice none 0 0] 25))
  clear hs he hs2 he2 hB
  unfold PairR
  rw [errV_no hC] at HAL ⊢
  generalize alikeC b t N k b2 t2 N2 k2 = c at HAL ⊢
  obtain ⟨-, hbb⟩ := HBX.out _ (Below.refl _ _)
  obtain ⟨⟨p0, p1, p2, p3⟩, q0, q1, q2, q3⟩ := two_boxes hbb
  have h0' : decide (how < 0) = false := by simp; omega
  have h1' : ¬ 16 ≤ how := by omega
  clear hbb
  go_enter Try.func5, Try.ntmps5
  go_wp2_with fail
  refine HAL.out.mono ?_
  rintro e w1 ⟨rfl, hb1⟩
  obtain ⟨hr, -⟩ := HBX.out w1 hb1
  obtain ⟨⟨r0, r1, r2, r3⟩, rf⟩ := box_cells hr
  have HR := hide hr
  have HB1 := hide (below_step HB.out hb1)
  clear hr hb1 p0 p1 p2 p3 q0 q1 q2 q3
  go_wp2
  obtain ⟨⟨hset, -, -⟩, hbel⟩ := box_set (v0 := .int .i64 0) (v1 := .int .i64 0) (v2 := .slice none 0 0) (v3 := .slice none 0 0) HR.out rfl
  obtain ⟨⟨z0, z1, z2, z3⟩, -⟩ := box_cells hset
  exact bodyPost_ret (v := .tuple #[.agg #[.int .i64 0, .int .i64 0, .slice none 0 0, .slice none 0 0], .iface 37 (.int .i64 c)]) (by simp [results, Try.results5, go_sem, z0, z1, z2, z3]) rfl ⟨none, 0, none, 0, rfl, autoNew_nil _ _, hbel _ _ HB1.out (by omega)⟩

/-- The least one, or too many. -/
def BothW (w : World) (b t : Int) (LN : List (List Int)) (LE : List Bool) (LK : Nat) (e : Ending) (w' : World) : Prop := (LK ≤ 80 → PairR w b t LN LE 0 e w') ∧ (80 < LK → PairR w 0 0 [] [] 3 e w')

set_option maxHeartbeats 4000000 in
set_option maxRecDepth 8000 in
theorem both_ok (b t : Int) (a : Option Addr) (n cap : Nat) (a' : Option Addr) (cap' : Nat) (N : List (List Int)) (E : List Bool) (a2 : Option Addr) (n2 cap2 : Nat) (a2' : Option Addr) (cap2' : Nat) (N2 : List (List Int)) (E2 : List Bool) (how : Int) (w : World)
    (hs : Sl2 w a n N) (he : SlB w a' n E) (hs2 : Sl2 w a2 n2 N2) (he2 : SlB w a2' n2 E2) (h0 : 0 ≤ how) (h15 : how ≤ 15) (hC : alikeC b t N n b t N2 n2 = 0) :
    Calls Try.prog 5 #[.agg #[.int .i64 b, .int .i64 t, .slice a n cap, .slice a' n cap'], .agg #[.int .i64 b, .int .i64 t, .slice a2 n2 cap2, .slice a2' n2 cap2'], .int .i64 how] w (BothW w b t (leastN (bothP b t N N2) (bothQ how N N2 E E2) (manyU b t).toNat) (leastE (bothP b t N N2) (bothQ how N N2 E E2) (manyU b t).toNat) (bothK b t how N N2 E E2)) := by
  obtain ⟨hA1, hA2, -, -⟩ := alikeC_zero hC
  obtain ⟨hM, -, hG, -⟩ := autoC_zero hA1
  obtain ⟨-, -, hG2, -⟩ := autoC_zero hA2
  have h80 := autoC_80 hA1
  have h80' := autoC_80 hA2
  have hL := hs.1
  have hL2 := hs2.1
  rw [hL] at hG h80
  rw [hL2] at hG2 h80'
  have hn : n * n2 ≤ 6400 := Nat.le_trans (Nat.mul_le_mul h80 h80') (by decide)
  have hB := below_three w (.cells #[.int .i64 b, .int .i64 t, .slice a n cap, .slice a' n cap'] 25) (.cells #[.int .i64 b, .int .i64 t, .slice a2 n2 cap2, .slice a2' n2 cap2'] 25) (.cells #[.int .i64 0, .int .i64 0, .slice none 0 0, .slice none 0 0] 25)
  have HB := hide hB
  have HAL := hide (checkBoth_u b t a n cap a' n cap' b t a2 n2 cap2 a2' n2 cap2' N N2 _ (sl2_below hs hB) he.2.1 (sl2_below hs2 hB) he2.2.1)
  rw [errV_yes hC] at HAL
  have HBX := hide (fun w' => @three_boxes w w' (.int .i64 b) (.int .i64 t) (.slice a n cap) (.slice a' n cap') (.int .i64 b) (.int .i64 t) (.slice a2 n2 cap2) (.slice a2' n2 cap2') 25 (.cells #[.int .i64 0, .int .i64 0, .slice none 0 0, .slice none 0 0] 25))
  have HCO := hide (fun W (h : Below _ _ W) => couples_any b t a n cap a' cap' (manyU b t).toNat N E b t a2 n2 cap2 a2' cap2' N2 E2 how W (sl2_below hs (below_step hB h)) (slB_below he (below_step hB h)) (sl2_below hs2 (below_step hB h)) (slB_below he2 (below_step hB h)) hG hG2 hn h0 h15)
  unfold GivesAuto at HCO
  have hP := prod_good hG hG2 hn
  have hCG := coup_good hP
  rw [← coup_len hP] at hCG
  have HLW := hide (fun ax cx ax' cx' W h1 h2 => leastw_any b t ax (coupN (prodN N N2 (manyU b t).toNat)).length cx (manyU b t).toNat (coupN (prodN N N2 (manyU b t).toNat)) ax' cx' (coupE (prodN N N2 (manyU b t).toNat) (prodE how n n2 E E2)) W h1 h2 hCG (autoM_good hM hCG (by have := hCG.2.2.1; omega)))
  obtain ⟨e1, e2, e3⟩ := coup_least hP (prodE how n n2 E E2)
  unfold LeastR LeastU at HLW
  rw [e1, e2, e3] at HLW
  have hbP : bothP b t N N2 = prodN N N2 (manyU b t).toNat := rfl
  have hbQ : bothQ how N N2 E E2 = prodE how n n2 E E2 := by unfold bothQ; rw [hL, hL2]
  unfold bothK
  rw [hbP, hbQ]
  clear hs he hs2 he2 hA1 hA2 hC hM hG hG2 h80 h80' hn hP hCG e1 e2 e3 hbP hbQ
  generalize coupN (prodN N N2 (manyU b t).toNat) = CN at HCO HLW
  generalize coupE (prodN N N2 (manyU b t).toNat) (prodE how n n2 E E2) = CE at HCO HLW
  generalize leastN (prodN N N2 (manyU b t).toNat) (prodE how n n2 E E2) (manyU b t).toNat = LN at HLW ⊢
  generalize leastE (prodN N N2 (manyU b t).toNat) (prodE how n n2 E E2) (manyU b t).toNat = LE at HLW ⊢
  generalize leastK (prodN N N2 (manyU b t).toNat) (prodE how n n2 E E2) (manyU b t).toNat = LK at HLW ⊢
  generalize hW0 : ((w.alloc (.cells #[.int .i64 b, .int .i64 t, .slice a n cap, .slice a' n cap'] 25)).alloc (.cells #[.int .i64 b, .int .i64 t, .slice a2 n2 cap2, .slice a2' n2 cap2'] 25)).alloc (.cells #[.int .i64 0, .int .i64 0, .slice none 0 0, .slice none 0 0] 25) = wb at HB HAL HBX HCO
  have HSZ0 : Hid (wb.heap.size = w.heap.size + 3) := by show _ = _; rw [← hW0]; simp
  obtain ⟨-, hbb⟩ := HBX.out wb (Below.refl _ _)
  obtain ⟨⟨p0, p1, p2, p3⟩, q0, q1, q2, q3⟩ := two_boxes hbb
  have h0' : decide (how < 0) = false := by simp; omega
  have h1' : ¬ 16 ≤ how := by omega
  clear hbb hB
  go_enter Try.func5, Try.ntmps5
  go_wp2_with fail
  clear hW0 p0 p1 p2 p3 q0 q1 q2 q3
  refine HAL.out.mono ?_
  rintro e w1 ⟨rfl, hb1⟩
  obtain ⟨-, hbb⟩ := HBX.out w1 hb1
  obtain ⟨⟨p0, p1, p2, p3⟩, q0, q1, q2, q3⟩ := two_boxes hbb
  have HB1 := hide hb1
  clear hb1 hbb HAL
  go_wp2_with fail
  clear p0 p1 p2 p3 q0 q1 q2 q3
  refine (HCO.out w1 HB1.out).mono ?_
  rintro e w2 ⟨ax, cx, ax', cx', rfl, hnew, hb2⟩
  have HB2 := hide (below_step HB1.out hb2)
  have HL2 := hide (HLW.out ax cx ax' cx' w2 hnew.here.1 hnew.here.2)
  clear hnew hb2 HCO HLW
  go_wp2_with fail
  refine HL2.out.mono ?_
  rintro e w3 ⟨hyes, hno⟩
  clear HL2
  by_cases hK : LK ≤ 80
  · obtain ⟨ay, cy, ay', cy', rfl, hnew, hb3⟩ := hyes hK
    obtain ⟨hr, -⟩ := HBX.out w3 (below_step HB2.out hb3)
    obtain ⟨⟨r0, r1, r2, r3⟩, rf⟩ := box_cells hr
    have HR := hide hr
    have HB3 := hide (below_step HB.out (below_step HB2.out hb3))
    have HNEW := hide hnew
    have HSW := hide HB2.out.size
    clear hr hb3 hyes hno hnew
    go_wp2
    obtain ⟨⟨hset, hsz, hoth⟩, hbel⟩ := box_set (v0 := .int .i64 b) (v1 := .int .i64 t) (v2 := .slice ay LN.length cy) (v3 := .slice ay' LN.length cy') HR.out rfl
    have hfin : AutoNew w ay LN.length LN ay' LE ((((w3.setCell ⟨w.heap.size + 2, 0, none⟩ (.int .i64 b)).setCell ⟨w.heap.size + 2, 1, none⟩ (.int .i64 t)).setCell ⟨w.heap.size + 2, 2, none⟩ (.slice ay LN.length cy)).setCell ⟨w.heap.size + 2, 3, none⟩ (.slice ay' LN.length cy')) := fun W' hW' => HNEW.out W' (fun x hx hxl => by
      have h1 := HSW.out
      have h2 := HSZ0.out
      rw [hW' x (by omega) (by rw [hsz]; exact hxl), hoth x (by omega)])
    have hb := hbel w w.heap.size HB3.out (by omega)
    obtain ⟨⟨z0, z1, z2, z3⟩, -⟩ := box_cells hset
    exact bodyPost_ret (v := .tuple #[.agg #[.int .i64 b, .int .i64 t, .slice ay LN.length cy, .slice ay' LN.length cy'], .nilIface]) (by simp [results, Try.results5, go_sem, z0, z1, z2, z3]) rfl ⟨fun _ => ⟨ay, cy, ay', cy', rfl, hfin, hb⟩, fun h => by omega⟩
  · obtain ⟨rfl, hb3⟩ := hno (by omega)
    obtain ⟨hr, -⟩ := HBX.out w3 (below_step HB2.out hb3)
    obtain ⟨⟨r0, r1, r2, r3⟩, rf⟩ := box_cells hr
    have HR := hide hr
    have HB3 := hide (below_step HB.out (below_step HB2.out hb3))
    clear hr hb3 hyes hno
    go_wp2
    obtain ⟨⟨hset, hsz, hoth⟩, hbel⟩ := box_set (v0 := .int .i64 0) (v1 := .int .i64 0) (v2 := .slice none 0 0) (v3 := .slice none 0 0) HR.out rfl
    have hb := hbel w w.heap.size HB3.out (by omega)
    obtain ⟨⟨z0, z1, z2, z3⟩, -⟩ := box_cells hset
    exact bodyPost_ret (v := .tuple #[.agg #[.int .i64 0, .int .i64 0, .slice none 0 0, .slice none 0 0], .iface 37 (.int .i64 3)]) (by simp [results, Try.results5, go_sem, z0, z1, z2, z3]) rfl ⟨fun h => by omega, fun _ => ⟨none, 0, none, 0, rfl, autoNew_nil _ _, hb⟩⟩

theorem both_u (b t : Int) (a : Option Addr) (n cap : Nat) (a' : Option Addr) (k cap' : Nat) (N : List (List Int)) (E : List Bool) (b2 t2 : Int) (a2 : Option Addr) (n2 cap2 : Nat) (a2' : Option Addr) (k2 cap2' : Nat) (N2 : List (List Int)) (E2 : List Bool) (how : Int) (w : World)
    (hs : Sl2 w a n N) (he : SlB w a' k E) (hs2 : Sl2 w a2 n2 N2) (he2 : SlB w a2' k2 E2) :
    Calls Try.prog 5 #[.agg #[.int .i64 b, .int .i64 t, .slice a n cap, .slice a' k cap'], .agg #[.int .i64 b2, .int .i64 t2, .slice a2 n2 cap2, .slice a2' k2 cap2'], .int .i64 how] w (PairR w (okI (bothC how b t N E k b2 t2 N2 E2 k2) b) (okI (bothC how b t N E k b2 t2 N2 E2 k2) t) (bothN how b t N E k b2 t2 N2 E2 k2) (bothE how b t N E k b2 t2 N2 E2 k2) (bothC how b t N E k b2 t2 N2 E2 k2)) := by
  by_cases hh : 0 ≤ how ∧ how ≤ 15
  · by_cases hC : alikeC b t N k b2 t2 N2 k2 = 0
    · obtain ⟨hA1, hA2, rfl, rfl⟩ := alikeC_zero hC
      obtain rfl : k = n := by rw [(autoC_zero hA1).2.1, hs.1]
      obtain rfl : k2 = n2 := by rw [(autoC_zero hA2).2.1, hs2.1]
      refine (both_ok b t a k cap a' cap' N E a2 k2 cap2 a2' cap2' N2 E2 how w hs he hs2 he2 hh.1 hh.2 hC).mono ?_
      rintro e w' ⟨h1, h2⟩
      by_cases hK : bothK b t how N N2 E E2 ≤ 80
      · have hc : bothC how b t N E k b t N2 E2 k2 = 0 := by unfold bothC; rw [if_pos hh, if_pos hC, if_pos hK]
        unfold bothN bothE okI
        rw [hc, if_pos rfl, if_pos rfl, if_pos rfl, if_pos rfl]
        exact h1 hK
      · have hc : bothC how b t N E k b t N2 E2 k2 = 3 := by unfold bothC; rw [if_pos hh, if_pos hC, if_neg hK]
        unfold bothN bothE okI
        rw [hc, if_neg (by decide), if_neg (by decide), if_neg (by decide), if_neg (by decide)]
        exact h2 (by omega)
    · have hc := @alikeC_of b t N k b2 t2 N2 k2 how E E2 hh.1 hh.2 hC
      unfold bothN bothE okI
      rw [hc, if_neg hC, if_neg hC, if_neg hC, if_neg hC]
      exact both_in b t a n cap a' k cap' N E b2 t2 a2 n2 cap2 a2' k2 cap2' N2 E2 how w hs he hs2 he2 hh.1 hh.2 hC
  · have hc : bothC how b t N E k b2 t2 N2 E2 k2 = 1 := by unfold bothC; rw [if_neg hh]
    unfold bothN bothE okI
    rw [hc, if_neg (by decide), if_neg (by decide), if_neg (by decide), if_neg (by decide)]
    exact both_range b t a n cap a' k cap' b2 t2 a2 n2 cap2 a2' k2 cap2' how w (by omega)
end Go.Proofs.Ytihhlddbppljpac

/- The walk of the law PairTakes. -/
namespace Go.Proofs.Ytihhlddbppljpac
open Go.RowKit

/-- Where both are well. -/
theorem both_well {how b t b2 t2 : Int} {N N2 : List (List Int)} {E E2 : List Bool} {k k2 : Nat} (hc : bothC how b t N E k b2 t2 N2 E2 k2 = 0) :
    (0 ≤ how ∧ how ≤ 15) ∧ b2 = b ∧ t2 = t ∧ autoC b t N k = 0 ∧ autoC b t N2 k2 = 0 ∧ autoC b t (bothN how b t N E k b2 t2 N2 E2 k2) (bothN how b t N E k b2 t2 N2 E2 k2).length = 0 ∧ (bothE how b t N E k b2 t2 N2 E2 k2).length = (bothN how b t N E k b2 t2 N2 E2 k2).length ∧
      ∀ w, okW (manyU b t).toNat w → tkB (bothN how b t N E k b2 t2 N2 E2 k2) (bothE how b t N E k b2 t2 N2 E2 k2) w = howB how (tkB N E w) (tkB N2 E2 w) := by
  have hN : bothN how b t N E k b2 t2 N2 E2 k2 = leastN (bothP b t N N2) (bothQ how N N2 E E2) (manyU b t).toNat := by unfold bothN; rw [if_pos hc]
  have hEE : bothE how b t N E k b2 t2 N2 E2 k2 = leastE (bothP b t N N2) (bothQ how N N2 E E2) (manyU b t).toNat := by unfold bothE; rw [if_pos hc]
  rw [hN, hEE]
  unfold bothC at hc
  split at hc
  · rename_i hh
    split at hc
    · rename_i hC
      split at hc
      · rename_i hK
        obtain ⟨hA1, hA2, rfl, rfl⟩ := alikeC_zero hC
        obtain ⟨hM, hk1, hG, -⟩ := autoC_zero hA1
        obtain ⟨-, hk2, hG2, -⟩ := autoC_zero hA2
        have h80 := autoC_80 hA1
        have h80' := autoC_80 hA2
        have hn : N.length * N2.length ≤ 6400 := Nat.le_trans (Nat.mul_le_mul h80 h80') (by decide)
        have hP := prod_good hG hG2 hn
        have hL := least_good hP (bothQ how N N2 E E2)
        refine ⟨hh, rfl, rfl, hA1, hA2, ?_, by rw [leastN_len, leastE_len], fun w hw => ?_⟩
        · have := autoC_good hM hL hK
          rwa [← leastN_len] at this
        · exact both_tk hG hG2 hn how E E2 w hw
      · cases hc
    · rename_i hC
      exact absurd hc hC
  · cases hc

end Go.Proofs.Ytihhlddbppljpac

/- pair.Not: contract. -/
namespace Go.Proofs.Ytihhlddbppljpac
open Go.RowKit

theorem not_row {wx : World} {eb n p : Nat} {E : List Bool} (h : wx.rowIs eb 4 n fun q => .bool (if q < p then !(E.getD q false) else false)) {e : Bool} (he : E.getD p false = e) : (wx.setCell ⟨eb, p, none⟩ (.bool (!e))).rowIs eb 4 n fun q => .bool (if q < p + 1 then !(E.getD q false) else false) :=
  (h.set _ _).congr fun q _ => by
    by_cases e1 : q = p
    · subst e1; rw [if_pos rfl, if_pos (by omega), he]
    · rw [if_neg e1]
      congr 1
      by_cases e2 : q < p
      · rw [if_pos e2, if_pos (by omega)]
      · rw [if_neg e2, if_neg (by omega)]
theorem not_end {wx : World} {eb n : Nat} {E : List Bool} (hE : E.length = n) (hn : n ≤ 1000000) (h : wx.rowIs eb 4 n fun q => .bool (if q < n then !(E.getD q false) else false)) : SlB wx (some ⟨eb, 0, none⟩) n (notL E) := by
  refine ⟨by rw [notL_len, hE], by unfold maxLen; omega, .inr ⟨eb, 0, rfl, fun i hi => ?_⟩⟩
  have h1 := h.cell (i := i) hi
  rw [if_pos hi] at h1
  rw [Nat.zero_add, h1]
  simp [notL, List.getD, show i < E.length by omega]

set_option maxHeartbeats 4000000 in
set_option maxRecDepth 8000 in
theorem not_ok (b t : Int) (a : Option Addr) (n cap : Nat) (a' : Option Addr) (cap' : Nat) (N : List (List Int)) (E : List Bool) (w : World) (hs : Sl2 w a n N) (he : SlB w a' n E) (hA : autoC b t N n = 0) :
    Calls Try.prog 8 #[.agg #[.int .i64 b, .int .i64 t, .slice a n cap, .slice a' n cap']] w (PairR w b t (leastN N (notL E) (manyU b t).toNat) (leastE N (notL E) (manyU b t).toNat) 0) := by
  have hE := he.1
  have hn80 : n ≤ 80 := by have := autoC_80 hA; rw [hs.1] at this; exact this
  have hmk := make_bools n (by omega)
  have hB0 : Below w.heap.size w ((w.alloc (.cells #[.int .i64 b, .int .i64 t, .slice a n cap, .slice a' n cap'] 25)).alloc (.cells #[.int .i64 0, .int .i64 0, .slice none 0 0, .slice none 0 0] 25)) := below_two _ _ _
  have HB0 := hide hB0
  have HS := hide (sl2_below hs hB0)
  have HSw := hide hs
  have HE := hide (slB_below he hB0)
  have HCK := hide (check_u b t a a' n cap n cap' N _ HS.out he.2.1)
  rw [hA, errV_yes rfl] at HCK
  have HBX := hide (heap_alloc2_fst w (.cells #[.int .i64 b, .int .i64 t, .slice a n cap, .slice a' n cap'] 25) (.cells #[.int .i64 0, .int .i64 0, .slice none 0 0, .slice none 0 0] 25))
  have HRX := hide (heap_alloc2_snd w (.cells #[.int .i64 b, .int .i64 t, .slice a n cap, .slice a' n cap'] 25) (.cells #[.int .i64 0, .int .i64 0, .slice none 0 0, .slice none 0 0] 25))
  have HLE := hide (fun ae ce W h1 h2 => least_ok b t a n cap N ae ce (notL E) W h1 h2 hA)
  unfold LeastU at HLE
  generalize hW0 : (w.alloc (.cells #[.int .i64 b, .int .i64 t, .slice a n cap, .slice a' n cap'] 25)).alloc (.cells #[.int .i64 0, .int .i64 0, .slice none 0 0, .slice none 0 0] 25) = wb at HB0 HS HE HBX HRX HCK
  have HSZ0 : Hid (wb.heap.size = w.heap.size + 2) := by show _ = _; rw [← hW0]; simp
  clear hs he hA hB0
  generalize leastN N (notL E) (manyU b t).toNat = LN at HLE ⊢
  generalize leastE N (notL E) (manyU b t).toNat = LE at HLE ⊢
  obtain ⟨⟨p0, p1, p2, p3⟩, -⟩ := box_cells HBX.out
  go_enter Try.func8, Try.ntmps8
  go_wp2_with fail
  clear hW0 p0 p1 p2 p3
  refine HCK.out.mono ?_
  rintro e w1 ⟨rfl, hb1⟩
  have HB1 := hide hb1
  have HX1 := hide ((hb1.block _ (Array.getElem?_eq_some_iff.1 HBX.out).1).trans HBX.out)
  obtain ⟨⟨p0, p1, p2, p3⟩, -⟩ := box_cells HX1.out
  have hBd := (Below.refl w1.heap.size w1).alloc (Nat.le_refl _) (.cells (madeCells #[.bool false] n) 4)
  have hp3 : (w1.alloc (.cells (madeCells #[.bool false] n) 4)).cell? ⟨w.heap.size, 3, none⟩ = some (.slice a' n cap') := (hBd.cell (p := ⟨w.heap.size, 3, none⟩) (World.block_lt_of_cell? w1 _ p3)).trans p3
  have HI0 : Hid (((w1.alloc (.cells (madeCells #[.bool false] n) 4)).rowIs w1.heap.size 4 n fun q => .bool (if q < 0 then !(E.getD q false) else false)) ∧ Below w1.heap.size w1 (w1.alloc (.cells (madeCells #[.bool false] n) 4))) :=
    ⟨(World.rowIs_made w1 (.bool false) n 4).congr fun q _ => by simp, hBd⟩
  clear hb1 hBd HCK
  go_wp2
  clear p0 p1 p2 p3 hp3
  generalize w1.alloc (.cells (madeCells #[.bool false] n) 4) = wI at HI0 ⊢
  go_loopw [21] (fun i wx => ∃ p : Nat, p ≤ n ∧ i = .int .i64 p ∧ (wx.rowIs w1.heap.size 4 n fun q => .bool (if q < p then !(E.getD q false) else false)) ∧ Below w1.heap.size w1 wx) (fun i _ => n - (intOf i).toNat)
  case atStart => exact ⟨0, by omega, rfl, HI0.out⟩
  case round =>
    obtain ⟨p, hp, rfl, hrw, hbw⟩ := hrel
    have HRW := hide hrw
    have HBW := hide hbw
    clear hrw hbw HI0
    by_cases hlt : p < n
    · have hlti : (p : Int) < (n : Int) := by omega
      obtain ⟨be, oe, rfl, hce⟩ := slB_cell (slB_below HE.out (below_step HB1.out HBW.out)) p hlt
      have hcz := HRW.out.cell (i := p) hlt
      have hfz := HRW.out.frozen p
      have HST := hide (fun e h => @not_row wr w1.heap.size n p E HRW.out e h)
      generalize hev : E.getD p false = ev at hce
      have HEV := hide hev
      clear hev
      go_wp2
      go_roundw
      case rel => exact ⟨p + 1, by omega, by go_num, HST.out ev HEV.out, HBW.out.setCell (Nat.le_refl _) _⟩
      case measure => simp [intOf]; omega
    · have hlti : ¬ (p : Int) < (n : Int) := by omega
      obtain rfl : n = p := by omega
      have hsl := not_end hE (by omega) HRW.out
      have hx := (HBW.out.block _ (Array.getElem?_eq_some_iff.1 HX1.out).1).trans HX1.out
      have hr := ((below_step HB1.out HBW.out).block _ (Array.getElem?_eq_some_iff.1 HRX.out).1).trans HRX.out
      obtain ⟨⟨p0, p1, p2, p3⟩, pf⟩ := box_cells hx
      have hb2 : Below w.heap.size w (wr.setCell ⟨w.heap.size, 3, none⟩ (.slice (some ⟨w1.heap.size, 0, none⟩) n n)) := (below_step HB0.out (below_step HB1.out HBW.out)).setCell (Nat.le_refl _) _
      have hx2 := (set_box hx (.slice (some ⟨w1.heap.size, 0, none⟩) n n)).2
      have hk2 : ∀ x, x ≠ w.heap.size → (wr.setCell ⟨w.heap.size, 3, none⟩ (.slice (some ⟨w1.heap.size, 0, none⟩) n n)).heap[x]? = wr.heap[x]? := fun x hx => Below.heap_setCell _ _ _ _ hx
      have hS2 := sl2_below HSw.out hb2
      have hE2 : SlB (wr.setCell ⟨w.heap.size, 3, none⟩ (.slice (some ⟨w1.heap.size, 0, none⟩) n n)) (some ⟨w1.heap.size, 0, none⟩) n (notL E) := by
        obtain ⟨h1, h2, h3⟩ := hsl
        refine ⟨h1, h2, ?_⟩
        rcases h3 with h3 | ⟨b', o', e, hc⟩
        · exact .inl h3
        · cases e
          have hne : w1.heap.size ≠ w.heap.size := by have h4 := HB1.out.size; have h5 := HSZ0.out; omega
          exact .inr ⟨w1.heap.size, 0, rfl, fun i hi => (World.cell?_of_block (a := ⟨w1.heap.size, 0 + i, none⟩) (hk2 _ hne)).trans (hc i hi)⟩
      have HL := hide (HLE.out (some ⟨w1.heap.size, 0, none⟩) n _ hS2 hE2)
      have HR2 := hide ((hk2 (w.heap.size + 1) (by omega)).trans hr)
      have HB2 := hide hb2
      have HS2 : Hid (w.heap.size + 2 ≤ (wr.setCell ⟨w.heap.size, 3, none⟩ (.slice (some ⟨w1.heap.size, 0, none⟩) n n)).heap.size) := by
        have h1 := HBW.out.size
        have h2 := HB1.out.size
        have h3 := HSZ0.out
        show _ ≤ _
        simp [World.setCell]
        omega
      obtain ⟨⟨q0, q1, q2, q3⟩, -⟩ := box_cells hx2
      clear hsl hx hr hb2 hx2 hk2 hS2 hE2 HLE
      go_wp2_with fail
      clear p0 p1 p2 p3 pf q0 q1 q2 q3
      generalize wr.setCell ⟨w.heap.size, 3, none⟩ (.slice (some ⟨w1.heap.size, 0, none⟩) n n) = W2 at HL HR2 HB2 HS2 ⊢
      refine HL.out.mono ?_
      rintro e w3 ⟨ay, cy, ay', cy', rfl, hnew, hb3⟩
      have hr3 := (hb3.block _ (Array.getElem?_eq_some_iff.1 HR2.out).1).trans HR2.out
      have HR3 := hide hr3
      have HB3 := hide (below_step HB2.out hb3)
      have HNEW := hide hnew
      obtain ⟨⟨r0, r1, r2, r3⟩, rf⟩ := box_cells hr3
      clear hr3 hb3 hnew HL
      go_wp2
      obtain ⟨⟨hset, hsz, hoth⟩, hbel⟩ := box_set (v0 := .int .i64 b) (v1 := .int .i64 t) (v2 := .slice ay LN.length cy) (v3 := .slice ay' LN.length cy') HR3.out rfl
      have hfin : AutoNew w ay LN.length LN ay' LE ((((w3.setCell ⟨w.heap.size + 1, 0, none⟩ (.int .i64 b)).setCell ⟨w.heap.size + 1, 1, none⟩ (.int .i64 t)).setCell ⟨w.heap.size + 1, 2, none⟩ (.slice ay LN.length cy)).setCell ⟨w.heap.size + 1, 3, none⟩ (.slice ay' LN.length cy')) := fun W' hW' => HNEW.out W' (fun x hx hxl => by
        have h1 := HS2.out
        rw [hW' x (by omega) (by rw [hsz]; exact hxl), hoth x (by omega)])
      have hb := hbel w w.heap.size HB3.out (by omega)
      obtain ⟨⟨z0, z1, z2, z3⟩, -⟩ := box_cells hset
      exact bodyPost_ret (v := .tuple #[.agg #[.int .i64 b, .int .i64 t, .slice ay LN.length cy, .slice ay' LN.length cy'], .nilIface]) (by simp [results, Try.results8, go_sem, z0, z1, z2, z3]) rfl ⟨ay, cy, ay', cy', rfl, hfin, hb⟩

set_option maxHeartbeats 4000000 in
set_option maxRecDepth 8000 in
theorem not_bad (b t : Int) (a : Option Addr) (n cap : Nat) (a' : Option Addr) (k cap' : Nat) (N : List (List Int)) (w : World) (hs : Sl2 w a n N) (hm : k ≤ maxLen) (hA : autoC b t N k ≠ 0) :
    Calls Try.prog 8 #[.agg #[.int .i64 b, .int .i64 t, .slice a n cap, .slice a' k cap']] w (PairR w 0 0 [] [] (autoC b t N k)) := by
  have hB0 : Below w.heap.size w ((w.alloc (.cells #[.int .i64 b, .int .i64 t, .slice a n cap, .slice a' k cap'] 25)).alloc (.cells #[.int .i64 0, .int .i64 0, .slice none 0 0, .slice none 0 0] 25)) := below_two _ _ _
  have HB0 := hide hB0
  have HCK := hide (check_u b t a a' n cap k cap' N _ (sl2_below hs hB0) hm)
  unfold PairR
  rw [errV_no hA] at HCK ⊢
  have HBX := hide (heap_alloc2_fst w (.cells #[.int .i64 b, .int .i64 t, .slice a n cap, .slice a' k cap'] 25) (.cells #[.int .i64 0, .int .i64 0, .slice none 0 0, .slice none 0 0] 25))
  have HRX := hide (heap_alloc2_snd w (.cells #[.int .i64 b, .int .i64 t, .slice a n cap, .slice a' k cap'] 25) (.cells #[.int .i64 0, .int .i64 0, .slice none 0 0, .slice none 0 0] 25))
  generalize hW0 : (w.alloc (.cells #[.int .i64 b, .int .i64 t, .slice a n cap, .slice a' k cap'] 25)).alloc (.cells #[.int .i64 0, .int .i64 0, .slice none 0 0, .slice none 0 0] 25) = wb at HB0 HBX HRX HCK
  clear hs hm hB0
  generalize autoC b t N k = c at HCK ⊢
  obtain ⟨⟨p0, p1, p2, p3⟩, -⟩ := box_cells HBX.out
  go_enter Try.func8, Try.ntmps8
  go_wp2_with fail
  clear hW0 p0 p1 p2 p3
  refine HCK.out.mono ?_
  rintro e w1 ⟨rfl, hb1⟩
  have hr := (hb1.block _ (Array.getElem?_eq_some_iff.1 HRX.out).1).trans HRX.out
  obtain ⟨⟨r0, r1, r2, r3⟩, rf⟩ := box_cells hr
  have HR := hide hr
  have HB1 := hide (below_step HB0.out hb1)
  clear hr hb1
  go_wp2
  obtain ⟨⟨hset, -, -⟩, hbel⟩ := box_set (v0 := .int .i64 0) (v1 := .int .i64 0) (v2 := .slice none 0 0) (v3 := .slice none 0 0) HR.out rfl
  obtain ⟨⟨z0, z1, z2, z3⟩, -⟩ := box_cells hset
  exact bodyPost_ret (v := .tuple #[.agg #[.int .i64 0, .int .i64 0, .slice none 0 0, .slice none 0 0], .iface 37 (.int .i64 c)]) (by simp [results, Try.results8, go_sem, z0, z1, z2, z3]) rfl ⟨none, 0, none, 0, rfl, autoNew_nil _ _, hbel _ _ HB1.out (by omega)⟩
theorem not_u (b t : Int) (a : Option Addr) (n cap : Nat) (a' : Option Addr) (k cap' : Nat) (N : List (List Int)) (E : List Bool) (w : World) (hs : Sl2 w a n N) (he : SlB w a' k E) :
    Calls Try.prog 8 #[.agg #[.int .i64 b, .int .i64 t, .slice a n cap, .slice a' k cap']] w (PairR w (okI (autoC b t N k) b) (okI (autoC b t N k) t) (notN b t N E k) (notE b t N E k) (autoC b t N k)) := by
  by_cases hA : autoC b t N k = 0
  · obtain rfl : k = n := by rw [(autoC_zero hA).2.1, hs.1]
    unfold notN notE okI
    rw [if_pos hA, if_pos hA, if_pos hA, if_pos hA, hA]
    exact not_ok b t a k cap a' cap' N E w hs he hA
  · unfold notN notE okI
    rw [if_neg hA, if_neg hA, if_neg hA, if_neg hA]
    exact not_bad b t a n cap a' k cap' N w hs he.2.1 hA
end Go.Proofs.Ytihhlddbppljpac

/- The walk of the law PairLaws. -/
namespace Go.Proofs.Ytihhlddbppljpac
open Go.RowKit

theorem alikeC_ok {b t : Int} {N N2 : List (List Int)} {k k2 : Nat} (h1 : autoC b t N k = 0) (h2 : autoC b t N2 k2 = 0) : alikeC b t N k b t N2 k2 = 0 := by
  unfold alikeC
  rw [if_pos h1, if_pos h2, if_pos ⟨rfl, rfl⟩]
theorem bothC_ok {how b t : Int} {N N2 : List (List Int)} {E E2 : List Bool} {k k2 : Nat} (hh : 0 ≤ how ∧ how ≤ 15) (h1 : autoC b t N k = 0) (h2 : autoC b t N2 k2 = 0) (hK : bothK b t how N N2 E E2 ≤ 80) : bothC how b t N E k b t N2 E2 k2 = 0 := by
  unfold bothC
  rw [if_pos hh, if_pos (alikeC_ok h1 h2), if_pos hK]
theorem bothN_ok {how b t : Int} {N N2 : List (List Int)} {E E2 : List Bool} {k k2 : Nat} (hc : bothC how b t N E k b t N2 E2 k2 = 0) : bothN how b t N E k b t N2 E2 k2 = leastN (prodN N N2 (manyU b t).toNat) (prodE how N.length N2.length E E2) (manyU b t).toNat ∧ bothE how b t N E k b t N2 E2 k2 = leastE (prodN N N2 (manyU b t).toNat) (prodE how N.length N2.length E E2) (manyU b t).toNat := by
  unfold bothN bothE
  rw [if_pos hc, if_pos hc]
  exact ⟨rfl, rfl⟩

/-- All that the law says, of automata that are well. -/
structure PlWell (b t : Int) (N : List (List Int)) (E : List Bool) (k : Nat) (N2 : List (List Int)) (E2 : List Bool) (k2 : Nat) (MN : List (List Int)) (ME : List Bool) (XN : List (List Int)) (XE : List Bool) (YN : List (List Int)) (YE : List Bool) : Prop where
  a1 : autoC b t N k = 0
  a2 : autoC b t N2 k2 = 0
  am : autoC b t MN MN.length = 0
  ax : autoC b t XN XN.length = 0
  lm : ME.length = MN.length
  lx : XE.length = XN.length
  ly : YE.length = YN.length
  swap : bothC 8 b t N2 E2 k2 b t N E k = 0 ∧ bothN 8 b t N2 E2 k2 b t N E k = MN ∧ bothE 8 b t N2 E2 k2 b t N E k = ME
  both : bothC 14 b t XN XE XN.length b t YN YE YN.length = 0 ∧ bothN 14 b t XN XE XN.length b t YN YE YN.length = notN b t MN ME MN.length ∧ bothE 14 b t XN XE XN.length b t YN YE YN.length = notE b t MN ME MN.length
  all : bothC 14 b t N E k b t XN XE XN.length = 0 ∧ (bothN 14 b t N E k b t XN XE XN.length).length = 1 ∧ (bothE 14 b t N E k b t XN XE XN.length).getD 0 false = true
  back : notN b t XN XE XN.length = leastN N E (manyU b t).toNat ∧ notE b t XN XE XN.length = leastE N E (manyU b t).toNat
theorem pl_well {b t b2 t2 : Int} {N N2 : List (List Int)} {E E2 : List Bool} {k k2 : Nat} (hE : E.length = k) (hE2 : E2.length = k2) (hc : bothC 8 b t N E k b2 t2 N2 E2 k2 = 0) :
    b2 = b ∧ t2 = t ∧ PlWell b t N E k N2 E2 k2 (bothN 8 b t N E k b2 t2 N2 E2 k2) (bothE 8 b t N E k b2 t2 N2 E2 k2) (notN b t N E k) (notE b t N E k) (notN b t N2 E2 k2) (notE b t N2 E2 k2) := by
  obtain ⟨-, rfl, rfl, hA1, hA2, hAM, hML, hTK⟩ := both_well hc
  refine ⟨rfl, rfl, ?_⟩
  obtain ⟨hM, hk1, hG, -⟩ := autoC_zero hA1
  obtain ⟨-, hk2, hG2, -⟩ := autoC_zero hA2
  have h80 := autoC_80 hA1
  have h80' := autoC_80 hA2
  have hn : N.length * N2.length ≤ 6400 := Nat.le_trans (Nat.mul_le_mul h80 h80') (by decide)
  have hxe : notN b2 t2 N E k = leastN N (notL E) (manyU b2 t2).toNat ∧ notE b2 t2 N E k = leastE N (notL E) (manyU b2 t2).toNat := by unfold notN notE; rw [if_pos hA1, if_pos hA1]; exact ⟨rfl, rfl⟩
  have hye : notN b2 t2 N2 E2 k2 = leastN N2 (notL E2) (manyU b2 t2).toNat ∧ notE b2 t2 N2 E2 k2 = leastE N2 (notL E2) (manyU b2 t2).toNat := by unfold notN notE; rw [if_pos hA2, if_pos hA2]; exact ⟨rfl, rfl⟩
  have hX := least_good hG (notL E)
  have hY := least_good hG2 (notL E2)
  have hXl := leastN_len N (notL E) (manyU b2 t2).toNat
  have hYl := leastN_len N2 (notL E2) (manyU b2 t2).toNat
  have hXe := leastE_len N (notL E) (manyU b2 t2).toNat
  have hYe := leastE_len N2 (notL E2) (manyU b2 t2).toNat
  have hX80 := leastK_80 hG (notL E) h80
  have hY80 := leastK_80 hG2 (notL E2) h80'
  have eX := fun w hw => not_tk hG (E := E) (by omega) w hw
  have eY := fun w hw => not_tk hG2 (E := E2) (by omega) w hw
  have hAX := autoC_good hM hX hX80
  have hAY := autoC_good hM hY hY80
  rw [hxe.1, hxe.2, hye.1, hye.2]
  rw [← hXl] at hX hX80 hXe hAX
  rw [← hYl] at hY hY80 hYe hAY
  generalize leastN N (notL E) (manyU b2 t2).toNat = XN at hX hX80 hXe hAX eX ⊢
  generalize leastE N (notL E) (manyU b2 t2).toNat = XE at hXe eX ⊢
  generalize leastN N2 (notL E2) (manyU b2 t2).toNat = YN at hY hY80 hYe hAY eY ⊢
  generalize leastE N2 (notL E2) (manyU b2 t2).toNat = YE at hYe eY ⊢
  clear hxe hye hXl hYl
  have hbn := bothN_ok hc
  obtain ⟨-, -, hGM, -⟩ := autoC_zero hAM
  have h80M := autoC_80 hAM
  have hsw := pair_swap hG hG2 hn E E2
  have hKM : leastK (prodN N N2 (manyU b2 t2).toNat) (prodE 8 N.length N2.length E E2) (manyU b2 t2).toNat ≤ 80 := by
    rw [hbn.1, leastN_len] at h80M
    exact h80M
  have hcs : bothC 8 b2 t2 N2 E2 k2 b2 t2 N E k = 0 := bothC_ok (by decide) hA2 hA1 (by unfold bothK bothP bothQ; rw [hsw.2.2]; exact hKM)
  have hmo := pair_morgan hX hX80 hY hY80 hGM hML eX eY hTK
  have hnM : notN b2 t2 (bothN 8 b2 t2 N E k b2 t2 N2 E2 k2) (bothE 8 b2 t2 N E k b2 t2 N2 E2 k2) (bothN 8 b2 t2 N E k b2 t2 N2 E2 k2).length = leastN (bothN 8 b2 t2 N E k b2 t2 N2 E2 k2) (notL (bothE 8 b2 t2 N E k b2 t2 N2 E2 k2)) (manyU b2 t2).toNat ∧ notE b2 t2 (bothN 8 b2 t2 N E k b2 t2 N2 E2 k2) (bothE 8 b2 t2 N E k b2 t2 N2 E2 k2) (bothN 8 b2 t2 N E k b2 t2 N2 E2 k2).length = leastE (bothN 8 b2 t2 N E k b2 t2 N2 E2 k2) (notL (bothE 8 b2 t2 N E k b2 t2 N2 E2 k2)) (manyU b2 t2).toNat := by unfold notN notE; rw [if_pos hAM, if_pos hAM]; exact ⟨rfl, rfl⟩
  have hcb : bothC 14 b2 t2 XN XE XN.length b2 t2 YN YE YN.length = 0 := bothC_ok (by decide) hAX hAY (by unfold bothK bothP bothQ; rw [hmo.2.2]; exact leastK_80 hGM _ h80M)
  have hpa := pair_all hG h80 hX hX80 eX
  have hca : bothC 14 b2 t2 N E k b2 t2 XN XE XN.length = 0 := bothC_ok (by decide) hA1 hAX (by unfold bothK bothP bothQ; rw [hpa.1]; decide)
  have hpb := pair_back hG hX hXe eX
  refine ⟨hA1, hA2, hAM, hAX, hML, hXe, hYe, ⟨hcs, ?_, ?_⟩, ⟨hcb, ?_, ?_⟩, ⟨hca, ?_, ?_⟩, ?_⟩
  · rw [(bothN_ok hcs).1, hsw.1, hbn.1]
  · rw [(bothN_ok hcs).2, hsw.2.1, hbn.2]
  · rw [(bothN_ok hcb).1, hmo.1, hnM.1]
  · rw [(bothN_ok hcb).2, hmo.2.1, hnM.2]
  · rw [(bothN_ok hca).1, leastN_len]; exact hpa.1
  · rw [(bothN_ok hca).2]; exact hpa.2
  · unfold notN notE
    rw [if_pos hAX, if_pos hAX]
    exact ⟨hpb.1, hpb.2.1⟩

/-- An automaton and no error are handed back. -/
def GivesOk (W : World) (b t : Int) (N : List (List Int)) (E : List Bool) (e : Ending) (W' : World) : Prop :=
  ∃ a ca a' ca', e = .returned (.tuple #[.agg #[.int .i64 b, .int .i64 t, .slice a N.length ca, .slice a' N.length ca'], .nilIface]) ∧ Sl2 W' a N.length N ∧ SlB W' a' N.length E ∧ Below W.heap.size W W'
theorem both_fine (how b t : Int) (a : Option Addr) (n cap : Nat) (a' : Option Addr) (k cap' : Nat) (N : List (List Int)) (E : List Bool) (a2 : Option Addr) (n2 cap2 : Nat) (a2' : Option Addr) (k2 cap2' : Nat) (N2 : List (List Int)) (E2 : List Bool) (w : World) (hs : Sl2 w a n N) (he : SlB w a' k E) (hs2 : Sl2 w a2 n2 N2) (he2 : SlB w a2' k2 E2) (hc : bothC how b t N E k b t N2 E2 k2 = 0) :
    Calls Try.prog 5 #[.agg #[.int .i64 b, .int .i64 t, .slice a n cap, .slice a' k cap'], .agg #[.int .i64 b, .int .i64 t, .slice a2 n2 cap2, .slice a2' k2 cap2'], .int .i64 how] w (GivesOk w b t (bothN how b t N E k b t N2 E2 k2) (bothE how b t N E k b t N2 E2 k2)) := by
  refine (both_u b t a n cap a' k cap' N E b t a2 n2 cap2 a2' k2 cap2' N2 E2 how w hs he hs2 he2).mono ?_
  rintro e w' ⟨ax, cx, ax', cx', rfl, hnew, hb⟩
  rw [hc]
  exact ⟨ax, cx, ax', cx', rfl, hnew.here.1, hnew.here.2, hb⟩
theorem not_fine (b t : Int) (a : Option Addr) (n cap : Nat) (a' : Option Addr) (k cap' : Nat) (N : List (List Int)) (E : List Bool) (w : World) (hs : Sl2 w a n N) (he : SlB w a' k E) (hA : autoC b t N k = 0) :
    Calls Try.prog 8 #[.agg #[.int .i64 b, .int .i64 t, .slice a n cap, .slice a' k cap']] w (GivesOk w b t (notN b t N E k) (notE b t N E k)) := by
  refine (not_u b t a n cap a' k cap' N E w hs he).mono ?_
  rintro e w' ⟨ax, cx, ax', cx', rfl, hnew, hb⟩
  rw [hA]
  exact ⟨ax, cx, ax', cx', rfl, hnew.here.1, hnew.here.2, hb⟩
theorem least_fine (b t : Int) (a : Option Addr) (n cap : Nat) (a' : Option Addr) (k cap' : Nat) (N : List (List Int)) (E : List Bool) (w : World) (hs : Sl2 w a n N) (he : SlB w a' k E) (hA : autoC b t N k = 0) :
    Calls Try.prog 10 #[.agg #[.int .i64 b, .int .i64 t, .slice a n cap, .slice a' k cap']] w (GivesOk w b t (leastN N E (manyU b t).toNat) (leastE N E (manyU b t).toNat)) := by
  obtain rfl : k = n := by rw [(autoC_zero hA).2.1, hs.1]
  refine (least_ok b t a k cap N a' cap' E w hs he hA).mono ?_
  rintro e w' ⟨ax, cx, ax', cx', rfl, hnew, hb⟩
  exact ⟨ax, cx, ax', cx', rfl, hnew.here.1, hnew.here.2, hb⟩
theorem fact_not : autoC 2 1 [[0, 1], [1, 0]] 2 = 0 ∧ (notN 2 1 [[0, 1], [1, 0]] [false, true] 2).length = 2 ∧ (notE 2 1 [[0, 1], [1, 0]] [false, true] 2).getD 0 false = true := by
  refine ⟨?_, ?_, ?_⟩ <;> decide +kernel

set_option maxHeartbeats 32000000 in
set_option maxRecDepth 8000 in
theorem plaws_any (b t : Int) (a : Option Addr) (n cap : Nat) (a' : Option Addr) (k cap' : Nat) (N : List (List Int)) (E : List Bool) (b2 t2 : Int) (a2 : Option Addr) (n2 cap2 : Nat) (a2' : Option Addr) (k2 cap2' : Nat) (N2 : List (List Int)) (E2 : List Bool) (w : World) (hs : Sl2 w a n N) (he : SlB w a' k E) (hs2 : Sl2 w a2 n2 N2) (he2 : SlB w a2' k2 E2) :
    Calls Try.prog 4 #[.agg #[.int .i64 b, .int .i64 t, .slice a n cap, .slice a' k cap'], .agg #[.int .i64 b2, .int .i64 t2, .slice a2 n2 cap2, .slice a2' k2 cap2']] w fun e w' => e = .returned (.bool true) ∧ Below w.heap.size w w' := by
  have hB0 := below_two w (.cells #[.int .i64 b, .int .i64 t, .slice a n cap, .slice a' k cap'] 25) (.cells #[.int .i64 b2, .int .i64 t2, .slice a2 n2 cap2, .slice a2' k2 cap2'] 25)
  have hbx := two_boxes (Below.refl _ ((w.alloc (.cells #[.int .i64 b, .int .i64 t, .slice a n cap, .slice a' k cap'] 25)).alloc (.cells #[.int .i64 b2, .int .i64 t2, .slice a2 n2 cap2, .slice a2' k2 cap2'] 25)))
  have HW := hide hB0
  have HA : Hid (AutoAt _ w.heap.size b t a n cap a' k cap' N E) := ⟨hbx.1, sl2_below hs hB0, slB_below he hB0⟩
  have HB : Hid (AutoAt _ (w.heap.size + 1) b2 t2 a2 n2 cap2 a2' k2 cap2' N2 E2) := ⟨hbx.2, sl2_below hs2 hB0, slB_below he2 hB0⟩
  have HBO := hide (fun W h1 h2 h3 h4 => both_u b t a n cap a' k cap' N E b2 t2 a2 n2 cap2 a2' k2 cap2' N2 E2 8 W h1 h2 h3 h4)
  unfold PairR at HBO
  have HPL := hide (fun h => @pl_well b t b2 t2 N N2 E E2 k k2 he.1 he2.1 h)
  clear hs he hs2 he2 hB0 hbx
  generalize hW0 : (w.alloc (.cells #[.int .i64 b, .int .i64 t, .slice a n cap, .slice a' k cap'] 25)).alloc (.cells #[.int .i64 b2, .int .i64 t2, .slice a2 n2 cap2, .slice a2' k2 cap2'] 25) = w0 at HW HA HB
  obtain ⟨p0, p1, p2, p3⟩ := HA.out.1
  obtain ⟨q0, q1, q2, q3⟩ := HB.out.1
  go_enter Try.func4, Try.ntmps4
  go_wp2_with fail
  clear hW0 p0 p1 p2 p3 q0 q1 q2 q3
  refine (HBO.out w0 HA.out.2.1 HA.out.2.2 HB.out.2.1 HB.out.2.2).mono ?_
  rintro e w1 ⟨am, cm, am', cm', rfl, hnew, hb⟩
  generalize hMN : bothN 8 b t N E k b2 t2 N2 E2 k2 = MN at hnew HPL ⊢
  generalize hME : bothE 8 b t N E k b2 t2 N2 E2 k2 = ME at hnew HPL ⊢
  generalize bothC 8 b t N E k b2 t2 N2 E2 k2 = c at hnew HPL ⊢
  clear hMN hME HBO
  replace HW := hide (below_step HW.out hb)
  replace HA := hide (autoAt_below HA.out hb)
  replace HB := hide (autoAt_below HB.out hb)
  have HNEW := hide hnew
  clear hnew hb
  by_cases hc : c = 0
  rotate_left
  · rw [errV_no hc]
    have HC := hide hc
    clear hc
    go_wp2
    go_ret
    exact ⟨by simp, HW.out.alloc HW.out.size _⟩
  obtain ⟨rfl, rfl, hwell⟩ := HPL.out hc
  have HWELL := hide hwell
  rw [errV_yes hc, show okI c b2 = b2 by unfold okI; rw [if_pos hc], show okI c t2 = t2 by unfold okI; rw [if_pos hc]]
  clear hc HPL hwell
  have HC1 := hide (fun W h1 h2 h3 h4 => both_fine 8 b2 t2 a2 n2 cap2 a2' k2 cap2' N2 E2 a n cap a' k cap' N E W h1 h2 h3 h4 HWELL.out.swap.1)
  rw [HWELL.out.swap.2.1, HWELL.out.swap.2.2] at HC1
  have HC2 := hide (fun W h1 h2 => not_fine b2 t2 a n cap a' k cap' N E W h1 h2 HWELL.out.a1)
  have HC3 := hide (fun W h1 h2 => not_fine b2 t2 a2 n2 cap2 a2' k2 cap2' N2 E2 W h1 h2 HWELL.out.a2)
  have HC4 := hide (fun ax cx ax' cx' ay cy ay' cy' W h1 h2 h3 h4 => both_fine 14 b2 t2 ax (notN b2 t2 N E k).length cx ax' (notN b2 t2 N E k).length cx' (notN b2 t2 N E k) (notE b2 t2 N E k) ay (notN b2 t2 N2 E2 k2).length cy ay' (notN b2 t2 N2 E2 k2).length cy' (notN b2 t2 N2 E2 k2) (notE b2 t2 N2 E2 k2) W h1 h2 h3 h4 HWELL.out.both.1)
  rw [HWELL.out.both.2.1, HWELL.out.both.2.2] at HC4
  have HC5 := hide (fun W h1 h2 => not_fine b2 t2 am MN.length cm am' MN.length cm' MN ME W h1 h2 HWELL.out.am)
  have HC6 := hide (fun ax cx ax' cx' W h1 h2 h3 h4 => both_fine 14 b2 t2 a n cap a' k cap' N E ax (notN b2 t2 N E k).length cx ax' (notN b2 t2 N E k).length cx' (notN b2 t2 N E k) (notE b2 t2 N E k) W h1 h2 h3 h4 HWELL.out.all.1)
  have HALL := hide HWELL.out.all.2
  have HC7 := hide (fun ax cx ax' cx' W h1 h2 => not_fine b2 t2 ax (notN b2 t2 N E k).length cx ax' (notN b2 t2 N E k).length cx' (notN b2 t2 N E k) (notE b2 t2 N E k) W h1 h2 HWELL.out.ax)
  rw [HWELL.out.back.1, HWELL.out.back.2] at HC7
  have HC8 := hide (fun W h1 h2 => least_fine b2 t2 a n cap a' k cap' N E W h1 h2 HWELL.out.a1)
  obtain ⟨f1, f2, f3⟩ := fact_not
  have HCF := hide (fun u c u' c' W h1 h2 => not_fine 2 1 u 2 c u' 2 c' [[0, 1], [1, 0]] [false, true] W h1 h2 f1)
  have HF2 := hide f2
  have HF3 := hide f3
  unfold GivesOk at HC1 HC2 HC3 HC4 HC5 HC6 HC7 HC8 HCF
  rw [f2] at HCF
  rw [HALL.out.1] at HC6
  clear f1 f2 f3 HWELL
  generalize notN b2 t2 MN ME MN.length = ZN at HC4 HC5
  generalize notE b2 t2 MN ME MN.length = ZE at HC4 HC5
  generalize bothN 14 b2 t2 N E k b2 t2 (notN b2 t2 N E k) (notE b2 t2 N E k) (notN b2 t2 N E k).length = LN at HC6 HALL
  generalize bothE 14 b2 t2 N E k b2 t2 (notN b2 t2 N E k) (notE b2 t2 N E k) (notN b2 t2 N E k).length = LE at HC6 HALL
  generalize leastN N E (manyU b2 t2).toNat = KN at HC7 HC8
  generalize leastE N E (manyU b2 t2).toNat = KE at HC7 HC8
  generalize notN b2 t2 N E k = XN at HC2 HC4 HC6 HC7
  generalize notE b2 t2 N E k = XE at HC2 HC4 HC6 HC7
  generalize notN b2 t2 N2 E2 k2 = YN at HC3 HC4
  generalize notE b2 t2 N2 E2 k2 = YE at HC3 HC4
  generalize notN 2 1 [[0, 1], [1, 0]] [false, true] 2 = FN at HCF
  generalize notE 2 1 [[0, 1], [1, 0]] [false, true] 2 = FE at HCF HF3
  obtain ⟨hsn, hen⟩ := HNEW.out.here
  clear HNEW
  have hbz := (Below.refl w1.heap.size w1).alloc (Nat.le_refl _) (.cells #[.int .i64 b2, .int .i64 t2, .slice am MN.length cm, .slice am' MN.length cm'] 25)
  replace HW := hide (below_step HW.out hbz)
  replace HA := hide (autoAt_below HA.out hbz)
  replace HB := hide (autoAt_below HB.out hbz)
  have HM := hide (autoAt_new (b := b2) (t := t2) (cap := cm) (cap' := cm') (T := 25) hsn hen)
  clear hbz hsn hen
  go_wp2_with fail
  generalize w1.alloc (.cells #[.int .i64 b2, .int .i64 t2, .slice am MN.length cm, .slice am' MN.length cm'] 25) = w2 at HW HA HB HM ⊢
  refine (twos_any w2).mono ?_
  rintro e w3 ⟨u1, d1, u1', d1', rfl, hs1, he1, hb⟩
  replace HW := hide (below_step HW.out hb)
  replace HA := hide (autoAt_below HA.out hb)
  replace HB := hide (autoAt_below HB.out hb)
  replace HM := hide (autoAt_below HM.out hb)
  have HC := hide (HCF.out u1 d1 u1' d1' w3 hs1 he1)
  clear hb hs1 he1 HCF
  go_wp2_with fail
  refine HC.out.mono ?_
  rintro e w4 ⟨af, cf, af', cf', rfl, hsn, hen, hb⟩
  replace HW := hide (below_step HW.out hb)
  replace HA := hide (autoAt_below HA.out hb)
  replace HB := hide (autoAt_below HB.out hb)
  replace HM := hide (autoAt_below HM.out hb)
  clear hb hsn HC
  have hbz := (Below.refl w4.heap.size w4).alloc (Nat.le_refl _) (.cells #[.int .i64 2, .int .i64 1, .slice af 2 cf, .slice af' 2 cf'] 25)
  replace HW := hide (below_step HW.out hbz)
  replace HA := hide (autoAt_below HA.out hbz)
  replace HB := hide (autoAt_below HB.out hbz)
  replace HM := hide (autoAt_below HM.out hbz)
  have hfx := heap_alloc_last w4 (.cells #[.int .i64 2, .int .i64 1, .slice af 2 cf, .slice af' 2 cf'] 25)
  obtain ⟨⟨r0, r1, r2, r3⟩, -⟩ := box_cells hfx
  obtain ⟨be, oe, rfl, hce⟩ := slB_cell (slB_below hen hbz) 0 (by omega)
  rw [HF3.out, Nat.add_zero] at hce
  obtain ⟨p0, p1, p2, p3⟩ := HB.out.1
  obtain ⟨q0, q1, q2, q3⟩ := HA.out.1
  clear hbz hfx hen HF3
  go_wp2_with fail
  clear p0 p1 p2 p3 q0 q1 q2 q3 r0 r1 r2 r3 hce
  generalize w4.alloc (.cells #[.int .i64 2, .int .i64 1, .slice af 2 cf, .slice (some ⟨be, oe, none⟩) 2 cf'] 25) = w5 at HW HA HB HM ⊢
  refine (HC1.out w5 HB.out.2.1 HB.out.2.2 HA.out.2.1 HA.out.2.2).mono ?_
  rintro e w6 ⟨asw, csw, asw', csw', rfl, hsn, hen, hb⟩
  replace HW := hide (below_step HW.out hb)
  replace HA := hide (autoAt_below HA.out hb)
  replace HB := hide (autoAt_below HB.out hb)
  replace HM := hide (autoAt_below HM.out hb)
  clear hb
  have hbz := (Below.refl w6.heap.size w6).alloc (Nat.le_refl _) (.cells #[.int .i64 b2, .int .i64 t2, .slice asw MN.length csw, .slice asw' MN.length csw'] 25)
  replace HW := hide (below_step HW.out hbz)
  replace HA := hide (autoAt_below HA.out hbz)
  replace HB := hide (autoAt_below HB.out hbz)
  replace HM := hide (autoAt_below HM.out hbz)
  have HS := hide (autoAt_new (b := b2) (t := t2) (cap := csw) (cap' := csw') (T := 25) hsn hen)
  obtain ⟨p0, p1, p2, p3⟩ := HM.out.1
  obtain ⟨q0, q1, q2, q3⟩ := HS.out.1
  clear hbz hsn hen
  go_wp2_with fail
  clear p0 p1 p2 p3 q0 q1 q2 q3
  generalize w6.alloc (.cells #[.int .i64 b2, .int .i64 t2, .slice asw MN.length csw, .slice asw' MN.length csw'] 25) = w7 at HW HA HB HM HS ⊢
  refine (autos_eq b2 t2 am MN.length cm am' MN.length cm' asw csw asw' csw' MN ME w7 HM.out.2.1 HM.out.2.2 HS.out.2.1 HS.out.2.2).mono ?_
  rintro e w8 ⟨rfl, hb⟩
  replace HW := hide (below_step HW.out hb)
  replace HA := hide (autoAt_below HA.out hb)
  replace HB := hide (autoAt_below HB.out hb)
  replace HM := hide (autoAt_below HM.out hb)
  replace HS := hide (autoAt_below HS.out hb)
  obtain ⟨p0, p1, p2, p3⟩ := HA.out.1
  clear hb
  go_wp2_with fail
  clear p0 p1 p2 p3
  refine (HC2.out w8 HA.out.2.1 HA.out.2.2).mono ?_
  rintro e w9 ⟨ax, cx, ax', cx', rfl, hsn, hen, hb⟩
  replace HW := hide (below_step HW.out hb)
  replace HA := hide (autoAt_below HA.out hb)
  replace HB := hide (autoAt_below HB.out hb)
  replace HM := hide (autoAt_below HM.out hb)
  replace HS := hide (autoAt_below HS.out hb)
  clear hb
  have hbz := (Below.refl w9.heap.size w9).alloc (Nat.le_refl _) (.cells #[.int .i64 b2, .int .i64 t2, .slice ax XN.length cx, .slice ax' XN.length cx'] 25)
  replace HW := hide (below_step HW.out hbz)
  replace HA := hide (autoAt_below HA.out hbz)
  replace HB := hide (autoAt_below HB.out hbz)
  replace HM := hide (autoAt_below HM.out hbz)
  replace HS := hide (autoAt_below HS.out hbz)
  have HX := hide (autoAt_new (b := b2) (t := t2) (cap := cx) (cap' := cx') (T := 25) hsn hen)
  obtain ⟨p0, p1, p2, p3⟩ := HB.out.1
  clear hbz hsn hen
  go_wp2_with fail
  clear p0 p1 p2 p3
  generalize w9.alloc (.cells #[.int .i64 b2, .int .i64 t2, .slice ax XN.length cx, .slice ax' XN.length cx'] 25) = w10 at HW HA HB HM HS HX ⊢
  refine (HC3.out w10 HB.out.2.1 HB.out.2.2).mono ?_
  rintro e w11 ⟨ay, cy, ay', cy', rfl, hsn, hen, hb⟩
  replace HW := hide (below_step HW.out hb)
  replace HA := hide (autoAt_below HA.out hb)
  replace HB := hide (autoAt_below HB.out hb)
  replace HM := hide (autoAt_below HM.out hb)
  replace HS := hide (autoAt_below HS.out hb)
  replace HX := hide (autoAt_below HX.out hb)
  clear hb
  have hbz := (Below.refl w11.heap.size w11).alloc (Nat.le_refl _) (.cells #[.int .i64 b2, .int .i64 t2, .slice ay YN.length cy, .slice ay' YN.length cy'] 25)
  replace HW := hide (below_step HW.out hbz)
  replace HA := hide (autoAt_below HA.out hbz)
  replace HB := hide (autoAt_below HB.out hbz)
  replace HM := hide (autoAt_below HM.out hbz)
  replace HS := hide (autoAt_below HS.out hbz)
  replace HX := hide (autoAt_below HX.out hbz)
  have HY := hide (autoAt_new (b := b2) (t := t2) (cap := cy) (cap' := cy') (T := 25) hsn hen)
  obtain ⟨p0, p1, p2, p3⟩ := HX.out.1
  obtain ⟨q0, q1, q2, q3⟩ := HY.out.1
  clear hbz hsn hen
  go_wp2_with fail
  clear p0 p1 p2 p3 q0 q1 q2 q3
  generalize w11.alloc (.cells #[.int .i64 b2, .int .i64 t2, .slice ay YN.length cy, .slice ay' YN.length cy'] 25) = w12 at HW HA HB HM HS HX HY ⊢
  refine (HC4.out ax cx ax' cx' ay cy ay' cy' w12 HX.out.2.1 HX.out.2.2 HY.out.2.1 HY.out.2.2).mono ?_
  rintro e w13 ⟨az, cz, az', cz', rfl, hsn, hen, hb⟩
  replace HW := hide (below_step HW.out hb)
  replace HA := hide (autoAt_below HA.out hb)
  replace HB := hide (autoAt_below HB.out hb)
  replace HM := hide (autoAt_below HM.out hb)
  replace HS := hide (autoAt_below HS.out hb)
  replace HX := hide (autoAt_below HX.out hb)
  replace HY := hide (autoAt_below HY.out hb)
  clear hb
  have hbz := (Below.refl w13.heap.size w13).alloc (Nat.le_refl _) (.cells #[.int .i64 b2, .int .i64 t2, .slice az ZN.length cz, .slice az' ZN.length cz'] 25)
  replace HW := hide (below_step HW.out hbz)
  replace HA := hide (autoAt_below HA.out hbz)
  replace HB := hide (autoAt_below HB.out hbz)
  replace HM := hide (autoAt_below HM.out hbz)
  replace HS := hide (autoAt_below HS.out hbz)
  replace HX := hide (autoAt_below HX.out hbz)
  replace HY := hide (autoAt_below HY.out hbz)
  have HZ := hide (autoAt_new (b := b2) (t := t2) (cap := cz) (cap' := cz') (T := 25) hsn hen)
  obtain ⟨p0, p1, p2, p3⟩ := HM.out.1
  clear hbz hsn hen
  go_wp2_with fail
  clear p0 p1 p2 p3
  generalize w13.alloc (.cells #[.int .i64 b2, .int .i64 t2, .slice az ZN.length cz, .slice az' ZN.length cz'] 25) = w14 at HW HA HB HM HS HX HY HZ ⊢
  refine (HC5.out w14 HM.out.2.1 HM.out.2.2).mono ?_
  rintro e w15 ⟨av, cv, av', cv', rfl, hsn, hen, hb⟩
  replace HW := hide (below_step HW.out hb)
  replace HA := hide (autoAt_below HA.out hb)
  replace HB := hide (autoAt_below HB.out hb)
  replace HM := hide (autoAt_below HM.out hb)
  replace HS := hide (autoAt_below HS.out hb)
  replace HX := hide (autoAt_below HX.out hb)
  replace HY := hide (autoAt_below HY.out hb)
  replace HZ := hide (autoAt_below HZ.out hb)
  clear hb
  have hbz := (Below.refl w15.heap.size w15).alloc (Nat.le_refl _) (.cells #[.int .i64 b2, .int .i64 t2, .slice av ZN.length cv, .slice av' ZN.length cv'] 25)
  replace HW := hide (below_step HW.out hbz)
  replace HA := hide (autoAt_below HA.out hbz)
  replace HB := hide (autoAt_below HB.out hbz)
  replace HM := hide (autoAt_below HM.out hbz)
  replace HS := hide (autoAt_below HS.out hbz)
  replace HX := hide (autoAt_below HX.out hbz)
  replace HY := hide (autoAt_below HY.out hbz)
  replace HZ := hide (autoAt_below HZ.out hbz)
  have HV := hide (autoAt_new (b := b2) (t := t2) (cap := cv) (cap' := cv') (T := 25) hsn hen)
  obtain ⟨p0, p1, p2, p3⟩ := HZ.out.1
  obtain ⟨q0, q1, q2, q3⟩ := HV.out.1
  clear hbz hsn hen
  go_wp2_with fail
  clear p0 p1 p2 p3 q0 q1 q2 q3
  generalize w15.alloc (.cells #[.int .i64 b2, .int .i64 t2, .slice av ZN.length cv, .slice av' ZN.length cv'] 25) = w16 at HW HA HB HM HS HX HY HZ HV ⊢
  refine (autos_eq b2 t2 az ZN.length cz az' ZN.length cz' av cv av' cv' ZN ZE w16 HZ.out.2.1 HZ.out.2.2 HV.out.2.1 HV.out.2.2).mono ?_
  rintro e w17 ⟨rfl, hb⟩
  replace HW := hide (below_step HW.out hb)
  replace HA := hide (autoAt_below HA.out hb)
  replace HB := hide (autoAt_below HB.out hb)
  replace HM := hide (autoAt_below HM.out hb)
  replace HS := hide (autoAt_below HS.out hb)
  replace HX := hide (autoAt_below HX.out hb)
  replace HY := hide (autoAt_below HY.out hb)
  replace HZ := hide (autoAt_below HZ.out hb)
  replace HV := hide (autoAt_below HV.out hb)
  obtain ⟨p0, p1, p2, p3⟩ := HA.out.1
  obtain ⟨q0, q1, q2, q3⟩ := HX.out.1
  clear hb
  go_wp2_with fail
  clear p0 p1 p2 p3 q0 q1 q2 q3
  refine (HC6.out ax cx ax' cx' w17 HA.out.2.1 HA.out.2.2 HX.out.2.1 HX.out.2.2).mono ?_
  rintro e w18 ⟨al, cl, al', cl', rfl, hsn, hen, hb⟩
  replace HW := hide (below_step HW.out hb)
  replace HA := hide (autoAt_below HA.out hb)
  replace HB := hide (autoAt_below HB.out hb)
  replace HM := hide (autoAt_below HM.out hb)
  replace HS := hide (autoAt_below HS.out hb)
  replace HX := hide (autoAt_below HX.out hb)
  replace HY := hide (autoAt_below HY.out hb)
  replace HZ := hide (autoAt_below HZ.out hb)
  replace HV := hide (autoAt_below HV.out hb)
  clear hb
  have HLE := hide hen
  clear hen
  have hbz := (Below.refl w18.heap.size w18).alloc (Nat.le_refl _) (.cells #[.int .i64 b2, .int .i64 t2, .slice al 1 cl, .slice al' 1 cl'] 25)
  replace HW := hide (below_step HW.out hbz)
  replace HA := hide (autoAt_below HA.out hbz)
  replace HB := hide (autoAt_below HB.out hbz)
  replace HM := hide (autoAt_below HM.out hbz)
  replace HS := hide (autoAt_below HS.out hbz)
  replace HX := hide (autoAt_below HX.out hbz)
  replace HY := hide (autoAt_below HY.out hbz)
  replace HZ := hide (autoAt_below HZ.out hbz)
  replace HV := hide (autoAt_below HV.out hbz)
  replace HLE := hide (slB_below HLE.out hbz)
  have HLX := hide (heap_alloc_last w18 (.cells #[.int .i64 b2, .int .i64 t2, .slice al 1 cl, .slice al' 1 cl'] 25))
  obtain ⟨p0, p1, p2, p3⟩ := HX.out.1
  clear hbz hsn
  go_wp2_with fail
  clear p0 p1 p2 p3
  generalize w18.alloc (.cells #[.int .i64 b2, .int .i64 t2, .slice al 1 cl, .slice al' 1 cl'] 25) = w19 at HW HA HB HM HS HX HY HZ HV HLE HLX ⊢
  refine (HC7.out ax cx ax' cx' w19 HX.out.2.1 HX.out.2.2).mono ?_
  rintro e w20 ⟨ak, ck, ak', ck', rfl, hsn, hen, hb⟩
  replace HW := hide (below_step HW.out hb)
  replace HA := hide (autoAt_below HA.out hb)
  replace HB := hide (autoAt_below HB.out hb)
  replace HM := hide (autoAt_below HM.out hb)
  replace HS := hide (autoAt_below HS.out hb)
  replace HX := hide (autoAt_below HX.out hb)
  replace HY := hide (autoAt_below HY.out hb)
  replace HZ := hide (autoAt_below HZ.out hb)
  replace HV := hide (autoAt_below HV.out hb)
  replace HLE := hide (slB_below HLE.out hb)
  replace HLX := hide ((hb.block _ (Array.getElem?_eq_some_iff.1 HLX.out).1).trans HLX.out)
  clear hb
  have hbz := (Below.refl w20.heap.size w20).alloc (Nat.le_refl _) (.cells #[.int .i64 b2, .int .i64 t2, .slice ak KN.length ck, .slice ak' KN.length ck'] 25)
  replace HW := hide (below_step HW.out hbz)
  replace HA := hide (autoAt_below HA.out hbz)
  replace HB := hide (autoAt_below HB.out hbz)
  replace HM := hide (autoAt_below HM.out hbz)
  replace HS := hide (autoAt_below HS.out hbz)
  replace HX := hide (autoAt_below HX.out hbz)
  replace HY := hide (autoAt_below HY.out hbz)
  replace HZ := hide (autoAt_below HZ.out hbz)
  replace HV := hide (autoAt_below HV.out hbz)
  replace HLE := hide (slB_below HLE.out hbz)
  replace HLX := hide ((hbz.block _ (Array.getElem?_eq_some_iff.1 HLX.out).1).trans HLX.out)
  have HK := hide (autoAt_new (b := b2) (t := t2) (cap := ck) (cap' := ck') (T := 25) hsn hen)
  obtain ⟨p0, p1, p2, p3⟩ := HA.out.1
  clear hbz hsn hen
  go_wp2_with fail
  clear p0 p1 p2 p3
  generalize w20.alloc (.cells #[.int .i64 b2, .int .i64 t2, .slice ak KN.length ck, .slice ak' KN.length ck'] 25) = w21 at HW HA HB HM HS HX HY HZ HV HK HLE HLX ⊢
  refine (HC8.out w21 HA.out.2.1 HA.out.2.2).mono ?_
  rintro e w22 ⟨att, ctt, att', ctt', rfl, hsn, hen, hb⟩
  replace HW := hide (below_step HW.out hb)
  replace HA := hide (autoAt_below HA.out hb)
  replace HB := hide (autoAt_below HB.out hb)
  replace HM := hide (autoAt_below HM.out hb)
  replace HS := hide (autoAt_below HS.out hb)
  replace HX := hide (autoAt_below HX.out hb)
  replace HY := hide (autoAt_below HY.out hb)
  replace HZ := hide (autoAt_below HZ.out hb)
  replace HV := hide (autoAt_below HV.out hb)
  replace HK := hide (autoAt_below HK.out hb)
  replace HLE := hide (slB_below HLE.out hb)
  replace HLX := hide ((hb.block _ (Array.getElem?_eq_some_iff.1 HLX.out).1).trans HLX.out)
  clear hb
  have hbz := (Below.refl w22.heap.size w22).alloc (Nat.le_refl _) (.cells #[.int .i64 b2, .int .i64 t2, .slice att KN.length ctt, .slice att' KN.length ctt'] 25)
  replace HW := hide (below_step HW.out hbz)
  replace HA := hide (autoAt_below HA.out hbz)
  replace HB := hide (autoAt_below HB.out hbz)
  replace HM := hide (autoAt_below HM.out hbz)
  replace HS := hide (autoAt_below HS.out hbz)
  replace HX := hide (autoAt_below HX.out hbz)
  replace HY := hide (autoAt_below HY.out hbz)
  replace HZ := hide (autoAt_below HZ.out hbz)
  replace HV := hide (autoAt_below HV.out hbz)
  replace HK := hide (autoAt_below HK.out hbz)
  replace HLE := hide (slB_below HLE.out hbz)
  replace HLX := hide ((hbz.block _ (Array.getElem?_eq_some_iff.1 HLX.out).1).trans HLX.out)
  have HT := hide (autoAt_new (b := b2) (t := t2) (cap := ctt) (cap' := ctt') (T := 25) hsn hen)
  obtain ⟨p0, p1, p2, p3⟩ := HK.out.1
  obtain ⟨q0, q1, q2, q3⟩ := HT.out.1
  clear hbz hsn hen
  go_wp2_with fail
  clear p0 p1 p2 p3 q0 q1 q2 q3
  generalize w22.alloc (.cells #[.int .i64 b2, .int .i64 t2, .slice att KN.length ctt, .slice att' KN.length ctt'] 25) = w23 at HW HA HB HM HS HX HY HZ HV HK HT HLE HLX ⊢
  refine (autos_eq b2 t2 ak KN.length ck ak' KN.length ck' att ctt att' ctt' KN KE w23 HK.out.2.1 HK.out.2.2 HT.out.2.1 HT.out.2.2).mono ?_
  rintro e w24 ⟨rfl, hb⟩
  replace HW := hide (below_step HW.out hb)
  replace HA := hide (autoAt_below HA.out hb)
  replace HB := hide (autoAt_below HB.out hb)
  replace HM := hide (autoAt_below HM.out hb)
  replace HS := hide (autoAt_below HS.out hb)
  replace HX := hide (autoAt_below HX.out hb)
  replace HY := hide (autoAt_below HY.out hb)
  replace HZ := hide (autoAt_below HZ.out hb)
  replace HV := hide (autoAt_below HV.out hb)
  replace HK := hide (autoAt_below HK.out hb)
  replace HT := hide (autoAt_below HT.out hb)
  replace HLE := hide (slB_below HLE.out hb)
  replace HLX := hide ((hb.block _ (Array.getElem?_eq_some_iff.1 HLX.out).1).trans HLX.out)
  obtain ⟨⟨r0, r1, r2, r3⟩, -⟩ := box_cells HLX.out
  obtain ⟨be2, oe2, rfl, hce⟩ := slB_cell HLE.out 0 (by omega)
  rw [HALL.out.2, Nat.add_zero] at hce
  clear hb
  go_wp2
  go_ret
  exact ⟨by simp, HW.out⟩
end Go.Proofs.Ytihhlddbppljpac
