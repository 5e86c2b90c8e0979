/- 4 texts in one. -/
import Derived.Test.YtleebojibobgaaaBy
import Derived.Test.YtleebojibobgaaaDd
import Derived.Test.YtleebojibobgaaaDi
import Derived.Test.YtleebojibobgaaaAx
import Derived.Test.YtleebojibobgaaaZDh
import Derived.Test.YtleebojibobgaaaZEg
import Derived.Test.YtleebojibobgaaaZLp
import Derived.Test.YtleebojibobgaaaGu
/- pair.Both: contract. -/
namespace Go.Proofs.Ytleebojibobgaaa
open Go.RowKit

set_option maxHeartbeats 4000000 in
set_option maxRecDepth 8000 in
theorem both_range (b t : Int) (a : Option Addr) (n cap : Nat) (a' : Option Addr) (k cap' : Nat) (b2 t2 : Int) (a2 : Option Addr) (n2 cap2 : Nat) (a2' : Option Addr) (k2 cap2' : Nat) (how : Int) (w : World) (hh : how < 0 ∨ 15 < how) :
    Calls Try.prog 14 #[.agg #[.int .i64 b, .int .i64 t, .slice a n cap, .slice a' k cap'], .agg #[.int .i64 b2, .int .i64 t2, .slice a2 n2 cap2, .slice a2' k2 cap2'], .int .i64 how] w (PairR w 0 0 [] [] 1) := by
  have HB := hide (below_three w (.cells #[.int .i64 b, .int .i64 t, .slice a n cap, .slice a' k cap'] 25) (.cells #[.int .i64 b2, .int .i64 t2, .slice a2 n2 cap2, .slice a2' k2 cap2'] 25) (.cells #[.int .i64 0, .int .i64 0, .slice none 0 0, .slice none 0 0] 25))
  have HBX := hide (@three_boxes w _ (.int .i64 b) (.int .i64 t) (.slice a n cap) (.slice a' k cap') (.int .i64 b2) (.int .i64 t2) (.slice a2 n2 cap2) (.slice a2' k2 cap2') 25 (.cells #[.int .i64 0, .int .i64 0, .slice none 0 0, .slice none 0 0] 25) (Below.refl _ _)).1
  go_enter Try.func14, Try.ntmps14
  by_cases h0 : how < 0
  · have h0' : decide (how < 0) = true := by simpa using h0
    go_wp2
    obtain ⟨⟨z0, z1, z2, z3⟩, -⟩ := box_cells HBX.out
    exact bodyPost_ret (v := .tuple #[.agg #[.int .i64 0, .int .i64 0, .slice none 0 0, .slice none 0 0], .iface 51 (.int .i64 1)]) (by simp [results, Try.results14, go_sem, z0, z1, z2, z3]) rfl ⟨none, 0, none, 0, rfl, autoNew_nil _ _, HB.out⟩
  · have h1 : 16 ≤ how := by omega
    have h0' : decide (how < 0) = false := by simpa using h0
    go_wp2
    obtain ⟨⟨z0, z1, z2, z3⟩, -⟩ := box_cells HBX.out
    exact bodyPost_ret (v := .tuple #[.agg #[.int .i64 0, .int .i64 0, .slice none 0 0, .slice none 0 0], .iface 51 (.int .i64 1)]) (by simp [results, Try.results14, go_sem, z0, z1, z2, z3]) rfl ⟨none, 0, none, 0, rfl, autoNew_nil _ _, HB.out⟩

set_option maxHeartbeats 4000000 in
set_option maxRecDepth 8000 in
theorem both_in (b t : Int) (a : Option Addr) (n cap : Nat) (a' : Option Addr) (k cap' : Nat) (N : List (List Int)) (E : List Bool) (b2 t2 : Int) (a2 : Option Addr) (n2 cap2 : Nat) (a2' : Option Addr) (k2 cap2' : Nat) (N2 : List (List Int)) (E2 : List Bool) (how : Int) (w : World)
    (hs : Sl2 w a n N) (he : SlB w a' k E) (hs2 : Sl2 w a2 n2 N2) (he2 : SlB w a2' k2 E2) (h0 : 0 ≤ how) (h15 : how ≤ 15) (hC : alikeC b t N k b2 t2 N2 k2 ≠ 0) :
    Calls Try.prog 14 #[.agg #[.int .i64 b, .int .i64 t, .slice a n cap, .slice a' k cap'], .agg #[.int .i64 b2, .int .i64 t2, .slice a2 n2 cap2, .slice a2' k2 cap2'], .int .i64 how] w (PairR w 0 0 [] [] (alikeC b t N k b2 t2 N2 k2)) := by
  have hB := below_three w (.cells #[.int .i64 b, .int .i64 t, .slice a n cap, .slice a' k cap'] 25) (.cells #[.int .i64 b2, .int .i64 t2, .slice a2 n2 cap2, .slice a2' k2 cap2'] 25) (.cells #[.int .i64 0, .int .i64 0, .slice none 0 0, .slice none 0 0] 25)
  have HB := hide hB
  have HAL := hide (checkBoth_u b t a n cap a' k cap' b2 t2 a2 n2 cap2 a2' k2 cap2' N N2 _ (sl2_below hs hB) he.2.1 (sl2_below hs2 hB) he2.2.1)
  have HBX := hide (fun w' => @three_boxes w w' (.int .i64 b) (.int .i64 t) (.slice a n cap) (.slice a' k cap') (.int .i64 b2) (.int .i64 t2) (.slice a2 n2 cap2) (.slice a2' k2 cap2') 25 (.cells #[.int .i64 0, .int .i64 0, .slice none 0 0, .slice none 0 0] 25))
  clear hs he hs2 he2 hB
  unfold PairR
  rw [errV_no hC] at HAL ⊢
  generalize alikeC b t N k b2 t2 N2 k2 = c at HAL ⊢
  obtain ⟨-, hbb⟩ := HBX.out _ (Below.refl _ _)
  obtain ⟨⟨p0, p1, p2, p3⟩, q0, q1, q2, q3⟩ := two_boxes hbb
  have h0' : decide (how < 0) = false := by simp; omega
  have h1' : ¬ 16 ≤ how := by omega
  clear hbb
  go_enter Try.func14, Try.ntmps14
  go_wp2_with fail
  refine HAL.out.mono ?_
  rintro e w1 ⟨rfl, hb1⟩
  obtain ⟨hr, -⟩ := HBX.out w1 hb1
  obtain ⟨⟨r0, r1, r2, r3⟩, rf⟩ := box_cells hr
  have HR := hide hr
  have HB1 := hide (below_step HB.out hb1)
  clear hr hb1 p0 p1 p2 p3 q0 q1 q2 q3
  go_wp2
  obtain ⟨⟨hset, -, -⟩, hbel⟩ := box_set0 HR.out rfl
  obtain ⟨⟨z0, z1, z2, z3⟩, -⟩ := box_cells hset
  exact bodyPost_ret (v := .tuple #[.agg #[.int .i64 0, .int .i64 0, .slice none 0 0, .slice none 0 0], .iface 51 (.int .i64 c)]) (by simp [results, Try.results14, go_sem, z0, z1, z2, z3]) rfl ⟨none, 0, none, 0, rfl, autoNew_nil _ _, hbel _ _ HB1.out (by omega)⟩

/-- The least one, or too many. -/
def BothW (w : World) (b t : Int) (LN : List (List Int)) (LE : List Bool) (LK : Nat) (e : Ending) (w' : World) : Prop := (LK ≤ 80 → PairR w b t LN LE 0 e w') ∧ (80 < LK → PairR w 0 0 [] [] 3 e w')

set_option maxHeartbeats 4000000 in
set_option maxRecDepth 8000 in
theorem both_ok (b t : Int) (a : Option Addr) (n cap : Nat) (a' : Option Addr) (cap' : Nat) (N : List (List Int)) (E : List Bool) (a2 : Option Addr) (n2 cap2 : Nat) (a2' : Option Addr) (cap2' : Nat) (N2 : List (List Int)) (E2 : List Bool) (how : Int) (w : World)
    (hs : Sl2 w a n N) (he : SlB w a' n E) (hs2 : Sl2 w a2 n2 N2) (he2 : SlB w a2' n2 E2) (h0 : 0 ≤ how) (h15 : how ≤ 15) (hC : alikeC b t N n b t N2 n2 = 0) :
    Calls Try.prog 14 #[.agg #[.int .i64 b, .int .i64 t, .slice a n cap, .slice a' n cap'], .agg #[.int .i64 b, .int .i64 t, .slice a2 n2 cap2, .slice a2' n2 cap2'], .int .i64 how] w (BothW w b t (leastN (bothP b t N N2) (bothQ how N N2 E E2) (manyU b t).toNat) (leastE (bothP b t N N2) (bothQ how N N2 E E2) (manyU b t).toNat) (bothK b t how N N2 E E2)) := by
  obtain ⟨hA1, hA2, -, -⟩ := alikeC_zero hC
  obtain ⟨hM, -, hG, -⟩ := autoC_zero hA1
  obtain ⟨-, -, hG2, -⟩ := autoC_zero hA2
  have h80 := autoC_80 hA1
  have h80' := autoC_80 hA2
  have hL := hs.1
  have hL2 := hs2.1
  rw [hL] at hG h80
  rw [hL2] at hG2 h80'
  have hn : n * n2 ≤ 4000000 := Nat.le_trans (Nat.mul_le_mul h80 h80') (by decide)
  have hB := below_three w (.cells #[.int .i64 b, .int .i64 t, .slice a n cap, .slice a' n cap'] 25) (.cells #[.int .i64 b, .int .i64 t, .slice a2 n2 cap2, .slice a2' n2 cap2'] 25) (.cells #[.int .i64 0, .int .i64 0, .slice none 0 0, .slice none 0 0] 25)
  have HB := hide hB
  have HAL := hide (checkBoth_u b t a n cap a' n cap' b t a2 n2 cap2 a2' n2 cap2' N N2 _ (sl2_below hs hB) he.2.1 (sl2_below hs2 hB) he2.2.1)
  rw [errV_yes hC] at HAL
  have HBX := hide (fun w' => @three_boxes w w' (.int .i64 b) (.int .i64 t) (.slice a n cap) (.slice a' n cap') (.int .i64 b) (.int .i64 t) (.slice a2 n2 cap2) (.slice a2' n2 cap2') 25 (.cells #[.int .i64 0, .int .i64 0, .slice none 0 0, .slice none 0 0] 25))
  have HCO := hide (fun W (h : Below _ _ W) => couples_any b t a n cap a' cap' (manyU b t).toNat N E b t a2 n2 cap2 a2' cap2' N2 E2 how W (sl2_below hs (below_step hB h)) (slB_below he (below_step hB h)) (sl2_below hs2 (below_step hB h)) (slB_below he2 (below_step hB h)) hG hG2 hn h0 h15)
  unfold GivesAuto at HCO
  have hP := prod_good hG hG2 hn
  have hCG := coup_good hP
  rw [← coup_len hP] at hCG
  have HLW := hide (fun ax cx ax' cx' W h1 h2 => leastw_any b t ax (coupN (prodN N N2 (manyU b t).toNat)).length cx (manyU b t).toNat (coupN (prodN N N2 (manyU b t).toNat)) ax' cx' (coupE (prodN N N2 (manyU b t).toNat) (prodE how n n2 E E2)) W h1 h2 hCG (autoM_good hM hCG (by have := hCG.2.2.1; omega)))
  obtain ⟨e1, e2, e3⟩ := coup_least hP (prodE how n n2 E E2)
  unfold LeastR LeastU at HLW
  rw [e1, e2, e3] at HLW
  have hbP : bothP b t N N2 = prodN N N2 (manyU b t).toNat := rfl
  have hbQ : bothQ how N N2 E E2 = prodE how n n2 E E2 := by unfold bothQ; rw [hL, hL2]
  unfold bothK
  rw [hbP, hbQ]
  clear hs he hs2 he2 hA1 hA2 hC hM hG hG2 h80 h80' hn hP hCG e1 e2 e3 hbP hbQ
  generalize coupN (prodN N N2 (manyU b t).toNat) = CN at HCO HLW
  generalize coupE (prodN N N2 (manyU b t).toNat) (prodE how n n2 E E2) = CE at HCO HLW
  generalize leastN (prodN N N2 (manyU b t).toNat) (prodE how n n2 E E2) (manyU b t).toNat = LN at HLW ⊢
  generalize leastE (prodN N N2 (manyU b t).toNat) (prodE how n n2 E E2) (manyU b t).toNat = LE at HLW ⊢
  generalize leastK (prodN N N2 (manyU b t).toNat) (prodE how n n2 E E2) (manyU b t).toNat = LK at HLW ⊢
  generalize hW0 : ((w.alloc (.cells #[.int .i64 b, .int .i64 t, .slice a n cap, .slice a' n cap'] 25)).alloc (.cells #[.int .i64 b, .int .i64 t, .slice a2 n2 cap2, .slice a2' n2 cap2'] 25)).alloc (.cells #[.int .i64 0, .int .i64 0, .slice none 0 0, .slice none 0 0] 25) = wb at HB HAL HBX HCO
  have HSZ0 : Hid (wb.heap.size = w.heap.size + 3) := by show _ = _; rw [← hW0]; simp
  obtain ⟨-, hbb⟩ := HBX.out wb (Below.refl _ _)
  obtain ⟨⟨p0, p1, p2, p3⟩, q0, q1, q2, q3⟩ := two_boxes hbb
  have h0' : decide (how < 0) = false := by simp; omega
  have h1' : ¬ 16 ≤ how := by omega
  clear hbb hB
  go_enter Try.func14, Try.ntmps14
  go_wp2_with fail
  clear hW0 p0 p1 p2 p3 q0 q1 q2 q3
  refine HAL.out.mono ?_
  rintro e w1 ⟨rfl, hb1⟩
  obtain ⟨-, hbb⟩ := HBX.out w1 hb1
  obtain ⟨⟨p0, p1, p2, p3⟩, q0, q1, q2, q3⟩ := two_boxes hbb
  have HB1 := hide hb1
  clear hb1 hbb HAL
  go_wp2_with fail
  clear p0 p1 p2 p3 q0 q1 q2 q3
  refine (HCO.out w1 HB1.out).mono ?_
  rintro e w2 ⟨ax, cx, ax', cx', rfl, hnew, hb2⟩
  have HB2 := hide (below_step HB1.out hb2)
  have HL2 := hide (HLW.out ax cx ax' cx' w2 hnew.here.1 hnew.here.2)
  clear hnew hb2 HCO HLW
  go_wp2_with fail
  refine HL2.out.mono ?_
  rintro e w3 ⟨hyes, hno⟩
  clear HL2
  by_cases hK : LK ≤ 80
  · obtain ⟨ay, cy, ay', cy', rfl, hnew, hb3⟩ := hyes hK
    obtain ⟨hr, -⟩ := HBX.out w3 (below_step HB2.out hb3)
    obtain ⟨⟨r0, r1, r2, r3⟩, rf⟩ := box_cells hr
    have HR := hide hr
    have HB3 := hide (below_step HB.out (below_step HB2.out hb3))
    have HNEW := hide hnew
    have HSW := hide HB2.out.size
    clear hr hb3 hyes hno hnew
    go_wp2
    obtain ⟨⟨hset, hsz, hoth⟩, hbel⟩ := box_set (v0 := .int .i64 b) (v1 := .int .i64 t) (v2 := .slice ay LN.length cy) (v3 := .slice ay' LN.length cy') HR.out rfl
    have hfin : AutoNew w ay LN.length LN ay' LE ((((w3.setCell ⟨w.heap.size + 2, 0, none⟩ (.int .i64 b)).setCell ⟨w.heap.size + 2, 1, none⟩ (.int .i64 t)).setCell ⟨w.heap.size + 2, 2, none⟩ (.slice ay LN.length cy)).setCell ⟨w.heap.size + 2, 3, none⟩ (.slice ay' LN.length cy')) := fun W' hW' => HNEW.out W' (fun x hx hxl => by
      have h1 := HSW.out
      have h2 := HSZ0.out
      rw [hW' x (by omega) (by rw [hsz]; exact hxl), hoth x (by omega)])
    have hb := hbel w w.heap.size HB3.out (by omega)
    obtain ⟨⟨z0, z1, z2, z3⟩, -⟩ := box_cells hset
    exact bodyPost_ret (v := .tuple #[.agg #[.int .i64 b, .int .i64 t, .slice ay LN.length cy, .slice ay' LN.length cy'], .nilIface]) (by simp [results, Try.results14, go_sem, z0, z1, z2, z3]) rfl ⟨fun _ => ⟨ay, cy, ay', cy', rfl, hfin, hb⟩, fun h => by omega⟩
  · obtain ⟨rfl, hb3⟩ := hno (by omega)
    obtain ⟨hr, -⟩ := HBX.out w3 (below_step HB2.out hb3)
    obtain ⟨⟨r0, r1, r2, r3⟩, rf⟩ := box_cells hr
    have HR := hide hr
    have HB3 := hide (below_step HB.out (below_step HB2.out hb3))
    clear hr hb3 hyes hno
    go_wp2
    obtain ⟨⟨hset, hsz, hoth⟩, hbel⟩ := box_set0 HR.out rfl
    have hb := hbel w w.heap.size HB3.out (by omega)
    obtain ⟨⟨z0, z1, z2, z3⟩, -⟩ := box_cells hset
    exact bodyPost_ret (v := .tuple #[.agg #[.int .i64 0, .int .i64 0, .slice none 0 0, .slice none 0 0], .iface 51 (.int .i64 3)]) (by simp [results, Try.results14, go_sem, z0, z1, z2, z3]) rfl ⟨fun h => by omega, fun _ => ⟨none, 0, none, 0, rfl, autoNew_nil _ _, hb⟩⟩

theorem both_u (b t : Int) (a : Option Addr) (n cap : Nat) (a' : Option Addr) (k cap' : Nat) (N : List (List Int)) (E : List Bool) (b2 t2 : Int) (a2 : Option Addr) (n2 cap2 : Nat) (a2' : Option Addr) (k2 cap2' : Nat) (N2 : List (List Int)) (E2 : List Bool) (how : Int) (w : World)
    (hs : Sl2 w a n N) (he : SlB w a' k E) (hs2 : Sl2 w a2 n2 N2) (he2 : SlB w a2' k2 E2) :
    Calls Try.prog 14 #[.agg #[.int .i64 b, .int .i64 t, .slice a n cap, .slice a' k cap'], .agg #[.int .i64 b2, .int .i64 t2, .slice a2 n2 cap2, .slice a2' k2 cap2'], .int .i64 how] w (PairR w (okI (bothC how b t N E k b2 t2 N2 E2 k2) b) (okI (bothC how b t N E k b2 t2 N2 E2 k2) t) (bothN how b t N E k b2 t2 N2 E2 k2) (bothE how b t N E k b2 t2 N2 E2 k2) (bothC how b t N E k b2 t2 N2 E2 k2)) := by
  by_cases hh : 0 ≤ how ∧ how ≤ 15
  · by_cases hC : alikeC b t N k b2 t2 N2 k2 = 0
    · obtain ⟨hA1, hA2, rfl, rfl⟩ := alikeC_zero hC
      obtain rfl : k = n := by rw [(autoC_zero hA1).2.1, hs.1]
      obtain rfl : k2 = n2 := by rw [(autoC_zero hA2).2.1, hs2.1]
      refine (both_ok b t a k cap a' cap' N E a2 k2 cap2 a2' cap2' N2 E2 how w hs he hs2 he2 hh.1 hh.2 hC).mono ?_
      rintro e w' ⟨h1, h2⟩
      by_cases hK : bothK b t how N N2 E E2 ≤ 80
      · have hc : bothC how b t N E k b t N2 E2 k2 = 0 := by unfold bothC; rw [if_pos hh, if_pos hC, if_pos hK]
        unfold bothN bothE okI
        rw [hc, if_pos rfl, if_pos rfl, if_pos rfl, if_pos rfl]
        exact h1 hK
      · have hc : bothC how b t N E k b t N2 E2 k2 = 3 := by unfold bothC; rw [if_pos hh, if_pos hC, if_neg hK]
        unfold bothN bothE okI
        rw [hc, if_neg (by decide), if_neg (by decide), if_neg (by decide), if_neg (by decide)]
        exact h2 (by omega)
    · have hc := @alikeC_of b t N k b2 t2 N2 k2 how E E2 hh.1 hh.2 hC
      unfold bothN bothE okI
      rw [hc, if_neg hC, if_neg hC, if_neg hC, if_neg hC]
      exact both_in b t a n cap a' k cap' N E b2 t2 a2 n2 cap2 a2' k2 cap2' N2 E2 how w hs he hs2 he2 hh.1 hh.2 hC
  · have hc : bothC how b t N E k b2 t2 N2 E2 k2 = 1 := by unfold bothC; rw [if_neg hh]
    unfold bothN bothE okI
    rw [hc, if_neg (by decide), if_neg (by decide), if_neg (by decide), if_neg (by decide)]
    exact both_range b t a n cap a' k cap' b2 t2 a2 n2 cap2 a2' k2 cap2' how w (by omega)
end Go.Proofs.Ytleebojibobgaaa

/- The walk of the law PairTakes. -/
namespace Go.Proofs.Ytleebojibobgaaa
open Go.RowKit

/-- Where both are well. -/
theorem both_well {how b t b2 t2 : Int} {N N2 : List (List Int)} {E E2 : List Bool} {k k2 : Nat} (hc : bothC how b t N E k b2 t2 N2 E2 k2 = 0) :
    (0 ≤ how ∧ how ≤ 15) ∧ b2 = b ∧ t2 = t ∧ autoC b t N k = 0 ∧ autoC b t N2 k2 = 0 ∧ autoC b t (bothN how b t N E k b2 t2 N2 E2 k2) (bothN how b t N E k b2 t2 N2 E2 k2).length = 0 ∧ (bothE how b t N E k b2 t2 N2 E2 k2).length = (bothN how b t N E k b2 t2 N2 E2 k2).length ∧
      ∀ w, okW (manyU b t).toNat w → tkB (bothN how b t N E k b2 t2 N2 E2 k2) (bothE how b t N E k b2 t2 N2 E2 k2) w = howB how (tkB N E w) (tkB N2 E2 w) := by
  have hN : bothN how b t N E k b2 t2 N2 E2 k2 = leastN (bothP b t N N2) (bothQ how N N2 E E2) (manyU b t).toNat := by unfold bothN; rw [if_pos hc]
  have hEE : bothE how b t N E k b2 t2 N2 E2 k2 = leastE (bothP b t N N2) (bothQ how N N2 E E2) (manyU b t).toNat := by unfold bothE; rw [if_pos hc]
  rw [hN, hEE]
  unfold bothC at hc
  split at hc
  · rename_i hh
    split at hc
    · rename_i hC
      split at hc
      · rename_i hK
        obtain ⟨hA1, hA2, rfl, rfl⟩ := alikeC_zero hC
        obtain ⟨hM, hk1, hG, -⟩ := autoC_zero hA1
        obtain ⟨-, hk2, hG2, -⟩ := autoC_zero hA2
        have h80 := autoC_80 hA1
        have h80' := autoC_80 hA2
        have hn : N.length * N2.length ≤ 4000000 := Nat.le_trans (Nat.mul_le_mul h80 h80') (by decide)
        have hP := prod_good hG hG2 hn
        have hL := least_good hP (bothQ how N N2 E E2)
        refine ⟨hh, rfl, rfl, hA1, hA2, ?_, by rw [leastN_len, leastE_len], fun w hw => ?_⟩
        · have := autoC_good hM hL hK
          rwa [← leastN_len] at this
        · exact both_tk hG hG2 hn how E E2 w hw
      · cases hc
    · rename_i hC
      exact absurd hc hC
  · cases hc

end Go.Proofs.Ytleebojibobgaaa

/- Mathematics of SomeOrder. -/
namespace Go.Proofs.Ytleebojibobgaaa
open Go.RowKit

theorem sm_again {b : Int} {tr tk m mu k : Nat} {N : List (List Int)} {E : List Bool} (H : SmWell b tr tk N E m mu) (h : smC b ((tr : Int) + 1) N E k (tk : Int) = 0) :
    leastN (smN b ((tr : Int) + 1) N E k (tk : Int)) (smE b ((tr : Int) + 1) N E k (tk : Int)) mu = smN b ((tr : Int) + 1) N E k (tk : Int) ∧ leastE (smN b ((tr : Int) + 1) N E k (tk : Int)) (smE b ((tr : Int) + 1) N E k (tk : Int)) mu = smE b ((tr : Int) + 1) N E k (tk : Int) := by
  obtain ⟨hS, hK⟩ := smC_zero h
  obtain ⟨-, hL⟩ := smS_zero hS
  have hG := sm_good H hL
  unfold smN smE
  rw [if_pos h, if_pos h, show (tr : Int) + 1 - 1 = (tr : Int) by omega, H.fU, Int.toNat_natCast]
  exact least_again hG _
theorem both_again {how b t b2 t2 : Int} {N N2 : List (List Int)} {E E2 : List Bool} {k k2 : Nat} (hc : bothC how b t N E k b2 t2 N2 E2 k2 = 0) :
    leastN (bothN how b t N E k b2 t2 N2 E2 k2) (bothE how b t N E k b2 t2 N2 E2 k2) (manyU b t).toNat = bothN how b t N E k b2 t2 N2 E2 k2 ∧ leastE (bothN how b t N E k b2 t2 N2 E2 k2) (bothE how b t N E k b2 t2 N2 E2 k2) (manyU b t).toNat = bothE how b t N E k b2 t2 N2 E2 k2 := by
  obtain ⟨-, rfl, rfl, hA1, hA2, -⟩ := both_well hc
  obtain ⟨hM, hk1, hG, -⟩ := autoC_zero hA1
  obtain ⟨-, hk2, hG2, -⟩ := autoC_zero hA2
  have hn : N.length * N2.length ≤ 4000000 := Nat.le_trans (Nat.mul_le_mul (autoC_80 hA1) (autoC_80 hA2)) (by decide)
  have hP := prod_good hG hG2 hn
  have hN : bothN how b2 t2 N E k b2 t2 N2 E2 k2 = leastN (bothP b2 t2 N N2) (bothQ how N N2 E E2) (manyU b2 t2).toNat := by unfold bothN; rw [if_pos hc]
  have hEE : bothE how b2 t2 N E k b2 t2 N2 E2 k2 = leastE (bothP b2 t2 N N2) (bothQ how N N2 E E2) (manyU b2 t2).toNat := by unfold bothE; rw [if_pos hc]
  rw [hN, hEE]
  exact least_again hP _
/-- Two tracks left out, in either order: one and the same automaton. -/
theorem some_order {b t t' : Int} {N : List (List Int)} {E : List Bool} {k : Nat} (ht : t' = t - 1) (h1 : smC b t N E k 1 = 0) (h0 : smC b t N E k 0 = 0)
    (h2 : smC b t' (smN b t N E k 1) (smE b t N E k 1) (smN b t N E k 1).length 0 = 0) (h3 : smC b t' (smN b t N E k 0) (smE b t N E k 0) (smN b t N E k 0).length 0 = 0) :
    smN b t' (smN b t N E k 1) (smE b t N E k 1) (smN b t N E k 1).length 0 = smN b t' (smN b t N E k 0) (smE b t N E k 0) (smN b t N E k 0).length 0 ∧ smE b t' (smN b t N E k 1) (smE b t N E k 1) (smN b t N E k 1).length 0 = smE b t' (smN b t N E k 0) (smE b t N E k 0) (smN b t N E k 0).length 0 := by
  obtain ⟨tr1, tk1, m1, mu1, e1, f1, -, H1⟩ := sm_well E (smS_zero (smC_zero h1).1).1
  obtain ⟨tr0, tk0, m0, mu0, e0, f0, -, H0⟩ := sm_well E (smS_zero (smC_zero h0).1).1
  obtain rfl : tk1 = 1 := by omega
  obtain rfl : tk0 = 0 := by omega
  obtain ⟨tr, rfl⟩ : ∃ tr, tr1 = tr + 1 := ⟨tr1 - 1, by have := H1.tracks.2; omega⟩
  obtain rfl : tr0 = tr + 1 := by omega
  obtain rfl : m0 = m1 := by rw [← H0.mU, ← H1.mU]
  obtain rfl : mu0 = mu1 := by have a := H0.fU; have b := H1.fU; omega
  obtain ⟨tr2, tk2, m2, mu2, e2, f2, -, H2⟩ := sm_well (smE b t N E k 1) (smS_zero (smC_zero h2).1).1
  obtain ⟨tr3, tk3, m3, mu3, e3, f3, -, H3⟩ := sm_well (smE b t N E k 0) (smS_zero (smC_zero h3).1).1
  obtain rfl : tk2 = 0 := by omega
  obtain rfl : tk3 = 0 := by omega
  obtain rfl : tr2 = tr := by omega
  obtain rfl : tr3 = tr2 := by omega
  have hc : ((tr3 : Int) + 1) = (((tr3 + 1 : Nat)) : Int) := by omega
  have hm2 : m2 = mu0 := by have a := H2.mU; rw [hc, H0.fU] at a; omega
  have hm3 : m3 = mu0 := by have a := H3.mU; rw [hc, H0.fU] at a; omega
  obtain rfl : mu3 = mu2 := by have a := H2.fU; have b := H3.fU; omega
  subst hm2
  subst hm3
  subst e2
  subst e0
  have A2 := smN_auto H2 h2
  have A3 := smN_auto H3 h3
  have S2 := sm_again H2 h2
  have S3 := sm_again H3 h3
  have L := least_same A2.2.2 A3.2.2 (smE b ((tr3 : Int) + 1) (smN b (((tr3 + 1 : Nat) : Int) + 1) N E k 1) (smE b (((tr3 + 1 : Nat) : Int) + 1) N E k 1) (smN b (((tr3 + 1 : Nat) : Int) + 1) N E k 1).length 0) (smE b ((tr3 : Int) + 1) (smN b (((tr3 + 1 : Nat) : Int) + 1) N E k 0) (smE b (((tr3 + 1 : Nat) : Int) + 1) N E k 0) (smN b (((tr3 + 1 : Nat) : Int) + 1) N E k 0).length 0) (fun w hw => by
    have a := smN_tk H2 h2 hw
    have c := smN_tk H3 h3 hw
    have a' := some_some H1 h1 H2 hw
    have c' := some_some H0 h0 H3 hw
    have key := a.trans (a'.trans ((exists_congr fun u => by
      have : (u.map fun y => delT b tr3 0 (delT b (tr3 + 1) 1 y)) = (u.map fun y => delT b tr3 0 (delT b (tr3 + 1) 0 y)) := List.map_congr_left fun y _ => del_two H1.base.2 y
      rw [this]).trans (c'.symm.trans c.symm)))
    exact Bool.eq_iff_iff.2 key)
  exact ⟨S2.1.symm.trans (L.1.trans S3.1), S2.2.symm.trans (L.2.trans S3.2)⟩
theorem how_or (x y : Bool) : howB 14 x y = (x || y) := by cases x <;> cases y <;> rfl
/-- Of two together: with a track left out, it is the two of them so. -/
theorem some_or {b t t' b2 t2 t2' : Int} {N N2 : List (List Int)} {E E2 : List Bool} {k k2 : Nat} (ht : t' = t - 1) (ht2 : t2' = t2 - 1) (hc : bothC 14 b t N E k b2 t2 N2 E2 k2 = 0)
    (hz : smC b t (bothN 14 b t N E k b2 t2 N2 E2 k2) (bothE 14 b t N E k b2 t2 N2 E2 k2) (bothN 14 b t N E k b2 t2 N2 E2 k2).length 0 = 0) (hp : smC b t N E k 0 = 0) (hq : smC b2 t2 N2 E2 k2 0 = 0)
    (hg : bothC 14 b t' (smN b t N E k 0) (smE b t N E k 0) (smN b t N E k 0).length b2 t2' (smN b2 t2 N2 E2 k2 0) (smE b2 t2 N2 E2 k2 0) (smN b2 t2 N2 E2 k2 0).length = 0) :
    smN b t (bothN 14 b t N E k b2 t2 N2 E2 k2) (bothE 14 b t N E k b2 t2 N2 E2 k2) (bothN 14 b t N E k b2 t2 N2 E2 k2).length 0 = bothN 14 b t' (smN b t N E k 0) (smE b t N E k 0) (smN b t N E k 0).length b2 t2' (smN b2 t2 N2 E2 k2 0) (smE b2 t2 N2 E2 k2 0) (smN b2 t2 N2 E2 k2 0).length ∧
    smE b t (bothN 14 b t N E k b2 t2 N2 E2 k2) (bothE 14 b t N E k b2 t2 N2 E2 k2) (bothN 14 b t N E k b2 t2 N2 E2 k2).length 0 = bothE 14 b t' (smN b t N E k 0) (smE b t N E k 0) (smN b t N E k 0).length b2 t2' (smN b2 t2 N2 E2 k2 0) (smE b2 t2 N2 E2 k2 0) (smN b2 t2 N2 E2 k2 0).length := by
  obtain ⟨-, rfl, rfl, -, -, -, -, hTK⟩ := both_well hc
  obtain rfl : t2' = t' := by omega
  obtain ⟨-, -, -, -, -, hA, hAE, hTG⟩ := both_well hg
  have hB := both_again hg
  obtain ⟨tr, tk, m, mu, e, f, -, H⟩ := sm_well E (smS_zero (smC_zero hp).1).1
  obtain ⟨trq, tkq, mq, muq, eq, fq, -, HQ⟩ := sm_well E2 (smS_zero (smC_zero hq).1).1
  obtain ⟨trz, tkz, mz, muz, ez, fz, -, HZ⟩ := sm_well (bothE 14 b2 t2 N E k b2 t2 N2 E2 k2) (smS_zero (smC_zero hz).1).1
  obtain rfl : tk = 0 := by omega
  obtain rfl : tkq = 0 := by omega
  obtain rfl : tkz = 0 := by omega
  obtain rfl : trq = tr := by omega
  obtain rfl : trz = trq := by omega
  obtain rfl : mq = m := by rw [← HQ.mU, ← H.mU]
  obtain rfl : mz = mq := by rw [← HZ.mU, ← HQ.mU]
  obtain rfl : muq = mu := by have a := HQ.fU; have b := H.fU; omega
  obtain rfl : muz = muq := by have a := HZ.fU; have b := HQ.fU; omega
  have et : t2' = (trz : Int) := by omega
  subst et
  subst e
  have AZ := smN_auto HZ hz
  have SZ := sm_again HZ hz
  obtain ⟨-, -, hGG, -⟩ := autoC_zero hA
  rw [HZ.fU, Int.toNat_natCast] at hGG hB hTG
  rw [HZ.mU] at hTK
  have L := least_same AZ.2.2 hGG (smE b2 ((trz : Int) + 1) (bothN 14 b2 ((trz : Int) + 1) N E k b2 ((trz : Int) + 1) N2 E2 k2) (bothE 14 b2 ((trz : Int) + 1) N E k b2 ((trz : Int) + 1) N2 E2 k2) (bothN 14 b2 ((trz : Int) + 1) N E k b2 ((trz : Int) + 1) N2 E2 k2).length 0) (bothE 14 b2 (trz : Int) (smN b2 ((trz : Int) + 1) N E k 0) (smE b2 ((trz : Int) + 1) N E k 0) (smN b2 ((trz : Int) + 1) N E k 0).length b2 (trz : Int) (smN b2 ((trz : Int) + 1) N2 E2 k2 0) (smE b2 ((trz : Int) + 1) N2 E2 k2 0) (smN b2 ((trz : Int) + 1) N2 E2 k2 0).length) (fun w hw => by
    have a := smN_tk HZ hz hw
    have c := hTG w hw
    have p := smN_tk H hp hw
    have q := smN_tk HQ hq hw
    rw [how_or] at c
    have key : someL b2 trz 0 muz (bothN 14 b2 ((trz : Int) + 1) N E k b2 ((trz : Int) + 1) N2 E2 k2) (bothE 14 b2 ((trz : Int) + 1) N E k b2 ((trz : Int) + 1) N2 E2 k2) w ↔ (someL b2 trz 0 muz N E w ∨ someL b2 trz 0 muz N2 E2 w) := by
      rw [someL_iff HZ hw, someL_iff H hw, someL_iff HQ hw]
      constructor
      · rintro ⟨u, h1, h2, h3⟩
        rw [hTK u h1, how_or, Bool.or_eq_true] at h2
        rcases h2 with h2 | h2
        · exact .inl ⟨u, h1, h2, h3⟩
        · exact .inr ⟨u, h1, h2, h3⟩
      · rintro (⟨u, h1, h2, h3⟩ | ⟨u, h1, h2, h3⟩)
        · exact ⟨u, h1, by rw [hTK u h1, how_or, h2]; rfl, h3⟩
        · exact ⟨u, h1, by rw [hTK u h1, how_or, h2, Bool.or_true], h3⟩
    refine Bool.eq_iff_iff.2 (a.trans (key.trans ?_))
    refine Iff.trans ?_ (Bool.eq_iff_iff.1 c).symm
    rw [Bool.or_eq_true]
    exact (or_congr p q).symm)
  exact ⟨SZ.1.symm.trans (L.1.trans hB.1), SZ.2.symm.trans (L.2.trans hB.2)⟩
end Go.Proofs.Ytleebojibobgaaa

/- The walk of the law SomeOrder, from what package some answers. -/
namespace Go.Proofs.Ytleebojibobgaaa
open Go.RowKit

/-- What stands between two calls: both automata in their boxes. -/
def OrAt (w W : World) (b t : Int) (a : Option Addr) (n cap : Nat) (a' : Option Addr) (k cap' : Nat) (N : List (List Int)) (E : List Bool) (b2 t2 : Int) (a2 : Option Addr) (n2 cap2 : Nat) (a2' : Option Addr) (k2 cap2' : Nat) (N2 : List (List Int)) (E2 : List Bool) : Prop :=
  Below w.heap.size w W ∧ AutoAt W w.heap.size b t a n cap a' k cap' N E ∧ AutoAt W (w.heap.size + 1) b2 t2 a2 n2 cap2 a2' k2 cap2' N2 E2
theorem orAt_step {w W W' : World} {b t : Int} {a : Option Addr} {n cap : Nat} {a' : Option Addr} {k cap' : Nat} {N : List (List Int)} {E : List Bool} {b2 t2 : Int} {a2 : Option Addr} {n2 cap2 : Nat} {a2' : Option Addr} {k2 cap2' : Nat} {N2 : List (List Int)} {E2 : List Bool} (h : OrAt w W b t a n cap a' k cap' N E b2 t2 a2 n2 cap2 a2' k2 cap2' N2 E2) (hb : Below W.heap.size W W') : OrAt w W' b t a n cap a' k cap' N E b2 t2 a2 n2 cap2 a2' k2 cap2' N2 E2 :=
  ⟨below_step h.1 hb, autoAt_below h.2.1 hb, autoAt_below h.2.2 hb⟩

set_option maxHeartbeats 32000000 in
set_option maxRecDepth 8000 in
theorem someorder_of (b t : Int) (a : Option Addr) (n cap : Nat) (a' : Option Addr) (k cap' : Nat) (N : List (List Int)) (E : List Bool) (b2 t2 : Int) (a2 : Option Addr) (n2 cap2 : Nat) (a2' : Option Addr) (k2 cap2' : Nat) (N2 : List (List Int)) (E2 : List Bool) (w : World) (hs : Sl2 w a n N) (he : SlB w a' k E) (hs2 : Sl2 w a2 n2 N2) (he2 : SlB w a2' k2 E2) (hSM : SomeSays) (hST : SetsSays) :
    Calls Try.prog 5 #[.agg #[.int .i64 b, .int .i64 t, .slice a n cap, .slice a' k cap'], .agg #[.int .i64 b2, .int .i64 t2, .slice a2 n2 cap2, .slice a2' k2 cap2']] w fun e w' => e = .returned (.bool true) ∧ Below w.heap.size w w' := by
  have hB0 := below_two w (.cells #[.int .i64 b, .int .i64 t, .slice a n cap, .slice a' k cap'] 25) (.cells #[.int .i64 b2, .int .i64 t2, .slice a2 n2 cap2, .slice a2' k2 cap2'] 25)
  have hbx := two_boxes (Below.refl _ ((w.alloc (.cells #[.int .i64 b, .int .i64 t, .slice a n cap, .slice a' k cap'] 25)).alloc (.cells #[.int .i64 b2, .int .i64 t2, .slice a2 n2 cap2, .slice a2' k2 cap2'] 25)))
  have H0 : Hid (OrAt w _ b t a n cap a' k cap' N E b2 t2 a2 n2 cap2 a2' k2 cap2' N2 E2) := ⟨hB0, ⟨hbx.1, sl2_below hs hB0, slB_below he hB0⟩, ⟨hbx.2, sl2_below hs2 hB0, slB_below he2 hB0⟩⟩
  have HSA := hide (fun W => sme_any W)
  unfold GivesAuto at HSA
  rw [show smeN.length = 2 from rfl] at HSA
  have HST := hide (fun aa cc aa' cc' W h1 h2 => hST 2 2 aa 2 cc aa' 2 cc' smeN smeE 1 W h1 h2)
  rw [sme_many, sme_sets, errV_yes rfl] at HST
  have HORD := hide (@some_order b t (t - 1) N E k rfl)
  have HOR := hide (@some_or b t (t - 1) b2 t2 (t2 - 1) N N2 E E2 k k2 rfl rfl)
  have HS1 := hide (fun W h1 h2 => hSM b t a n cap a' k cap' N E 1 W h1 h2)
  have HS0 := hide (fun W h1 h2 => hSM b t a n cap a' k cap' N E 0 W h1 h2)
  have HSQ := hide (fun W h1 h2 => hSM b2 t2 a2 n2 cap2 a2' k2 cap2' N2 E2 0 W h1 h2)
  have HS2 := hide (fun x cx x' cx' W h1 h2 => hSM b (t - 1) x (smN b t N E k 1).length cx x' (smN b t N E k 1).length cx' (smN b t N E k 1) (smE b t N E k 1) 0 W h1 h2)
  have HS3 := hide (fun x cx x' cx' W h1 h2 => hSM b (t - 1) x (smN b t N E k 0).length cx x' (smN b t N E k 0).length cx' (smN b t N E k 0) (smE b t N E k 0) 0 W h1 h2)
  have HBO := hide (fun W h1 h2 h3 h4 => both_u b t a n cap a' k cap' N E b2 t2 a2 n2 cap2 a2' k2 cap2' N2 E2 14 W h1 h2 h3 h4)
  have HSZ := hide (fun x cx x' cx' W h1 h2 => hSM b t x (bothN 14 b t N E k b2 t2 N2 E2 k2).length cx x' (bothN 14 b t N E k b2 t2 N2 E2 k2).length cx' (bothN 14 b t N E k b2 t2 N2 E2 k2) (bothE 14 b t N E k b2 t2 N2 E2 k2) 0 W h1 h2)
  have HBG := hide (fun x cx x' cx' y cy y' cy' W h1 h2 h3 h4 => both_u b (t - 1) x (smN b t N E k 0).length cx x' (smN b t N E k 0).length cx' (smN b t N E k 0) (smE b t N E k 0) b2 (t2 - 1) y (smN b2 t2 N2 E2 k2 0).length cy y' (smN b2 t2 N2 E2 k2 0).length cy' (smN b2 t2 N2 E2 k2 0) (smE b2 t2 N2 E2 k2 0) 14 W h1 h2 h3 h4)
  unfold PairR at HS1 HS0 HSQ HS2 HS3 HBO HSZ HBG
  clear hs he hs2 he2 hSM hST hB0 hbx
  generalize smN b (t - 1) (smN b t N E k 1) (smE b t N E k 1) (smN b t N E k 1).length 0 = X2 at HS2 HORD
  generalize smE b (t - 1) (smN b t N E k 1) (smE b t N E k 1) (smN b t N E k 1).length 0 = Y2 at HS2 HORD
  generalize smC b (t - 1) (smN b t N E k 1) (smE b t N E k 1) (smN b t N E k 1).length 0 = c2 at HS2 HORD
  generalize smN b (t - 1) (smN b t N E k 0) (smE b t N E k 0) (smN b t N E k 0).length 0 = X3 at HS3 HORD
  generalize smE b (t - 1) (smN b t N E k 0) (smE b t N E k 0) (smN b t N E k 0).length 0 = Y3 at HS3 HORD
  generalize smC b (t - 1) (smN b t N E k 0) (smE b t N E k 0) (smN b t N E k 0).length 0 = c3 at HS3 HORD
  generalize bothN 14 b (t - 1) (smN b t N E k 0) (smE b t N E k 0) (smN b t N E k 0).length b2 (t2 - 1) (smN b2 t2 N2 E2 k2 0) (smE b2 t2 N2 E2 k2 0) (smN b2 t2 N2 E2 k2 0).length = GN at HBG HOR
  generalize bothE 14 b (t - 1) (smN b t N E k 0) (smE b t N E k 0) (smN b t N E k 0).length b2 (t2 - 1) (smN b2 t2 N2 E2 k2 0) (smE b2 t2 N2 E2 k2 0) (smN b2 t2 N2 E2 k2 0).length = GE at HBG HOR
  generalize bothC 14 b (t - 1) (smN b t N E k 0) (smE b t N E k 0) (smN b t N E k 0).length b2 (t2 - 1) (smN b2 t2 N2 E2 k2 0) (smE b2 t2 N2 E2 k2 0) (smN b2 t2 N2 E2 k2 0).length = cg at HBG HOR
  generalize smN b t (bothN 14 b t N E k b2 t2 N2 E2 k2) (bothE 14 b t N E k b2 t2 N2 E2 k2) (bothN 14 b t N E k b2 t2 N2 E2 k2).length 0 = ZN at HSZ HOR
  generalize smE b t (bothN 14 b t N E k b2 t2 N2 E2 k2) (bothE 14 b t N E k b2 t2 N2 E2 k2) (bothN 14 b t N E k b2 t2 N2 E2 k2).length 0 = ZE at HSZ HOR
  generalize smC b t (bothN 14 b t N E k b2 t2 N2 E2 k2) (bothE 14 b t N E k b2 t2 N2 E2 k2) (bothN 14 b t N E k b2 t2 N2 E2 k2).length 0 = cz at HSZ HOR
  generalize bothN 14 b t N E k b2 t2 N2 E2 k2 = BN at HBO HSZ
  generalize bothE 14 b t N E k b2 t2 N2 E2 k2 = BE at HBO HSZ
  generalize bothC 14 b t N E k b2 t2 N2 E2 k2 = cb at HBO HOR
  generalize smN b t N E k 1 = X1 at HS1 HS2
  generalize smE b t N E k 1 = Y1 at HS1 HS2
  generalize smC b t N E k 1 = c1 at HS1 HORD
  generalize smN b t N E k 0 = X0 at HS0 HS3 HBG
  generalize smE b t N E k 0 = Y0 at HS0 HS3 HBG
  generalize smC b t N E k 0 = c0 at HS0 HORD HOR
  generalize smN b2 t2 N2 E2 k2 0 = QN at HSQ HBG
  generalize smE b2 t2 N2 E2 k2 0 = QE at HSQ HBG
  generalize smC b2 t2 N2 E2 k2 0 = cq at HSQ HOR
  generalize hW0 : (w.alloc (.cells #[.int .i64 b, .int .i64 t, .slice a n cap, .slice a' k cap'] 25)).alloc (.cells #[.int .i64 b2, .int .i64 t2, .slice a2 n2 cap2, .slice a2' k2 cap2'] 25) = w0 at H0
  go_enter Try.func5, Try.ntmps5
  go_wp2_with fail
  clear hW0
  refine (HSA.out w0).mono ?_
  rintro e w1 ⟨u, c, u', c', rfl, hnew, hb1⟩
  have H1 := hide (orAt_step H0.out hb1)
  have HN1 := hide hnew.here
  clear hnew hb1 H0 HSA
  go_wp2_with fail
  refine (HST.out u c u' c' w1 HN1.out.1 HN1.out.2).mono ?_
  rintro e w2 ⟨rfl, hb2⟩
  have H2 := hide (orAt_step H1.out hb2)
  obtain ⟨p0, p1, p2, p3⟩ := H2.out.2.1.1
  clear hb2 H1 HN1 HST
  go_wp2_with fail
  clear p0 p1 p2 p3
  refine (HS1.out w2 H2.out.2.1.2.1 H2.out.2.1.2.2).mono ?_
  rintro e w3 ⟨ax, cx, ax', cx', rfl, hnew, hb3⟩
  have hbz := (Below.refl w3.heap.size w3).alloc (Nat.le_refl _) (.cells #[.int .i64 (okI c1 b), .int .i64 (okI c1 (t - 1)), .slice ax X1.length cx, .slice ax' X1.length cx'] 25)
  have H4 := hide (orAt_step (orAt_step H2.out hb3) hbz)
  have HX4 := hide (heap_alloc_last w3 (.cells #[.int .i64 (okI c1 b), .int .i64 (okI c1 (t - 1)), .slice ax X1.length cx, .slice ax' X1.length cx'] 25))
  have HN4 := hide (hnew.below hbz).here
  have HB34 := hide hbz
  have HP4 : Hid (w.heap.size + 1 < w3.heap.size) := (show _ < _ from World.block_lt_of_cell? w3 _ (orAt_step H2.out hb3).2.2.1.1)
  obtain ⟨p0, p1, p2, p3⟩ := H4.out.2.1.1
  have H3 := hide (orAt_step H2.out hb3)
  clear hnew hb3 hbz H2 HS1
  go_wp2_with fail
  clear p0 p1 p2 p3
  generalize w3.alloc (.cells #[.int .i64 (okI c1 b), .int .i64 (okI c1 (t - 1)), .slice ax X1.length cx, .slice ax' X1.length cx'] 25) = w4 at H4 HX4 HN4 HB34 ⊢
  refine (HS0.out w4 H4.out.2.1.2.1 H4.out.2.1.2.2).mono ?_
  rintro e w5 ⟨ay, cy, ay', cy', rfl, hnew, hb5⟩
  have hbz := (Below.refl w5.heap.size w5).alloc (Nat.le_refl _) (.cells #[.int .i64 (okI c0 b), .int .i64 (okI c0 (t - 1)), .slice ay X0.length cy, .slice ay' X0.length cy'] 25)
  have H6 := hide (orAt_step (orAt_step H4.out hb5) hbz)
  have hx6 := ((below_step hb5 hbz).block _ (Array.getElem?_eq_some_iff.1 HX4.out).1).trans HX4.out
  have HX6 := hide hx6
  have HY6 := hide (heap_alloc_last w5 (.cells #[.int .i64 (okI c0 b), .int .i64 (okI c0 (t - 1)), .slice ay X0.length cy, .slice ay' X0.length cy'] 25))
  have HN6 := hide (hnew.below hbz)
  have HR4 := hide (Array.getElem?_eq_some_iff.1 HX4.out).1
  have HM6 := hide (And.intro (sl2_below HN4.out.1 (below_step hb5 hbz)) (slB_below HN4.out.2 (below_step hb5 hbz)))
  have HQ6 : Hid (w3.heap.size < w5.heap.size) := (show _ < _ from Nat.lt_of_lt_of_le (Array.getElem?_eq_some_iff.1 HX4.out).1 hb5.size)
  have HB36 : Hid (Below w3.heap.size w3 (w5.alloc (.cells #[.int .i64 (okI c0 b), .int .i64 (okI c0 (t - 1)), .slice ay X0.length cy, .slice ay' X0.length cy'] 25))) := below_step (below_step HB34.out hb5) hbz
  clear hnew hb5 hbz hx6 H4 HX4 HN4 HB34
  generalize hW6 : w5.alloc (.cells #[.int .i64 (okI c0 b), .int .i64 (okI c0 (t - 1)), .slice ay X0.length cy, .slice ay' X0.length cy'] 25) = w6 at H6 HX6 HY6 HN6 HM6 HB36
  have hcs : (c1 = 0 ∧ c0 = 0) ∨ (c1 = 0 ∧ c0 ≠ 0) ∨ c1 ≠ 0 := by omega
  obtain h | h | h := hcs
  case' inr.inr =>
    rw [errV_no h]
    obtain ⟨p0, p1, p2, p3⟩ := H6.out.2.1.1
    obtain ⟨q0, q1, q2, q3⟩ := H6.out.2.2.1
    go_wp2_with fail
    clear hW6 h p0 p1 p2 p3 q0 q1 q2 q3 HX6 HY6 HN6 HM6 HB36 HR4 HQ6
    generalize w6 = wt at H6 ⊢
    have HT := hide H6.out
    clear H6
  case' inr.inl =>
    rw [errV_yes h.1, errV_no h.2]
    obtain ⟨p0, p1, p2, p3⟩ := H6.out.2.1.1
    obtain ⟨q0, q1, q2, q3⟩ := H6.out.2.2.1
    go_wp2_with fail
    clear hW6 h p0 p1 p2 p3 q0 q1 q2 q3 HX6 HY6 HN6 HM6 HB36 HR4 HQ6
    generalize w6 = wt at H6 ⊢
    have HT := hide H6.out
    clear H6
  case' inl =>
    obtain ⟨hc1, hc0⟩ := h
    have HO2 := hide (HORD.out hc1 hc0)
    have k1 : okI c1 b = b := by unfold okI; rw [if_pos hc1]
    have k2 : okI c1 (t - 1) = t - 1 := by unfold okI; rw [if_pos hc1]
    have k3 : okI c0 b = b := by unfold okI; rw [if_pos hc0]
    have k4 : okI c0 (t - 1) = t - 1 := by unfold okI; rw [if_pos hc0]
    rw [k1, k2] at HX6
    rw [k3, k4] at HY6
    rw [errV_yes hc1, errV_yes hc0]
    clear k1 k2 k3 k4 hc1 hc0
    obtain ⟨⟨z0, z1, z2, z3⟩, -⟩ := box_cells HX6.out
    go_wp2_with fail
    clear hW6 z0 z1 z2 z3
    refine (HS2.out ax cx ax' cx' w6 HM6.out.1 HM6.out.2).mono ?_
    rintro e w7 ⟨av, cv, av', cv', rfl, hnew, hb7⟩
    have hl3 := (Array.getElem?_eq_some_iff.1 HX6.out).1
    have hl5 := (Array.getElem?_eq_some_iff.1 HY6.out).1
    have hbox := (hb7.block w3.heap.size hl3).trans HX6.out
    obtain ⟨⟨o0, o1, o2, o3⟩, hf⟩ := box_cells hbox
    obtain ⟨w8, hw8⟩ : ∃ w8, (((w7.setCell ⟨w3.heap.size, 0, none⟩ (.int .i64 (okI c2 b))).setCell ⟨w3.heap.size, 1, none⟩ (.int .i64 (okI c2 (t - 1 - 1)))).setCell ⟨w3.heap.size, 2, none⟩ (.slice av X2.length cv)).setCell ⟨w3.heap.size, 3, none⟩ (.slice av' X2.length cv') = w8 := ⟨_, rfl⟩
    obtain ⟨⟨hbx8, hsz8, hkp8⟩, hbl8⟩ := box_set hbox hw8.symm
    have HX8 := hide hbx8
    have HY8 := hide ((hkp8 w5.heap.size (by have := HQ6.out; omega)).trans ((hb7.block _ hl5).trans HY6.out))
    have HB8 := hide (hbl8 w3 w3.heap.size (below_step HB36.out hb7) (Nat.le_refl _))
    have HV8 : Hid (AutoNew w6 av X2.length X2 av' Y2 w8) := fun W' hW' => hnew W' (fun x h1 h2 => (hW' x h1 (by rw [hsz8]; exact h2)).trans (hkp8 x (by omega)))
    have HN8 : Hid (Sl2 w8 ay X0.length X0 ∧ SlB w8 ay' X0.length Y0) := HN6.out w8 (fun x h1 h2 => (hkp8 x (by have := HR4.out; omega)).trans (hb7.block x h2))
    have HL5 := hide hl5
    obtain ⟨⟨y0, y1, y2, y3⟩, -⟩ := box_cells HY8.out
    clear hnew hb7 hbox hbx8 hsz8 hkp8 hbl8 hl3 hl5
    go_wp2_with fail
    clear hw8 o0 o1 o2 o3 hf y0 y1 y2 y3
    refine (HS3.out ay cy ay' cy' w8 HN8.out.1 HN8.out.2).mono ?_
    rintro e w9 ⟨au, cu, au', cu', rfl, hnew, hb9⟩
    have hl3 := (Array.getElem?_eq_some_iff.1 HX8.out).1
    have hl5 := (Array.getElem?_eq_some_iff.1 HY8.out).1
    have hbox := (hb9.block w5.heap.size hl5).trans HY8.out
    obtain ⟨⟨o0, o1, o2, o3⟩, hf⟩ := box_cells hbox
    obtain ⟨w10, hw10⟩ : ∃ w10, (((w9.setCell ⟨w5.heap.size, 0, none⟩ (.int .i64 (okI c3 b))).setCell ⟨w5.heap.size, 1, none⟩ (.int .i64 (okI c3 (t - 1 - 1)))).setCell ⟨w5.heap.size, 2, none⟩ (.slice au X3.length cu)).setCell ⟨w5.heap.size, 3, none⟩ (.slice au' X3.length cu') = w10 := ⟨_, rfl⟩
    obtain ⟨⟨hbx10, hsz10, hkp10⟩, hbl10⟩ := box_set hbox hw10.symm
    have hX10 := (hkp10 w3.heap.size (by have := HQ6.out; omega)).trans ((hb9.block _ hl3).trans HX8.out)
    have HT10 := hide (orAt_step H3.out (hbl10 w3 w3.heap.size (below_step HB8.out hb9) (by have := HQ6.out; omega)))
    have HV10 := hide (HV8.out w10 (fun x h1 h2 => (hkp10 x (by have := HL5.out; omega)).trans (hb9.block x h2)))
    have HU10 := hide (hnew w10 (fun x h1 h2 => hkp10 x (by omega)))
    obtain ⟨⟨z0, z1, z2, z3⟩, -⟩ := box_cells hX10
    obtain ⟨⟨y0, y1, y2, y3⟩, -⟩ := box_cells hbx10
    clear hnew hb9 hbox hbx10 hsz10 hkp10 hbl10 hl3 hl5 hX10
    go_wp2_with fail
    clear hw10 o0 o1 o2 o3 hf y0 y1 y2 y3 z0 z1 z2 z3 HX6 HY6 HN6 HM6 HB36 HR4 HQ6 HX8 HY8 HB8 HV8 HN8 HL5 H6
    have hcs2 : (c2 = 0 ∧ c3 = 0) ∨ (c2 = 0 ∧ c3 ≠ 0) ∨ c2 ≠ 0 := by omega
    obtain h23 | h23 | h23 := hcs2
    case' inr.inr =>
      rw [errV_no h23]
      refine (autos_says (okI c2 b) (okI c2 (t - 1 - 1)) av X2.length cv av' X2.length cv' (okI c3 b) (okI c3 (t - 1 - 1)) au X3.length cu au' X3.length cu' X2 X3 Y2 Y3 w10 HV10.out.1 HV10.out.2 HU10.out.1 HU10.out.2).mono ?_
      rintro e wt ⟨⟨r, rfl⟩, hbt⟩
      have HT := hide (orAt_step HT10.out hbt)
      obtain ⟨p0, p1, p2, p3⟩ := HT.out.2.1.1
      obtain ⟨q0, q1, q2, q3⟩ := HT.out.2.2.1
      clear hbt HT10 HV10 HU10 HO2 HORD HS2 HS3
      go_wp2_with fail
      clear p0 p1 p2 p3 q0 q1 q2 q3
    case' inr.inl =>
      rw [errV_yes h23.1, errV_no h23.2]
      refine (autos_says (okI c2 b) (okI c2 (t - 1 - 1)) av X2.length cv av' X2.length cv' (okI c3 b) (okI c3 (t - 1 - 1)) au X3.length cu au' X3.length cu' X2 X3 Y2 Y3 w10 HV10.out.1 HV10.out.2 HU10.out.1 HU10.out.2).mono ?_
      rintro e wt ⟨⟨r, rfl⟩, hbt⟩
      have HT := hide (orAt_step HT10.out hbt)
      obtain ⟨p0, p1, p2, p3⟩ := HT.out.2.1.1
      obtain ⟨q0, q1, q2, q3⟩ := HT.out.2.2.1
      clear hbt HT10 HV10 HU10 HO2 HORD HS2 HS3
      go_wp2_with fail
      clear p0 p1 p2 p3 q0 q1 q2 q3
    case' inl =>
      obtain ⟨hc2, hc3⟩ := h23
      obtain ⟨rfl, rfl⟩ := HO2.out hc2 hc3
      subst hc2
      subst hc3
      rw [errV_yes rfl]
      refine (autos_eq (okI 0 b) (okI 0 (t - 1 - 1)) av X2.length cv av' X2.length cv' au cu au' cu' X2 Y2 w10 HV10.out.1 HV10.out.2 HU10.out.1 HU10.out.2).mono ?_
      rintro e wt ⟨rfl, hbt⟩
      have HT := hide (orAt_step HT10.out hbt)
      obtain ⟨p0, p1, p2, p3⟩ := HT.out.2.1.1
      obtain ⟨q0, q1, q2, q3⟩ := HT.out.2.2.1
      clear hbt HT10 HV10 HU10 HO2 HORD HS2 HS3
      go_wp2_with fail
      clear p0 p1 p2 p3 q0 q1 q2 q3
  all_goals
    refine (HBO.out wt HT.out.2.1.2.1 HT.out.2.1.2.2 HT.out.2.2.2.1 HT.out.2.2.2.2).mono ?_
    rintro e w12 ⟨am, cm, am', cm', rfl, hnew, hb12⟩
    have hbz := (Below.refl w12.heap.size w12).alloc (Nat.le_refl _) (.cells #[.int .i64 (okI cb b), .int .i64 (okI cb t), .slice am BN.length cm, .slice am' BN.length cm'] 25)
    have H13 := hide (orAt_step (orAt_step HT.out hb12) hbz)
    have HX13 := hide (heap_alloc_last w12 (.cells #[.int .i64 (okI cb b), .int .i64 (okI cb t), .slice am BN.length cm, .slice am' BN.length cm'] 25))
    have HN13 := hide (hnew.below hbz).here
    clear hnew hb12 hbz HT HBO
    by_cases hcb : cb = 0
    · have k1 : okI cb b = b := by unfold okI; rw [if_pos hcb]
      have k2 : okI cb t = t := by unfold okI; rw [if_pos hcb]
      rw [errV_yes hcb]
      rw [k1, k2] at H13 HX13 HN13 ⊢
      obtain ⟨⟨z0, z1, z2, z3⟩, -⟩ := box_cells HX13.out
      go_wp2_with fail
      clear z0 z1 z2 z3 k1 k2 HX13
      generalize w12.alloc (.cells #[.int .i64 b, .int .i64 t, .slice am BN.length cm, .slice am' BN.length cm'] 25) = w13 at H13 HN13 ⊢
      refine (HSZ.out am cm am' cm' w13 HN13.out.1 HN13.out.2).mono ?_
      rintro e w14 ⟨az, c_z, az', c_z', rfl, hnew, hb14⟩
      have hbz := (Below.refl w14.heap.size w14).alloc (Nat.le_refl _) (.cells #[.int .i64 (okI cz b), .int .i64 (okI cz (t - 1)), .slice az ZN.length c_z, .slice az' ZN.length c_z'] 25)
      have H15 := hide (orAt_step (orAt_step H13.out hb14) hbz)
      have HX15 := hide (heap_alloc_last w14 (.cells #[.int .i64 (okI cz b), .int .i64 (okI cz (t - 1)), .slice az ZN.length c_z, .slice az' ZN.length c_z'] 25))
      have HN15 := hide (hnew.below hbz).here
      obtain ⟨p0, p1, p2, p3⟩ := H15.out.2.1.1
      clear hnew hb14 hbz H13 HN13 HSZ
      go_wp2_with fail
      clear p0 p1 p2 p3
      generalize w14.alloc (.cells #[.int .i64 (okI cz b), .int .i64 (okI cz (t - 1)), .slice az ZN.length c_z, .slice az' ZN.length c_z'] 25) = w15 at H15 HX15 HN15 ⊢
      refine (HS0.out w15 H15.out.2.1.2.1 H15.out.2.1.2.2).mono ?_
      rintro e w16 ⟨ap, c_p, ap', c_p', rfl, hnew, hb16⟩
      have hbz := (Below.refl w16.heap.size w16).alloc (Nat.le_refl _) (.cells #[.int .i64 (okI c0 b), .int .i64 (okI c0 (t - 1)), .slice ap X0.length c_p, .slice ap' X0.length c_p'] 25)
      have H17 := hide (orAt_step (orAt_step H15.out hb16) hbz)
      have HZ17 := hide (((below_step hb16 hbz).block _ (Array.getElem?_eq_some_iff.1 HX15.out).1).trans HX15.out)
      have HX17 := hide (heap_alloc_last w16 (.cells #[.int .i64 (okI c0 b), .int .i64 (okI c0 (t - 1)), .slice ap X0.length c_p, .slice ap' X0.length c_p'] 25))
      have HN17 := hide (hnew.below hbz).here
      have HM17 := hide (And.intro (sl2_below HN15.out.1 (below_step hb16 hbz)) (slB_below HN15.out.2 (below_step hb16 hbz)))
      obtain ⟨q0, q1, q2, q3⟩ := H17.out.2.2.1
      clear hnew hb16 hbz H15 HX15 HN15 HS0
      go_wp2_with fail
      clear q0 q1 q2 q3
      generalize w16.alloc (.cells #[.int .i64 (okI c0 b), .int .i64 (okI c0 (t - 1)), .slice ap X0.length c_p, .slice ap' X0.length c_p'] 25) = w17 at H17 HZ17 HX17 HN17 HM17 ⊢
      refine (HSQ.out w17 H17.out.2.2.2.1 H17.out.2.2.2.2).mono ?_
      rintro e w18 ⟨aq, c_q, aq', c_q', rfl, hnew, hb18⟩
      have hbz := (Below.refl w18.heap.size w18).alloc (Nat.le_refl _) (.cells #[.int .i64 (okI cq b2), .int .i64 (okI cq (t2 - 1)), .slice aq QN.length c_q, .slice aq' QN.length c_q'] 25)
      have H19 := hide (orAt_step (orAt_step H17.out hb18) hbz).1
      have HZ19 := hide (((below_step hb18 hbz).block _ (Array.getElem?_eq_some_iff.1 HZ17.out).1).trans HZ17.out)
      have HP19 := hide (((below_step hb18 hbz).block _ (Array.getElem?_eq_some_iff.1 HX17.out).1).trans HX17.out)
      have HX19 := hide (heap_alloc_last w18 (.cells #[.int .i64 (okI cq b2), .int .i64 (okI cq (t2 - 1)), .slice aq QN.length c_q, .slice aq' QN.length c_q'] 25))
      have HN19 := hide (hnew.below hbz).here
      have HM19 := hide (And.intro (sl2_below HM17.out.1 (below_step hb18 hbz)) (slB_below HM17.out.2 (below_step hb18 hbz)))
      have HL19 := hide (And.intro (sl2_below HN17.out.1 (below_step hb18 hbz)) (slB_below HN17.out.2 (below_step hb18 hbz)))
      clear hnew hb18 hbz H17 HZ17 HX17 HN17 HM17 HSQ
      generalize hW19 : w18.alloc (.cells #[.int .i64 (okI cq b2), .int .i64 (okI cq (t2 - 1)), .slice aq QN.length c_q, .slice aq' QN.length c_q'] 25) = w19 at H19 HZ19 HP19 HX19 HN19 HM19 HL19
      by_cases hcz : cz = 0
      · by_cases hc0 : c0 = 0
        · by_cases hcq : cq = 0
          · have k1 : okI c0 b = b := by unfold okI; rw [if_pos hc0]
            have k2 : okI c0 (t - 1) = t - 1 := by unfold okI; rw [if_pos hc0]
            have k3 : okI cq b2 = b2 := by unfold okI; rw [if_pos hcq]
            have k4 : okI cq (t2 - 1) = t2 - 1 := by unfold okI; rw [if_pos hcq]
            rw [k1, k2] at HP19
            rw [k3, k4] at HX19
            rw [errV_yes hcz, errV_yes hc0, errV_yes hcq]
            have HCC := hide (And.intro hcb (And.intro hcz (And.intro hc0 hcq)))
            clear hcb hcz hc0 hcq k1 k2 k3 k4
            obtain ⟨⟨x0, x1, x2, x3⟩, -⟩ := box_cells HP19.out
            obtain ⟨⟨y0, y1, y2, y3⟩, -⟩ := box_cells HX19.out
            go_wp2_with fail
            clear hW19 x0 x1 x2 x3 y0 y1 y2 y3
            refine (HBG.out ap c_p ap' c_p' aq c_q aq' c_q' w19 HL19.out.1 HL19.out.2 HN19.out.1 HN19.out.2).mono ?_
            rintro e w20 ⟨ag, c_g, ag', c_g', rfl, hnew, hb20⟩
            have hbz := (Below.refl w20.heap.size w20).alloc (Nat.le_refl _) (.cells #[.int .i64 (okI cg b), .int .i64 (okI cg (t - 1)), .slice ag GN.length c_g, .slice ag' GN.length c_g'] 25)
            have H21 := hide (below_step (below_step H19.out hb20) hbz)
            have hz21 := ((below_step hb20 hbz).block _ (Array.getElem?_eq_some_iff.1 HZ19.out).1).trans HZ19.out
            have hx21 := heap_alloc_last w20 (.cells #[.int .i64 (okI cg b), .int .i64 (okI cg (t - 1)), .slice ag GN.length c_g, .slice ag' GN.length c_g'] 25)
            have HN21 := hide (hnew.below hbz).here
            have HM21 := hide (And.intro (sl2_below HM19.out.1 (below_step hb20 hbz)) (slB_below HM19.out.2 (below_step hb20 hbz)))
            obtain ⟨⟨x0, x1, x2, x3⟩, -⟩ := box_cells hz21
            obtain ⟨⟨y0, y1, y2, y3⟩, -⟩ := box_cells hx21
            clear hnew hb20 hbz hz21 hx21
            go_wp2_with fail
            clear x0 x1 x2 x3 y0 y1 y2 y3
            generalize w20.alloc (.cells #[.int .i64 (okI cg b), .int .i64 (okI cg (t - 1)), .slice ag GN.length c_g, .slice ag' GN.length c_g'] 25) = w21 at H21 HN21 HM21 ⊢
            by_cases hcg : cg = 0
            · obtain ⟨hcb, hcz, hc0, hcq⟩ := HCC.out
              obtain ⟨rfl, rfl⟩ := HOR.out hcb hcz hc0 hcq hcg
              subst hcz
              subst hcg
              rw [errV_yes rfl]
              refine (autos_eq (okI 0 b) (okI 0 (t - 1)) az ZN.length c_z az' ZN.length c_z' ag c_g ag' c_g' ZN ZE w21 HM21.out.1 HM21.out.2 HN21.out.1 HN21.out.2).mono ?_
              rintro e w22 ⟨rfl, hb22⟩
              have H22 := hide (below_step H21.out hb22)
              go_wp2
              go_ret
              exact ⟨by simp, H22.out⟩
            · rw [errV_no hcg]
              refine (autos_says (okI cz b) (okI cz (t - 1)) az ZN.length c_z az' ZN.length c_z' (okI cg b) (okI cg (t - 1)) ag GN.length c_g ag' GN.length c_g' ZN GN ZE GE w21 HM21.out.1 HM21.out.2 HN21.out.1 HN21.out.2).mono ?_
              rintro e w22 ⟨⟨r, rfl⟩, hb22⟩
              have H22 := hide (below_step H21.out hb22)
              go_wp2
              go_ret
              exact ⟨by simp, H22.out⟩
          · rw [errV_yes hcz, errV_yes hc0, errV_no hcq]
            go_wp2
            go_ret
            exact ⟨by simp, H19.out⟩
        · rw [errV_yes hcz, errV_no hc0]
          go_wp2
          go_ret
          exact ⟨by simp, H19.out⟩
      · rw [errV_no hcz]
        go_wp2
        go_ret
        exact ⟨by simp, H19.out⟩
    · rw [errV_no hcb]
      go_wp2
      go_ret
      exact ⟨by simp, H13.out.1⟩
end Go.Proofs.Ytleebojibobgaaa
