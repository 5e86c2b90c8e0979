/- 9 texts in one. -/
import Derived.Test.YtebbjmcjgjecmaaBy
import Derived.Test.YtebbjmcjgjecmaaDd
import Derived.Test.YtebbjmcjgjecmaaDi
import Derived.Test.YtebbjmcjgjecmaaAx
import Derived.Test.YtebbjmcjgjecmaaZDh
import Derived.Test.YtebbjmcjgjecmaaZEg
import Derived.Test.YtebbjmcjgjecmaaZNx
import Derived.Test.YtebbjmcjgjecmaaZMp
import Derived.Test.YtebbjmcjgjecmaaEe
import Derived.Test.YtebbjmcjgjecmaaZLp
import Derived.Test.YtebbjmcjgjecmaaZLb
/- pair.Both: contract. -/
namespace Go.Proofs.Ytebbjmcjgjecmaa
open Go.RowKit

set_option maxHeartbeats 4000000 in
set_option maxRecDepth 8000 in
theorem both_range (b t : Int) (a : Option Addr) (n cap : Nat) (a' : Option Addr) (k cap' : Nat) (b2 t2 : Int) (a2 : Option Addr) (n2 cap2 : Nat) (a2' : Option Addr) (k2 cap2' : Nat) (how : Int) (w : World) (hh : how < 0 ∨ 15 < how) :
    Calls Try.prog 6 #[.agg #[.int .i64 b, .int .i64 t, .slice a n cap, .slice a' k cap'], .agg #[.int .i64 b2, .int .i64 t2, .slice a2 n2 cap2, .slice a2' k2 cap2'], .int .i64 how] w (PairR w 0 0 [] [] 1) := by
  have HB := hide (below_three w (.cells #[.int .i64 b, .int .i64 t, .slice a n cap, .slice a' k cap'] 25) (.cells #[.int .i64 b2, .int .i64 t2, .slice a2 n2 cap2, .slice a2' k2 cap2'] 25) (.cells #[.int .i64 0, .int .i64 0, .slice none 0 0, .slice none 0 0] 25))
  have HBX := hide (@three_boxes w _ (.int .i64 b) (.int .i64 t) (.slice a n cap) (.slice a' k cap') (.int .i64 b2) (.int .i64 t2) (.slice a2 n2 cap2) (.slice a2' k2 cap2') 25 (.cells #[.int .i64 0, .int .i64 0, .slice none 0 0, .slice none 0 0] 25) (Below.refl _ _)).1
  go_enter Try.func6, Try.ntmps6
  by_cases h0 : how < 0
  · have h0' : decide (how < 0) = true := by simpa using h0
    go_wp2
    obtain ⟨⟨z0, z1, z2, z3⟩, -⟩ := box_cells HBX.out
    exact bodyPost_ret (v := .tuple #[.agg #[.int .i64 0, .int .i64 0, .slice none 0 0, .slice none 0 0], .iface 44 (.int .i64 1)]) (by simp [results, Try.results6, go_sem, z0, z1, z2, z3]) rfl ⟨none, 0, none, 0, rfl, autoNew_nil _ _, HB.out⟩
  · have h1 : 16 ≤ how := by omega
    have h0' : decide (how < 0) = false := by simpa using h0
    go_wp2
    obtain ⟨⟨z0, z1, z2, z3⟩, -⟩ := box_cells HBX.out
    exact bodyPost_ret (v := .tuple #[.agg #[.int .i64 0, .int .i64 0, .slice none 0 0, .slice none 0 0], .iface 44 (.int .i64 1)]) (by simp [results, Try.results6, go_sem, z0, z1, z2, z3]) rfl ⟨none, 0, none, 0, rfl, autoNew_nil _ _, HB.out⟩

set_option maxHeartbeats 4000000 in
set_option maxRecDepth 8000 in
theorem both_in (b t : Int) (a : Option Addr) (n cap : Nat) (a' : Option Addr) (k cap' : Nat) (N : List (List Int)) (E : List Bool) (b2 t2 : Int) (a2 : Option Addr) (n2 cap2 : Nat) (a2' : Option Addr) (k2 cap2' : Nat) (N2 : List (List Int)) (E2 : List Bool) (how : Int) (w : World)
    (hs : Sl2 w a n N) (he : SlB w a' k E) (hs2 : Sl2 w a2 n2 N2) (he2 : SlB w a2' k2 E2) (h0 : 0 ≤ how) (h15 : how ≤ 15) (hC : alikeC b t N k b2 t2 N2 k2 ≠ 0) :
    Calls Try.prog 6 #[.agg #[.int .i64 b, .int .i64 t, .slice a n cap, .slice a' k cap'], .agg #[.int .i64 b2, .int .i64 t2, .slice a2 n2 cap2, .slice a2' k2 cap2'], .int .i64 how] w (PairR w 0 0 [] [] (alikeC b t N k b2 t2 N2 k2)) := by
  have hB := below_three w (.cells #[.int .i64 b, .int .i64 t, .slice a n cap, .slice a' k cap'] 25) (.cells #[.int .i64 b2, .int .i64 t2, .slice a2 n2 cap2, .slice a2' k2 cap2'] 25) (.cells #[.int .i64 0, .int .i64 0, .slice none 0 0, .slice none 0 0] 25)
  have HB := hide hB
  have HAL := hide (checkBoth_u b t a n cap a' k cap' b2 t2 a2 n2 cap2 a2' k2 cap2' N N2 _ (sl2_below hs hB) he.2.1 (sl2_below hs2 hB) he2.2.1)
  have HBX := hide (fun w' => @three_boxes w w' (.int .i64 b) (.int .i64 t) (.slice a n cap) (.slice a' k cap') (.int .i64 b2) (.int .i64 t2) (.slice a2 n2 cap2) (.slice a2' k2 cap2') 25 (.cells #[.int .i64 0, .int .i64 0, .slice none 0 0, .slice none 0 0] 25))
  clear hs he hs2 he2 hB
  unfold PairR
  rw [errV_no hC] at HAL ⊢
  generalize alikeC b t N k b2 t2 N2 k2 = c at HAL ⊢
  obtain ⟨-, hbb⟩ := HBX.out _ (Below.refl _ _)
  obtain ⟨⟨p0, p1, p2, p3⟩, q0, q1, q2, q3⟩ := two_boxes hbb
  have h0' : decide (how < 0) = false := by simp; omega
  have h1' : ¬ 16 ≤ how := by omega
  clear hbb
  go_enter Try.func6, Try.ntmps6
  go_wp2_with fail
  refine HAL.out.mono ?_
  rintro e w1 ⟨rfl, hb1⟩
  obtain ⟨hr, -⟩ := HBX.out w1 hb1
  obtain ⟨⟨r0, r1, r2, r3⟩, rf⟩ := box_cells hr
  have HR := hide hr
  have HB1 := hide (below_step HB.out hb1)
  clear hr hb1 p0 p1 p2 p3 q0 q1 q2 q3
  go_wp2
  obtain ⟨⟨hset, -, -⟩, hbel⟩ := box_set0 HR.out rfl
  obtain ⟨⟨z0, z1, z2, z3⟩, -⟩ := box_cells hset
  exact bodyPost_ret (v := .tuple #[.agg #[.int .i64 0, .int .i64 0, .slice none 0 0, .slice none 0 0], .iface 44 (.int .i64 c)]) (by simp [results, Try.results6, go_sem, z0, z1, z2, z3]) rfl ⟨none, 0, none, 0, rfl, autoNew_nil _ _, hbel _ _ HB1.out (by omega)⟩

/-- The least one, or too many. -/
def BothW (w : World) (b t : Int) (LN : List (List Int)) (LE : List Bool) (LK : Nat) (e : Ending) (w' : World) : Prop := (LK ≤ 80 → PairR w b t LN LE 0 e w') ∧ (80 < LK → PairR w 0 0 [] [] 3 e w')

set_option maxHeartbeats 4000000 in
set_option maxRecDepth 8000 in
theorem both_ok (b t : Int) (a : Option Addr) (n cap : Nat) (a' : Option Addr) (cap' : Nat) (N : List (List Int)) (E : List Bool) (a2 : Option Addr) (n2 cap2 : Nat) (a2' : Option Addr) (cap2' : Nat) (N2 : List (List Int)) (E2 : List Bool) (how : Int) (w : World)
    (hs : Sl2 w a n N) (he : SlB w a' n E) (hs2 : Sl2 w a2 n2 N2) (he2 : SlB w a2' n2 E2) (h0 : 0 ≤ how) (h15 : how ≤ 15) (hC : alikeC b t N n b t N2 n2 = 0) :
    Calls Try.prog 6 #[.agg #[.int .i64 b, .int .i64 t, .slice a n cap, .slice a' n cap'], .agg #[.int .i64 b, .int .i64 t, .slice a2 n2 cap2, .slice a2' n2 cap2'], .int .i64 how] w (BothW w b t (leastN (bothP b t N N2) (bothQ how N N2 E E2) (manyU b t).toNat) (leastE (bothP b t N N2) (bothQ how N N2 E E2) (manyU b t).toNat) (bothK b t how N N2 E E2)) := by
  obtain ⟨hA1, hA2, -, -⟩ := alikeC_zero hC
  obtain ⟨hM, -, hG, -⟩ := autoC_zero hA1
  obtain ⟨-, -, hG2, -⟩ := autoC_zero hA2
  have h80 := autoC_80 hA1
  have h80' := autoC_80 hA2
  have hL := hs.1
  have hL2 := hs2.1
  rw [hL] at hG h80
  rw [hL2] at hG2 h80'
  have hn : n * n2 ≤ 4000000 := Nat.le_trans (Nat.mul_le_mul h80 h80') (by decide)
  have hB := below_three w (.cells #[.int .i64 b, .int .i64 t, .slice a n cap, .slice a' n cap'] 25) (.cells #[.int .i64 b, .int .i64 t, .slice a2 n2 cap2, .slice a2' n2 cap2'] 25) (.cells #[.int .i64 0, .int .i64 0, .slice none 0 0, .slice none 0 0] 25)
  have HB := hide hB
  have HAL := hide (checkBoth_u b t a n cap a' n cap' b t a2 n2 cap2 a2' n2 cap2' N N2 _ (sl2_below hs hB) he.2.1 (sl2_below hs2 hB) he2.2.1)
  rw [errV_yes hC] at HAL
  have HBX := hide (fun w' => @three_boxes w w' (.int .i64 b) (.int .i64 t) (.slice a n cap) (.slice a' n cap') (.int .i64 b) (.int .i64 t) (.slice a2 n2 cap2) (.slice a2' n2 cap2') 25 (.cells #[.int .i64 0, .int .i64 0, .slice none 0 0, .slice none 0 0] 25))
  have HCO := hide (fun W (h : Below _ _ W) => couples_any b t a n cap a' cap' (manyU b t).toNat N E b t a2 n2 cap2 a2' cap2' N2 E2 how W (sl2_below hs (below_step hB h)) (slB_below he (below_step hB h)) (sl2_below hs2 (below_step hB h)) (slB_below he2 (below_step hB h)) hG hG2 hn h0 h15)
  unfold GivesAuto at HCO
  have hP := prod_good hG hG2 hn
  have hCG := coup_good hP
  rw [← coup_len hP] at hCG
  have HLW := hide (fun ax cx ax' cx' W h1 h2 => leastw_any b t ax (coupN (prodN N N2 (manyU b t).toNat)).length cx (manyU b t).toNat (coupN (prodN N N2 (manyU b t).toNat)) ax' cx' (coupE (prodN N N2 (manyU b t).toNat) (prodE how n n2 E E2)) W h1 h2 hCG (autoM_good hM hCG (by have := hCG.2.2.1; omega)))
  obtain ⟨e1, e2, e3⟩ := coup_least hP (prodE how n n2 E E2)
  unfold LeastR LeastU at HLW
  rw [e1, e2, e3] at HLW
  have hbP : bothP b t N N2 = prodN N N2 (manyU b t).toNat := rfl
  have hbQ : bothQ how N N2 E E2 = prodE how n n2 E E2 := by unfold bothQ; rw [hL, hL2]
  unfold bothK
  rw [hbP, hbQ]
  clear hs he hs2 he2 hA1 hA2 hC hM hG hG2 h80 h80' hn hP hCG e1 e2 e3 hbP hbQ
  generalize coupN (prodN N N2 (manyU b t).toNat) = CN at HCO HLW
  generalize coupE (prodN N N2 (manyU b t).toNat) (prodE how n n2 E E2) = CE at HCO HLW
  generalize leastN (prodN N N2 (manyU b t).toNat) (prodE how n n2 E E2) (manyU b t).toNat = LN at HLW ⊢
  generalize leastE (prodN N N2 (manyU b t).toNat) (prodE how n n2 E E2) (manyU b t).toNat = LE at HLW ⊢
  generalize leastK (prodN N N2 (manyU b t).toNat) (prodE how n n2 E E2) (manyU b t).toNat = LK at HLW ⊢
  generalize hW0 : ((w.alloc (.cells #[.int .i64 b, .int .i64 t, .slice a n cap, .slice a' n cap'] 25)).alloc (.cells #[.int .i64 b, .int .i64 t, .slice a2 n2 cap2, .slice a2' n2 cap2'] 25)).alloc (.cells #[.int .i64 0, .int .i64 0, .slice none 0 0, .slice none 0 0] 25) = wb at HB HAL HBX HCO
  have HSZ0 : Hid (wb.heap.size = w.heap.size + 3) := by show _ = _; rw [← hW0]; simp
  obtain ⟨-, hbb⟩ := HBX.out wb (Below.refl _ _)
  obtain ⟨⟨p0, p1, p2, p3⟩, q0, q1, q2, q3⟩ := two_boxes hbb
  have h0' : decide (how < 0) = false := by simp; omega
  have h1' : ¬ 16 ≤ how := by omega
  clear hbb hB
  go_enter Try.func6, Try.ntmps6
  go_wp2_with fail
  clear hW0 p0 p1 p2 p3 q0 q1 q2 q3
  refine HAL.out.mono ?_
  rintro e w1 ⟨rfl, hb1⟩
  obtain ⟨-, hbb⟩ := HBX.out w1 hb1
  obtain ⟨⟨p0, p1, p2, p3⟩, q0, q1, q2, q3⟩ := two_boxes hbb
  have HB1 := hide hb1
  clear hb1 hbb HAL
  go_wp2_with fail
  clear p0 p1 p2 p3 q0 q1 q2 q3
  refine (HCO.out w1 HB1.out).mono ?_
  rintro e w2 ⟨ax, cx, ax', cx', rfl, hnew, hb2⟩
  have HB2 := hide (below_step HB1.out hb2)
  have HL2 := hide (HLW.out ax cx ax' cx' w2 hnew.here.1 hnew.here.2)
  clear hnew hb2 HCO HLW
  go_wp2_with fail
  refine HL2.out.mono ?_
  rintro e w3 ⟨hyes, hno⟩
  clear HL2
  by_cases hK : LK ≤ 80
  · obtain ⟨ay, cy, ay', cy', rfl, hnew, hb3⟩ := hyes hK
    obtain ⟨hr, -⟩ := HBX.out w3 (below_step HB2.out hb3)
    obtain ⟨⟨r0, r1, r2, r3⟩, rf⟩ := box_cells hr
    have HR := hide hr
    have HB3 := hide (below_step HB.out (below_step HB2.out hb3))
    have HNEW := hide hnew
    have HSW := hide HB2.out.size
    clear hr hb3 hyes hno hnew
    go_wp2
    obtain ⟨⟨hset, hsz, hoth⟩, hbel⟩ := box_set (v0 := .int .i64 b) (v1 := .int .i64 t) (v2 := .slice ay LN.length cy) (v3 := .slice ay' LN.length cy') HR.out rfl
    have hfin : AutoNew w ay LN.length LN ay' LE ((((w3.setCell ⟨w.heap.size + 2, 0, none⟩ (.int .i64 b)).setCell ⟨w.heap.size + 2, 1, none⟩ (.int .i64 t)).setCell ⟨w.heap.size + 2, 2, none⟩ (.slice ay LN.length cy)).setCell ⟨w.heap.size + 2, 3, none⟩ (.slice ay' LN.length cy')) := fun W' hW' => HNEW.out W' (fun x hx hxl => by
      have h1 := HSW.out
      have h2 := HSZ0.out
      rw [hW' x (by omega) (by rw [hsz]; exact hxl), hoth x (by omega)])
    have hb := hbel w w.heap.size HB3.out (by omega)
    obtain ⟨⟨z0, z1, z2, z3⟩, -⟩ := box_cells hset
    exact bodyPost_ret (v := .tuple #[.agg #[.int .i64 b, .int .i64 t, .slice ay LN.length cy, .slice ay' LN.length cy'], .nilIface]) (by simp [results, Try.results6, go_sem, z0, z1, z2, z3]) rfl ⟨fun _ => ⟨ay, cy, ay', cy', rfl, hfin, hb⟩, fun h => by omega⟩
  · obtain ⟨rfl, hb3⟩ := hno (by omega)
    obtain ⟨hr, -⟩ := HBX.out w3 (below_step HB2.out hb3)
    obtain ⟨⟨r0, r1, r2, r3⟩, rf⟩ := box_cells hr
    have HR := hide hr
    have HB3 := hide (below_step HB.out (below_step HB2.out hb3))
    clear hr hb3 hyes hno
    go_wp2
    obtain ⟨⟨hset, hsz, hoth⟩, hbel⟩ := box_set0 HR.out rfl
    have hb := hbel w w.heap.size HB3.out (by omega)
    obtain ⟨⟨z0, z1, z2, z3⟩, -⟩ := box_cells hset
    exact bodyPost_ret (v := .tuple #[.agg #[.int .i64 0, .int .i64 0, .slice none 0 0, .slice none 0 0], .iface 44 (.int .i64 3)]) (by simp [results, Try.results6, go_sem, z0, z1, z2, z3]) rfl ⟨fun h => by omega, fun _ => ⟨none, 0, none, 0, rfl, autoNew_nil _ _, hb⟩⟩

theorem both_u (b t : Int) (a : Option Addr) (n cap : Nat) (a' : Option Addr) (k cap' : Nat) (N : List (List Int)) (E : List Bool) (b2 t2 : Int) (a2 : Option Addr) (n2 cap2 : Nat) (a2' : Option Addr) (k2 cap2' : Nat) (N2 : List (List Int)) (E2 : List Bool) (how : Int) (w : World)
    (hs : Sl2 w a n N) (he : SlB w a' k E) (hs2 : Sl2 w a2 n2 N2) (he2 : SlB w a2' k2 E2) :
    Calls Try.prog 6 #[.agg #[.int .i64 b, .int .i64 t, .slice a n cap, .slice a' k cap'], .agg #[.int .i64 b2, .int .i64 t2, .slice a2 n2 cap2, .slice a2' k2 cap2'], .int .i64 how] w (PairR w (okI (bothC how b t N E k b2 t2 N2 E2 k2) b) (okI (bothC how b t N E k b2 t2 N2 E2 k2) t) (bothN how b t N E k b2 t2 N2 E2 k2) (bothE how b t N E k b2 t2 N2 E2 k2) (bothC how b t N E k b2 t2 N2 E2 k2)) := by
  by_cases hh : 0 ≤ how ∧ how ≤ 15
  · by_cases hC : alikeC b t N k b2 t2 N2 k2 = 0
    · obtain ⟨hA1, hA2, rfl, rfl⟩ := alikeC_zero hC
      obtain rfl : k = n := by rw [(autoC_zero hA1).2.1, hs.1]
      obtain rfl : k2 = n2 := by rw [(autoC_zero hA2).2.1, hs2.1]
      refine (both_ok b t a k cap a' cap' N E a2 k2 cap2 a2' cap2' N2 E2 how w hs he hs2 he2 hh.1 hh.2 hC).mono ?_
      rintro e w' ⟨h1, h2⟩
      by_cases hK : bothK b t how N N2 E E2 ≤ 80
      · have hc : bothC how b t N E k b t N2 E2 k2 = 0 := by unfold bothC; rw [if_pos hh, if_pos hC, if_pos hK]
        unfold bothN bothE okI
        rw [hc, if_pos rfl, if_pos rfl, if_pos rfl, if_pos rfl]
        exact h1 hK
      · have hc : bothC how b t N E k b t N2 E2 k2 = 3 := by unfold bothC; rw [if_pos hh, if_pos hC, if_neg hK]
        unfold bothN bothE okI
        rw [hc, if_neg (by decide), if_neg (by decide), if_neg (by decide), if_neg (by decide)]
        exact h2 (by omega)
    · have hc := @alikeC_of b t N k b2 t2 N2 k2 how E E2 hh.1 hh.2 hC
      unfold bothN bothE okI
      rw [hc, if_neg hC, if_neg hC, if_neg hC, if_neg hC]
      exact both_in b t a n cap a' k cap' N E b2 t2 a2 n2 cap2 a2' k2 cap2' N2 E2 how w hs he hs2 he2 hh.1 hh.2 hC
  · have hc : bothC how b t N E k b2 t2 N2 E2 k2 = 1 := by unfold bothC; rw [if_neg hh]
    unfold bothN bothE okI
    rw [hc, if_neg (by decide), if_neg (by decide), if_neg (by decide), if_neg (by decide)]
    exact both_range b t a n cap a' k cap' b2 t2 a2 n2 cap2 a2' k2 cap2' how w (by omega)
end Go.Proofs.Ytebbjmcjgjecmaa

/- Right words: the automaton of them; mathematics. -/
namespace Go.Proofs.Ytebbjmcjgjecmaa
open Go.RowKit

/-- Letters that may not follow: a 1 below a 1, in base 1 (Fibonacci's). -/
def hitB (b : Int) (tr : Nat) (x y : Int) : Bool := (List.range tr).any fun k => decide (b = 1) && decide (dOf b tr x k = 1) && decide (dOf b tr y k = 1)
/-- Where letter l leads from state s: 0: none was read; s + 1: letter s was; m + 1: it went wrong. -/
def arT (b : Int) (tr m s l : Nat) : Nat := if s = m + 1 then m + 1 else if 0 < s ∧ hitB b tr ((s : Int) - 1) (l : Int) = true then m + 1 else l + 1
def arN (b : Int) (tr m : Nat) : List (List Int) := (List.range (m + 2)).map fun s => (List.range m).map fun l => ((arT b tr m s l : Nat) : Int)
def arE (m : Nat) : List Bool := (List.range (m + 2)).map fun s => decide (s ≤ m)
theorem arN_len (b : Int) (tr m : Nat) : (arN b tr m).length = m + 2 := by simp [arN]
theorem arN_row {b : Int} {tr m s : Nat} (hs : s < m + 2) : (arN b tr m).getD s [] = (List.range m).map fun l => ((arT b tr m s l : Nat) : Int) := by simp [arN, List.getD, hs]
theorem arN_cell {b : Int} {tr m s l : Nat} (hs : s < m + 2) (hl : l < m) : ((arN b tr m).getD s []).getD l 0 = ((arT b tr m s l : Nat) : Int) := by rw [arN_row hs]; simp [List.getD, hl]
theorem arE_get {m s : Nat} (hs : s < m + 2) : (arE m).getD s false = decide (s ≤ m) := by simp [arE, List.getD, hs]
theorem arT_lt {b : Int} {tr m s l : Nat} (hl : l < m) : arT b tr m s l < m + 2 := by unfold arT; split; omega; split <;> omega
theorem ar_good (b : Int) (tr : Nat) {m : Nat} (h1 : 1 ≤ m) (h36 : m ≤ 36) : GoodN m (m + 2) (arN b tr m) := by
  refine ⟨arN_len _ _ _, by omega, by omega, h36, h1, fun s hs => ⟨by rw [arN_row hs]; simp, fun j hj => ?_⟩⟩
  rw [arN_cell hs hj]
  have := arT_lt (b := b) (tr := tr) (s := s) hj
  omega
/-- Has it gone wrong somewhere? -/
def badL (b : Int) (tr : Nat) : List Int → Bool
  | x :: y :: r => hitB b tr x y || badL b tr (y :: r)
  | _ => false
theorem badL_snoc (b : Int) (tr : Nat) (w : List Int) (x y : Int) : badL b tr (w ++ [x] ++ [y]) = (badL b tr (w ++ [x]) || hitB b tr x y) := by
  induction w with
  | nil => simp [badL]
  | cons z w ih =>
    cases w with
    | nil => simp [badL]
    | cons z' w =>
      show (hitB b tr z z' || badL b tr (z' :: w ++ [x] ++ [y])) = _
      rw [ih]
      show _ = ((hitB b tr z z' || badL b tr (z' :: w ++ [x])) || hitB b tr x y)
      rw [Bool.or_assoc]
theorem ar_step {b : Int} {tr m s : Nat} (hs : s < m + 2) {x : Int} (hx : 0 ≤ x ∧ x < (m : Int)) : stepL (arN b tr m) s x = arT b tr m s x.toNat := by
  unfold stepL
  rw [arN_cell hs (by omega), Int.toNat_natCast]
/-- Where a word leads. -/
theorem ar_run {b : Int} {tr m : Nat} (w : List Int) : okW m w → (badL b tr w = true → runL (arN b tr m) w = m + 1) ∧ (badL b tr w = false → (w = [] ∧ runL (arN b tr m) w = 0) ∨ ∃ v x, w = v ++ [x] ∧ runL (arN b tr m) w = x.toNat + 1) := by
  induction w using list_snoc_ind with
  | h0 => exact fun _ => ⟨fun h => by simp [badL] at h, fun _ => .inl ⟨rfl, rfl⟩⟩
  | h1 w y ih =>
    intro hw
    obtain ⟨hw1, hw2⟩ := okW_append.1 hw
    have hy := hw2 y (by simp)
    obtain ⟨i1, i2⟩ := ih hw1
    rw [runL_snoc]
    by_cases hb : badL b tr w = true
    · rw [i1 hb, ar_step (by omega) hy]
      have hbad : badL b tr (w ++ [y]) = true := by
        cases w using list_snoc_ind with
        | h0 => simp [badL] at hb
        | h1 v z _ => rw [badL_snoc, hb]; rfl
      refine ⟨fun _ => by unfold arT; rw [if_pos rfl], fun h => by rw [hbad] at h; cases h⟩
    · have hb' : badL b tr w = false := by simpa using hb
      rcases i2 hb' with ⟨rfl, h0⟩ | ⟨v, x, rfl, h1⟩
      · rw [h0, ar_step (by omega) hy]
        refine ⟨fun h => by simp [badL] at h, fun _ => .inr ⟨[], y, rfl, ?_⟩⟩
        unfold arT
        rw [if_neg (by omega), if_neg (by omega)]
      · have hx := hw1 x (by simp)
        rw [h1, ar_step (by omega) hy, badL_snoc, hb', Bool.false_or]
        have e1 : ((x.toNat + 1 : Nat) : Int) - 1 = x := by omega
        have e2 : ((y.toNat : Nat) : Int) = y := by omega
        unfold arT
        rw [if_neg (by omega), e1, e2]
        by_cases hh : hitB b tr x y = true
        · rw [if_pos ⟨by omega, hh⟩]
          exact ⟨fun _ => rfl, fun h => by rw [hh] at h; cases h⟩
        · rw [if_neg (fun h => hh h.2)]
          exact ⟨fun h => absurd h hh, fun _ => .inr ⟨v ++ [x], y, rfl, rfl⟩⟩
theorem ar_tk {b : Int} {tr m : Nat} {w : List Int} (hw : okW m w) : tkB (arN b tr m) (arE m) w = !badL b tr w := by
  obtain ⟨h1, h2⟩ := ar_run (b := b) (tr := tr) w hw
  unfold tkB
  cases hb : badL b tr w with
  | true =>
    rw [h1 hb, arE_get (by omega)]
    simp
  | false =>
    rcases h2 hb with ⟨_, h0⟩ | ⟨v, x, rfl, hr⟩
    · rw [h0, arE_get (by omega)]; simp
    · have hx := hw x (by simp)
      rw [hr, arE_get (by omega)]
      simp; omega
/-- All: the automaton. -/
def alN (b t : Int) : List (List Int) := if codeM b t = 0 then leastN (arN b t.toNat (manyU b t).toNat) (arE (manyU b t).toNat) (manyU b t).toNat else []
def alE (b t : Int) : List Bool := if codeM b t = 0 then leastE (arN b t.toNat (manyU b t).toNat) (arE (manyU b t).toNat) (manyU b t).toNat else []
theorem manyU_bd {b t : Int} (h : codeM b t = 0) : 1 ≤ (manyU b t).toNat ∧ (manyU b t).toNat ≤ 36 := by
  obtain ⟨h1, h2, h3, h4, h5, h6⟩ := codeM_zero h
  have hk := kinds_bd2 b h2
  have hp : 1 ≤ pw (kindsI b) t.toNat := pw_pos _ (by omega) _
  omega
end Go.Proofs.Ytebbjmcjgjecmaa

/- right.All: its automaton; mathematics. -/
namespace Go.Proofs.Ytebbjmcjgjecmaa
open Go.RowKit

/-- Two letters that may not stand side by side. -/
def clB (b : Int) (x y : Nat) : Bool := decide (b = 1) && decide (x &&& y ≠ 0)
/-- The developers' rows: a state is the letter that was read last. -/
def daR (b : Int) (m j : Nat) : List Int := if j < m then (List.range m).map fun l => if clB b j l = true then (m : Int) else (l : Int) else List.replicate m (m : Int)
def daF (m j : Nat) : Bool := decide (j < m)
def daN (b : Int) (m : Nat) : List (List Int) := (List.range (m + 1)).map (daR b m)
def daE (m : Nat) : List Bool := (List.range (m + 1)).map (daF m)
theorem daN_len (b : Int) (m : Nat) : (daN b m).length = m + 1 := by simp [daN]
theorem daE_len (m : Nat) : (daE m).length = m + 1 := by simp [daE]
theorem daN_get {b : Int} {m j : Nat} (hj : j < m + 1) : (daN b m).getD j [] = daR b m j := by simp [daN, List.getD, hj]
theorem daE_get {m j : Nat} (hj : j < m + 1) : (daE m).getD j false = daF m j := by simp [daE, List.getD, hj]
theorem daR_len (b : Int) (m j : Nat) : (daR b m j).length = m := by unfold daR; split <;> simp
theorem daR_in {b : Int} {m j l : Nat} (hj : j < m) (hl : l < m) : (daR b m j).getD l 0 = if clB b j l = true then (m : Int) else (l : Int) := by unfold daR; rw [if_pos hj]; simp [List.getD, hl]
theorem daR_out {b : Int} {m j l : Nat} (hj : ¬ j < m) (hl : l < m) : (daR b m j).getD l 0 = (m : Int) := by unfold daR; rw [if_neg hj]; simp [List.getD, hl]
theorem da_good (b : Int) {m : Nat} (h1 : 1 ≤ m) (h36 : m ≤ 36) : GoodN m (m + 1) (daN b m) := by
  refine ⟨daN_len b m, by omega, by omega, h36, h1, fun s hs => ?_⟩
  rw [daN_get hs]
  refine ⟨daR_len b m s, fun j hj => ?_⟩
  by_cases h : s < m
  · rw [daR_in h hj]
    split <;> omega
  · rw [daR_out h hj]; omega
theorem da_nxt {b : Int} {m s l : Nat} (hs : s < m + 1) (hl : l < m) : nxt (daN b m) s l = if s < m then (if clB b s l = true then m else l) else m := by
  unfold nxt
  rw [daN_get hs]
  by_cases h : s < m
  · rw [daR_in h hl, if_pos h]; split <;> simp
  · rw [daR_out h hl, if_neg h]; simp
theorem ar_nxt {b : Int} {tr m s l : Nat} (hs : s < m + 2) (hl : l < m) : nxt (arN b tr m) s l = arT b tr m s l := by
  unfold nxt
  rw [arN_cell hs hl, Int.toNat_natCast]
theorem hit_fib : ∀ t : Nat, t < 6 → ∀ x : Nat, x < (manyU 1 (t : Int)).toNat → ∀ y : Nat, y < (manyU 1 (t : Int)).toNat → hitB 1 t (x : Int) (y : Int) = clB 1 x y := by decide +kernel
theorem hit_cl {b t : Int} (h : codeM b t = 0) {x y : Nat} (hx : x < (manyU b t).toNat) (hy : y < (manyU b t).toNat) : hitB b t.toNat (x : Int) (y : Int) = clB b x y := by
  obtain ⟨h1, h2, h3, h4, -⟩ := codeM_zero h
  by_cases hb : b = 1
  · subst hb
    obtain ⟨tn, rfl⟩ : ∃ tn : Nat, t = (tn : Int) := ⟨t.toNat, by omega⟩
    rw [Int.toNat_natCast]
    exact hit_fib tn (by omega) x hx y hy
  · unfold hitB clB
    simp [hb]
theorem cl_zero (b : Int) (y : Nat) : clB b 0 y = false := by unfold clB; simp
/-- Its least one is that of all right words. -/
theorem da_least {b t : Int} (h : codeM b t = 0) : leastN (daN b (manyU b t).toNat) (daE (manyU b t).toNat) (manyU b t).toNat = alN b t ∧ leastE (daN b (manyU b t).toNat) (daE (manyU b t).toNat) (manyU b t).toNat = alE b t := by
  obtain ⟨m1, m36⟩ := manyU_bd h
  have hc := fun x y => @hit_cl b t h x y
  generalize hm : (manyU b t).toNat = m at m1 m36 hc ⊢
  unfold alN alE
  rw [if_pos h, if_pos h, hm]
  have hA := ar_good b t.toNat m1 m36
  have hH : ∀ s, s < m + 2 → ((List.range (m + 2)).map fun s => s - 1).getD s 0 = s - 1 := fun s hs => by simp [List.getD, hs]
  refine least_same (da_good b m1 m36) hA _ _ fun w hw => ?_
  have hr := run_lt hA w hw
  rw [mor_run hA ((List.range (m + 2)).map fun s => s - 1) (by rw [hH 0 (by omega)]) (fun s hs j hj => ?_) w hw, hH _ hr, arE_get hr, daE_get (by omega)]
  · unfold daF
    congr 1
    apply propext
    omega
  · rw [ar_nxt hs hj, hH s hs, hH _ (arT_lt hj), da_nxt (by omega) hj]
    unfold arT
    by_cases e1 : s = m + 1
    · subst e1
      rw [if_pos rfl, if_neg (by omega)]
      omega
    · rw [if_neg e1, if_pos (show s - 1 < m by omega)]
      by_cases e0 : s = 0
      · subst e0
        rw [if_neg (by omega), cl_zero, if_neg (by decide)]
        omega
      · have e : ((s : Int) - 1) = ((s - 1 : Nat) : Int) := by omega
        rw [e, hc (s - 1) j (by omega) hj]
        by_cases ec : clB b (s - 1) j = true
        · rw [if_pos ⟨by omega, ec⟩, if_pos ec]; omega
        · rw [if_neg (fun h => ec h.2), if_neg ec]; omega
theorem da_auto {b t : Int} (h : codeM b t = 0) : autoC b t (daN b (manyU b t).toNat) ((manyU b t).toNat + 1) = 0 := by
  obtain ⟨m1, m36⟩ := manyU_bd h
  exact autoC_good h (da_good b m1 m36) (by omega)
end Go.Proofs.Ytebbjmcjgjecmaa

/- Right words that are taken, and the others: mathematics of RightTakes. -/
namespace Go.Proofs.Ytebbjmcjgjecmaa
open Go.RowKit

/-- The fact: right words of one track, in Fibonacci's base, want three states. -/
theorem fib_code : codeM 1 1 = 0 := by decide +kernel
theorem fib_len : (alN 1 1).length = 3 := by decide +kernel
end Go.Proofs.Ytebbjmcjgjecmaa

/- What package right answers. -/
namespace Go.Proofs.Ytebbjmcjgjecmaa
open Go.RowKit

/-- What right.All, Only and Flip answer, at whatever they are given. -/
def AllSays : Prop := ∀ (b t : Int) (W : World), Calls Try.prog 4 #[.int .i64 b, .int .i64 t] W (PairR W (okI (codeM b t) b) (okI (codeM b t) t) (alN b t) (alE b t) (codeM b t))
/-- What was handed back, in the box that it is put into. -/
theorem autoAt_pair {w W : World} {b t : Int} {a : Option Addr} {n c : Nat} {a' : Option Addr} {c' : Nat} {N : List (List Int)} {E : List Bool} (T : TypeId) (h : AutoNew w a n N a' E W) : AutoAt (W.alloc (.cells #[.int .i64 b, .int .i64 t, .slice a n c, .slice a' n c'] T)) W.heap.size b t a n c a' n c' N E ∧ Below W.heap.size W (W.alloc (.cells #[.int .i64 b, .int .i64 t, .slice a n c, .slice a' n c'] T)) :=
  ⟨autoAt_new h.here.1 h.here.2, (Below.refl _ _).alloc (Nat.le_refl _) _⟩
end Go.Proofs.Ytebbjmcjgjecmaa

/- The law RightSpreads: its mathematics. Only the bases 1 to 6 have two tracks. -/
namespace Go.Proofs.Ytebbjmcjgjecmaa
open Go.RowKit

/-- The automaton of one state, that takes every word. -/
def uniN (m : Nat) : List (List Int) := [List.replicate m 0]
theorem uni_good {m : Nat} (h1 : 1 ≤ m) (h36 : m ≤ 36) : GoodN m 1 (uniN m) := by
  refine ⟨rfl, by omega, by omega, h36, h1, fun s hs => ?_⟩
  obtain rfl : s = 0 := by omega
  refine ⟨by simp [uniN], fun j hj => ?_⟩
  simp [uniN, List.getD, hj]
theorem uni_run {m : Nat} (w : List Int) : okW m w → runL (uniN m) w = 0 := by
  induction w using list_snoc_ind with
  | h0 => exact fun _ => rfl
  | h1 w y ih =>
    intro hw
    obtain ⟨hw1, hw2⟩ := okW_append.1 hw
    have hy := hw2 y (by simp)
    have hyn : y.toNat < m := by omega
    rw [runL_snoc, ih hw1]
    simp [stepL, uniN, List.getD, hyn]
theorem al_one {b t : Int} (hb : b ≠ 1) (h : codeM b t = 0) : alN b t = leastN (uniN (manyU b t).toNat) [true] (manyU b t).toNat ∧ alE b t = leastE (uniN (manyU b t).toNat) [true] (manyU b t).toNat := by
  obtain ⟨m1, m36⟩ := manyU_bd h
  unfold alN alE
  rw [if_pos h, if_pos h]
  refine least_same (ar_good b t.toNat m1 m36) (uni_good m1 m36) _ _ fun w hw => ?_
  have hz : ∀ w : List Int, badL b t.toNat w = false := fun w => by
    induction w with
    | nil => rfl
    | cons x w ih =>
      cases w with
      | nil => rfl
      | cons y w =>
        show (hitB b t.toNat x y || badL b t.toNat (y :: w)) = false
        rw [ih]
        simp [hitB, hb]
  have := ar_tk (b := b) (tr := t.toNat) hw
  unfold tkB at this
  rw [this, hz, uni_run w hw]
  rfl
/-- What comes up, of an early round. -/
def rsL (b t tk : Int) (N : List (List Int)) (E : List Bool) (i : Nat) : List Nat := outG (dM (leastN N E (manyU b t).toNat) (leastK N E (manyU b t).toNat) (smR b t tk)) (smR b t tk).length (cloM (leastN N E (manyU b t).toNat) (leastK N E (manyU b t).toNat) ((smR b t tk).getD 0 [])) i
def rsN (b t tk : Int) (N : List (List Int)) (E : List Bool) (i : Nat) : List (List Int) := gN (dM (leastN N E (manyU b t).toNat) (leastK N E (manyU b t).toNat) (smR b t tk)) (smR b t tk).length (rsL b t tk N E i)
def rsE (b t tk : Int) (N : List (List Int)) (E : List Bool) (i : Nat) : List Bool := gE (endM (leastK N E (manyU b t).toNat) (leastE N E (manyU b t).toNat)) (rsL b t tk N E i)
theorem sm_by {b t tk : Int} {N : List (List Int)} {E : List Bool} {k : Nat} (i : Nat) (hi : i ≤ 2000) (hl : (rsL b t tk N E i).length ≤ i) (hF : smF b t N k tk = 0) (hK : leastK (rsN b t tk N E i) (rsE b t tk N E i) (manyU b (t - 1)).toNat ≤ 80) :
    smC b t N E k tk = 0 ∧ smN b t N E k tk = leastN (rsN b t tk N E i) (rsE b t tk N E i) (manyU b (t - 1)).toNat ∧ smE b t N E k tk = leastE (rsN b t tk N E i) (rsE b t tk N E i) (manyU b (t - 1)).toNat := by
  have hL : smL b t tk N E = rsL b t tk N E i := setsS_early hi rfl hl
  have hN : smGN b t tk N E = rsN b t tk N E i := by
    have h : smGN b t tk N E = gN (dM (leastN N E (manyU b t).toNat) (leastK N E (manyU b t).toNat) (smR b t tk)) (smR b t tk).length (smL b t tk N E) := rfl
    rw [h, hL]; rfl
  have hE : smGE b t tk N E = rsE b t tk N E i := by
    have h : smGE b t tk N E = gE (endM (leastK N E (manyU b t).toNat) (leastE N E (manyU b t).toNat)) (smL b t tk N E) := rfl
    rw [h, hL]; rfl
  have hS : smS b t N E k tk = 0 := by
    unfold smS
    rw [if_pos hF, hL, if_neg (by omega)]
  have hC : smC b t N E k tk = 0 := by
    unfold smC
    rw [if_pos hS, hN, hE, if_neg (by omega)]
  refine ⟨hC, ?_, ?_⟩
  · unfold smN; rw [if_pos hC, hN, hE]
  · unfold smE; rw [if_pos hC, hN, hE]
/-- What the law asks, of the automata A1, E1 of one track and A2, E2 of two. -/
def RsOk (b : Int) (A1 : List (List Int)) (E1 : List Bool) (A2 : List (List Int)) (E2 : List Bool) : Prop :=
  sprC b 1 A1 A1.length 2 [0] = 0 ∧ sprC b 1 A1 A1.length 2 [1] = 0 ∧
  (bothC 8 b 2 (sprN b 1 A1 E1 A1.length 2 [0]) (sprE b 1 A1 E1 A1.length 2 [0]) (sprN b 1 A1 E1 A1.length 2 [0]).length b 2 (sprN b 1 A1 E1 A1.length 2 [1]) (sprE b 1 A1 E1 A1.length 2 [1]) (sprN b 1 A1 E1 A1.length 2 [1]).length = 0 ∧
   bothN 8 b 2 (sprN b 1 A1 E1 A1.length 2 [0]) (sprE b 1 A1 E1 A1.length 2 [0]) (sprN b 1 A1 E1 A1.length 2 [0]).length b 2 (sprN b 1 A1 E1 A1.length 2 [1]) (sprE b 1 A1 E1 A1.length 2 [1]) (sprN b 1 A1 E1 A1.length 2 [1]).length = A2 ∧
   bothE 8 b 2 (sprN b 1 A1 E1 A1.length 2 [0]) (sprE b 1 A1 E1 A1.length 2 [0]) (sprN b 1 A1 E1 A1.length 2 [0]).length b 2 (sprN b 1 A1 E1 A1.length 2 [1]) (sprE b 1 A1 E1 A1.length 2 [1]) (sprN b 1 A1 E1 A1.length 2 [1]).length = E2) ∧
  smC b 2 A2 E2 A2.length 1 = 0 ∧ smN b 2 A2 E2 A2.length 1 = A1 ∧ smE b 2 A2 E2 A2.length 1 = E1
/-- The same, so that it can be reckoned. -/
def rsB (b : Int) (A1 : List (List Int)) (E1 : List Bool) (A2 : List (List Int)) (E2 : List Bool) (i : Nat) : Bool :=
  let X := sprN b 1 A1 E1 A1.length 2 [0]
  let XE := sprE b 1 A1 E1 A1.length 2 [0]
  let Y := sprN b 1 A1 E1 A1.length 2 [1]
  let YE := sprE b 1 A1 E1 A1.length 2 [1]
  let sN := rsN b 2 1 A2 E2 i
  let sE := rsE b 2 1 A2 E2 i
  decide (i ≤ 2000) && decide (sprC b 1 A1 A1.length 2 [0] = 0) && decide (sprC b 1 A1 A1.length 2 [1] = 0) &&
  decide (bothC 8 b 2 X XE X.length b 2 Y YE Y.length = 0) && decide (bothN 8 b 2 X XE X.length b 2 Y YE Y.length = A2) && decide (bothE 8 b 2 X XE X.length b 2 Y YE Y.length = E2) &&
  decide ((rsL b 2 1 A2 E2 i).length ≤ i) && decide (smF b 2 A2 A2.length 1 = 0) && decide (leastK sN sE (manyU b (2 - 1)).toNat ≤ 80) && decide (leastN sN sE (manyU b (2 - 1)).toNat = A1) && decide (leastE sN sE (manyU b (2 - 1)).toNat = E1)
theorem rs_of {b : Int} {A1 : List (List Int)} {E1 : List Bool} {A2 : List (List Int)} {E2 : List Bool} (i : Nat) (h : rsB b A1 E1 A2 E2 i = true) : RsOk b A1 E1 A2 E2 := by
  unfold rsB at h
  simp only [Bool.and_eq_true, decide_eq_true_eq] at h
  obtain ⟨⟨⟨⟨⟨⟨⟨⟨⟨⟨h0, h1⟩, h2⟩, h3⟩, h4⟩, h5⟩, h6⟩, h7⟩, h8⟩, h9⟩, h10⟩ := h
  obtain ⟨s1, s2, s3⟩ := sm_by (k := A2.length) i h0 h6 h7 h8
  exact ⟨h1, h2, ⟨h3, h4, h5⟩, s1, s2.trans h9, s3.trans h10⟩
theorem rs2 : RsOk 2 (uniN 2) [true] (uniN 4) [true] := rs_of 1 (by decide +kernel)
theorem au2 : leastN (uniN (manyU 2 1).toNat) [true] (manyU 2 1).toNat = uniN 2 ∧ leastE (uniN (manyU 2 1).toNat) [true] (manyU 2 1).toNat = [true] ∧ leastN (uniN (manyU 2 2).toNat) [true] (manyU 2 2).toNat = uniN 4 ∧ leastE (uniN (manyU 2 2).toNat) [true] (manyU 2 2).toNat = [true] := by decide +kernel
theorem rs3 : RsOk 3 (uniN 3) [true] (uniN 9) [true] := rs_of 1 (by decide +kernel)
theorem au3 : leastN (uniN (manyU 3 1).toNat) [true] (manyU 3 1).toNat = uniN 3 ∧ leastE (uniN (manyU 3 1).toNat) [true] (manyU 3 1).toNat = [true] ∧ leastN (uniN (manyU 3 2).toNat) [true] (manyU 3 2).toNat = uniN 9 ∧ leastE (uniN (manyU 3 2).toNat) [true] (manyU 3 2).toNat = [true] := by decide +kernel
theorem rs4 : RsOk 4 (uniN 4) [true] (uniN 16) [true] := rs_of 1 (by decide +kernel)
theorem au4 : leastN (uniN (manyU 4 1).toNat) [true] (manyU 4 1).toNat = uniN 4 ∧ leastE (uniN (manyU 4 1).toNat) [true] (manyU 4 1).toNat = [true] ∧ leastN (uniN (manyU 4 2).toNat) [true] (manyU 4 2).toNat = uniN 16 ∧ leastE (uniN (manyU 4 2).toNat) [true] (manyU 4 2).toNat = [true] := by decide +kernel
theorem rs5 : RsOk 5 (uniN 5) [true] (uniN 25) [true] := rs_of 1 (by decide +kernel)
theorem au5 : leastN (uniN (manyU 5 1).toNat) [true] (manyU 5 1).toNat = uniN 5 ∧ leastE (uniN (manyU 5 1).toNat) [true] (manyU 5 1).toNat = [true] ∧ leastN (uniN (manyU 5 2).toNat) [true] (manyU 5 2).toNat = uniN 25 ∧ leastE (uniN (manyU 5 2).toNat) [true] (manyU 5 2).toNat = [true] := by decide +kernel
theorem rs6 : RsOk 6 (uniN 6) [true] (uniN 36) [true] := rs_of 1 (by decide +kernel)
theorem au6 : leastN (uniN (manyU 6 1).toNat) [true] (manyU 6 1).toNat = uniN 6 ∧ leastE (uniN (manyU 6 1).toNat) [true] (manyU 6 1).toNat = [true] ∧ leastN (uniN (manyU 6 2).toNat) [true] (manyU 6 2).toNat = uniN 36 ∧ leastE (uniN (manyU 6 2).toNat) [true] (manyU 6 2).toNat = [true] := by decide +kernel
theorem rs_put {b : Int} (hb : b ≠ 1) (h1 : codeM b 1 = 0) (h2 : codeM b 2 = 0) {A1 A2 : List (List Int)} {E1 E2 : List Bool} (hu : leastN (uniN (manyU b 1).toNat) [true] (manyU b 1).toNat = A1 ∧ leastE (uniN (manyU b 1).toNat) [true] (manyU b 1).toNat = E1 ∧ leastN (uniN (manyU b 2).toNat) [true] (manyU b 2).toNat = A2 ∧ leastE (uniN (manyU b 2).toNat) [true] (manyU b 2).toNat = E2) (h : RsOk b A1 E1 A2 E2) : RsOk b (alN b 1) (alE b 1) (alN b 2) (alE b 2) := by
  rw [(al_one hb h1).1, (al_one hb h1).2, (al_one hb h2).1, (al_one hb h2).2, hu.1, hu.2.1, hu.2.2.1, hu.2.2.2]
  exact h
/-- Every base but Fibonacci's. -/
theorem rs_more {b : Int} (hb : b ≠ 1) (h : codeM b 2 = 0) : codeM b 1 = 0 ∧ RsOk b (alN b 1) (alE b 1) (alN b 2) (alE b 2) := by
  obtain ⟨h1, h2, -⟩ := codeM_zero h
  have h16 : b = 2 ∨ b = 3 ∨ b = 4 ∨ b = 5 ∨ b = 6 := by omega
  rcases h16 with rfl | rfl | rfl | rfl | rfl
  · exact ⟨by decide +kernel, rs_put (by decide) (by decide +kernel) h au2 rs2⟩
  · exact ⟨by decide +kernel, rs_put (by decide) (by decide +kernel) h au3 rs3⟩
  · exact ⟨by decide +kernel, rs_put (by decide) (by decide +kernel) h au4 rs4⟩
  · exact ⟨by decide +kernel, rs_put (by decide) (by decide +kernel) h au5 rs5⟩
  · exact ⟨by decide +kernel, rs_put (by decide) (by decide +kernel) h au6 rs6⟩
end Go.Proofs.Ytebbjmcjgjecmaa

/- What package some answers: the words of its contracts. -/
namespace Go.Proofs.Ytebbjmcjgjecmaa
open Go.RowKit

/-- What some.Some and some.Sets answer, at whatever they are given. -/
def SomeSays : Prop := ∀ (b t : Int) (a : Option Addr) (n cap : Nat) (a' : Option Addr) (k cap' : Nat) (N : List (List Int)) (E : List Bool) (tk : Int) (W : World), Sl2 W a n N → SlB W a' k E → Calls Try.prog 8 #[.agg #[.int .i64 b, .int .i64 t, .slice a n cap, .slice a' k cap'], .int .i64 tk] W (PairR W (okI (smC b t N E k tk) b) (okI (smC b t N E k tk) (t - 1)) (smN b t N E k tk) (smE b t N E k tk) (smC b t N E k tk))
end Go.Proofs.Ytebbjmcjgjecmaa

/- The walk of the law RightSpreads, from what the packages answer. -/
namespace Go.Proofs.Ytebbjmcjgjecmaa
open Go.RowKit

/-- What track.Spread answers. -/
def SprSays : Prop := ∀ (b t : Int) (a : Option Addr) (n cap : Nat) (a' : Option Addr) (k cap' : Nat) (N : List (List Int)) (E : List Bool) (tr : Int) (aa : Option Addr) (la ca : Nat) (at_ : List Int) (W : World), Sl2 W a n N → SlB W a' k E → Sl W aa la at_ → Calls Try.prog 5 #[.agg #[.int .i64 b, .int .i64 t, .slice a n cap, .slice a' k cap'], .int .i64 tr, .slice aa la ca] W (PairR W (okI (sprC b t N k tr at_) b) (okI (sprC b t N k tr at_) tr) (sprN b t N E k tr at_) (sprE b t N E k tr at_) (sprC b t N k tr at_))
theorem one_lit (w : World) (T : TypeId) (x : Int) (hx : (Lit.int .i64 x).wf = true) : Sl (w.alloc (.cells #[.int .i64 x] T)) (some ⟨w.heap.size, 0, none⟩) 1 [x] ∧ Below w.heap.size w (w.alloc (.cells #[.int .i64 x] T)) := ⟨sl_lit w T [x] (by unfold maxLen; simp) (by simpa using hx), (Below.refl _ _).alloc (Nat.le_refl _) _⟩

set_option maxHeartbeats 16000000 in
set_option maxRecDepth 8000 in
theorem rightspreads_of (b : Int) (w : World) (hAL : AllSays) (hSP : SprSays) (hSM : SomeSays) (hRS : codeM b 2 = 0 → codeM b 1 = 0 ∧ RsOk b (alN b 1) (alE b 1) (alN b 2) (alE b 2)) :
    Calls Try.prog 3 #[.int .i64 b] w fun e w' => e = .returned (.bool true) ∧ Below w.heap.size w w' := by
  have HF0 := hide (fun W => hAL 1 1 W)
  rw [fib_code, show okI 0 1 = 1 from rfl] at HF0
  unfold PairR at HF0
  rw [fib_len, errV_yes rfl] at HF0
  generalize alN 1 1 = FN at HF0
  generalize alE 1 1 = FE at HF0
  have HS2 := hide (fun W => hAL b 2 W)
  have HS1 := hide (fun W => hAL b 1 W)
  have HX := hide (fun a c a' c' aa la ca W h1 h2 h3 => hSP b 1 a (alN b 1).length c a' (alN b 1).length c' (alN b 1) (alE b 1) 2 aa la ca [0] W h1 h2 h3)
  have HY := hide (fun a c a' c' aa la ca W h1 h2 h3 => hSP b 1 a (alN b 1).length c a' (alN b 1).length c' (alN b 1) (alE b 1) 2 aa la ca [1] W h1 h2 h3)
  have HZ := hide (fun a c a' c' a2 c2 a2' c2' W h1 h2 h3 h4 => both_u b 2 a (sprN b 1 (alN b 1) (alE b 1) (alN b 1).length 2 [0]).length c a' (sprN b 1 (alN b 1) (alE b 1) (alN b 1).length 2 [0]).length c' (sprN b 1 (alN b 1) (alE b 1) (alN b 1).length 2 [0]) (sprE b 1 (alN b 1) (alE b 1) (alN b 1).length 2 [0]) b 2 a2 (sprN b 1 (alN b 1) (alE b 1) (alN b 1).length 2 [1]).length c2 a2' (sprN b 1 (alN b 1) (alE b 1) (alN b 1).length 2 [1]).length c2' (sprN b 1 (alN b 1) (alE b 1) (alN b 1).length 2 [1]) (sprE b 1 (alN b 1) (alE b 1) (alN b 1).length 2 [1]) 8 W h1 h2 h3 h4)
  have HO := hide (fun a c a' c' W h1 h2 => hSM b 2 a (alN b 2).length c a' (alN b 2).length c' (alN b 2) (alE b 2) 1 W h1 h2)
  unfold PairR at HS2 HS1 HX HY HZ HO
  unfold RsOk at hRS
  have HRS := hide hRS
  clear hRS hAL hSP hSM
  generalize codeM b 2 = c2 at HS2 HRS
  generalize codeM b 1 = c1 at HS1 HRS
  generalize alN b 2 = A2 at HS2 HO HRS
  generalize alE b 2 = E2 at HS2 HO HRS
  generalize alN b 1 = A1 at HS1 HX HY HZ HRS
  generalize alE b 1 = E1 at HS1 HX HY HZ HRS
  generalize smC b 2 A2 E2 A2.length 1 = cO at HO HRS
  generalize smN b 2 A2 E2 A2.length 1 = NO at HO HRS
  generalize smE b 2 A2 E2 A2.length 1 = EO at HO HRS
  generalize sprC b 1 A1 A1.length 2 [0] = cX at HX HRS
  generalize sprC b 1 A1 A1.length 2 [1] = cY at HY HRS
  generalize sprN b 1 A1 E1 A1.length 2 [0] = X at HX HZ HRS
  generalize sprE b 1 A1 E1 A1.length 2 [0] = XE at HX HZ HRS
  generalize sprN b 1 A1 E1 A1.length 2 [1] = Y at HY HZ HRS
  generalize sprE b 1 A1 E1 A1.length 2 [1] = YE at HY HZ HRS
  generalize bothC 8 b 2 X XE X.length b 2 Y YE Y.length = cZ at HZ HRS
  generalize bothN 8 b 2 X XE X.length b 2 Y YE Y.length = Z at HZ HRS
  generalize bothE 8 b 2 X XE X.length b 2 Y YE Y.length = ZE at HZ HRS
  go_enter Try.func3, Try.ntmps3
  go_wp2_with fail
  refine (HF0.out _).mono ?_
  rintro e w1 ⟨fa, fc, fa', fc', rfl, hnew, hb1⟩
  obtain ⟨hA2, hbz⟩ := autoAt_pair (b := 1) (t := 1) (c := fc) (c' := fc') 25 hnew
  have HB2 := hide (below_step hb1 hbz)
  obtain ⟨⟨q0, q1, q2, q3⟩, -⟩ := hA2
  clear hnew hb1 hbz HF0
  generalize hW2 : w1.alloc (.cells #[.int .i64 1, .int .i64 1, .slice fa 3 fc, .slice fa' 3 fc'] 25) = w2 at HB2 q0 q1 q2 q3
  go_wp2_with fail
  clear hW2 q0 q1 q2 q3
  refine (HS2.out w2).mono ?_
  rintro e w3 ⟨x2, d2, x2', d2', rfl, hnew, hb3⟩
  obtain ⟨hA4, hbz⟩ := autoAt_pair (b := okI c2 b) (t := okI c2 2) (c := d2) (c' := d2') 25 hnew
  have HB4 := hide (below_step HB2.out (below_step hb3 hbz))
  have HA4 := hide hA4
  clear hA4 hnew hb3 hbz HS2 HB2
  generalize hW4 : w3.alloc (.cells #[.int .i64 (okI c2 b), .int .i64 (okI c2 2), .slice x2 A2.length d2, .slice x2' A2.length d2'] 25) = w4 at HB4 HA4
  by_cases hc : c2 = 0
  · obtain ⟨m1, mX, mY, ⟨mZ, mZN, mZE⟩, mO, mON, mOE⟩ := HRS.out hc
    subst m1 mX mY mZ mZN mZE mO mON mOE
    rw [show okI c2 b = b by unfold okI; rw [if_pos hc], show okI c2 2 = 2 by unfold okI; rw [if_pos hc]] at HA4 hW4 ⊢
    rw [errV_yes hc]
    rw [show okI 0 b = b from rfl, errV_yes rfl] at HS1 HX HY HZ HO
    rw [show okI 0 1 = 1 from rfl] at HS1
    rw [show okI 0 2 = 2 from rfl] at HX HY HZ
    rw [show okI 0 ((2 : Int) - 1) = 1 from rfl] at HO
    clear hc HRS
    go_wp2_with fail
    clear hW4
    refine (HS1.out w4).mono ?_
    rintro e w5 ⟨x1, d1, x1', d1', rfl, hnew, hb5⟩
    obtain ⟨hA6, hbz⟩ := autoAt_pair (b := b) (t := 1) (c := d1) (c' := d1') 25 hnew
    have hb6 := below_step hb5 hbz
    have HB6 := hide (below_step HB4.out hb6)
    have HA26 := hide (autoAt_below HA4.out hb6)
    have HA16 := hide hA6
    clear hA6 hnew hb5 hbz hb6 HS1 HB4 HA4
    generalize hW6 : w5.alloc (.cells #[.int .i64 b, .int .i64 1, .slice x1 NO.length d1, .slice x1' NO.length d1'] 25) = w6 at HB6 HA26 HA16
    obtain ⟨⟨q0, q1, q2, q3⟩, -⟩ := HA16.out
    obtain ⟨l1, l2⟩ := one_lit w6 3 0 (by decide)
    have HL1 := hide l1
    have HL2 := hide l2
    clear l1 l2
    generalize hWl : w6.alloc (.cells #[.int .i64 0] 3) = w7 at HL1 HL2
    go_wp2_with fail
    clear hWl hW6 q0 q1 q2 q3
    refine (HX.out x1 d1 x1' d1' _ 1 1 w7 (autoAt_below HA16.out HL2.out).2.1 (autoAt_below HA16.out HL2.out).2.2 HL1.out).mono ?_
    rintro e w8 ⟨xx, dx, xx', dx', rfl, hnew, hb8⟩
    obtain ⟨hA9, hbz⟩ := autoAt_pair (b := b) (t := 2) (c := dx) (c' := dx') 25 hnew
    have hb9 := below_step HL2.out (below_step hb8 hbz)
    have HB9 := hide (below_step HB6.out hb9)
    have HA29 := hide (autoAt_below HA26.out hb9)
    have HA19 := hide (autoAt_below HA16.out hb9)
    have HAX9 := hide hA9
    clear hA9 hnew hb8 hbz hb9 HX HB6 HA26 HA16 HL1 HL2
    generalize hW9 : w8.alloc (.cells #[.int .i64 b, .int .i64 2, .slice xx X.length dx, .slice xx' X.length dx'] 25) = w9 at HB9 HA29 HA19 HAX9
    obtain ⟨⟨q0, q1, q2, q3⟩, -⟩ := HA19.out
    obtain ⟨l1, l2⟩ := one_lit w9 3 1 (by decide)
    have HL1 := hide l1
    have HL2 := hide l2
    clear l1 l2
    generalize hWl : w9.alloc (.cells #[.int .i64 1] 3) = wA at HL1 HL2
    go_wp2_with fail
    clear hWl hW9 q0 q1 q2 q3
    refine (HY.out x1 d1 x1' d1' _ 1 1 wA (autoAt_below HA19.out HL2.out).2.1 (autoAt_below HA19.out HL2.out).2.2 HL1.out).mono ?_
    rintro e wB ⟨xy, dy, xy', dy', rfl, hnew, hbB⟩
    obtain ⟨hAC, hbz⟩ := autoAt_pair (b := b) (t := 2) (c := dy) (c' := dy') 25 hnew
    have hbC := below_step HL2.out (below_step hbB hbz)
    have HBC := hide (below_step HB9.out hbC)
    have HA2C := hide (autoAt_below HA29.out hbC)
    have HA1C := hide (autoAt_below HA19.out hbC)
    have HAXC := hide (autoAt_below HAX9.out hbC)
    have HAYC := hide hAC
    clear hAC hnew hbB hbz hbC HY HB9 HA29 HA19 HAX9 HL1 HL2
    generalize hWC : wB.alloc (.cells #[.int .i64 b, .int .i64 2, .slice xy Y.length dy, .slice xy' Y.length dy'] 25) = wC at HBC HA2C HA1C HAXC HAYC
    obtain ⟨⟨q0, q1, q2, q3⟩, -⟩ := HAXC.out
    obtain ⟨⟨r0, r1, r2, r3⟩, -⟩ := HAYC.out
    go_wp2_with fail
    clear hWC q0 q1 q2 q3 r0 r1 r2 r3
    refine (HZ.out xx dx xx' dx' xy dy xy' dy' wC HAXC.out.2.1 HAXC.out.2.2 HAYC.out.2.1 HAYC.out.2.2).mono ?_
    rintro e wD ⟨xz, dz, xz', dz', rfl, hnew, hbD⟩
    obtain ⟨hAE, hbz⟩ := autoAt_pair (b := b) (t := 2) (c := dz) (c' := dz') 25 hnew
    have hbE := below_step hbD hbz
    have HBE := hide (below_step HBC.out hbE)
    have HA2E := hide (autoAt_below HA2C.out hbE)
    have HA1E := hide (autoAt_below HA1C.out hbE)
    have HAZE := hide hAE
    clear hAE hnew hbD hbz hbE HZ HBC HA2C HA1C HAXC HAYC
    generalize hWE : wD.alloc (.cells #[.int .i64 b, .int .i64 2, .slice xz Z.length dz, .slice xz' Z.length dz'] 25) = wE at HBE HA2E HA1E HAZE
    obtain ⟨⟨q0, q1, q2, q3⟩, -⟩ := HAZE.out
    obtain ⟨⟨r0, r1, r2, r3⟩, -⟩ := HA2E.out
    go_wp2_with fail
    clear hWE q0 q1 q2 q3 r0 r1 r2 r3
    refine (autos_eq b 2 xz Z.length dz xz' Z.length dz' x2 d2 x2' d2' Z ZE wE HAZE.out.2.1 HAZE.out.2.2 HA2E.out.2.1 HA2E.out.2.2).mono ?_
    rintro e wF ⟨rfl, hbF⟩
    have HBF := hide (below_step HBE.out hbF)
    have HA2F := hide (autoAt_below HA2E.out hbF)
    have HA1F := hide (autoAt_below HA1E.out hbF)
    clear hbF HBE HA2E HA1E HAZE
    obtain ⟨⟨r0, r1, r2, r3⟩, -⟩ := HA2F.out
    go_wp2_with fail
    clear r0 r1 r2 r3
    refine (HO.out x2 d2 x2' d2' wF HA2F.out.2.1 HA2F.out.2.2).mono ?_
    rintro e wG ⟨xo, do_, xo', do', rfl, hnew, hbG⟩
    obtain ⟨hAH, hbz⟩ := autoAt_pair (b := b) (t := 1) (c := do_) (c' := do') 25 hnew
    have hbH := below_step hbG hbz
    have HBH := hide (below_step HBF.out hbH)
    have HA1H := hide (autoAt_below HA1F.out hbH)
    have HAOH := hide hAH
    clear hAH hnew hbG hbz hbH HO HBF HA2F HA1F
    generalize hWH : wG.alloc (.cells #[.int .i64 b, .int .i64 1, .slice xo NO.length do_, .slice xo' NO.length do'] 25) = wH at HBH HA1H HAOH
    obtain ⟨⟨q0, q1, q2, q3⟩, -⟩ := HAOH.out
    obtain ⟨⟨r0, r1, r2, r3⟩, -⟩ := HA1H.out
    go_wp2_with fail
    clear hWH q0 q1 q2 q3 r0 r1 r2 r3
    refine (autos_eq b 1 xo NO.length do_ xo' NO.length do' x1 d1 x1' d1' NO EO wH HAOH.out.2.1 HAOH.out.2.2 HA1H.out.2.1 HA1H.out.2.2).mono ?_
    rintro e wI ⟨rfl, hbI⟩
    have HBI := hide (below_step HBH.out hbI)
    clear hbI
    go_wp2_with fail
    go_ret
    exact ⟨rfl, HBI.out⟩
  · rw [errV_no hc]
    clear hc HRS
    go_wp2_with fail
    go_ret
    exact ⟨rfl, HB4.out⟩
end Go.Proofs.Ytebbjmcjgjecmaa

/- The law RightSpreads in Fibonacci's base: mathematics. -/
namespace Go.Proofs.Ytebbjmcjgjecmaa
open Go.RowKit

def f1N : List (List Int) := [[0, 1], [0, 2], [2, 2]]
def f1E : List Bool := [true, true, false]
def f2N : List (List Int) := [[0, 1, 2, 3], [0, 4, 2, 4], [0, 1, 4, 4], [0, 4, 4, 4], [4, 4, 4, 4]]
def f2E : List Bool := [true, true, true, true, false]
def fXN : List (List Int) := [[0, 0, 1, 1], [0, 0, 2, 2], [2, 2, 2, 2]]
def fYN : List (List Int) := [[0, 1, 0, 1], [0, 2, 0, 2], [2, 2, 2, 2]]
theorem fib_m1 : (manyU 1 1).toNat = 2 := by decide +kernel
theorem fib_m2 : (manyU 1 2).toNat = 4 := by decide +kernel
theorem fib_c2 : codeM 1 2 = 0 := by decide +kernel
theorem fib_a1 : alN 1 1 = f1N ∧ alE 1 1 = f1E := by
  unfold alN alE
  rw [if_pos fib_code, if_pos fib_code, fib_m1]
  exact cert_of 2 [0, 0, 1, 2] (by decide +kernel)
theorem fib_a2 : alN 1 2 = f2N ∧ alE 1 2 = f2E := by
  unfold alN alE
  rw [if_pos fib_c2, if_pos fib_c2, fib_m2]
  exact cert_of 2 [0, 0, 1, 2, 3, 4] (by decide +kernel)
theorem fib_sX : sprC 1 1 f1N f1N.length 2 [0] = 0 := by decide +kernel
theorem fib_sY : sprC 1 1 f1N f1N.length 2 [1] = 0 := by decide +kernel
theorem fib_X : sprN 1 1 f1N f1E f1N.length 2 [0] = fXN ∧ sprE 1 1 f1N f1E f1N.length 2 [0] = f1E := by
  unfold sprN sprE
  rw [if_pos fib_sX, if_pos fib_sX, fib_m2]
  exact cert_of 2 [0, 1, 2] (by decide +kernel)
theorem fib_Y : sprN 1 1 f1N f1E f1N.length 2 [1] = fYN ∧ sprE 1 1 f1N f1E f1N.length 2 [1] = f1E := by
  unfold sprN sprE
  rw [if_pos fib_sY, if_pos fib_sY, fib_m2]
  exact cert_of 2 [0, 1, 2] (by decide +kernel)
theorem fib_P : leastN (bothP 1 2 fXN fYN) (bothQ 8 fXN fYN f1E f1E) (manyU 1 2).toNat = f2N ∧ leastE (bothP 1 2 fXN fYN) (bothQ 8 fXN fYN f1E f1E) (manyU 1 2).toNat = f2E := by
  rw [fib_m2]
  exact cert_of 2 [0, 1, 4, 2, 3, 4, 4, 4, 4] (by decide +kernel)
theorem fib_al : alikeC 1 2 fXN fXN.length 1 2 fYN fYN.length = 0 := by decide +kernel
theorem fib_bC : bothC 8 1 2 fXN f1E fXN.length 1 2 fYN f1E fYN.length = 0 := by
  unfold bothC
  rw [if_pos (by decide), if_pos fib_al, if_pos]
  unfold bothK
  rw [← leastN_len, fib_P.1]
  decide
theorem fib_self : leastN f2N f2E (manyU 1 2).toNat = f2N ∧ leastE f2N f2E (manyU 1 2).toNat = f2E := by
  rw [fib_m2]
  exact cert_of 2 [0, 1, 2, 3, 4] (by decide +kernel)
theorem fib_K : leastK f2N f2E (manyU 1 2).toNat = 5 := by rw [← leastN_len, fib_self.1]; rfl
theorem fib_G : outG (dM f2N 5 (smR 1 2 1)) (smR 1 2 1).length (cloM f2N 5 ((smR 1 2 1).getD 0 [])) 3 = [19, 28, 16] := by decide +kernel
theorem fib_L : rsL 1 2 1 f2N f2E 3 = [19, 28, 16] := by
  unfold rsL
  rw [fib_self.1, fib_K]
  exact fib_G
theorem fib_rN : rsN 1 2 1 f2N f2E 3 = f1N := by
  unfold rsN
  rw [fib_L, fib_self.1, fib_K]
  decide +kernel
theorem fib_rE : rsE 1 2 1 f2N f2E 3 = f1E := by
  unfold rsE
  rw [fib_L, fib_self.2, fib_K]
  decide +kernel
theorem fib_m21 : (manyU 1 (2 - 1)).toNat = 2 := by decide +kernel
theorem fib_one : leastN f1N f1E (manyU 1 (2 - 1)).toNat = f1N ∧ leastE f1N f1E (manyU 1 (2 - 1)).toNat = f1E := by
  rw [fib_m21]
  exact cert_of 2 [0, 1, 2] (by decide +kernel)
theorem rs_fib : RsOk 1 (alN 1 1) (alE 1 1) (alN 1 2) (alE 1 2) := by
  rw [fib_a1.1, fib_a1.2, fib_a2.1, fib_a2.2]
  have hs := sm_by (b := 1) (t := 2) (tk := 1) (N := f2N) (E := f2E) (k := f2N.length) 3 (by decide) (by rw [fib_L]; decide) (by decide +kernel) (by rw [fib_rN, fib_rE, ← leastN_len, fib_one.1]; decide)
  rw [fib_rN, fib_rE, fib_one.1, fib_one.2] at hs
  unfold RsOk
  rw [fib_X.1, fib_X.2, fib_Y.1, fib_Y.2]
  refine ⟨fib_sX, fib_sY, ⟨fib_bC, ?_, ?_⟩, hs.1, hs.2.1, hs.2.2⟩
  · unfold bothN; rw [if_pos fib_bC]; exact fib_P.1
  · unfold bothE; rw [if_pos fib_bC]; exact fib_P.2
/-- In every base of two tracks. -/
theorem rs_all (b : Int) (h : codeM b 2 = 0) : codeM b 1 = 0 ∧ RsOk b (alN b 1) (alE b 1) (alN b 2) (alE b 2) := by
  by_cases hb : b = 1
  · subst hb; exact ⟨fib_code, rs_fib⟩
  · exact rs_more hb h
end Go.Proofs.Ytebbjmcjgjecmaa
