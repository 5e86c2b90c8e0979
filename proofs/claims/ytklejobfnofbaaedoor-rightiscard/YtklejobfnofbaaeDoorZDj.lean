/- 4 texts in one. -/
import Derived.Deep.RegionHeldLaw
import Derived.Deep.RegionLaw
import Derived.Deep.RegionWith
import Derived.Laws.AppendOwnNone
import Derived.Test.YtklejobfnofbaaeDoorBy
import Derived.Test.YtklejobfnofbaaeDoorDd
import Derived.Test.YtklejobfnofbaaeDoorDi
import Derived.Test.YtklejobfnofbaaeDoorMa
import Derived.Test.YtklejobfnofbaaeDoorZNx
import Derived.Test.YtklejobfnofbaaeDoorZLp
import Derived.Test.YtklejobfnofbaaeDoorB
import Derived.Test.YtklejobfnofbaaeDoorBp
import Derived.Test.YtklejobfnofbaaeDoorCf
import Derived.Test.YtklejobfnofbaaeDoorZDh
import Derived.Test.YtklejobfnofbaaeDoorDb
import Derived.Test.YtklejobfnofbaaeDoorZMp
import Derived.Test.YtklejobfnofbaaeDoorZG
/- pair.Both: contract. -/
namespace Go.Proofs.YtklejobfnofbaaeDoor
open Go.RowKit

set_option maxHeartbeats 4000000 in
set_option maxRecDepth 8000 in
theorem both_range (b t : Int) (a : Option Addr) (n cap : Nat) (a' : Option Addr) (k cap' : Nat) (b2 t2 : Int) (a2 : Option Addr) (n2 cap2 : Nat) (a2' : Option Addr) (k2 cap2' : Nat) (how : Int) (w : World) (hh : how < 0 ∨ 15 < how) :
    Calls Tryd.prog 34 #[.agg #[.int .i64 b, .int .i64 t, .slice a n cap, .slice a' k cap'], .agg #[.int .i64 b2, .int .i64 t2, .slice a2 n2 cap2, .slice a2' k2 cap2'], .int .i64 how] w (PairR w 0 0 [] [] 1) := by
  have HB := hide (below_three w (.cells #[.int .i64 b, .int .i64 t, .slice a n cap, .slice a' k cap'] 25) (.cells #[.int .i64 b2, .int .i64 t2, .slice a2 n2 cap2, .slice a2' k2 cap2'] 25) (.cells #[.int .i64 0, .int .i64 0, .slice none 0 0, .slice none 0 0] 25))
  have HBX := hide (@three_boxes w _ (.int .i64 b) (.int .i64 t) (.slice a n cap) (.slice a' k cap') (.int .i64 b2) (.int .i64 t2) (.slice a2 n2 cap2) (.slice a2' k2 cap2') 25 (.cells #[.int .i64 0, .int .i64 0, .slice none 0 0, .slice none 0 0] 25) (Below.refl _ _)).1
  go_enter Tryd.func34, Tryd.ntmps34
  by_cases h0 : how < 0
  · have h0' : decide (how < 0) = true := by simpa using h0
    go_wp2
    obtain ⟨⟨z0, z1, z2, z3⟩, -⟩ := box_cells HBX.out
    exact bodyPost_ret (v := .tuple #[.agg #[.int .i64 0, .int .i64 0, .slice none 0 0, .slice none 0 0], .iface 26 (.int .i64 1)]) (by simp [results, Tryd.results34, go_sem, z0, z1, z2, z3]) rfl ⟨none, 0, none, 0, rfl, autoNew_nil _ _, HB.out⟩
  · have h1 : 16 ≤ how := by omega
    have h0' : decide (how < 0) = false := by simpa using h0
    go_wp2
    obtain ⟨⟨z0, z1, z2, z3⟩, -⟩ := box_cells HBX.out
    exact bodyPost_ret (v := .tuple #[.agg #[.int .i64 0, .int .i64 0, .slice none 0 0, .slice none 0 0], .iface 26 (.int .i64 1)]) (by simp [results, Tryd.results34, go_sem, z0, z1, z2, z3]) rfl ⟨none, 0, none, 0, rfl, autoNew_nil _ _, HB.out⟩

set_option maxHeartbeats 4000000 in
set_option maxRecDepth 8000 in
theorem both_in (b t : Int) (a : Option Addr) (n cap : Nat) (a' : Option Addr) (k cap' : Nat) (N : List (List Int)) (E : List Bool) (b2 t2 : Int) (a2 : Option Addr) (n2 cap2 : Nat) (a2' : Option Addr) (k2 cap2' : Nat) (N2 : List (List Int)) (E2 : List Bool) (how : Int) (w : World)
    (hs : Sl2 w a n N) (he : SlB w a' k E) (hs2 : Sl2 w a2 n2 N2) (he2 : SlB w a2' k2 E2) (h0 : 0 ≤ how) (h15 : how ≤ 15) (hC : alikeC b t N k b2 t2 N2 k2 ≠ 0) :
    Calls Tryd.prog 34 #[.agg #[.int .i64 b, .int .i64 t, .slice a n cap, .slice a' k cap'], .agg #[.int .i64 b2, .int .i64 t2, .slice a2 n2 cap2, .slice a2' k2 cap2'], .int .i64 how] w (PairR w 0 0 [] [] (alikeC b t N k b2 t2 N2 k2)) := by
  have hB := below_three w (.cells #[.int .i64 b, .int .i64 t, .slice a n cap, .slice a' k cap'] 25) (.cells #[.int .i64 b2, .int .i64 t2, .slice a2 n2 cap2, .slice a2' k2 cap2'] 25) (.cells #[.int .i64 0, .int .i64 0, .slice none 0 0, .slice none 0 0] 25)
  have HB := hide hB
  have HAL := hide (checkBoth_u b t a n cap a' k cap' b2 t2 a2 n2 cap2 a2' k2 cap2' N N2 _ (sl2_below hs hB) he.2.1 (sl2_below hs2 hB) he2.2.1)
  have HBX := hide (fun w' => @three_boxes w w' (.int .i64 b) (.int .i64 t) (.slice a n cap) (.slice a' k cap') (.int .i64 b2) (.int .i64 t2) (.slice a2 n2 cap2) (.slice a2' k2 cap2') 25 (.cells #[.int .i64 0, .int .i64 0, .slice none 0 0, .slice none 0 0] 25))
  clear hs he hs2 he2 hB
  unfold PairR
  rw [errV_no hC] at HAL ⊢
  generalize alikeC b t N k b2 t2 N2 k2 = c at HAL ⊢
  obtain ⟨-, hbb⟩ := HBX.out _ (Below.refl _ _)
  obtain ⟨⟨p0, p1, p2, p3⟩, q0, q1, q2, q3⟩ := two_boxes hbb
  have h0' : decide (how < 0) = false := by simp; omega
  have h1' : ¬ 16 ≤ how := by omega
  clear hbb
  go_enter Tryd.func34, Tryd.ntmps34
  go_wp2_with fail
  refine HAL.out.mono ?_
  rintro e w1 ⟨rfl, hb1⟩
  obtain ⟨hr, -⟩ := HBX.out w1 hb1
  obtain ⟨⟨r0, r1, r2, r3⟩, rf⟩ := box_cells hr
  have HR := hide hr
  have HB1 := hide (below_step HB.out hb1)
  clear hr hb1 p0 p1 p2 p3 q0 q1 q2 q3
  go_wp2
  obtain ⟨⟨hset, -, -⟩, hbel⟩ := box_set (v0 := .int .i64 0) (v1 := .int .i64 0) (v2 := .slice none 0 0) (v3 := .slice none 0 0) HR.out rfl
  obtain ⟨⟨z0, z1, z2, z3⟩, -⟩ := box_cells hset
  exact bodyPost_ret (v := .tuple #[.agg #[.int .i64 0, .int .i64 0, .slice none 0 0, .slice none 0 0], .iface 26 (.int .i64 c)]) (by simp [results, Tryd.results34, go_sem, z0, z1, z2, z3]) rfl ⟨none, 0, none, 0, rfl, autoNew_nil _ _, hbel _ _ HB1.out (by omega)⟩

/-- The least one, or too many. -/
def BothW (w : World) (b t : Int) (LN : List (List Int)) (LE : List Bool) (LK : Nat) (e : Ending) (w' : World) : Prop := (LK ≤ 80 → PairR w b t LN LE 0 e w') ∧ (80 < LK → PairR w 0 0 [] [] 3 e w')

set_option maxHeartbeats 4000000 in
set_option maxRecDepth 8000 in
theorem both_ok (b t : Int) (a : Option Addr) (n cap : Nat) (a' : Option Addr) (cap' : Nat) (N : List (List Int)) (E : List Bool) (a2 : Option Addr) (n2 cap2 : Nat) (a2' : Option Addr) (cap2' : Nat) (N2 : List (List Int)) (E2 : List Bool) (how : Int) (w : World)
    (hs : Sl2 w a n N) (he : SlB w a' n E) (hs2 : Sl2 w a2 n2 N2) (he2 : SlB w a2' n2 E2) (h0 : 0 ≤ how) (h15 : how ≤ 15) (hC : alikeC b t N n b t N2 n2 = 0) :
    Calls Tryd.prog 34 #[.agg #[.int .i64 b, .int .i64 t, .slice a n cap, .slice a' n cap'], .agg #[.int .i64 b, .int .i64 t, .slice a2 n2 cap2, .slice a2' n2 cap2'], .int .i64 how] w (BothW w b t (leastN (bothP b t N N2) (bothQ how N N2 E E2) (manyU b t).toNat) (leastE (bothP b t N N2) (bothQ how N N2 E E2) (manyU b t).toNat) (bothK b t how N N2 E E2)) := by
  obtain ⟨hA1, hA2, -, -⟩ := alikeC_zero hC
  obtain ⟨hM, -, hG, -⟩ := autoC_zero hA1
  obtain ⟨-, -, hG2, -⟩ := autoC_zero hA2
  have h80 := autoC_80 hA1
  have h80' := autoC_80 hA2
  have hL := hs.1
  have hL2 := hs2.1
  rw [hL] at hG h80
  rw [hL2] at hG2 h80'
  have hn : n * n2 ≤ 6400 := Nat.le_trans (Nat.mul_le_mul h80 h80') (by decide)
  have hB := below_three w (.cells #[.int .i64 b, .int .i64 t, .slice a n cap, .slice a' n cap'] 25) (.cells #[.int .i64 b, .int .i64 t, .slice a2 n2 cap2, .slice a2' n2 cap2'] 25) (.cells #[.int .i64 0, .int .i64 0, .slice none 0 0, .slice none 0 0] 25)
  have HB := hide hB
  have HAL := hide (checkBoth_u b t a n cap a' n cap' b t a2 n2 cap2 a2' n2 cap2' N N2 _ (sl2_below hs hB) he.2.1 (sl2_below hs2 hB) he2.2.1)
  rw [errV_yes hC] at HAL
  have HBX := hide (fun w' => @three_boxes w w' (.int .i64 b) (.int .i64 t) (.slice a n cap) (.slice a' n cap') (.int .i64 b) (.int .i64 t) (.slice a2 n2 cap2) (.slice a2' n2 cap2') 25 (.cells #[.int .i64 0, .int .i64 0, .slice none 0 0, .slice none 0 0] 25))
  have HCO := hide (fun W (h : Below _ _ W) => couples_any b t a n cap a' cap' (manyU b t).toNat N E b t a2 n2 cap2 a2' cap2' N2 E2 how W (sl2_below hs (below_step hB h)) (slB_below he (below_step hB h)) (sl2_below hs2 (below_step hB h)) (slB_below he2 (below_step hB h)) hG hG2 hn h0 h15)
  unfold GivesAuto at HCO
  have hP := prod_good hG hG2 hn
  have hCG := coup_good hP
  rw [← coup_len hP] at hCG
  have HLW := hide (fun ax cx ax' cx' W h1 h2 => leastw_any b t ax (coupN (prodN N N2 (manyU b t).toNat)).length cx (manyU b t).toNat (coupN (prodN N N2 (manyU b t).toNat)) ax' cx' (coupE (prodN N N2 (manyU b t).toNat) (prodE how n n2 E E2)) W h1 h2 hCG (autoM_good hM hCG (by have := hCG.2.2.1; omega)))
  obtain ⟨e1, e2, e3⟩ := coup_least hP (prodE how n n2 E E2)
  unfold LeastR LeastU at HLW
  rw [e1, e2, e3] at HLW
  have hbP : bothP b t N N2 = prodN N N2 (manyU b t).toNat := rfl
  have hbQ : bothQ how N N2 E E2 = prodE how n n2 E E2 := by unfold bothQ; rw [hL, hL2]
  unfold bothK
  rw [hbP, hbQ]
  clear hs he hs2 he2 hA1 hA2 hC hM hG hG2 h80 h80' hn hP hCG e1 e2 e3 hbP hbQ
  generalize coupN (prodN N N2 (manyU b t).toNat) = CN at HCO HLW
  generalize coupE (prodN N N2 (manyU b t).toNat) (prodE how n n2 E E2) = CE at HCO HLW
  generalize leastN (prodN N N2 (manyU b t).toNat) (prodE how n n2 E E2) (manyU b t).toNat = LN at HLW ⊢
  generalize leastE (prodN N N2 (manyU b t).toNat) (prodE how n n2 E E2) (manyU b t).toNat = LE at HLW ⊢
  generalize leastK (prodN N N2 (manyU b t).toNat) (prodE how n n2 E E2) (manyU b t).toNat = LK at HLW ⊢
  generalize hW0 : ((w.alloc (.cells #[.int .i64 b, .int .i64 t, .slice a n cap, .slice a' n cap'] 25)).alloc (.cells #[.int .i64 b, .int .i64 t, .slice a2 n2 cap2, .slice a2' n2 cap2'] 25)).alloc (.cells #[.int .i64 0, .int .i64 0, .slice none 0 0, .slice none 0 0] 25) = wb at HB HAL HBX HCO
  have HSZ0 : Hid (wb.heap.size = w.heap.size + 3) := by show _ = _; rw [← hW0]; simp
  obtain ⟨-, hbb⟩ := HBX.out wb (Below.refl _ _)
  obtain ⟨⟨p0, p1, p2, p3⟩, q0, q1, q2, q3⟩ := two_boxes hbb
  have h0' : decide (how < 0) = false := by simp; omega
  have h1' : ¬ 16 ≤ how := by omega
  clear hbb hB
  go_enter Tryd.func34, Tryd.ntmps34
  go_wp2_with fail
  clear hW0 p0 p1 p2 p3 q0 q1 q2 q3
  refine HAL.out.mono ?_
  rintro e w1 ⟨rfl, hb1⟩
  obtain ⟨-, hbb⟩ := HBX.out w1 hb1
  obtain ⟨⟨p0, p1, p2, p3⟩, q0, q1, q2, q3⟩ := two_boxes hbb
  have HB1 := hide hb1
  clear hb1 hbb HAL
  go_wp2_with fail
  clear p0 p1 p2 p3 q0 q1 q2 q3
  refine (HCO.out w1 HB1.out).mono ?_
  rintro e w2 ⟨ax, cx, ax', cx', rfl, hnew, hb2⟩
  have HB2 := hide (below_step HB1.out hb2)
  have HL2 := hide (HLW.out ax cx ax' cx' w2 hnew.here.1 hnew.here.2)
  clear hnew hb2 HCO HLW
  go_wp2_with fail
  refine HL2.out.mono ?_
  rintro e w3 ⟨hyes, hno⟩
  clear HL2
  by_cases hK : LK ≤ 80
  · obtain ⟨ay, cy, ay', cy', rfl, hnew, hb3⟩ := hyes hK
    obtain ⟨hr, -⟩ := HBX.out w3 (below_step HB2.out hb3)
    obtain ⟨⟨r0, r1, r2, r3⟩, rf⟩ := box_cells hr
    have HR := hide hr
    have HB3 := hide (below_step HB.out (below_step HB2.out hb3))
    have HNEW := hide hnew
    have HSW := hide HB2.out.size
    clear hr hb3 hyes hno hnew
    go_wp2
    obtain ⟨⟨hset, hsz, hoth⟩, hbel⟩ := box_set (v0 := .int .i64 b) (v1 := .int .i64 t) (v2 := .slice ay LN.length cy) (v3 := .slice ay' LN.length cy') HR.out rfl
    have hfin : AutoNew w ay LN.length LN ay' LE ((((w3.setCell ⟨w.heap.size + 2, 0, none⟩ (.int .i64 b)).setCell ⟨w.heap.size + 2, 1, none⟩ (.int .i64 t)).setCell ⟨w.heap.size + 2, 2, none⟩ (.slice ay LN.length cy)).setCell ⟨w.heap.size + 2, 3, none⟩ (.slice ay' LN.length cy')) := fun W' hW' => HNEW.out W' (fun x hx hxl => by
      have h1 := HSW.out
      have h2 := HSZ0.out
      rw [hW' x (by omega) (by rw [hsz]; exact hxl), hoth x (by omega)])
    have hb := hbel w w.heap.size HB3.out (by omega)
    obtain ⟨⟨z0, z1, z2, z3⟩, -⟩ := box_cells hset
    exact bodyPost_ret (v := .tuple #[.agg #[.int .i64 b, .int .i64 t, .slice ay LN.length cy, .slice ay' LN.length cy'], .nilIface]) (by simp [results, Tryd.results34, go_sem, z0, z1, z2, z3]) rfl ⟨fun _ => ⟨ay, cy, ay', cy', rfl, hfin, hb⟩, fun h => by omega⟩
  · obtain ⟨rfl, hb3⟩ := hno (by omega)
    obtain ⟨hr, -⟩ := HBX.out w3 (below_step HB2.out hb3)
    obtain ⟨⟨r0, r1, r2, r3⟩, rf⟩ := box_cells hr
    have HR := hide hr
    have HB3 := hide (below_step HB.out (below_step HB2.out hb3))
    clear hr hb3 hyes hno
    go_wp2
    obtain ⟨⟨hset, hsz, hoth⟩, hbel⟩ := box_set (v0 := .int .i64 0) (v1 := .int .i64 0) (v2 := .slice none 0 0) (v3 := .slice none 0 0) HR.out rfl
    have hb := hbel w w.heap.size HB3.out (by omega)
    obtain ⟨⟨z0, z1, z2, z3⟩, -⟩ := box_cells hset
    exact bodyPost_ret (v := .tuple #[.agg #[.int .i64 0, .int .i64 0, .slice none 0 0, .slice none 0 0], .iface 26 (.int .i64 3)]) (by simp [results, Tryd.results34, go_sem, z0, z1, z2, z3]) rfl ⟨fun h => by omega, fun _ => ⟨none, 0, none, 0, rfl, autoNew_nil _ _, hb⟩⟩

theorem both_u (b t : Int) (a : Option Addr) (n cap : Nat) (a' : Option Addr) (k cap' : Nat) (N : List (List Int)) (E : List Bool) (b2 t2 : Int) (a2 : Option Addr) (n2 cap2 : Nat) (a2' : Option Addr) (k2 cap2' : Nat) (N2 : List (List Int)) (E2 : List Bool) (how : Int) (w : World)
    (hs : Sl2 w a n N) (he : SlB w a' k E) (hs2 : Sl2 w a2 n2 N2) (he2 : SlB w a2' k2 E2) :
    Calls Tryd.prog 34 #[.agg #[.int .i64 b, .int .i64 t, .slice a n cap, .slice a' k cap'], .agg #[.int .i64 b2, .int .i64 t2, .slice a2 n2 cap2, .slice a2' k2 cap2'], .int .i64 how] w (PairR w (okI (bothC how b t N E k b2 t2 N2 E2 k2) b) (okI (bothC how b t N E k b2 t2 N2 E2 k2) t) (bothN how b t N E k b2 t2 N2 E2 k2) (bothE how b t N E k b2 t2 N2 E2 k2) (bothC how b t N E k b2 t2 N2 E2 k2)) := by
  by_cases hh : 0 ≤ how ∧ how ≤ 15
  · by_cases hC : alikeC b t N k b2 t2 N2 k2 = 0
    · obtain ⟨hA1, hA2, rfl, rfl⟩ := alikeC_zero hC
      obtain rfl : k = n := by rw [(autoC_zero hA1).2.1, hs.1]
      obtain rfl : k2 = n2 := by rw [(autoC_zero hA2).2.1, hs2.1]
      refine (both_ok b t a k cap a' cap' N E a2 k2 cap2 a2' cap2' N2 E2 how w hs he hs2 he2 hh.1 hh.2 hC).mono ?_
      rintro e w' ⟨h1, h2⟩
      by_cases hK : bothK b t how N N2 E E2 ≤ 80
      · have hc : bothC how b t N E k b t N2 E2 k2 = 0 := by unfold bothC; rw [if_pos hh, if_pos hC, if_pos hK]
        unfold bothN bothE okI
        rw [hc, if_pos rfl, if_pos rfl, if_pos rfl, if_pos rfl]
        exact h1 hK
      · have hc : bothC how b t N E k b t N2 E2 k2 = 3 := by unfold bothC; rw [if_pos hh, if_pos hC, if_neg hK]
        unfold bothN bothE okI
        rw [hc, if_neg (by decide), if_neg (by decide), if_neg (by decide), if_neg (by decide)]
        exact h2 (by omega)
    · have hc := @alikeC_of b t N k b2 t2 N2 k2 how E E2 hh.1 hh.2 hC
      unfold bothN bothE okI
      rw [hc, if_neg hC, if_neg hC, if_neg hC, if_neg hC]
      exact both_in b t a n cap a' k cap' N E b2 t2 a2 n2 cap2 a2' k2 cap2' N2 E2 how w hs he hs2 he2 hh.1 hh.2 hC
  · have hc : bothC how b t N E k b2 t2 N2 E2 k2 = 1 := by unfold bothC; rw [if_neg hh]
    unfold bothN bothE okI
    rw [hc, if_neg (by decide), if_neg (by decide), if_neg (by decide), if_neg (by decide)]
    exact both_range b t a n cap a' k cap' b2 t2 a2 n2 cap2 a2' k2 cap2' how w (by omega)
end Go.Proofs.YtklejobfnofbaaeDoor

/- Right words: the automaton of them; mathematics. -/
namespace Go.Proofs.YtklejobfnofbaaeDoor
open Go.RowKit

/-- Letters that may not follow: a 1 below a 1, in base 1 (Fibonacci's). -/
def hitB (b : Int) (tr : Nat) (x y : Int) : Bool := (List.range tr).any fun k => decide (b = 1) && decide (dOf b tr x k = 1) && decide (dOf b tr y k = 1)
/-- Where letter l leads from state s: 0: none was read; s + 1: letter s was; m + 1: it went wrong. -/
def arT (b : Int) (tr m s l : Nat) : Nat := if s = m + 1 then m + 1 else if 0 < s ∧ hitB b tr ((s : Int) - 1) (l : Int) = true then m + 1 else l + 1
def arN (b : Int) (tr m : Nat) : List (List Int) := (List.range (m + 2)).map fun s => (List.range m).map fun l => ((arT b tr m s l : Nat) : Int)
def arE (m : Nat) : List Bool := (List.range (m + 2)).map fun s => decide (s ≤ m)
theorem arN_len (b : Int) (tr m : Nat) : (arN b tr m).length = m + 2 := by simp [arN]
theorem arE_len (m : Nat) : (arE m).length = m + 2 := by simp [arE]
theorem arN_row {b : Int} {tr m s : Nat} (hs : s < m + 2) : (arN b tr m).getD s [] = (List.range m).map fun l => ((arT b tr m s l : Nat) : Int) := by simp [arN, List.getD, hs]
theorem arN_cell {b : Int} {tr m s l : Nat} (hs : s < m + 2) (hl : l < m) : ((arN b tr m).getD s []).getD l 0 = ((arT b tr m s l : Nat) : Int) := by rw [arN_row hs]; simp [List.getD, hl]
theorem arE_get {m s : Nat} (hs : s < m + 2) : (arE m).getD s false = decide (s ≤ m) := by simp [arE, List.getD, hs]
theorem arT_lt {b : Int} {tr m s l : Nat} (hl : l < m) : arT b tr m s l < m + 2 := by unfold arT; split; omega; split <;> omega
theorem ar_good (b : Int) (tr : Nat) {m : Nat} (h1 : 1 ≤ m) (h36 : m ≤ 36) : GoodN m (m + 2) (arN b tr m) := by
  refine ⟨arN_len _ _ _, by omega, by omega, h36, h1, fun s hs => ⟨by rw [arN_row hs]; simp, fun j hj => ?_⟩⟩
  rw [arN_cell hs hj]
  have := arT_lt (b := b) (tr := tr) (s := s) hj
  omega
/-- All: the automaton. -/
def alN (b t : Int) : List (List Int) := if codeM b t = 0 then leastN (arN b t.toNat (manyU b t).toNat) (arE (manyU b t).toNat) (manyU b t).toNat else []
def alE (b t : Int) : List Bool := if codeM b t = 0 then leastE (arN b t.toNat (manyU b t).toNat) (arE (manyU b t).toNat) (manyU b t).toNat else []
theorem manyU_bd {b t : Int} (h : codeM b t = 0) : 1 ≤ (manyU b t).toNat ∧ (manyU b t).toNat ≤ 36 := by
  obtain ⟨h1, h2, h3, h4, h5, h6⟩ := codeM_zero h
  have hk := kinds_bd2 b h2
  have hp : 1 ≤ pw (kindsI b) t.toNat := pw_pos _ (by omega) _
  omega
/-- Only, Flip: the fault, the automaton. -/
def onC (how b t : Int) (N : List (List Int)) (E : List Bool) (k : Nat) : Int := if autoC b t N k = 0 then bothC how b t N E k b t (alN b t) (alE b t) (alN b t).length else autoC b t N k
def onN (how b t : Int) (N : List (List Int)) (E : List Bool) (k : Nat) : List (List Int) := if autoC b t N k = 0 then bothN how b t N E k b t (alN b t) (alE b t) (alN b t).length else []
def onE (how b t : Int) (N : List (List Int)) (E : List Bool) (k : Nat) : List Bool := if autoC b t N k = 0 then bothE how b t N E k b t (alN b t) (alE b t) (alN b t).length else []
end Go.Proofs.YtklejobfnofbaaeDoor

/- right.All: its automaton; mathematics. -/
namespace Go.Proofs.YtklejobfnofbaaeDoor
open Go.RowKit

/-- Two letters that may not stand side by side. -/
def clB (b : Int) (x y : Nat) : Bool := decide (b = 1) && decide (x &&& y ≠ 0)
/-- The developers' rows: a state is the letter that was read last. -/
def daR (b : Int) (m j : Nat) : List Int := if j < m then (List.range m).map fun l => if clB b j l = true then (m : Int) else (l : Int) else List.replicate m (m : Int)
def daF (m j : Nat) : Bool := decide (j < m)
def daN (b : Int) (m : Nat) : List (List Int) := (List.range (m + 1)).map (daR b m)
def daE (m : Nat) : List Bool := (List.range (m + 1)).map (daF m)
theorem daN_len (b : Int) (m : Nat) : (daN b m).length = m + 1 := by simp [daN]
theorem daE_len (m : Nat) : (daE m).length = m + 1 := by simp [daE]
theorem daN_get {b : Int} {m j : Nat} (hj : j < m + 1) : (daN b m).getD j [] = daR b m j := by simp [daN, List.getD, hj]
theorem daE_get {m j : Nat} (hj : j < m + 1) : (daE m).getD j false = daF m j := by simp [daE, List.getD, hj]
theorem daR_len (b : Int) (m j : Nat) : (daR b m j).length = m := by unfold daR; split <;> simp
theorem daR_in {b : Int} {m j l : Nat} (hj : j < m) (hl : l < m) : (daR b m j).getD l 0 = if clB b j l = true then (m : Int) else (l : Int) := by unfold daR; rw [if_pos hj]; simp [List.getD, hl]
theorem daR_out {b : Int} {m j l : Nat} (hj : ¬ j < m) (hl : l < m) : (daR b m j).getD l 0 = (m : Int) := by unfold daR; rw [if_neg hj]; simp [List.getD, hl]
theorem da_good (b : Int) {m : Nat} (h1 : 1 ≤ m) (h36 : m ≤ 36) : GoodN m (m + 1) (daN b m) := by
  refine ⟨daN_len b m, by omega, by omega, h36, h1, fun s hs => ?_⟩
  rw [daN_get hs]
  refine ⟨daR_len b m s, fun j hj => ?_⟩
  by_cases h : s < m
  · rw [daR_in h hj]
    split <;> omega
  · rw [daR_out h hj]; omega
theorem da_nxt {b : Int} {m s l : Nat} (hs : s < m + 1) (hl : l < m) : nxt (daN b m) s l = if s < m then (if clB b s l = true then m else l) else m := by
  unfold nxt
  rw [daN_get hs]
  by_cases h : s < m
  · rw [daR_in h hl, if_pos h]; split <;> simp
  · rw [daR_out h hl, if_neg h]; simp
theorem ar_nxt {b : Int} {tr m s l : Nat} (hs : s < m + 2) (hl : l < m) : nxt (arN b tr m) s l = arT b tr m s l := by
  unfold nxt
  rw [arN_cell hs hl, Int.toNat_natCast]
theorem hit_fib : ∀ t : Nat, t < 6 → ∀ x : Nat, x < (manyU 1 (t : Int)).toNat → ∀ y : Nat, y < (manyU 1 (t : Int)).toNat → hitB 1 t (x : Int) (y : Int) = clB 1 x y := by decide +kernel
theorem hit_cl {b t : Int} (h : codeM b t = 0) {x y : Nat} (hx : x < (manyU b t).toNat) (hy : y < (manyU b t).toNat) : hitB b t.toNat (x : Int) (y : Int) = clB b x y := by
  obtain ⟨h1, h2, h3, h4, -⟩ := codeM_zero h
  by_cases hb : b = 1
  · subst hb
    obtain ⟨tn, rfl⟩ : ∃ tn : Nat, t = (tn : Int) := ⟨t.toNat, by omega⟩
    rw [Int.toNat_natCast]
    exact hit_fib tn (by omega) x hx y hy
  · unfold hitB clB
    simp [hb]
theorem cl_zero (b : Int) (y : Nat) : clB b 0 y = false := by unfold clB; simp
/-- Its least one is that of all right words. -/
theorem da_least {b t : Int} (h : codeM b t = 0) : leastN (daN b (manyU b t).toNat) (daE (manyU b t).toNat) (manyU b t).toNat = alN b t ∧ leastE (daN b (manyU b t).toNat) (daE (manyU b t).toNat) (manyU b t).toNat = alE b t := by
  obtain ⟨m1, m36⟩ := manyU_bd h
  have hc := fun x y => @hit_cl b t h x y
  generalize hm : (manyU b t).toNat = m at m1 m36 hc ⊢
  unfold alN alE
  rw [if_pos h, if_pos h, hm]
  have hA := ar_good b t.toNat m1 m36
  have hH : ∀ s, s < m + 2 → ((List.range (m + 2)).map fun s => s - 1).getD s 0 = s - 1 := fun s hs => by simp [List.getD, hs]
  refine least_same (da_good b m1 m36) hA _ _ fun w hw => ?_
  have hr := run_lt hA w hw
  rw [mor_run hA ((List.range (m + 2)).map fun s => s - 1) (by rw [hH 0 (by omega)]) (fun s hs j hj => ?_) w hw, hH _ hr, arE_get hr, daE_get (by omega)]
  · unfold daF
    congr 1
    apply propext
    omega
  · rw [ar_nxt hs hj, hH s hs, hH _ (arT_lt hj), da_nxt (by omega) hj]
    unfold arT
    by_cases e1 : s = m + 1
    · subst e1
      rw [if_pos rfl, if_neg (by omega)]
      omega
    · rw [if_neg e1, if_pos (show s - 1 < m by omega)]
      by_cases e0 : s = 0
      · subst e0
        rw [if_neg (by omega), cl_zero, if_neg (by decide)]
        omega
      · have e : ((s : Int) - 1) = ((s - 1 : Nat) : Int) := by omega
        rw [e, hc (s - 1) j (by omega) hj]
        by_cases ec : clB b (s - 1) j = true
        · rw [if_pos ⟨by omega, ec⟩, if_pos ec]; omega
        · rw [if_neg (fun h => ec h.2), if_neg ec]; omega
theorem da_auto {b t : Int} (h : codeM b t = 0) : autoC b t (daN b (manyU b t).toNat) ((manyU b t).toNat + 1) = 0 := by
  obtain ⟨m1, m36⟩ := manyU_bd h
  exact autoC_good h (da_good b m1 m36) (by omega)
end Go.Proofs.YtklejobfnofbaaeDoor

/- What package right answers. -/
namespace Go.Proofs.YtklejobfnofbaaeDoor
open Go.RowKit

/-- What right.All, Only and Flip answer, at whatever they are given. -/
def AllSays : Prop := ∀ (b t : Int) (W : World), Calls Tryd.prog 6 #[.int .i64 b, .int .i64 t] W (PairR W (okI (codeM b t) b) (okI (codeM b t) t) (alN b t) (alE b t) (codeM b t))
def OnlySays : Prop := ∀ (b t : Int) (a : Option Addr) (n cap : Nat) (a' : Option Addr) (k cap' : Nat) (N : List (List Int)) (E : List Bool) (W : World), Sl2 W a n N → SlB W a' k E → Calls Tryd.prog 10 #[.agg #[.int .i64 b, .int .i64 t, .slice a n cap, .slice a' k cap']] W (PairR W (okI (onC 8 b t N E k) b) (okI (onC 8 b t N E k) t) (onN 8 b t N E k) (onE 8 b t N E k) (onC 8 b t N E k))
def FlipSays : Prop := ∀ (b t : Int) (a : Option Addr) (n cap : Nat) (a' : Option Addr) (k cap' : Nat) (N : List (List Int)) (E : List Bool) (W : World), Sl2 W a n N → SlB W a' k E → Calls Tryd.prog 11 #[.agg #[.int .i64 b, .int .i64 t, .slice a n cap, .slice a' k cap']] W (PairR W (okI (onC 4 b t N E k) b) (okI (onC 4 b t N E k) t) (onN 4 b t N E k) (onE 4 b t N E k) (onC 4 b t N E k))

/-- What was handed back, in the box that it is put into. -/
theorem autoAt_pair {w W : World} {b t : Int} {a : Option Addr} {n c : Nat} {a' : Option Addr} {c' : Nat} {N : List (List Int)} {E : List Bool} (T : TypeId) (h : AutoNew w a n N a' E W) : AutoAt (W.alloc (.cells #[.int .i64 b, .int .i64 t, .slice a n c, .slice a' n c'] T)) W.heap.size b t a n c a' n c' N E ∧ Below W.heap.size W (W.alloc (.cells #[.int .i64 b, .int .i64 t, .slice a n c, .slice a' n c'] T)) :=
  ⟨autoAt_new h.here.1 h.here.2, (Below.refl _ _).alloc (Nat.le_refl _) _⟩
end Go.Proofs.YtklejobfnofbaaeDoor
