/- 8 texts in one. -/
import Derived.Laws.AppendOwnNone
import Derived.Deep.RegionHeldLaw
import Derived.Deep.RegionLaw
import Derived.Deep.RegionWith
import Derived.Test.YtklejobfnofbaaeBy
import Derived.Test.YtklejobfnofbaaeDd
import Derived.Test.YtklejobfnofbaaeDi
import Derived.Test.YtklejobfnofbaaeZNx
import Derived.Test.YtklejobfnofbaaeZDh
import Derived.Test.YtklejobfnofbaaeBp
import Derived.Test.YtklejobfnofbaaeCf
import Derived.Test.YtklejobfnofbaaeDb
import Derived.Test.YtklejobfnofbaaeZMp
import Derived.Test.YtklejobfnofbaaeZE
import Derived.Test.YtklejobfnofbaaeG
import Derived.Test.YtklejobfnofbaaeZGd
import Derived.Test.YtklejobfnofbaaeZLp
import Derived.Test.YtklejobfnofbaaeZLq
/- pair.Both: contract. -/
namespace Go.Proofs.Ytklejobfnofbaae
open Go.RowKit

set_option maxHeartbeats 4000000 in
set_option maxRecDepth 8000 in
theorem both_range (b t : Int) (a : Option Addr) (n cap : Nat) (a' : Option Addr) (k cap' : Nat) (b2 t2 : Int) (a2 : Option Addr) (n2 cap2 : Nat) (a2' : Option Addr) (k2 cap2' : Nat) (how : Int) (w : World) (hh : how < 0 ∨ 15 < how) :
    Calls Try.prog 15 #[.agg #[.int .i64 b, .int .i64 t, .slice a n cap, .slice a' k cap'], .agg #[.int .i64 b2, .int .i64 t2, .slice a2 n2 cap2, .slice a2' k2 cap2'], .int .i64 how] w (PairR w 0 0 [] [] 1) := by
  have HB := hide (below_three w (.cells #[.int .i64 b, .int .i64 t, .slice a n cap, .slice a' k cap'] 25) (.cells #[.int .i64 b2, .int .i64 t2, .slice a2 n2 cap2, .slice a2' k2 cap2'] 25) (.cells #[.int .i64 0, .int .i64 0, .slice none 0 0, .slice none 0 0] 25))
  have HBX := hide (@three_boxes w _ (.int .i64 b) (.int .i64 t) (.slice a n cap) (.slice a' k cap') (.int .i64 b2) (.int .i64 t2) (.slice a2 n2 cap2) (.slice a2' k2 cap2') 25 (.cells #[.int .i64 0, .int .i64 0, .slice none 0 0, .slice none 0 0] 25) (Below.refl _ _)).1
  go_enter Try.func15, Try.ntmps15
  by_cases h0 : how < 0
  · have h0' : decide (how < 0) = true := by simpa using h0
    go_wp2
    obtain ⟨⟨z0, z1, z2, z3⟩, -⟩ := box_cells HBX.out
    exact bodyPost_ret (v := .tuple #[.agg #[.int .i64 0, .int .i64 0, .slice none 0 0, .slice none 0 0], .iface 55 (.int .i64 1)]) (by simp [results, Try.results15, go_sem, z0, z1, z2, z3]) rfl ⟨none, 0, none, 0, rfl, autoNew_nil _ _, HB.out⟩
  · have h1 : 16 ≤ how := by omega
    have h0' : decide (how < 0) = false := by simpa using h0
    go_wp2
    obtain ⟨⟨z0, z1, z2, z3⟩, -⟩ := box_cells HBX.out
    exact bodyPost_ret (v := .tuple #[.agg #[.int .i64 0, .int .i64 0, .slice none 0 0, .slice none 0 0], .iface 55 (.int .i64 1)]) (by simp [results, Try.results15, go_sem, z0, z1, z2, z3]) rfl ⟨none, 0, none, 0, rfl, autoNew_nil _ _, HB.out⟩

set_option maxHeartbeats 4000000 in
set_option maxRecDepth 8000 in
theorem both_in (b t : Int) (a : Option Addr) (n cap : Nat) (a' : Option Addr) (k cap' : Nat) (N : List (List Int)) (E : List Bool) (b2 t2 : Int) (a2 : Option Addr) (n2 cap2 : Nat) (a2' : Option Addr) (k2 cap2' : Nat) (N2 : List (List Int)) (E2 : List Bool) (how : Int) (w : World)
    (hs : Sl2 w a n N) (he : SlB w a' k E) (hs2 : Sl2 w a2 n2 N2) (he2 : SlB w a2' k2 E2) (h0 : 0 ≤ how) (h15 : how ≤ 15) (hC : alikeC b t N k b2 t2 N2 k2 ≠ 0) :
    Calls Try.prog 15 #[.agg #[.int .i64 b, .int .i64 t, .slice a n cap, .slice a' k cap'], .agg #[.int .i64 b2, .int .i64 t2, .slice a2 n2 cap2, .slice a2' k2 cap2'], .int .i64 how] w (PairR w 0 0 [] [] (alikeC b t N k b2 t2 N2 k2)) := by
  have hB := below_three w (.cells #[.int .i64 b, .int .i64 t, .slice a n cap, .slice a' k cap'] 25) (.cells #[.int .i64 b2, .int .i64 t2, .slice a2 n2 cap2, .slice a2' k2 cap2'] 25) (.cells #[.int .i64 0, .int .i64 0, .slice none 0 0, .slice none 0 0] 25)
  have HB := hide hB
  have HAL := hide (checkBoth_u b t a n cap a' k cap' b2 t2 a2 n2 cap2 a2' k2 cap2' N N2 _ (sl2_below hs hB) he.2.1 (sl2_below hs2 hB) he2.2.1)
  have HBX := hide (fun w' => @three_boxes w w' (.int .i64 b) (.int .i64 t) (.slice a n cap) (.slice a' k cap') (.int .i64 b2) (.int .i64 t2) (.slice a2 n2 cap2) (.slice a2' k2 cap2') 25 (.cells #[.int .i64 0, .int .i64 0, .slice none 0 0, .slice none 0 0] 25))
  clear hs he hs2 he2 hB
  unfold PairR
  rw [errV_no hC] at HAL ⊢
  generalize alikeC b t N k b2 t2 N2 k2 = c at HAL ⊢
  obtain ⟨-, hbb⟩ := HBX.out _ (Below.refl _ _)
  obtain ⟨⟨p0, p1, p2, p3⟩, q0, q1, q2, q3⟩ := two_boxes hbb
  have h0' : decide (how < 0) = false := by simp; omega
  have h1' : ¬ 16 ≤ how := by omega
  clear hbb
  go_enter Try.func15, Try.ntmps15
  go_wp2_with fail
  refine HAL.out.mono ?_
  rintro e w1 ⟨rfl, hb1⟩
  obtain ⟨hr, -⟩ := HBX.out w1 hb1
  obtain ⟨⟨r0, r1, r2, r3⟩, rf⟩ := box_cells hr
  have HR := hide hr
  have HB1 := hide (below_step HB.out hb1)
  clear hr hb1 p0 p1 p2 p3 q0 q1 q2 q3
  go_wp2
  obtain ⟨⟨hset, -, -⟩, hbel⟩ := box_set (v0 := .int .i64 0) (v1 := .int .i64 0) (v2 := .slice none 0 0) (v3 := .slice none 0 0) HR.out rfl
  obtain ⟨⟨z0, z1, z2, z3⟩, -⟩ := box_cells hset
  exact bodyPost_ret (v := .tuple #[.agg #[.int .i64 0, .int .i64 0, .slice none 0 0, .slice none 0 0], .iface 55 (.int .i64 c)]) (by simp [results, Try.results15, go_sem, z0, z1, z2, z3]) rfl ⟨none, 0, none, 0, rfl, autoNew_nil _ _, hbel _ _ HB1.out (by omega)⟩

/-- The least one, or too many. -/
def BothW (w : World) (b t : Int) (LN : List (List Int)) (LE : List Bool) (LK : Nat) (e : Ending) (w' : World) : Prop := (LK ≤ 80 → PairR w b t LN LE 0 e w') ∧ (80 < LK → PairR w 0 0 [] [] 3 e w')

set_option maxHeartbeats 4000000 in
set_option maxRecDepth 8000 in
theorem both_ok (b t : Int) (a : Option Addr) (n cap : Nat) (a' : Option Addr) (cap' : Nat) (N : List (List Int)) (E : List Bool) (a2 : Option Addr) (n2 cap2 : Nat) (a2' : Option Addr) (cap2' : Nat) (N2 : List (List Int)) (E2 : List Bool) (how : Int) (w : World)
    (hs : Sl2 w a n N) (he : SlB w a' n E) (hs2 : Sl2 w a2 n2 N2) (he2 : SlB w a2' n2 E2) (h0 : 0 ≤ how) (h15 : how ≤ 15) (hC : alikeC b t N n b t N2 n2 = 0) :
    Calls Try.prog 15 #[.agg #[.int .i64 b, .int .i64 t, .slice a n cap, .slice a' n cap'], .agg #[.int .i64 b, .int .i64 t, .slice a2 n2 cap2, .slice a2' n2 cap2'], .int .i64 how] w (BothW w b t (leastN (bothP b t N N2) (bothQ how N N2 E E2) (manyU b t).toNat) (leastE (bothP b t N N2) (bothQ how N N2 E E2) (manyU b t).toNat) (bothK b t how N N2 E E2)) := by
  obtain ⟨hA1, hA2, -, -⟩ := alikeC_zero hC
  obtain ⟨hM, -, hG, -⟩ := autoC_zero hA1
  obtain ⟨-, -, hG2, -⟩ := autoC_zero hA2
  have h80 := autoC_80 hA1
  have h80' := autoC_80 hA2
  have hL := hs.1
  have hL2 := hs2.1
  rw [hL] at hG h80
  rw [hL2] at hG2 h80'
  have hn : n * n2 ≤ 6400 := Nat.le_trans (Nat.mul_le_mul h80 h80') (by decide)
  have hB := below_three w (.cells #[.int .i64 b, .int .i64 t, .slice a n cap, .slice a' n cap'] 25) (.cells #[.int .i64 b, .int .i64 t, .slice a2 n2 cap2, .slice a2' n2 cap2'] 25) (.cells #[.int .i64 0, .int .i64 0, .slice none 0 0, .slice none 0 0] 25)
  have HB := hide hB
  have HAL := hide (checkBoth_u b t a n cap a' n cap' b t a2 n2 cap2 a2' n2 cap2' N N2 _ (sl2_below hs hB) he.2.1 (sl2_below hs2 hB) he2.2.1)
  rw [errV_yes hC] at HAL
  have HBX := hide (fun w' => @three_boxes w w' (.int .i64 b) (.int .i64 t) (.slice a n cap) (.slice a' n cap') (.int .i64 b) (.int .i64 t) (.slice a2 n2 cap2) (.slice a2' n2 cap2') 25 (.cells #[.int .i64 0, .int .i64 0, .slice none 0 0, .slice none 0 0] 25))
  have HCO := hide (fun W (h : Below _ _ W) => couples_any b t a n cap a' cap' (manyU b t).toNat N E b t a2 n2 cap2 a2' cap2' N2 E2 how W (sl2_below hs (below_step hB h)) (slB_below he (below_step hB h)) (sl2_below hs2 (below_step hB h)) (slB_below he2 (below_step hB h)) hG hG2 hn h0 h15)
  unfold GivesAuto at HCO
  have hP := prod_good hG hG2 hn
  have hCG := coup_good hP
  rw [← coup_len hP] at hCG
  have HLW := hide (fun ax cx ax' cx' W h1 h2 => leastw_any b t ax (coupN (prodN N N2 (manyU b t).toNat)).length cx (manyU b t).toNat (coupN (prodN N N2 (manyU b t).toNat)) ax' cx' (coupE (prodN N N2 (manyU b t).toNat) (prodE how n n2 E E2)) W h1 h2 hCG (autoM_good hM hCG (by have := hCG.2.2.1; omega)))
  obtain ⟨e1, e2, e3⟩ := coup_least hP (prodE how n n2 E E2)
  unfold LeastR LeastU at HLW
  rw [e1, e2, e3] at HLW
  have hbP : bothP b t N N2 = prodN N N2 (manyU b t).toNat := rfl
  have hbQ : bothQ how N N2 E E2 = prodE how n n2 E E2 := by unfold bothQ; rw [hL, hL2]
  unfold bothK
  rw [hbP, hbQ]
  clear hs he hs2 he2 hA1 hA2 hC hM hG hG2 h80 h80' hn hP hCG e1 e2 e3 hbP hbQ
  generalize coupN (prodN N N2 (manyU b t).toNat) = CN at HCO HLW
  generalize coupE (prodN N N2 (manyU b t).toNat) (prodE how n n2 E E2) = CE at HCO HLW
  generalize leastN (prodN N N2 (manyU b t).toNat) (prodE how n n2 E E2) (manyU b t).toNat = LN at HLW ⊢
  generalize leastE (prodN N N2 (manyU b t).toNat) (prodE how n n2 E E2) (manyU b t).toNat = LE at HLW ⊢
  generalize leastK (prodN N N2 (manyU b t).toNat) (prodE how n n2 E E2) (manyU b t).toNat = LK at HLW ⊢
  generalize hW0 : ((w.alloc (.cells #[.int .i64 b, .int .i64 t, .slice a n cap, .slice a' n cap'] 25)).alloc (.cells #[.int .i64 b, .int .i64 t, .slice a2 n2 cap2, .slice a2' n2 cap2'] 25)).alloc (.cells #[.int .i64 0, .int .i64 0, .slice none 0 0, .slice none 0 0] 25) = wb at HB HAL HBX HCO
  have HSZ0 : Hid (wb.heap.size = w.heap.size + 3) := by show _ = _; rw [← hW0]; simp
  obtain ⟨-, hbb⟩ := HBX.out wb (Below.refl _ _)
  obtain ⟨⟨p0, p1, p2, p3⟩, q0, q1, q2, q3⟩ := two_boxes hbb
  have h0' : decide (how < 0) = false := by simp; omega
  have h1' : ¬ 16 ≤ how := by omega
  clear hbb hB
  go_enter Try.func15, Try.ntmps15
  go_wp2_with fail
  clear hW0 p0 p1 p2 p3 q0 q1 q2 q3
  refine HAL.out.mono ?_
  rintro e w1 ⟨rfl, hb1⟩
  obtain ⟨-, hbb⟩ := HBX.out w1 hb1
  obtain ⟨⟨p0, p1, p2, p3⟩, q0, q1, q2, q3⟩ := two_boxes hbb
  have HB1 := hide hb1
  clear hb1 hbb HAL
  go_wp2_with fail
  clear p0 p1 p2 p3 q0 q1 q2 q3
  refine (HCO.out w1 HB1.out).mono ?_
  rintro e w2 ⟨ax, cx, ax', cx', rfl, hnew, hb2⟩
  have HB2 := hide (below_step HB1.out hb2)
  have HL2 := hide (HLW.out ax cx ax' cx' w2 hnew.here.1 hnew.here.2)
  clear hnew hb2 HCO HLW
  go_wp2_with fail
  refine HL2.out.mono ?_
  rintro e w3 ⟨hyes, hno⟩
  clear HL2
  by_cases hK : LK ≤ 80
  · obtain ⟨ay, cy, ay', cy', rfl, hnew, hb3⟩ := hyes hK
    obtain ⟨hr, -⟩ := HBX.out w3 (below_step HB2.out hb3)
    obtain ⟨⟨r0, r1, r2, r3⟩, rf⟩ := box_cells hr
    have HR := hide hr
    have HB3 := hide (below_step HB.out (below_step HB2.out hb3))
    have HNEW := hide hnew
    have HSW := hide HB2.out.size
    clear hr hb3 hyes hno hnew
    go_wp2
    obtain ⟨⟨hset, hsz, hoth⟩, hbel⟩ := box_set (v0 := .int .i64 b) (v1 := .int .i64 t) (v2 := .slice ay LN.length cy) (v3 := .slice ay' LN.length cy') HR.out rfl
    have hfin : AutoNew w ay LN.length LN ay' LE ((((w3.setCell ⟨w.heap.size + 2, 0, none⟩ (.int .i64 b)).setCell ⟨w.heap.size + 2, 1, none⟩ (.int .i64 t)).setCell ⟨w.heap.size + 2, 2, none⟩ (.slice ay LN.length cy)).setCell ⟨w.heap.size + 2, 3, none⟩ (.slice ay' LN.length cy')) := fun W' hW' => HNEW.out W' (fun x hx hxl => by
      have h1 := HSW.out
      have h2 := HSZ0.out
      rw [hW' x (by omega) (by rw [hsz]; exact hxl), hoth x (by omega)])
    have hb := hbel w w.heap.size HB3.out (by omega)
    obtain ⟨⟨z0, z1, z2, z3⟩, -⟩ := box_cells hset
    exact bodyPost_ret (v := .tuple #[.agg #[.int .i64 b, .int .i64 t, .slice ay LN.length cy, .slice ay' LN.length cy'], .nilIface]) (by simp [results, Try.results15, go_sem, z0, z1, z2, z3]) rfl ⟨fun _ => ⟨ay, cy, ay', cy', rfl, hfin, hb⟩, fun h => by omega⟩
  · obtain ⟨rfl, hb3⟩ := hno (by omega)
    obtain ⟨hr, -⟩ := HBX.out w3 (below_step HB2.out hb3)
    obtain ⟨⟨r0, r1, r2, r3⟩, rf⟩ := box_cells hr
    have HR := hide hr
    have HB3 := hide (below_step HB.out (below_step HB2.out hb3))
    clear hr hb3 hyes hno
    go_wp2
    obtain ⟨⟨hset, hsz, hoth⟩, hbel⟩ := box_set (v0 := .int .i64 0) (v1 := .int .i64 0) (v2 := .slice none 0 0) (v3 := .slice none 0 0) HR.out rfl
    have hb := hbel w w.heap.size HB3.out (by omega)
    obtain ⟨⟨z0, z1, z2, z3⟩, -⟩ := box_cells hset
    exact bodyPost_ret (v := .tuple #[.agg #[.int .i64 0, .int .i64 0, .slice none 0 0, .slice none 0 0], .iface 55 (.int .i64 3)]) (by simp [results, Try.results15, go_sem, z0, z1, z2, z3]) rfl ⟨fun h => by omega, fun _ => ⟨none, 0, none, 0, rfl, autoNew_nil _ _, hb⟩⟩

theorem both_u (b t : Int) (a : Option Addr) (n cap : Nat) (a' : Option Addr) (k cap' : Nat) (N : List (List Int)) (E : List Bool) (b2 t2 : Int) (a2 : Option Addr) (n2 cap2 : Nat) (a2' : Option Addr) (k2 cap2' : Nat) (N2 : List (List Int)) (E2 : List Bool) (how : Int) (w : World)
    (hs : Sl2 w a n N) (he : SlB w a' k E) (hs2 : Sl2 w a2 n2 N2) (he2 : SlB w a2' k2 E2) :
    Calls Try.prog 15 #[.agg #[.int .i64 b, .int .i64 t, .slice a n cap, .slice a' k cap'], .agg #[.int .i64 b2, .int .i64 t2, .slice a2 n2 cap2, .slice a2' k2 cap2'], .int .i64 how] w (PairR w (okI (bothC how b t N E k b2 t2 N2 E2 k2) b) (okI (bothC how b t N E k b2 t2 N2 E2 k2) t) (bothN how b t N E k b2 t2 N2 E2 k2) (bothE how b t N E k b2 t2 N2 E2 k2) (bothC how b t N E k b2 t2 N2 E2 k2)) := by
  by_cases hh : 0 ≤ how ∧ how ≤ 15
  · by_cases hC : alikeC b t N k b2 t2 N2 k2 = 0
    · obtain ⟨hA1, hA2, rfl, rfl⟩ := alikeC_zero hC
      obtain rfl : k = n := by rw [(autoC_zero hA1).2.1, hs.1]
      obtain rfl : k2 = n2 := by rw [(autoC_zero hA2).2.1, hs2.1]
      refine (both_ok b t a k cap a' cap' N E a2 k2 cap2 a2' cap2' N2 E2 how w hs he hs2 he2 hh.1 hh.2 hC).mono ?_
      rintro e w' ⟨h1, h2⟩
      by_cases hK : bothK b t how N N2 E E2 ≤ 80
      · have hc : bothC how b t N E k b t N2 E2 k2 = 0 := by unfold bothC; rw [if_pos hh, if_pos hC, if_pos hK]
        unfold bothN bothE okI
        rw [hc, if_pos rfl, if_pos rfl, if_pos rfl, if_pos rfl]
        exact h1 hK
      · have hc : bothC how b t N E k b t N2 E2 k2 = 3 := by unfold bothC; rw [if_pos hh, if_pos hC, if_neg hK]
        unfold bothN bothE okI
        rw [hc, if_neg (by decide), if_neg (by decide), if_neg (by decide), if_neg (by decide)]
        exact h2 (by omega)
    · have hc := @alikeC_of b t N k b2 t2 N2 k2 how E E2 hh.1 hh.2 hC
      unfold bothN bothE okI
      rw [hc, if_neg hC, if_neg hC, if_neg hC, if_neg hC]
      exact both_in b t a n cap a' k cap' N E b2 t2 a2 n2 cap2 a2' k2 cap2' N2 E2 how w hs he hs2 he2 hh.1 hh.2 hC
  · have hc : bothC how b t N E k b2 t2 N2 E2 k2 = 1 := by unfold bothC; rw [if_neg hh]
    unfold bothN bothE okI
    rw [hc, if_neg (by decide), if_neg (by decide), if_neg (by decide), if_neg (by decide)]
    exact both_range b t a n cap a' k cap' b2 t2 a2 n2 cap2 a2' k2 cap2' how w (by omega)
end Go.Proofs.Ytklejobfnofbaae

/- The walk of the law PairTakes. -/
namespace Go.Proofs.Ytklejobfnofbaae
open Go.RowKit

/-- Where both are well. -/
theorem both_well {how b t b2 t2 : Int} {N N2 : List (List Int)} {E E2 : List Bool} {k k2 : Nat} (hc : bothC how b t N E k b2 t2 N2 E2 k2 = 0) :
    (0 ≤ how ∧ how ≤ 15) ∧ b2 = b ∧ t2 = t ∧ autoC b t N k = 0 ∧ autoC b t N2 k2 = 0 ∧ autoC b t (bothN how b t N E k b2 t2 N2 E2 k2) (bothN how b t N E k b2 t2 N2 E2 k2).length = 0 ∧ (bothE how b t N E k b2 t2 N2 E2 k2).length = (bothN how b t N E k b2 t2 N2 E2 k2).length ∧
      ∀ w, okW (manyU b t).toNat w → tkB (bothN how b t N E k b2 t2 N2 E2 k2) (bothE how b t N E k b2 t2 N2 E2 k2) w = howB how (tkB N E w) (tkB N2 E2 w) := by
  have hN : bothN how b t N E k b2 t2 N2 E2 k2 = leastN (bothP b t N N2) (bothQ how N N2 E E2) (manyU b t).toNat := by unfold bothN; rw [if_pos hc]
  have hEE : bothE how b t N E k b2 t2 N2 E2 k2 = leastE (bothP b t N N2) (bothQ how N N2 E E2) (manyU b t).toNat := by unfold bothE; rw [if_pos hc]
  rw [hN, hEE]
  unfold bothC at hc
  split at hc
  · rename_i hh
    split at hc
    · rename_i hC
      split at hc
      · rename_i hK
        obtain ⟨hA1, hA2, rfl, rfl⟩ := alikeC_zero hC
        obtain ⟨hM, hk1, hG, -⟩ := autoC_zero hA1
        obtain ⟨-, hk2, hG2, -⟩ := autoC_zero hA2
        have h80 := autoC_80 hA1
        have h80' := autoC_80 hA2
        have hn : N.length * N2.length ≤ 6400 := Nat.le_trans (Nat.mul_le_mul h80 h80') (by decide)
        have hP := prod_good hG hG2 hn
        have hL := least_good hP (bothQ how N N2 E E2)
        refine ⟨hh, rfl, rfl, hA1, hA2, ?_, by rw [leastN_len, leastE_len], fun w hw => ?_⟩
        · have := autoC_good hM hL hK
          rwa [← leastN_len] at this
        · exact both_tk hG hG2 hn how E E2 w hw
      · cases hc
    · rename_i hC
      exact absurd hc hC
  · cases hc

end Go.Proofs.Ytklejobfnofbaae

/- Right words: the automaton of them; mathematics. -/
namespace Go.Proofs.Ytklejobfnofbaae
open Go.RowKit

/-- Letters that may not follow: a 1 below a 1, in base 1 (Fibonacci's). -/
def hitB (b : Int) (tr : Nat) (x y : Int) : Bool := (List.range tr).any fun k => decide (b = 1) && decide (dOf b tr x k = 1) && decide (dOf b tr y k = 1)
/-- Where letter l leads from state s: 0: none was read; s + 1: letter s was; m + 1: it went wrong. -/
def arT (b : Int) (tr m s l : Nat) : Nat := if s = m + 1 then m + 1 else if 0 < s ∧ hitB b tr ((s : Int) - 1) (l : Int) = true then m + 1 else l + 1
def arN (b : Int) (tr m : Nat) : List (List Int) := (List.range (m + 2)).map fun s => (List.range m).map fun l => ((arT b tr m s l : Nat) : Int)
def arE (m : Nat) : List Bool := (List.range (m + 2)).map fun s => decide (s ≤ m)
theorem arN_len (b : Int) (tr m : Nat) : (arN b tr m).length = m + 2 := by simp [arN]
theorem arN_row {b : Int} {tr m s : Nat} (hs : s < m + 2) : (arN b tr m).getD s [] = (List.range m).map fun l => ((arT b tr m s l : Nat) : Int) := by simp [arN, List.getD, hs]
theorem arN_cell {b : Int} {tr m s l : Nat} (hs : s < m + 2) (hl : l < m) : ((arN b tr m).getD s []).getD l 0 = ((arT b tr m s l : Nat) : Int) := by rw [arN_row hs]; simp [List.getD, hl]
theorem arE_get {m s : Nat} (hs : s < m + 2) : (arE m).getD s false = decide (s ≤ m) := by simp [arE, List.getD, hs]
theorem arT_lt {b : Int} {tr m s l : Nat} (hl : l < m) : arT b tr m s l < m + 2 := by unfold arT; split; omega; split <;> omega
theorem ar_good (b : Int) (tr : Nat) {m : Nat} (h1 : 1 ≤ m) (h36 : m ≤ 36) : GoodN m (m + 2) (arN b tr m) := by
  refine ⟨arN_len _ _ _, by omega, by omega, h36, h1, fun s hs => ⟨by rw [arN_row hs]; simp, fun j hj => ?_⟩⟩
  rw [arN_cell hs hj]
  have := arT_lt (b := b) (tr := tr) (s := s) hj
  omega
/-- Has it gone wrong somewhere? -/
def badL (b : Int) (tr : Nat) : List Int → Bool
  | x :: y :: r => hitB b tr x y || badL b tr (y :: r)
  | _ => false
theorem badL_snoc (b : Int) (tr : Nat) (w : List Int) (x y : Int) : badL b tr (w ++ [x] ++ [y]) = (badL b tr (w ++ [x]) || hitB b tr x y) := by
  induction w with
  | nil => simp [badL]
  | cons z w ih =>
    cases w with
    | nil => simp [badL]
    | cons z' w =>
      show (hitB b tr z z' || badL b tr (z' :: w ++ [x] ++ [y])) = _
      rw [ih]
      show _ = ((hitB b tr z z' || badL b tr (z' :: w ++ [x])) || hitB b tr x y)
      rw [Bool.or_assoc]
theorem ar_step {b : Int} {tr m s : Nat} (hs : s < m + 2) {x : Int} (hx : 0 ≤ x ∧ x < (m : Int)) : stepL (arN b tr m) s x = arT b tr m s x.toNat := by
  unfold stepL
  rw [arN_cell hs (by omega), Int.toNat_natCast]
/-- Where a word leads. -/
theorem ar_run {b : Int} {tr m : Nat} (w : List Int) : okW m w → (badL b tr w = true → runL (arN b tr m) w = m + 1) ∧ (badL b tr w = false → (w = [] ∧ runL (arN b tr m) w = 0) ∨ ∃ v x, w = v ++ [x] ∧ runL (arN b tr m) w = x.toNat + 1) := by
  induction w using list_snoc_ind with
  | h0 => exact fun _ => ⟨fun h => by simp [badL] at h, fun _ => .inl ⟨rfl, rfl⟩⟩
  | h1 w y ih =>
    intro hw
    obtain ⟨hw1, hw2⟩ := okW_append.1 hw
    have hy := hw2 y (by simp)
    obtain ⟨i1, i2⟩ := ih hw1
    rw [runL_snoc]
    by_cases hb : badL b tr w = true
    · rw [i1 hb, ar_step (by omega) hy]
      have hbad : badL b tr (w ++ [y]) = true := by
        cases w using list_snoc_ind with
        | h0 => simp [badL] at hb
        | h1 v z _ => rw [badL_snoc, hb]; rfl
      refine ⟨fun _ => by unfold arT; rw [if_pos rfl], fun h => by rw [hbad] at h; cases h⟩
    · have hb' : badL b tr w = false := by simpa using hb
      rcases i2 hb' with ⟨rfl, h0⟩ | ⟨v, x, rfl, h1⟩
      · rw [h0, ar_step (by omega) hy]
        refine ⟨fun h => by simp [badL] at h, fun _ => .inr ⟨[], y, rfl, ?_⟩⟩
        unfold arT
        rw [if_neg (by omega), if_neg (by omega)]
      · have hx := hw1 x (by simp)
        rw [h1, ar_step (by omega) hy, badL_snoc, hb', Bool.false_or]
        have e1 : ((x.toNat + 1 : Nat) : Int) - 1 = x := by omega
        have e2 : ((y.toNat : Nat) : Int) = y := by omega
        unfold arT
        rw [if_neg (by omega), e1, e2]
        by_cases hh : hitB b tr x y = true
        · rw [if_pos ⟨by omega, hh⟩]
          exact ⟨fun _ => rfl, fun h => by rw [hh] at h; cases h⟩
        · rw [if_neg (fun h => hh h.2)]
          exact ⟨fun h => absurd h hh, fun _ => .inr ⟨v ++ [x], y, rfl, rfl⟩⟩
theorem ar_tk {b : Int} {tr m : Nat} {w : List Int} (hw : okW m w) : tkB (arN b tr m) (arE m) w = !badL b tr w := by
  obtain ⟨h1, h2⟩ := ar_run (b := b) (tr := tr) w hw
  unfold tkB
  cases hb : badL b tr w with
  | true =>
    rw [h1 hb, arE_get (by omega)]
    simp
  | false =>
    rcases h2 hb with ⟨_, h0⟩ | ⟨v, x, rfl, hr⟩
    · rw [h0, arE_get (by omega)]; simp
    · have hx := hw x (by simp)
      rw [hr, arE_get (by omega)]
      simp; omega
theorem ones_snoc (w : List Int) (x y : Int) : onesB (w ++ [x] ++ [y]) = (onesB (w ++ [x]) || (x == 1 && y == 1)) := by
  induction w with
  | nil => simp [onesB]
  | cons z w ih =>
    cases w with
    | nil => simp [onesB]
    | cons z' w =>
      show ((z == 1 && z' == 1) || onesB (z' :: w ++ [x] ++ [y])) = _
      rw [ih]
      show _ = (((z == 1 && z' == 1) || onesB (z' :: w ++ [x])) || (x == 1 && y == 1))
      rw [Bool.or_assoc]
/-- A word has not gone wrong, just if it is right. -/
theorem bad_right {b t : Int} {tr : Nat} (ht : t = (tr : Int)) (w : List Int) : (!badL b tr w) = rightW b t w := by
  subst ht
  have key : badL b tr w = (List.range tr).any fun k => decide (b = 1) && onesB (trackL b tr w k) := by
    induction w using list_snoc_ind with
    | h0 => simp [badL, trackL, onesB]
    | h1 w y ih =>
      cases w using list_snoc_ind with
      | h0 => simp [badL, trackL, onesB]
      | h1 v x _ =>
        rw [badL_snoc, ih]
        have e : ∀ k, onesB (trackL b tr (v ++ [x] ++ [y]) k) = (onesB (trackL b tr (v ++ [x]) k) || (dOf b tr x k == 1 && dOf b tr y k == 1)) := fun k => by
          have := ones_snoc (trackL b tr v k) (dOf b tr x k) (dOf b tr y k)
          simpa [trackL, List.map_append] using this
        rw [Bool.eq_iff_iff, Bool.or_eq_true]
        unfold hitB
        simp only [List.any_eq_true, Bool.and_eq_true, decide_eq_true_eq, e, Bool.or_eq_true, beq_iff_eq]
        constructor
        · rintro (⟨k, h1, h2, h3⟩ | ⟨k, h1, ⟨h2, h3⟩, h4⟩)
          · exact ⟨k, h1, h2, .inl h3⟩
          · exact ⟨k, h1, h2, .inr ⟨h3, h4⟩⟩
        · rintro ⟨k, h1, h2, h3 | ⟨h3, h4⟩⟩
          · exact .inl ⟨k, h1, h2, h3⟩
          · exact .inr ⟨k, h1, ⟨h2, h3⟩, h4⟩
  rw [key]
  unfold rightW tracksL rightB
  rw [Int.toNat_natCast, Bool.eq_iff_iff]
  simp only [Bool.not_eq_true', List.all_map, List.all_eq_true, Function.comp, Bool.or_eq_true, bne_iff_ne, ne_eq]
  rw [← Bool.not_eq_true, List.any_eq_true]
  constructor
  · intro h k hk
    by_cases hb : b = 1
    · refine .inr ?_
      cases ho : onesB (trackL b tr w k) with
      | false => rfl
      | true => exact absurd ⟨k, hk, by simp [hb] at ho ⊢; exact ho⟩ h
    · exact .inl hb
  · rintro h ⟨k, hk, hh⟩
    rw [Bool.and_eq_true, decide_eq_true_eq] at hh
    rcases h k hk with h1 | h1
    · exact h1 hh.1
    · rw [hh.2] at h1; cases h1

/-- All: the automaton. -/
def alN (b t : Int) : List (List Int) := if codeM b t = 0 then leastN (arN b t.toNat (manyU b t).toNat) (arE (manyU b t).toNat) (manyU b t).toNat else []
def alE (b t : Int) : List Bool := if codeM b t = 0 then leastE (arN b t.toNat (manyU b t).toNat) (arE (manyU b t).toNat) (manyU b t).toNat else []
/-- All's automaton, where there is one. -/
structure AlWell (b t : Int) (m : Nat) (MN : List (List Int)) (ME : List Bool) : Prop where
  auto : autoC b t MN MN.length = 0
  len : ME.length = MN.length
  good : GoodN m MN.length MN
  many : (manyU b t).toNat = m
  least : leastN MN ME m = MN ∧ leastE MN ME m = ME
  lang : ∀ w, okW m w → tkB MN ME w = rightW b t w
theorem manyU_bd {b t : Int} (h : codeM b t = 0) : 1 ≤ (manyU b t).toNat ∧ (manyU b t).toNat ≤ 36 := by
  obtain ⟨h1, h2, h3, h4, h5, h6⟩ := codeM_zero h
  have hk := kinds_bd2 b h2
  have hp : 1 ≤ pw (kindsI b) t.toNat := pw_pos _ (by omega) _
  omega
theorem al_well {b t : Int} (h : codeM b t = 0) : AlWell b t (manyU b t).toNat (alN b t) (alE b t) := by
  obtain ⟨m1, m36⟩ := manyU_bd h
  obtain ⟨h1, h2, h3, h4, h5, h6⟩ := codeM_zero h
  have hG := ar_good b t.toNat m1 m36
  have hLG := least_good hG (arE (manyU b t).toNat)
  have hK := leastK_80 hG (arE (manyU b t).toNat) (by omega)
  have e1 : alN b t = leastN (arN b t.toNat (manyU b t).toNat) (arE (manyU b t).toNat) (manyU b t).toNat := by unfold alN; rw [if_pos h]
  have e2 : alE b t = leastE (arN b t.toNat (manyU b t).toNat) (arE (manyU b t).toNat) (manyU b t).toNat := by unfold alE; rw [if_pos h]
  refine ⟨?_, by rw [e1, e2, leastN_len, leastE_len], by rw [e1, leastN_len]; exact hLG, rfl, by rw [e1, e2]; exact least_again hG _, fun w hw => ?_⟩
  · rw [e1, leastN_len]
    exact autoC_fine h hLG hK
  · rw [e1, e2, tk_least hG _ w hw, ar_tk hw]
    exact bad_right (by omega) w
/-- Only, Flip: the fault, the automaton. -/
def onC (how b t : Int) (N : List (List Int)) (E : List Bool) (k : Nat) : Int := if autoC b t N k = 0 then bothC how b t N E k b t (alN b t) (alE b t) (alN b t).length else autoC b t N k
def onN (how b t : Int) (N : List (List Int)) (E : List Bool) (k : Nat) : List (List Int) := if autoC b t N k = 0 then bothN how b t N E k b t (alN b t) (alE b t) (alN b t).length else []
def onE (how b t : Int) (N : List (List Int)) (E : List Bool) (k : Nat) : List Bool := if autoC b t N k = 0 then bothE how b t N E k b t (alN b t) (alE b t) (alN b t).length else []
end Go.Proofs.Ytklejobfnofbaae

/- right.All: its automaton; mathematics. -/
namespace Go.Proofs.Ytklejobfnofbaae
open Go.RowKit

/-- Two letters that may not stand side by side. -/
def clB (b : Int) (x y : Nat) : Bool := decide (b = 1) && decide (x &&& y ≠ 0)
/-- The developers' rows: a state is the letter that was read last. -/
def daR (b : Int) (m j : Nat) : List Int := if j < m then (List.range m).map fun l => if clB b j l = true then (m : Int) else (l : Int) else List.replicate m (m : Int)
def daF (m j : Nat) : Bool := decide (j < m)
def daN (b : Int) (m : Nat) : List (List Int) := (List.range (m + 1)).map (daR b m)
def daE (m : Nat) : List Bool := (List.range (m + 1)).map (daF m)
theorem daN_len (b : Int) (m : Nat) : (daN b m).length = m + 1 := by simp [daN]
theorem daE_len (m : Nat) : (daE m).length = m + 1 := by simp [daE]
theorem daN_get {b : Int} {m j : Nat} (hj : j < m + 1) : (daN b m).getD j [] = daR b m j := by simp [daN, List.getD, hj]
theorem daE_get {m j : Nat} (hj : j < m + 1) : (daE m).getD j false = daF m j := by simp [daE, List.getD, hj]
theorem daR_len (b : Int) (m j : Nat) : (daR b m j).length = m := by unfold daR; split <;> simp
theorem daR_in {b : Int} {m j l : Nat} (hj : j < m) (hl : l < m) : (daR b m j).getD l 0 = if clB b j l = true then (m : Int) else (l : Int) := by unfold daR; rw [if_pos hj]; simp [List.getD, hl]
theorem daR_out {b : Int} {m j l : Nat} (hj : ¬ j < m) (hl : l < m) : (daR b m j).getD l 0 = (m : Int) := by unfold daR; rw [if_neg hj]; simp [List.getD, hl]
theorem da_good (b : Int) {m : Nat} (h1 : 1 ≤ m) (h36 : m ≤ 36) : GoodN m (m + 1) (daN b m) := by
  refine ⟨daN_len b m, by omega, by omega, h36, h1, fun s hs => ?_⟩
  rw [daN_get hs]
  refine ⟨daR_len b m s, fun j hj => ?_⟩
  by_cases h : s < m
  · rw [daR_in h hj]
    split <;> omega
  · rw [daR_out h hj]; omega
theorem da_nxt {b : Int} {m s l : Nat} (hs : s < m + 1) (hl : l < m) : nxt (daN b m) s l = if s < m then (if clB b s l = true then m else l) else m := by
  unfold nxt
  rw [daN_get hs]
  by_cases h : s < m
  · rw [daR_in h hl, if_pos h]; split <;> simp
  · rw [daR_out h hl, if_neg h]; simp
theorem ar_nxt {b : Int} {tr m s l : Nat} (hs : s < m + 2) (hl : l < m) : nxt (arN b tr m) s l = arT b tr m s l := by
  unfold nxt
  rw [arN_cell hs hl, Int.toNat_natCast]
theorem hit_fib : ∀ t : Nat, t < 6 → ∀ x : Nat, x < (manyU 1 (t : Int)).toNat → ∀ y : Nat, y < (manyU 1 (t : Int)).toNat → hitB 1 t (x : Int) (y : Int) = clB 1 x y := by decide +kernel
theorem hit_cl {b t : Int} (h : codeM b t = 0) {x y : Nat} (hx : x < (manyU b t).toNat) (hy : y < (manyU b t).toNat) : hitB b t.toNat (x : Int) (y : Int) = clB b x y := by
  obtain ⟨h1, h2, h3, h4, -⟩ := codeM_zero h
  by_cases hb : b = 1
  · subst hb
    obtain ⟨tn, rfl⟩ : ∃ tn : Nat, t = (tn : Int) := ⟨t.toNat, by omega⟩
    rw [Int.toNat_natCast]
    exact hit_fib tn (by omega) x hx y hy
  · unfold hitB clB
    simp [hb]
theorem cl_zero (b : Int) (y : Nat) : clB b 0 y = false := by unfold clB; simp
/-- Its least one is that of all right words. -/
theorem da_least {b t : Int} (h : codeM b t = 0) : leastN (daN b (manyU b t).toNat) (daE (manyU b t).toNat) (manyU b t).toNat = alN b t ∧ leastE (daN b (manyU b t).toNat) (daE (manyU b t).toNat) (manyU b t).toNat = alE b t := by
  obtain ⟨m1, m36⟩ := manyU_bd h
  have hc := fun x y => @hit_cl b t h x y
  generalize hm : (manyU b t).toNat = m at m1 m36 hc ⊢
  unfold alN alE
  rw [if_pos h, if_pos h, hm]
  have hA := ar_good b t.toNat m1 m36
  have hH : ∀ s, s < m + 2 → ((List.range (m + 2)).map fun s => s - 1).getD s 0 = s - 1 := fun s hs => by simp [List.getD, hs]
  refine least_same (da_good b m1 m36) hA _ _ fun w hw => ?_
  have hr := run_lt hA w hw
  rw [mor_run hA ((List.range (m + 2)).map fun s => s - 1) (by rw [hH 0 (by omega)]) (fun s hs j hj => ?_) w hw, hH _ hr, arE_get hr, daE_get (by omega)]
  · unfold daF
    congr 1
    apply propext
    omega
  · rw [ar_nxt hs hj, hH s hs, hH _ (arT_lt hj), da_nxt (by omega) hj]
    unfold arT
    by_cases e1 : s = m + 1
    · subst e1
      rw [if_pos rfl, if_neg (by omega)]
      omega
    · rw [if_neg e1, if_pos (show s - 1 < m by omega)]
      by_cases e0 : s = 0
      · subst e0
        rw [if_neg (by omega), cl_zero, if_neg (by decide)]
        omega
      · have e : ((s : Int) - 1) = ((s - 1 : Nat) : Int) := by omega
        rw [e, hc (s - 1) j (by omega) hj]
        by_cases ec : clB b (s - 1) j = true
        · rw [if_pos ⟨by omega, ec⟩, if_pos ec]; omega
        · rw [if_neg (fun h => ec h.2), if_neg ec]; omega
theorem da_auto {b t : Int} (h : codeM b t = 0) : autoC b t (daN b (manyU b t).toNat) ((manyU b t).toNat + 1) = 0 := by
  obtain ⟨m1, m36⟩ := manyU_bd h
  exact autoC_good h (da_good b m1 m36) (by omega)
end Go.Proofs.Ytklejobfnofbaae

/- Mathematics of SomeOrder. -/
namespace Go.Proofs.Ytklejobfnofbaae
open Go.RowKit

theorem both_again {how b t b2 t2 : Int} {N N2 : List (List Int)} {E E2 : List Bool} {k k2 : Nat} (hc : bothC how b t N E k b2 t2 N2 E2 k2 = 0) :
    leastN (bothN how b t N E k b2 t2 N2 E2 k2) (bothE how b t N E k b2 t2 N2 E2 k2) (manyU b t).toNat = bothN how b t N E k b2 t2 N2 E2 k2 ∧ leastE (bothN how b t N E k b2 t2 N2 E2 k2) (bothE how b t N E k b2 t2 N2 E2 k2) (manyU b t).toNat = bothE how b t N E k b2 t2 N2 E2 k2 := by
  obtain ⟨-, rfl, rfl, hA1, hA2, -⟩ := both_well hc
  obtain ⟨hM, hk1, hG, -⟩ := autoC_zero hA1
  obtain ⟨-, hk2, hG2, -⟩ := autoC_zero hA2
  have hn : N.length * N2.length ≤ 6400 := Nat.le_trans (Nat.mul_le_mul (autoC_80 hA1) (autoC_80 hA2)) (by decide)
  have hP := prod_good hG hG2 hn
  have hN : bothN how b2 t2 N E k b2 t2 N2 E2 k2 = leastN (bothP b2 t2 N N2) (bothQ how N N2 E E2) (manyU b2 t2).toNat := by unfold bothN; rw [if_pos hc]
  have hEE : bothE how b2 t2 N E k b2 t2 N2 E2 k2 = leastE (bothP b2 t2 N N2) (bothQ how N N2 E E2) (manyU b2 t2).toNat := by unfold bothE; rw [if_pos hc]
  rw [hN, hEE]
  exact least_again hP _
end Go.Proofs.Ytklejobfnofbaae

/- Right words that are taken, and the others: mathematics of RightTakes. -/
namespace Go.Proofs.Ytklejobfnofbaae
open Go.RowKit

theorem how_and (x y : Bool) : howB 8 x y = (x && y) := by cases x <;> cases y <;> rfl
theorem how_flip (x y : Bool) : howB 4 x y = (!x && y) := by cases x <;> cases y <;> rfl
/-- What Only and Flip make, where all is well. -/
structure OnWell (how b t : Int) (N : List (List Int)) (E : List Bool) (m : Nat) (MN : List (List Int)) (ME : List Bool) : Prop where
  auto : autoC b t MN MN.length = 0
  len : ME.length = MN.length
  good : GoodN m MN.length MN
  many : (manyU b t).toNat = m
  least : leastN MN ME m = MN ∧ leastE MN ME m = ME
  lang : ∀ w, okW m w → tkB MN ME w = howB how (tkB N E w) (rightW b t w)
theorem onC_zero {how b t : Int} {N : List (List Int)} {E : List Bool} {k : Nat} (h : onC how b t N E k = 0) : autoC b t N k = 0 ∧ bothC how b t N E k b t (alN b t) (alE b t) (alN b t).length = 0 ∧ onN how b t N E k = bothN how b t N E k b t (alN b t) (alE b t) (alN b t).length ∧ onE how b t N E k = bothE how b t N E k b t (alN b t) (alE b t) (alN b t).length := by
  unfold onC at h
  by_cases hA : autoC b t N k = 0
  · rw [if_pos hA] at h
    unfold onN onE
    rw [if_pos hA, if_pos hA]
    exact ⟨hA, h, rfl, rfl⟩
  · rw [if_neg hA] at h
    exact absurd h hA
theorem on_well {how b t : Int} {N : List (List Int)} {E : List Bool} {k : Nat} (h : onC how b t N E k = 0) : OnWell how b t N E (manyU b t).toNat (onN how b t N E k) (onE how b t N E k) := by
  obtain ⟨hA, hB, e1, e2⟩ := onC_zero h
  obtain ⟨hM, -, -, -⟩ := autoC_zero hA
  have hL := al_well hM
  obtain ⟨-, -, -, -, -, h6, h7, h8⟩ := both_well hB
  have hag := both_again hB
  rw [← e1] at h6 hag
  rw [← e2] at hag
  rw [← e1, ← e2] at h7
  obtain ⟨-, -, hG, -⟩ := autoC_zero h6
  refine ⟨h6, h7, hG, rfl, hag, fun w hw => ?_⟩
  rw [e1, e2, h8 w hw, hL.lang w hw]
/-- Whatever takes such words is found, if it is small. -/
theorem on_of {how b t : Int} {N : List (List Int)} {E : List Bool} {k : Nat} (h0 : 0 ≤ how ∧ how ≤ 15) (hA : autoC b t N k = 0) {MN : List (List Int)} {ME : List Bool} (hG : GoodN (manyU b t).toNat MN.length MN) (h80 : MN.length ≤ 80) (hl : leastN MN ME (manyU b t).toNat = MN ∧ leastE MN ME (manyU b t).toNat = ME) (hlang : ∀ w, okW (manyU b t).toNat w → tkB MN ME w = howB how (tkB N E w) (rightW b t w)) :
    onC how b t N E k = 0 ∧ onN how b t N E k = MN ∧ onE how b t N E k = ME := by
  obtain ⟨hM, hk, hGN, -⟩ := autoC_zero hA
  have hn80 := autoC_80 hA
  have hL := al_well hM
  have hl80 := autoC_80 hL.auto
  have hn : N.length * (alN b t).length ≤ 6400 := Nat.le_trans (Nat.mul_le_mul hn80 hl80) (by decide)
  have hP := prod_good hGN hL.good hn
  have same := least_same hP hG (bothQ how N (alN b t) E (alE b t)) ME (fun w hw => by
    show tkB _ _ w = tkB MN ME w
    rw [hlang w hw, ← hL.lang w hw]
    have h := both_tk hGN hL.good hn how E (alE b t) w hw
    rw [← h]
    exact (tk_least hP _ w hw).symm)
  have hK : bothK b t how N (alN b t) E (alE b t) = MN.length := by
    show leastK (bothP b t N (alN b t)) (bothQ how N (alN b t) E (alE b t)) (manyU b t).toNat = _
    rw [← leastN_len]
    have : leastN (bothP b t N (alN b t)) (bothQ how N (alN b t) E (alE b t)) (manyU b t).toNat = MN := same.1.trans hl.1
    rw [this]
  have hal : alikeC b t N k b t (alN b t) (alN b t).length = 0 := by unfold alikeC; rw [if_pos hA, if_pos hL.auto, if_pos ⟨rfl, rfl⟩]
  have hB : bothC how b t N E k b t (alN b t) (alE b t) (alN b t).length = 0 := by
    unfold bothC
    rw [if_pos h0, if_pos hal, if_pos (by rw [hK]; exact h80)]
  unfold onC onN onE
  rw [if_pos hA, if_pos hA, if_pos hA]
  refine ⟨hB, ?_, ?_⟩
  · unfold bothN; rw [if_pos hB]; exact same.1.trans hl.1
  · unfold bothE; rw [if_pos hB]; exact same.2.trans hl.2
/-- Twice flipped. -/
theorem flip_flip {b t : Int} {N : List (List Int)} {E : List Bool} {k : Nat} (h4 : onC 4 b t N E k = 0) (h8 : onC 8 b t N E k = 0) :
    onC 4 b t (onN 4 b t N E k) (onE 4 b t N E k) (onN 4 b t N E k).length = 0 ∧ onN 4 b t (onN 4 b t N E k) (onE 4 b t N E k) (onN 4 b t N E k).length = onN 8 b t N E k ∧ onE 4 b t (onN 4 b t N E k) (onE 4 b t N E k) (onN 4 b t N E k).length = onE 8 b t N E k := by
  have F := on_well h4
  have O := on_well h8
  refine on_of (by decide) F.auto O.good (autoC_80 O.auto) O.least fun w hw => ?_
  rw [O.lang w hw, F.lang w hw]
  cases tkB N E w <;> cases rightW b t w <;> rfl
/-- Of a word: all the automata are asked. -/
theorem rt_math {b t : Int} {N : List (List Int)} {E : List Bool} {k : Nat} (hE : E.length = k) (h8 : onC 8 b t N E k = 0) (h4 : onC 4 b t N E k = 0) (u : List Int) :
    codeM b t = 0 ∧ autoC b t N k = 0 ∧ runC b t (alN b t) (alN b t).length u = runC b t N k u ∧ runC b t (onN 8 b t N E k) (onN 8 b t N E k).length u = runC b t N k u ∧ runC b t (onN 4 b t N E k) (onN 4 b t N E k).length u = runC b t N k u ∧
      (runC b t N k u = 0 → okW (manyU b t).toNat u ∧ u.length ≤ 400 ∧ takesB b t (alN b t) (alE b t) u = rightW b t u ∧ takesB b t (onN 8 b t N E k) (onE 8 b t N E k) u = (rightW b t u && takesB b t N E u) ∧ takesB b t (onN 4 b t N E k) (onE 4 b t N E k) u = (rightW b t u && !takesB b t N E u)) := by
  have hA := (onC_zero h8).1
  obtain ⟨hM, -, -, -⟩ := autoC_zero hA
  have L := al_well hM
  have O := on_well h8
  have F := on_well h4
  have e0 : runC b t N k u = wordC (manyU b t).toNat u := by unfold runC; rw [if_pos hA]
  have e1 : runC b t (alN b t) (alN b t).length u = wordC (manyU b t).toNat u := by unfold runC; rw [if_pos L.auto]
  have e2 : runC b t (onN 8 b t N E k) (onN 8 b t N E k).length u = wordC (manyU b t).toNat u := by unfold runC; rw [if_pos O.auto]
  have e3 : runC b t (onN 4 b t N E k) (onN 4 b t N E k).length u = wordC (manyU b t).toNat u := by unfold runC; rw [if_pos F.auto]
  refine ⟨hM, hA, by rw [e0, e1], by rw [e0, e2], by rw [e0, e3], fun h => ?_⟩
  have hw : wordC (manyU b t).toNat u = 0 := by rw [← e0]; exact h
  have hok := wordC_okW hw
  refine ⟨hok, (wordC_zero hw).1, ?_, ?_, ?_⟩
  · rw [takesB_of L.len (by rw [e1]; exact hw)]; exact L.lang u hok
  · rw [takesB_of O.len (by rw [e2]; exact hw), takesB_of hE h, O.lang u hok, how_and, Bool.and_comm]
  · rw [takesB_of F.len (by rw [e3]; exact hw), takesB_of hE h, F.lang u hok, how_flip, Bool.and_comm]
/-- The fact: right words of one track, in Fibonacci's base, want three states. -/
theorem fib_code : codeM 1 1 = 0 := by decide +kernel
theorem fib_len : (alN 1 1).length = 3 := by decide +kernel
end Go.Proofs.Ytklejobfnofbaae

/- What package right answers. -/
namespace Go.Proofs.Ytklejobfnofbaae
open Go.RowKit

/-- What right.All, Only and Flip answer, at whatever they are given. -/
def AllSays : Prop := ∀ (b t : Int) (W : World), Calls Try.prog 10 #[.int .i64 b, .int .i64 t] W (PairR W (okI (codeM b t) b) (okI (codeM b t) t) (alN b t) (alE b t) (codeM b t))
def OnlySays : Prop := ∀ (b t : Int) (a : Option Addr) (n cap : Nat) (a' : Option Addr) (k cap' : Nat) (N : List (List Int)) (E : List Bool) (W : World), Sl2 W a n N → SlB W a' k E → Calls Try.prog 11 #[.agg #[.int .i64 b, .int .i64 t, .slice a n cap, .slice a' k cap']] W (PairR W (okI (onC 8 b t N E k) b) (okI (onC 8 b t N E k) t) (onN 8 b t N E k) (onE 8 b t N E k) (onC 8 b t N E k))
def FlipSays : Prop := ∀ (b t : Int) (a : Option Addr) (n cap : Nat) (a' : Option Addr) (k cap' : Nat) (N : List (List Int)) (E : List Bool) (W : World), Sl2 W a n N → SlB W a' k E → Calls Try.prog 12 #[.agg #[.int .i64 b, .int .i64 t, .slice a n cap, .slice a' k cap']] W (PairR W (okI (onC 4 b t N E k) b) (okI (onC 4 b t N E k) t) (onN 4 b t N E k) (onE 4 b t N E k) (onC 4 b t N E k))

/-- What was handed back, in the box that it is put into. -/
theorem autoAt_pair {w W : World} {b t : Int} {a : Option Addr} {n c : Nat} {a' : Option Addr} {c' : Nat} {N : List (List Int)} {E : List Bool} (T : TypeId) (h : AutoNew w a n N a' E W) : AutoAt (W.alloc (.cells #[.int .i64 b, .int .i64 t, .slice a n c, .slice a' n c'] T)) W.heap.size b t a n c a' n c' N E ∧ Below W.heap.size W (W.alloc (.cells #[.int .i64 b, .int .i64 t, .slice a n c, .slice a' n c'] T)) :=
  ⟨autoAt_new h.here.1 h.here.2, (Below.refl _ _).alloc (Nat.le_refl _) _⟩
end Go.Proofs.Ytklejobfnofbaae

/- The walk of the law RightTakes, from what package right answers. -/
namespace Go.Proofs.Ytklejobfnofbaae
open Go.RowKit

theorem okW_letB {b t : Int} {u : List Int} (h : okW (manyU b t).toNat u) : letB b t u = true := by
  unfold letB
  rw [List.all_eq_true]
  intro x hx
  have := h x hx
  exact decide_eq_true ⟨this.1, by omega⟩

set_option maxHeartbeats 16000000 in
set_option maxRecDepth 8000 in
theorem righttakes_of (b t : Int) (a : Option Addr) (n cap : Nat) (a' : Option Addr) (k cap' : Nat) (N : List (List Int)) (E : List Bool) (aw : Option Addr) (lw cw : Nat) (u : List Int) (w : World) (hs : Sl2 w a n N) (he : SlB w a' k E) (hw : Sl w aw lw u) (hAL : AllSays) (hON : OnlySays) (hFL : FlipSays) :
    Calls Try.prog 4 #[.agg #[.int .i64 b, .int .i64 t, .slice a n cap, .slice a' k cap'], .slice aw lw cw] w fun e w' => e = .returned (.bool true) ∧ Below w.heap.size w w' := by
  have hE := he.1
  have hB0 : Below w.heap.size w (w.alloc (.cells #[.int .i64 b, .int .i64 t, .slice a n cap, .slice a' k cap'] 25)) := (Below.refl _ _).alloc (Nat.le_refl _) _
  have HB0 := hide hB0
  have HAB : Hid (∀ W, Below (w.alloc (.cells #[.int .i64 b, .int .i64 t, .slice a n cap, .slice a' k cap'] 25)).heap.size (w.alloc (.cells #[.int .i64 b, .int .i64 t, .slice a n cap, .slice a' k cap'] 25)) W → AutoAt W w.heap.size b t a n cap a' k cap' N E ∧ Sl W aw lw u) := fun W h => ⟨autoAt_below (autoAt_new (cap := cap) (cap' := cap') (T := 25) hs he) h, sl_below (sl_below hw hB0) h⟩
  have HF0 := hide (fun W => hAL 1 1 W)
  rw [fib_code, show okI 0 1 = 1 from rfl] at HF0
  unfold PairR at HF0
  rw [fib_len, errV_yes rfl] at HF0
  generalize alN 1 1 = FN at HF0
  generalize alE 1 1 = FE at HF0
  have HS1 := hide (fun W => hAL b t W)
  have HS8 := hide (fun W h1 h2 => hON b t a n cap a' k cap' N E W h1 h2)
  have HS4 := hide (fun W h1 h2 => hFL b t a n cap a' k cap' N E W h1 h2)
  have HSF := hide (fun x cx x' cx' W h1 h2 => hFL b t x (onN 4 b t N E k).length cx x' (onN 4 b t N E k).length cx' (onN 4 b t N E k) (onE 4 b t N E k) W h1 h2)
  unfold PairR at HS1 HS8 HS4 HSF
  have HT1 := hide (fun x cx x' cx' W h1 h2 h3 => takes_u b t x x' (alN b t).length cx (alN b t).length cx' (alN b t) (alE b t) aw lw cw u W h1 h2 h3)
  have HT8 := hide (fun x cx x' cx' W h1 h2 h3 => takes_u b t x x' (onN 8 b t N E k).length cx (onN 8 b t N E k).length cx' (onN 8 b t N E k) (onE 8 b t N E k) aw lw cw u W h1 h2 h3)
  have HT4 := hide (fun x cx x' cx' W h1 h2 h3 => takes_u b t x x' (onN 4 b t N E k).length cx (onN 4 b t N E k).length cx' (onN 4 b t N E k) (onE 4 b t N E k) aw lw cw u W h1 h2 h3)
  have HTA := hide (fun W h1 h2 h3 => takes_u b t a a' n cap k cap' N E aw lw cw u W h1 h2 h3)
  have HRW : Hid (codeM b t = 0 → u.length ≤ 400 → okW (manyU b t).toNat u → ∀ W, Sl W aw lw u → Calls Try.prog 13 #[.int .i64 b, .int .i64 t, .slice aw lw cw] W fun e w' => e = .returned (.bool (rightW b t u)) ∧ Below W.heap.size W w') := fun hM hl hk W h => by
    obtain ⟨-, -, h0, -⟩ := codeM_zero hM
    obtain ⟨tr, rfl⟩ : ∃ tr : Nat, t = (tr : Int) := ⟨t.toNat, by omega⟩
    exact rightWord_w b tr aw lw cw u W hM hl (okW_letB hk) h
  have HMA := hide (fun h8 h4 => And.intro (@rt_math b t N E k hE h8 h4 u) (@flip_flip b t N E k h4 h8))
  generalize onC 4 b t (onN 4 b t N E k) (onE 4 b t N E k) (onN 4 b t N E k).length = cF at HSF HMA
  generalize onN 4 b t (onN 4 b t N E k) (onE 4 b t N E k) (onN 4 b t N E k).length = NF at HSF HMA
  generalize onE 4 b t (onN 4 b t N E k) (onE 4 b t N E k) (onN 4 b t N E k).length = EF at HSF HMA
  generalize alN b t = N1 at HS1 HT1 HMA
  generalize alE b t = E1 at HS1 HT1 HMA
  generalize onC 8 b t N E k = c8 at HS8 HMA
  generalize onN 8 b t N E k = N8 at HS8 HT8 HMA
  generalize onE 8 b t N E k = E8 at HS8 HT8 HMA
  generalize onC 4 b t N E k = c4 at HS4 HMA
  generalize onN 4 b t N E k = N4 at HS4 HT4 HSF HMA
  generalize onE 4 b t N E k = E4 at HS4 HT4 HSF HMA
  generalize runC b t N1 N1.length u = r1 at HT1 HMA
  generalize runC b t N8 N8.length u = r8 at HT8 HMA
  generalize runC b t N4 N4.length u = r4 at HT4 HMA
  generalize runC b t N k u = r at HTA HMA
  generalize takesB b t N1 E1 u = X at HT1 HMA
  generalize takesB b t N8 E8 u = Y at HT8 HMA
  generalize takesB b t N4 E4 u = Z at HT4 HMA
  generalize takesB b t N E u = I at HTA HMA
  generalize rightW b t u = R at HRW HMA
  generalize codeM b t = cM at HS1 HMA HRW
  clear hs he hw hB0 hE hAL hON hFL
  generalize hW0 : w.alloc (.cells #[.int .i64 b, .int .i64 t, .slice a n cap, .slice a' k cap'] 25) = w0 at HB0 HAB
  go_enter Try.func4, Try.ntmps4
  go_wp2_with fail
  clear hW0
  refine (HF0.out _).mono ?_
  rintro e w1 ⟨fa, fc, fa', fc', rfl, hnew, hb1⟩
  obtain ⟨hA2, hbz⟩ := autoAt_pair (b := 1) (t := 1) (c := fc) (c' := fc') 25 hnew
  have HB2 := hide (below_step hb1 hbz)
  obtain ⟨⟨q0, q1, q2, q3⟩, -⟩ := hA2
  clear hnew hb1 hbz HF0
  generalize hW2 : w1.alloc (.cells #[.int .i64 1, .int .i64 1, .slice fa 3 fc, .slice fa' 3 fc'] 25) = w2 at HB2 q0 q1 q2 q3
  obtain ⟨⟨⟨p0, p1, p2, p3⟩, -⟩, -⟩ := HAB.out w2 HB2.out
  go_wp2_with fail
  clear hW2 q0 q1 q2 q3 p0 p1 p2 p3
  refine (HS1.out w2).mono ?_
  rintro e w3 ⟨x1, d1, x1', d1', rfl, hnew, hb3⟩
  obtain ⟨hA4, hbz⟩ := autoAt_pair (b := okI cM b) (t := okI cM t) (c := d1) (c' := d1') 25 hnew
  have HB4 := hide (below_step HB2.out (below_step hb3 hbz))
  have HA4 := hide hA4
  clear hA4 hnew hb3 hbz HS1 HB2
  generalize hW4 : w3.alloc (.cells #[.int .i64 (okI cM b), .int .i64 (okI cM t), .slice x1 N1.length d1, .slice x1' N1.length d1'] 25) = w4 at HB4 HA4
  obtain ⟨⟨⟨p0, p1, p2, p3⟩, -⟩, -⟩ := HAB.out w4 HB4.out
  go_wp2_with fail
  clear hW4 p0 p1 p2 p3
  refine (HS8.out w4 (HAB.out w4 HB4.out).1.2.1 (HAB.out w4 HB4.out).1.2.2).mono ?_
  rintro e w5 ⟨x8, d8, x8', d8', rfl, hnew, hb5⟩
  obtain ⟨hA6, hbz⟩ := autoAt_pair (b := okI c8 b) (t := okI c8 t) (c := d8) (c' := d8') 25 hnew
  have hb6 := below_step hb5 hbz
  have HB6 := hide (below_step HB4.out hb6)
  have HA6 := hide hA6
  have HA64 := hide (autoAt_below HA4.out hb6)
  clear hA6 hnew hb5 hbz hb6 HS8 HB4 HA4
  generalize hW6 : w5.alloc (.cells #[.int .i64 (okI c8 b), .int .i64 (okI c8 t), .slice x8 N8.length d8, .slice x8' N8.length d8'] 25) = w6 at HB6 HA6 HA64
  obtain ⟨⟨⟨p0, p1, p2, p3⟩, -⟩, -⟩ := HAB.out w6 HB6.out
  go_wp2_with fail
  clear hW6 p0 p1 p2 p3
  refine (HS4.out w6 (HAB.out w6 HB6.out).1.2.1 (HAB.out w6 HB6.out).1.2.2).mono ?_
  rintro e w7 ⟨x4, d4, x4', d4', rfl, hnew, hb7⟩
  obtain ⟨hA8, hbz⟩ := autoAt_pair (b := okI c4 b) (t := okI c4 t) (c := d4) (c' := d4') 25 hnew
  have hb8 := below_step hb7 hbz
  have HB8 := hide (below_step HB6.out hb8)
  have HA4 := hide hA8
  have HA8 := hide (autoAt_below HA6.out hb8)
  have HA1 := hide (autoAt_below HA64.out hb8)
  clear hA8 hnew hb7 hbz hb8 HS4 HB6 HA6 HA64
  generalize hW8 : w7.alloc (.cells #[.int .i64 (okI c4 b), .int .i64 (okI c4 t), .slice x4 N4.length d4, .slice x4' N4.length d4'] 25) = W at HB8 HA1 HA8 HA4
  by_cases h80 : c8 = 0
  · by_cases h40 : c4 = 0
    · obtain ⟨⟨mM, -, m1, m8, m4, mR⟩, mF, mN, mE⟩ := HMA.out h80 h40
      have HRR := hide (fun h => HRW.out mM (mR h).2.1 (mR h).1)
      have HXX := hide (fun h => (mR h).2.2)
      subst m1 m8 m4 mF mN mE
      rw [show okI cM b = b by unfold okI; rw [if_pos mM], show okI cM t = t by unfold okI; rw [if_pos mM]] at HA1
      rw [show okI c8 b = b by unfold okI; rw [if_pos h80], show okI c8 t = t by unfold okI; rw [if_pos h80]] at HA8
      rw [show okI c4 b = b by unfold okI; rw [if_pos h40], show okI c4 t = t by unfold okI; rw [if_pos h40]] at HA4 hW8 ⊢
      rw [show okI 0 b = b from rfl, show okI 0 t = t from rfl, errV_yes rfl] at HSF
      rw [errV_yes mM, errV_yes h80, errV_yes h40]
      clear mM mR h80 h40 HMA HRW
      obtain ⟨⟨q0, q1, q2, q3⟩, -⟩ := HA1.out
      go_wp2_with fail
      clear hW8 q0 q1 q2 q3
      refine (HT1.out x1 d1 x1' d1' W HA1.out.2.1 HA1.out.2.2 (HAB.out W HB8.out).2).mono ?_
      rintro e w9 ⟨rfl, hb9⟩
      have HB9 := hide (below_step HB8.out hb9)
      have HA89 := hide (autoAt_below HA8.out hb9)
      have HA49 := hide (autoAt_below HA4.out hb9)
      clear hb9 HB8 HA8 HA4 HA1 HT1
      obtain ⟨⟨q0, q1, q2, q3⟩, -⟩ := HA89.out
      go_wp2_with fail
      clear q0 q1 q2 q3
      refine (HT8.out x8 d8 x8' d8' w9 HA89.out.2.1 HA89.out.2.2 (HAB.out w9 HB9.out).2).mono ?_
      rintro e wA ⟨rfl, hbA⟩
      have HBA := hide (below_step HB9.out hbA)
      have HA8A := hide (autoAt_below HA89.out hbA)
      have HA4A := hide (autoAt_below HA49.out hbA)
      clear hbA HB9 HA89 HA49 HT8
      obtain ⟨⟨q0, q1, q2, q3⟩, -⟩ := HA4A.out
      go_wp2_with fail
      clear q0 q1 q2 q3
      refine (HT4.out x4 d4 x4' d4' wA HA4A.out.2.1 HA4A.out.2.2 (HAB.out wA HBA.out).2).mono ?_
      rintro e wB ⟨rfl, hbB⟩
      have HBB := hide (below_step HBA.out hbB)
      have HA8B := hide (autoAt_below HA8A.out hbB)
      have HA4B := hide (autoAt_below HA4A.out hbB)
      clear hbB HBA HA8A HA4A HT4
      obtain ⟨⟨⟨p0, p1, p2, p3⟩, -⟩, -⟩ := HAB.out wB HBB.out
      go_wp2_with fail
      clear p0 p1 p2 p3
      refine (HTA.out wB (HAB.out wB HBB.out).1.2.1 (HAB.out wB HBB.out).1.2.2 (HAB.out wB HBB.out).2).mono ?_
      rintro e wC ⟨rfl, hbC⟩
      have HBC := hide (below_step HBB.out hbC)
      have HA8C := hide (autoAt_below HA8B.out hbC)
      have HA4C := hide (autoAt_below HA4B.out hbC)
      clear hbC HBB HA8B HA4B HTA
      obtain ⟨⟨⟨p0, p1, p2, p3⟩, -⟩, -⟩ := HAB.out wC HBC.out
      by_cases hr : r4 = 0
      · obtain ⟨rfl, rfl, rfl⟩ := HXX.out hr
        have HR1 := hide (HRR.out hr)
        rw [errV_yes hr]
        clear hr HRR HXX
        go_wp2_with fail
        clear p0 p1 p2 p3
        refine (HR1.out wC (HAB.out wC HBC.out).2).mono ?_
        rintro e wD ⟨rfl, hbD⟩
        have HBD := hide (below_step HBC.out hbD)
        have HA8D := hide (autoAt_below HA8C.out hbD)
        have HA4D := hide (autoAt_below HA4C.out hbD)
        clear hbD HBC HA8C HA4C HR1
        obtain ⟨⟨q0, q1, q2, q3⟩, -⟩ := HA4D.out
        cases X <;> cases I
        all_goals
          go_wp2_with fail
          clear q0 q1 q2 q3
          refine (HSF.out x4 d4 x4' d4' wD HA4D.out.2.1 HA4D.out.2.2).mono ?_
          rintro e wE ⟨xf, df, xf', df', rfl, hnew, hbE⟩
          obtain ⟨hAF, hbz⟩ := autoAt_pair (b := b) (t := t) (c := df) (c' := df') 25 hnew
          have hbF := below_step hbE hbz
          have HBF := hide (below_step HBD.out hbF)
          have HAF := hide hAF
          have HA8F := hide (autoAt_below HA8D.out hbF)
          clear hAF hnew hbE hbz hbF HSF HBD HA4D HA8D
          generalize hWF : wE.alloc (.cells #[.int .i64 b, .int .i64 t, .slice xf NF.length df, .slice xf' NF.length df'] 25) = wF at HBF HAF HA8F
          obtain ⟨⟨q0, q1, q2, q3⟩, -⟩ := HAF.out
          obtain ⟨⟨r0, r1, r2, r3⟩, -⟩ := HA8F.out
          go_wp2_with fail
          clear hWF q0 q1 q2 q3 r0 r1 r2 r3
          refine (autos_eq b t xf NF.length df xf' NF.length df' x8 d8 x8' d8' NF EF wF HAF.out.2.1 HAF.out.2.2 HA8F.out.2.1 HA8F.out.2.2).mono ?_
          rintro e wG ⟨rfl, hbG⟩
          have HBG := hide (below_step HB0.out (below_step HBF.out hbG))
          clear hbG
          go_wp2_with fail
          go_ret
          exact ⟨rfl, HBG.out⟩
      · rw [errV_no hr]
        clear hr HRR HXX
        go_wp2_with fail
        go_ret
        exact ⟨rfl, below_step HB0.out HBC.out⟩
    · have HBE := hide (below_step HB0.out HB8.out)
      rw [errV_yes h80, errV_no h40]
      clear h80 h40 HMA
      by_cases hM : cM = 0
      case' pos => rw [errV_yes hM]
      case' neg => rw [errV_no hM]
      all_goals
        clear hM
        go_wp2_with fail
        go_ret
        exact ⟨rfl, HBE.out⟩
  · have HBE := hide (below_step HB0.out HB8.out)
    rw [errV_no h80]
    clear h80 HMA
    have hcs : (errV c4 = .nilIface) ∨ (∃ z, errV c4 = .iface 55 (.int .i64 z)) := by
      by_cases h : c4 = 0
      · exact .inl (errV_yes h)
      · exact .inr ⟨_, errV_no h⟩
    generalize errV c4 = ev at hcs ⊢
    by_cases hM : cM = 0
    case' pos => rw [errV_yes hM]
    case' neg => rw [errV_no hM]
    all_goals
      clear hM
      rcases hcs with rfl | ⟨z, rfl⟩
      all_goals
        go_wp2_with fail
        go_ret
        exact ⟨rfl, HBE.out⟩
end Go.Proofs.Ytklejobfnofbaae
