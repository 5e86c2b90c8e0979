/- 21 texts in one. -/
import Derived.Laws.AppendOwnNone
import Derived.Test.YthadkoplbgibgafBy
import Derived.Test.YthadkoplbgibgafDd
import Derived.Test.YthadkoplbgibgafDi
import Derived.Test.YthadkoplbgibgafZNx
import Derived.Test.YthadkoplbgibgafZDh
import Derived.Test.YthadkoplbgibgafEe
import Derived.Test.YthadkoplbgibgafZMp
import Derived.Test.YthadkoplbgibgafGd
import Derived.Test.YthadkoplbgibgafLq
import Derived.Test.YthadkoplbgibgafZLf
import Derived.Test.YthadkoplbgibgafEa
/- pair.Both: contract. -/
namespace Go.Proofs.Ythadkoplbgibgaf
open Go.RowKit

set_option maxHeartbeats 4000000 in
set_option maxRecDepth 8000 in
theorem both_range (b t : Int) (a : Option Addr) (n cap : Nat) (a' : Option Addr) (k cap' : Nat) (b2 t2 : Int) (a2 : Option Addr) (n2 cap2 : Nat) (a2' : Option Addr) (k2 cap2' : Nat) (how : Int) (w : World) (hh : how < 0 ∨ 15 < how) :
    Calls Try.prog 7 #[.agg #[.int .i64 b, .int .i64 t, .slice a n cap, .slice a' k cap'], .agg #[.int .i64 b2, .int .i64 t2, .slice a2 n2 cap2, .slice a2' k2 cap2'], .int .i64 how] w (PairR w 0 0 [] [] 1) := by
  have HB := hide (below_three w (.cells #[.int .i64 b, .int .i64 t, .slice a n cap, .slice a' k cap'] 26) (.cells #[.int .i64 b2, .int .i64 t2, .slice a2 n2 cap2, .slice a2' k2 cap2'] 26) (.cells #[.int .i64 0, .int .i64 0, .slice none 0 0, .slice none 0 0] 26))
  have HBX := hide (@three_boxes w _ (.int .i64 b) (.int .i64 t) (.slice a n cap) (.slice a' k cap') (.int .i64 b2) (.int .i64 t2) (.slice a2 n2 cap2) (.slice a2' k2 cap2') 26 (.cells #[.int .i64 0, .int .i64 0, .slice none 0 0, .slice none 0 0] 26) (Below.refl _ _)).1
  go_enter Try.func7, Try.ntmps7
  by_cases h0 : how < 0
  · have h0' : decide (how < 0) = true := by simpa using h0
    go_wp2
    obtain ⟨⟨z0, z1, z2, z3⟩, -⟩ := box_cells HBX.out
    exact bodyPost_ret (v := .tuple #[.agg #[.int .i64 0, .int .i64 0, .slice none 0 0, .slice none 0 0], .iface 66 (.int .i64 1)]) (by simp [results, Try.results7, go_sem, z0, z1, z2, z3]) rfl ⟨none, 0, none, 0, rfl, autoNew_nil _ _, HB.out⟩
  · have h1 : 16 ≤ how := by omega
    have h0' : decide (how < 0) = false := by simpa using h0
    go_wp2
    obtain ⟨⟨z0, z1, z2, z3⟩, -⟩ := box_cells HBX.out
    exact bodyPost_ret (v := .tuple #[.agg #[.int .i64 0, .int .i64 0, .slice none 0 0, .slice none 0 0], .iface 66 (.int .i64 1)]) (by simp [results, Try.results7, go_sem, z0, z1, z2, z3]) rfl ⟨none, 0, none, 0, rfl, autoNew_nil _ _, HB.out⟩

set_option maxHeartbeats 4000000 in
set_option maxRecDepth 8000 in
theorem both_in (b t : Int) (a : Option Addr) (n cap : Nat) (a' : Option Addr) (k cap' : Nat) (N : List (List Int)) (E : List Bool) (b2 t2 : Int) (a2 : Option Addr) (n2 cap2 : Nat) (a2' : Option Addr) (k2 cap2' : Nat) (N2 : List (List Int)) (E2 : List Bool) (how : Int) (w : World)
    (hs : Sl2 w a n N) (he : SlB w a' k E) (hs2 : Sl2 w a2 n2 N2) (he2 : SlB w a2' k2 E2) (h0 : 0 ≤ how) (h15 : how ≤ 15) (hC : alikeC b t N k b2 t2 N2 k2 ≠ 0) :
    Calls Try.prog 7 #[.agg #[.int .i64 b, .int .i64 t, .slice a n cap, .slice a' k cap'], .agg #[.int .i64 b2, .int .i64 t2, .slice a2 n2 cap2, .slice a2' k2 cap2'], .int .i64 how] w (PairR w 0 0 [] [] (alikeC b t N k b2 t2 N2 k2)) := by
  have hB := below_three w (.cells #[.int .i64 b, .int .i64 t, .slice a n cap, .slice a' k cap'] 26) (.cells #[.int .i64 b2, .int .i64 t2, .slice a2 n2 cap2, .slice a2' k2 cap2'] 26) (.cells #[.int .i64 0, .int .i64 0, .slice none 0 0, .slice none 0 0] 26)
  have HB := hide hB
  have HAL := hide (checkBoth_u b t a n cap a' k cap' b2 t2 a2 n2 cap2 a2' k2 cap2' N N2 _ (sl2_below hs hB) he.2.1 (sl2_below hs2 hB) he2.2.1)
  have HBX := hide (fun w' => @three_boxes w w' (.int .i64 b) (.int .i64 t) (.slice a n cap) (.slice a' k cap') (.int .i64 b2) (.int .i64 t2) (.slice a2 n2 cap2) (.slice a2' k2 cap2') 26 (.cells #[.int .i64 0, .int .i64 0, .slice none 0 0, .slice none 0 0] 26))
  clear hs he hs2 he2 hB
  unfold PairR
  rw [errV_no hC] at HAL ⊢
  generalize alikeC b t N k b2 t2 N2 k2 = c at HAL ⊢
  obtain ⟨-, hbb⟩ := HBX.out _ (Below.refl _ _)
  obtain ⟨⟨p0, p1, p2, p3⟩, q0, q1, q2, q3⟩ := two_boxes hbb
  have h0' : decide (how < 0) = false := by simp; omega
  have h1' : ¬ 16 ≤ how := by omega
  clear hbb
  go_enter Try.func7, Try.ntmps7
  go_wp2_with fail
  refine HAL.out.mono ?_
  rintro e w1 ⟨rfl, hb1⟩
  obtain ⟨hr, -⟩ := HBX.out w1 hb1
  obtain ⟨⟨r0, r1, r2, r3⟩, rf⟩ := box_cells hr
  have HR := hide hr
  have HB1 := hide (below_step HB.out hb1)
  clear hr hb1 p0 p1 p2 p3 q0 q1 q2 q3
  go_wp2
  obtain ⟨⟨hset, -, -⟩, hbel⟩ := box_set (v0 := .int .i64 0) (v1 := .int .i64 0) (v2 := .slice none 0 0) (v3 := .slice none 0 0) HR.out rfl
  obtain ⟨⟨z0, z1, z2, z3⟩, -⟩ := box_cells hset
  exact bodyPost_ret (v := .tuple #[.agg #[.int .i64 0, .int .i64 0, .slice none 0 0, .slice none 0 0], .iface 66 (.int .i64 c)]) (by simp [results, Try.results7, go_sem, z0, z1, z2, z3]) rfl ⟨none, 0, none, 0, rfl, autoNew_nil _ _, hbel _ _ HB1.out (by omega)⟩

/-- The least one, or too many. -/
def BothW (w : World) (b t : Int) (LN : List (List Int)) (LE : List Bool) (LK : Nat) (e : Ending) (w' : World) : Prop := (LK ≤ 80 → PairR w b t LN LE 0 e w') ∧ (80 < LK → PairR w 0 0 [] [] 3 e w')

set_option maxHeartbeats 4000000 in
set_option maxRecDepth 8000 in
theorem both_ok (b t : Int) (a : Option Addr) (n cap : Nat) (a' : Option Addr) (cap' : Nat) (N : List (List Int)) (E : List Bool) (a2 : Option Addr) (n2 cap2 : Nat) (a2' : Option Addr) (cap2' : Nat) (N2 : List (List Int)) (E2 : List Bool) (how : Int) (w : World)
    (hs : Sl2 w a n N) (he : SlB w a' n E) (hs2 : Sl2 w a2 n2 N2) (he2 : SlB w a2' n2 E2) (h0 : 0 ≤ how) (h15 : how ≤ 15) (hC : alikeC b t N n b t N2 n2 = 0) :
    Calls Try.prog 7 #[.agg #[.int .i64 b, .int .i64 t, .slice a n cap, .slice a' n cap'], .agg #[.int .i64 b, .int .i64 t, .slice a2 n2 cap2, .slice a2' n2 cap2'], .int .i64 how] w (BothW w b t (leastN (bothP b t N N2) (bothQ how N N2 E E2) (manyU b t).toNat) (leastE (bothP b t N N2) (bothQ how N N2 E E2) (manyU b t).toNat) (bothK b t how N N2 E E2)) := by
  obtain ⟨hA1, hA2, -, -⟩ := alikeC_zero hC
  obtain ⟨hM, -, hG, -⟩ := autoC_zero hA1
  obtain ⟨-, -, hG2, -⟩ := autoC_zero hA2
  have h80 := autoC_80 hA1
  have h80' := autoC_80 hA2
  have hL := hs.1
  have hL2 := hs2.1
  rw [hL] at hG h80
  rw [hL2] at hG2 h80'
  have hn : n * n2 ≤ 4000000 := Nat.le_trans (Nat.mul_le_mul h80 h80') (by decide)
  have hB := below_three w (.cells #[.int .i64 b, .int .i64 t, .slice a n cap, .slice a' n cap'] 26) (.cells #[.int .i64 b, .int .i64 t, .slice a2 n2 cap2, .slice a2' n2 cap2'] 26) (.cells #[.int .i64 0, .int .i64 0, .slice none 0 0, .slice none 0 0] 26)
  have HB := hide hB
  have HAL := hide (checkBoth_u b t a n cap a' n cap' b t a2 n2 cap2 a2' n2 cap2' N N2 _ (sl2_below hs hB) he.2.1 (sl2_below hs2 hB) he2.2.1)
  rw [errV_yes hC] at HAL
  have HBX := hide (fun w' => @three_boxes w w' (.int .i64 b) (.int .i64 t) (.slice a n cap) (.slice a' n cap') (.int .i64 b) (.int .i64 t) (.slice a2 n2 cap2) (.slice a2' n2 cap2') 26 (.cells #[.int .i64 0, .int .i64 0, .slice none 0 0, .slice none 0 0] 26))
  have HCO := hide (fun W (h : Below _ _ W) => couples_any b t a n cap a' cap' (manyU b t).toNat N E b t a2 n2 cap2 a2' cap2' N2 E2 how W (sl2_below hs (below_step hB h)) (slB_below he (below_step hB h)) (sl2_below hs2 (below_step hB h)) (slB_below he2 (below_step hB h)) hG hG2 hn h0 h15)
  unfold GivesAuto at HCO
  have hP := prod_good hG hG2 hn
  have hCG := coup_good hP
  rw [← coup_len hP] at hCG
  have HLW := hide (fun ax cx ax' cx' W h1 h2 => leastw_any b t ax (coupN (prodN N N2 (manyU b t).toNat)).length cx (manyU b t).toNat (coupN (prodN N N2 (manyU b t).toNat)) ax' cx' (coupE (prodN N N2 (manyU b t).toNat) (prodE how n n2 E E2)) W h1 h2 hCG (autoM_good hM hCG (by have := hCG.2.2.1; omega)))
  obtain ⟨e1, e2, e3⟩ := coup_least hP (prodE how n n2 E E2)
  unfold LeastR LeastU at HLW
  rw [e1, e2, e3] at HLW
  have hbP : bothP b t N N2 = prodN N N2 (manyU b t).toNat := rfl
  have hbQ : bothQ how N N2 E E2 = prodE how n n2 E E2 := by unfold bothQ; rw [hL, hL2]
  unfold bothK
  rw [hbP, hbQ]
  clear hs he hs2 he2 hA1 hA2 hC hM hG hG2 h80 h80' hn hP hCG e1 e2 e3 hbP hbQ
  generalize coupN (prodN N N2 (manyU b t).toNat) = CN at HCO HLW
  generalize coupE (prodN N N2 (manyU b t).toNat) (prodE how n n2 E E2) = CE at HCO HLW
  generalize leastN (prodN N N2 (manyU b t).toNat) (prodE how n n2 E E2) (manyU b t).toNat = LN at HLW ⊢
  generalize leastE (prodN N N2 (manyU b t).toNat) (prodE how n n2 E E2) (manyU b t).toNat = LE at HLW ⊢
  generalize leastK (prodN N N2 (manyU b t).toNat) (prodE how n n2 E E2) (manyU b t).toNat = LK at HLW ⊢
  generalize hW0 : ((w.alloc (.cells #[.int .i64 b, .int .i64 t, .slice a n cap, .slice a' n cap'] 26)).alloc (.cells #[.int .i64 b, .int .i64 t, .slice a2 n2 cap2, .slice a2' n2 cap2'] 26)).alloc (.cells #[.int .i64 0, .int .i64 0, .slice none 0 0, .slice none 0 0] 26) = wb at HB HAL HBX HCO
  have HSZ0 : Hid (wb.heap.size = w.heap.size + 3) := by show _ = _; rw [← hW0]; simp
  obtain ⟨-, hbb⟩ := HBX.out wb (Below.refl _ _)
  obtain ⟨⟨p0, p1, p2, p3⟩, q0, q1, q2, q3⟩ := two_boxes hbb
  have h0' : decide (how < 0) = false := by simp; omega
  have h1' : ¬ 16 ≤ how := by omega
  clear hbb hB
  go_enter Try.func7, Try.ntmps7
  go_wp2_with fail
  clear hW0 p0 p1 p2 p3 q0 q1 q2 q3
  refine HAL.out.mono ?_
  rintro e w1 ⟨rfl, hb1⟩
  obtain ⟨-, hbb⟩ := HBX.out w1 hb1
  obtain ⟨⟨p0, p1, p2, p3⟩, q0, q1, q2, q3⟩ := two_boxes hbb
  have HB1 := hide hb1
  clear hb1 hbb HAL
  go_wp2_with fail
  clear p0 p1 p2 p3 q0 q1 q2 q3
  refine (HCO.out w1 HB1.out).mono ?_
  rintro e w2 ⟨ax, cx, ax', cx', rfl, hnew, hb2⟩
  have HB2 := hide (below_step HB1.out hb2)
  have HL2 := hide (HLW.out ax cx ax' cx' w2 hnew.here.1 hnew.here.2)
  clear hnew hb2 HCO HLW
  go_wp2_with fail
  refine HL2.out.mono ?_
  rintro e w3 ⟨hyes, hno⟩
  clear HL2
  by_cases hK : LK ≤ 80
  · obtain ⟨ay, cy, ay', cy', rfl, hnew, hb3⟩ := hyes hK
    obtain ⟨hr, -⟩ := HBX.out w3 (below_step HB2.out hb3)
    obtain ⟨⟨r0, r1, r2, r3⟩, rf⟩ := box_cells hr
    have HR := hide hr
    have HB3 := hide (below_step HB.out (below_step HB2.out hb3))
    have HNEW := hide hnew
    have HSW := hide HB2.out.size
    clear hr hb3 hyes hno hnew
    go_wp2
    obtain ⟨⟨hset, hsz, hoth⟩, hbel⟩ := box_set (v0 := .int .i64 b) (v1 := .int .i64 t) (v2 := .slice ay LN.length cy) (v3 := .slice ay' LN.length cy') HR.out rfl
    have hfin : AutoNew w ay LN.length LN ay' LE ((((w3.setCell ⟨w.heap.size + 2, 0, none⟩ (.int .i64 b)).setCell ⟨w.heap.size + 2, 1, none⟩ (.int .i64 t)).setCell ⟨w.heap.size + 2, 2, none⟩ (.slice ay LN.length cy)).setCell ⟨w.heap.size + 2, 3, none⟩ (.slice ay' LN.length cy')) := fun W' hW' => HNEW.out W' (fun x hx hxl => by
      have h1 := HSW.out
      have h2 := HSZ0.out
      rw [hW' x (by omega) (by rw [hsz]; exact hxl), hoth x (by omega)])
    have hb := hbel w w.heap.size HB3.out (by omega)
    obtain ⟨⟨z0, z1, z2, z3⟩, -⟩ := box_cells hset
    exact bodyPost_ret (v := .tuple #[.agg #[.int .i64 b, .int .i64 t, .slice ay LN.length cy, .slice ay' LN.length cy'], .nilIface]) (by simp [results, Try.results7, go_sem, z0, z1, z2, z3]) rfl ⟨fun _ => ⟨ay, cy, ay', cy', rfl, hfin, hb⟩, fun h => by omega⟩
  · obtain ⟨rfl, hb3⟩ := hno (by omega)
    obtain ⟨hr, -⟩ := HBX.out w3 (below_step HB2.out hb3)
    obtain ⟨⟨r0, r1, r2, r3⟩, rf⟩ := box_cells hr
    have HR := hide hr
    have HB3 := hide (below_step HB.out (below_step HB2.out hb3))
    clear hr hb3 hyes hno
    go_wp2
    obtain ⟨⟨hset, hsz, hoth⟩, hbel⟩ := box_set (v0 := .int .i64 0) (v1 := .int .i64 0) (v2 := .slice none 0 0) (v3 := .slice none 0 0) HR.out rfl
    have hb := hbel w w.heap.size HB3.out (by omega)
    obtain ⟨⟨z0, z1, z2, z3⟩, -⟩ := box_cells hset
    exact bodyPost_ret (v := .tuple #[.agg #[.int .i64 0, .int .i64 0, .slice none 0 0, .slice none 0 0], .iface 66 (.int .i64 3)]) (by simp [results, Try.results7, go_sem, z0, z1, z2, z3]) rfl ⟨fun h => by omega, fun _ => ⟨none, 0, none, 0, rfl, autoNew_nil _ _, hb⟩⟩

theorem both_u (b t : Int) (a : Option Addr) (n cap : Nat) (a' : Option Addr) (k cap' : Nat) (N : List (List Int)) (E : List Bool) (b2 t2 : Int) (a2 : Option Addr) (n2 cap2 : Nat) (a2' : Option Addr) (k2 cap2' : Nat) (N2 : List (List Int)) (E2 : List Bool) (how : Int) (w : World)
    (hs : Sl2 w a n N) (he : SlB w a' k E) (hs2 : Sl2 w a2 n2 N2) (he2 : SlB w a2' k2 E2) :
    Calls Try.prog 7 #[.agg #[.int .i64 b, .int .i64 t, .slice a n cap, .slice a' k cap'], .agg #[.int .i64 b2, .int .i64 t2, .slice a2 n2 cap2, .slice a2' k2 cap2'], .int .i64 how] w (PairR w (okI (bothC how b t N E k b2 t2 N2 E2 k2) b) (okI (bothC how b t N E k b2 t2 N2 E2 k2) t) (bothN how b t N E k b2 t2 N2 E2 k2) (bothE how b t N E k b2 t2 N2 E2 k2) (bothC how b t N E k b2 t2 N2 E2 k2)) := by
  by_cases hh : 0 ≤ how ∧ how ≤ 15
  · by_cases hC : alikeC b t N k b2 t2 N2 k2 = 0
    · obtain ⟨hA1, hA2, rfl, rfl⟩ := alikeC_zero hC
      obtain rfl : k = n := by rw [(autoC_zero hA1).2.1, hs.1]
      obtain rfl : k2 = n2 := by rw [(autoC_zero hA2).2.1, hs2.1]
      refine (both_ok b t a k cap a' cap' N E a2 k2 cap2 a2' cap2' N2 E2 how w hs he hs2 he2 hh.1 hh.2 hC).mono ?_
      rintro e w' ⟨h1, h2⟩
      by_cases hK : bothK b t how N N2 E E2 ≤ 80
      · have hc : bothC how b t N E k b t N2 E2 k2 = 0 := by unfold bothC; rw [if_pos hh, if_pos hC, if_pos hK]
        unfold bothN bothE okI
        rw [hc, if_pos rfl, if_pos rfl, if_pos rfl, if_pos rfl]
        exact h1 hK
      · have hc : bothC how b t N E k b t N2 E2 k2 = 3 := by unfold bothC; rw [if_pos hh, if_pos hC, if_neg hK]
        unfold bothN bothE okI
        rw [hc, if_neg (by decide), if_neg (by decide), if_neg (by decide), if_neg (by decide)]
        exact h2 (by omega)
    · have hc := @alikeC_of b t N k b2 t2 N2 k2 how E E2 hh.1 hh.2 hC
      unfold bothN bothE okI
      rw [hc, if_neg hC, if_neg hC, if_neg hC, if_neg hC]
      exact both_in b t a n cap a' k cap' N E b2 t2 a2 n2 cap2 a2' k2 cap2' N2 E2 how w hs he hs2 he2 hh.1 hh.2 hC
  · have hc : bothC how b t N E k b2 t2 N2 E2 k2 = 1 := by unfold bothC; rw [if_neg hh]
    unfold bothN bothE okI
    rw [hc, if_neg (by decide), if_neg (by decide), if_neg (by decide), if_neg (by decide)]
    exact both_range b t a n cap a' k cap' b2 t2 a2 n2 cap2 a2' k2 cap2' how w (by omega)
end Go.Proofs.Ythadkoplbgibgaf

/- The walk of the law PairTakes. -/
namespace Go.Proofs.Ythadkoplbgibgaf
open Go.RowKit

/-- Where both are well. -/
theorem both_well {how b t b2 t2 : Int} {N N2 : List (List Int)} {E E2 : List Bool} {k k2 : Nat} (hc : bothC how b t N E k b2 t2 N2 E2 k2 = 0) :
    (0 ≤ how ∧ how ≤ 15) ∧ b2 = b ∧ t2 = t ∧ autoC b t N k = 0 ∧ autoC b t N2 k2 = 0 ∧ autoC b t (bothN how b t N E k b2 t2 N2 E2 k2) (bothN how b t N E k b2 t2 N2 E2 k2).length = 0 ∧ (bothE how b t N E k b2 t2 N2 E2 k2).length = (bothN how b t N E k b2 t2 N2 E2 k2).length ∧
      ∀ w, okW (manyU b t).toNat w → tkB (bothN how b t N E k b2 t2 N2 E2 k2) (bothE how b t N E k b2 t2 N2 E2 k2) w = howB how (tkB N E w) (tkB N2 E2 w) := by
  have hN : bothN how b t N E k b2 t2 N2 E2 k2 = leastN (bothP b t N N2) (bothQ how N N2 E E2) (manyU b t).toNat := by unfold bothN; rw [if_pos hc]
  have hEE : bothE how b t N E k b2 t2 N2 E2 k2 = leastE (bothP b t N N2) (bothQ how N N2 E E2) (manyU b t).toNat := by unfold bothE; rw [if_pos hc]
  rw [hN, hEE]
  unfold bothC at hc
  split at hc
  · rename_i hh
    split at hc
    · rename_i hC
      split at hc
      · rename_i hK
        obtain ⟨hA1, hA2, rfl, rfl⟩ := alikeC_zero hC
        obtain ⟨hM, hk1, hG, -⟩ := autoC_zero hA1
        obtain ⟨-, hk2, hG2, -⟩ := autoC_zero hA2
        have h80 := autoC_80 hA1
        have h80' := autoC_80 hA2
        have hn : N.length * N2.length ≤ 4000000 := Nat.le_trans (Nat.mul_le_mul h80 h80') (by decide)
        have hP := prod_good hG hG2 hn
        have hL := least_good hP (bothQ how N N2 E E2)
        refine ⟨hh, rfl, rfl, hA1, hA2, ?_, by rw [leastN_len, leastE_len], fun w hw => ?_⟩
        · have := autoC_good hM hL hK
          rwa [← leastN_len] at this
        · exact both_tk hG hG2 hn how E E2 w hw
      · cases hc
    · rename_i hC
      exact absurd hc hC
  · cases hc

end Go.Proofs.Ythadkoplbgibgaf

/- Right words: the automaton of them; mathematics. -/
namespace Go.Proofs.Ythadkoplbgibgaf
open Go.RowKit

/-- Letters that may not follow: a 1 below a 1, in base 1 (Fibonacci's). -/
def hitB (b : Int) (tr : Nat) (x y : Int) : Bool := (List.range tr).any fun k => decide (b = 1) && decide (dOf b tr x k = 1) && decide (dOf b tr y k = 1)
/-- Where letter l leads from state s: 0: none was read; s + 1: letter s was; m + 1: it went wrong. -/
def arT (b : Int) (tr m s l : Nat) : Nat := if s = m + 1 then m + 1 else if 0 < s ∧ hitB b tr ((s : Int) - 1) (l : Int) = true then m + 1 else l + 1
def arN (b : Int) (tr m : Nat) : List (List Int) := (List.range (m + 2)).map fun s => (List.range m).map fun l => ((arT b tr m s l : Nat) : Int)
def arE (m : Nat) : List Bool := (List.range (m + 2)).map fun s => decide (s ≤ m)
theorem arN_len (b : Int) (tr m : Nat) : (arN b tr m).length = m + 2 := by simp [arN]
theorem arN_row {b : Int} {tr m s : Nat} (hs : s < m + 2) : (arN b tr m).getD s [] = (List.range m).map fun l => ((arT b tr m s l : Nat) : Int) := by simp [arN, List.getD, hs]
theorem arN_cell {b : Int} {tr m s l : Nat} (hs : s < m + 2) (hl : l < m) : ((arN b tr m).getD s []).getD l 0 = ((arT b tr m s l : Nat) : Int) := by rw [arN_row hs]; simp [List.getD, hl]
theorem arE_get {m s : Nat} (hs : s < m + 2) : (arE m).getD s false = decide (s ≤ m) := by simp [arE, List.getD, hs]
theorem arT_lt {b : Int} {tr m s l : Nat} (hl : l < m) : arT b tr m s l < m + 2 := by unfold arT; split; omega; split <;> omega
theorem ar_good (b : Int) (tr : Nat) {m : Nat} (h1 : 1 ≤ m) (h36 : m ≤ 36) : GoodN m (m + 2) (arN b tr m) := by
  refine ⟨arN_len _ _ _, by omega, by omega, h36, h1, fun s hs => ⟨by rw [arN_row hs]; simp, fun j hj => ?_⟩⟩
  rw [arN_cell hs hj]
  have := arT_lt (b := b) (tr := tr) (s := s) hj
  omega
/-- Has it gone wrong somewhere? -/
def badL (b : Int) (tr : Nat) : List Int → Bool
  | x :: y :: r => hitB b tr x y || badL b tr (y :: r)
  | _ => false
theorem badL_snoc (b : Int) (tr : Nat) (w : List Int) (x y : Int) : badL b tr (w ++ [x] ++ [y]) = (badL b tr (w ++ [x]) || hitB b tr x y) := by
  induction w with
  | nil => simp [badL]
  | cons z w ih =>
    cases w with
    | nil => simp [badL]
    | cons z' w =>
      show (hitB b tr z z' || badL b tr (z' :: w ++ [x] ++ [y])) = _
      rw [ih]
      show _ = ((hitB b tr z z' || badL b tr (z' :: w ++ [x])) || hitB b tr x y)
      rw [Bool.or_assoc]
theorem ar_step {b : Int} {tr m s : Nat} (hs : s < m + 2) {x : Int} (hx : 0 ≤ x ∧ x < (m : Int)) : stepL (arN b tr m) s x = arT b tr m s x.toNat := by
  unfold stepL
  rw [arN_cell hs (by omega), Int.toNat_natCast]
/-- Where a word leads. -/
theorem ar_run {b : Int} {tr m : Nat} (w : List Int) : okW m w → (badL b tr w = true → runL (arN b tr m) w = m + 1) ∧ (badL b tr w = false → (w = [] ∧ runL (arN b tr m) w = 0) ∨ ∃ v x, w = v ++ [x] ∧ runL (arN b tr m) w = x.toNat + 1) := by
  induction w using list_snoc_ind with
  | h0 => exact fun _ => ⟨fun h => by simp [badL] at h, fun _ => .inl ⟨rfl, rfl⟩⟩
  | h1 w y ih =>
    intro hw
    obtain ⟨hw1, hw2⟩ := okW_append.1 hw
    have hy := hw2 y (by simp)
    obtain ⟨i1, i2⟩ := ih hw1
    rw [runL_snoc]
    by_cases hb : badL b tr w = true
    · rw [i1 hb, ar_step (by omega) hy]
      have hbad : badL b tr (w ++ [y]) = true := by
        cases w using list_snoc_ind with
        | h0 => simp [badL] at hb
        | h1 v z _ => rw [badL_snoc, hb]; rfl
      refine ⟨fun _ => by unfold arT; rw [if_pos rfl], fun h => by rw [hbad] at h; cases h⟩
    · have hb' : badL b tr w = false := by simpa using hb
      rcases i2 hb' with ⟨rfl, h0⟩ | ⟨v, x, rfl, h1⟩
      · rw [h0, ar_step (by omega) hy]
        refine ⟨fun h => by simp [badL] at h, fun _ => .inr ⟨[], y, rfl, ?_⟩⟩
        unfold arT
        rw [if_neg (by omega), if_neg (by omega)]
      · have hx := hw1 x (by simp)
        rw [h1, ar_step (by omega) hy, badL_snoc, hb', Bool.false_or]
        have e1 : ((x.toNat + 1 : Nat) : Int) - 1 = x := by omega
        have e2 : ((y.toNat : Nat) : Int) = y := by omega
        unfold arT
        rw [if_neg (by omega), e1, e2]
        by_cases hh : hitB b tr x y = true
        · rw [if_pos ⟨by omega, hh⟩]
          exact ⟨fun _ => rfl, fun h => by rw [hh] at h; cases h⟩
        · rw [if_neg (fun h => hh h.2)]
          exact ⟨fun h => absurd h hh, fun _ => .inr ⟨v ++ [x], y, rfl, rfl⟩⟩
theorem ar_tk {b : Int} {tr m : Nat} {w : List Int} (hw : okW m w) : tkB (arN b tr m) (arE m) w = !badL b tr w := by
  obtain ⟨h1, h2⟩ := ar_run (b := b) (tr := tr) w hw
  unfold tkB
  cases hb : badL b tr w with
  | true =>
    rw [h1 hb, arE_get (by omega)]
    simp
  | false =>
    rcases h2 hb with ⟨_, h0⟩ | ⟨v, x, rfl, hr⟩
    · rw [h0, arE_get (by omega)]; simp
    · have hx := hw x (by simp)
      rw [hr, arE_get (by omega)]
      simp; omega
theorem ones_snoc (w : List Int) (x y : Int) : onesB (w ++ [x] ++ [y]) = (onesB (w ++ [x]) || (x == 1 && y == 1)) := by
  induction w with
  | nil => simp [onesB]
  | cons z w ih =>
    cases w with
    | nil => simp [onesB]
    | cons z' w =>
      show ((z == 1 && z' == 1) || onesB (z' :: w ++ [x] ++ [y])) = _
      rw [ih]
      show _ = (((z == 1 && z' == 1) || onesB (z' :: w ++ [x])) || (x == 1 && y == 1))
      rw [Bool.or_assoc]
/-- A word has not gone wrong, just if it is right. -/
theorem bad_right {b t : Int} {tr : Nat} (ht : t = (tr : Int)) (w : List Int) : (!badL b tr w) = rightW b t w := by
  subst ht
  have key : badL b tr w = (List.range tr).any fun k => decide (b = 1) && onesB (trackL b tr w k) := by
    induction w using list_snoc_ind with
    | h0 => simp [badL, trackL, onesB]
    | h1 w y ih =>
      cases w using list_snoc_ind with
      | h0 => simp [badL, trackL, onesB]
      | h1 v x _ =>
        rw [badL_snoc, ih]
        have e : ∀ k, onesB (trackL b tr (v ++ [x] ++ [y]) k) = (onesB (trackL b tr (v ++ [x]) k) || (dOf b tr x k == 1 && dOf b tr y k == 1)) := fun k => by
          have := ones_snoc (trackL b tr v k) (dOf b tr x k) (dOf b tr y k)
          simpa [trackL, List.map_append] using this
        rw [Bool.eq_iff_iff, Bool.or_eq_true]
        unfold hitB
        simp only [List.any_eq_true, Bool.and_eq_true, decide_eq_true_eq, e, Bool.or_eq_true, beq_iff_eq]
        constructor
        · rintro (⟨k, h1, h2, h3⟩ | ⟨k, h1, ⟨h2, h3⟩, h4⟩)
          · exact ⟨k, h1, h2, .inl h3⟩
          · exact ⟨k, h1, h2, .inr ⟨h3, h4⟩⟩
        · rintro ⟨k, h1, h2, h3 | ⟨h3, h4⟩⟩
          · exact .inl ⟨k, h1, h2, h3⟩
          · exact .inr ⟨k, h1, ⟨h2, h3⟩, h4⟩
  rw [key]
  unfold rightW tracksL rightB
  rw [Int.toNat_natCast, Bool.eq_iff_iff]
  simp only [Bool.not_eq_true', List.all_map, List.all_eq_true, Function.comp, Bool.or_eq_true, bne_iff_ne, ne_eq]
  rw [← Bool.not_eq_true, List.any_eq_true]
  constructor
  · intro h k hk
    by_cases hb : b = 1
    · refine .inr ?_
      cases ho : onesB (trackL b tr w k) with
      | false => rfl
      | true => exact absurd ⟨k, hk, by simp [hb] at ho ⊢; exact ho⟩ h
    · exact .inl hb
  · rintro h ⟨k, hk, hh⟩
    rw [Bool.and_eq_true, decide_eq_true_eq] at hh
    rcases h k hk with h1 | h1
    · exact h1 hh.1
    · rw [hh.2] at h1; cases h1

/-- All: the automaton. -/
def alN (b t : Int) : List (List Int) := if codeM b t = 0 then leastN (arN b t.toNat (manyU b t).toNat) (arE (manyU b t).toNat) (manyU b t).toNat else []
def alE (b t : Int) : List Bool := if codeM b t = 0 then leastE (arN b t.toNat (manyU b t).toNat) (arE (manyU b t).toNat) (manyU b t).toNat else []
/-- All's automaton, where there is one. -/
structure AlWell (b t : Int) (m : Nat) (MN : List (List Int)) (ME : List Bool) : Prop where
  auto : autoC b t MN MN.length = 0
  len : ME.length = MN.length
  good : GoodN m MN.length MN
  many : (manyU b t).toNat = m
  least : leastN MN ME m = MN ∧ leastE MN ME m = ME
  lang : ∀ w, okW m w → tkB MN ME w = rightW b t w
theorem manyU_bd {b t : Int} (h : codeM b t = 0) : 1 ≤ (manyU b t).toNat ∧ (manyU b t).toNat ≤ 36 := by
  obtain ⟨h1, h2, h3, h4, h5, h6⟩ := codeM_zero h
  have hk := kinds_bd2 b h2
  have hp : 1 ≤ pw (kindsI b) t.toNat := pw_pos _ (by omega) _
  omega
theorem al_well {b t : Int} (h : codeM b t = 0) : AlWell b t (manyU b t).toNat (alN b t) (alE b t) := by
  obtain ⟨m1, m36⟩ := manyU_bd h
  obtain ⟨h1, h2, h3, h4, h5, h6⟩ := codeM_zero h
  have hG := ar_good b t.toNat m1 m36
  have hLG := least_good hG (arE (manyU b t).toNat)
  have hK := leastK_80 hG (arE (manyU b t).toNat) (by omega)
  have e1 : alN b t = leastN (arN b t.toNat (manyU b t).toNat) (arE (manyU b t).toNat) (manyU b t).toNat := by unfold alN; rw [if_pos h]
  have e2 : alE b t = leastE (arN b t.toNat (manyU b t).toNat) (arE (manyU b t).toNat) (manyU b t).toNat := by unfold alE; rw [if_pos h]
  refine ⟨?_, by rw [e1, e2, leastN_len, leastE_len], by rw [e1, leastN_len]; exact hLG, rfl, by rw [e1, e2]; exact least_again hG _, fun w hw => ?_⟩
  · rw [e1, leastN_len]
    exact autoC_fine h hLG hK
  · rw [e1, e2, tk_least hG _ w hw, ar_tk hw]
    exact bad_right (by omega) w
end Go.Proofs.Ythadkoplbgibgaf

/- Mathematics of SomeOrder. -/
namespace Go.Proofs.Ythadkoplbgibgaf
open Go.RowKit

theorem how_or (x y : Bool) : howB 14 x y = (x || y) := by cases x <;> cases y <;> rfl
end Go.Proofs.Ythadkoplbgibgaf

/- Right words that are taken, and the others: mathematics of RightTakes. -/
namespace Go.Proofs.Ythadkoplbgibgaf
open Go.RowKit

theorem how_and (x y : Bool) : howB 8 x y = (x && y) := by cases x <;> cases y <;> rfl
end Go.Proofs.Ythadkoplbgibgaf

/- Sums of numbers: an automaton that counts along, cut off where it is too far; mathematics. -/
namespace Go.Proofs.Ythadkoplbgibgaf
open Go.RowKit

/-- The first k of coefficients, each times what stands beside it, together. -/
def sumT (C : List Int) (f : Nat → Int) : Nat → Int
  | 0 => 0
  | k + 1 => sumT C f k + C.getD k 0 * f k
/-- .. without signs. -/
def absI (x : Int) : Int := if x < 0 then -x else x
def absT (C : List Int) : Nat → Int
  | 0 => 0
  | k + 1 => absT C k + absI (C.getD k 0)
theorem absI_nn (x : Int) : 0 ≤ absI x := by unfold absI; split <;> omega
theorem absT_nn (C : List Int) (k : Nat) : 0 ≤ absT C k := by
  induction k with
  | zero => exact Int.le_refl 0
  | succ k ih => have := absI_nn (C.getD k 0); show 0 ≤ absT C k + absI (C.getD k 0); omega
theorem absT_mono (C : List Int) {j k : Nat} (h : j ≤ k) : absT C j ≤ absT C k := by
  induction k with
  | zero =>
    obtain rfl : j = 0 := by omega
    exact Int.le_refl _
  | succ k ih =>
    by_cases e : j = k + 1
    · subst e; exact Int.le_refl _
    · have := ih (by omega)
      have := absI_nn (C.getD k 0)
      show _ ≤ absT C k + absI (C.getD k 0)
      omega
theorem absT_at (C : List Int) {j k : Nat} (h : j < k) : absI (C.getD j 0) ≤ absT C k := by
  have h1 := absT_mono C (show j + 1 ≤ k from h)
  have h2 := absT_nn C j
  have h3 : absT C (j + 1) = absT C j + absI (C.getD j 0) := rfl
  omega
theorem mul_bd {x y D : Int} (h0 : 0 ≤ y) (h1 : y ≤ D) : -(absI x * D) ≤ x * y ∧ x * y ≤ absI x * D := by
  unfold absI
  by_cases h : x < 0
  · rw [if_pos h]
    have h2 : x * D ≤ x * y := Int.mul_le_mul_of_nonpos_left (by omega) h1
    have h3 : x * y ≤ 0 := Int.mul_nonpos_of_nonpos_of_nonneg (by omega) h0
    have h4 : -x * D = -(x * D) := Int.neg_mul _ _
    have h5 : x * D ≤ 0 := Int.mul_nonpos_of_nonpos_of_nonneg (by omega) (by omega)
    omega
  · rw [if_neg h]
    have h2 : x * y ≤ x * D := Int.mul_le_mul_of_nonneg_left h1 (by omega)
    have h3 : 0 ≤ x * y := Int.mul_nonneg (by omega) h0
    omega
theorem sumT_bd (C : List Int) (f : Nat → Int) (D : Int) (k : Nat) (hf : ∀ i, i < k → 0 ≤ f i ∧ f i ≤ D) : -(absT C k * D) ≤ sumT C f k ∧ sumT C f k ≤ absT C k * D := by
  induction k with
  | zero => simp [sumT, absT]
  | succ k ih =>
    have h1 := ih (fun i hi => hf i (by omega))
    have h2 := mul_bd (x := C.getD k 0) (hf k (by omega)).1 (hf k (by omega)).2
    have h3 : absT C (k + 1) * D = absT C k * D + absI (C.getD k 0) * D := Int.add_mul _ _ _
    have h4 : sumT C f (k + 1) = sumT C f k + C.getD k 0 * f k := rfl
    rw [h3, h4]
    omega
/-- What a letter adds. -/
def lsum (b : Int) (C : List Int) (l : Int) : Int := sumT C (dOf b C.length l) C.length
theorem lsum_bd {b : Int} {C : List Int} (h2 : b ≤ 6) (h12 : absT C C.length ≤ 12) (l : Int) : -(12 * (kindsI b - 1)) ≤ lsum b C l ∧ lsum b C l ≤ 12 * (kindsI b - 1) := by
  have h := sumT_bd C (dOf b C.length l) (kindsI b - 1) C.length (fun i _ => by have := dOf_bd b h2 C.length l i; omega)
  have hk : 1 ≤ kindsI b - 1 := by unfold kindsI; split <;> omega
  have h3 : absT C C.length * (kindsI b - 1) ≤ 12 * (kindsI b - 1) := Int.mul_le_mul_of_nonneg_right h12 (by omega)
  unfold lsum
  omega
/-- What was read, and, in Fibonacci's base, what it counts a place lower; a letter more. -/
def lnStep (b : Int) (p : Int × Int) (s : Int) : Int × Int := if b = 1 then (p.1 + p.2 + s, p.1 + s) else (p.1 * b + s, 0)
/-- It stays where it is, once it is too far off. -/
def lnCut (b : Int) (p : Int × Int) (s : Int) : Int × Int :=
  if p.1 = 108 ∨ p.1 = -108 then (p.1, 0) else if 108 ≤ (lnStep b p s).1 then (108, 0) else if (lnStep b p s).1 ≤ -108 then (-108, 0) else lnStep b p s
def LnIn (b : Int) (p : Int × Int) : Prop := (p.1 = 108 ∧ p.2 = 0) ∨ (p.1 = -108 ∧ p.2 = 0) ∨ (-107 ≤ p.1 ∧ p.1 ≤ 107 ∧ (b ≠ 1 → p.2 = 0) ∧ (b = 1 → -272 ≤ 13 * p.1 - 21 * p.2 ∧ 13 * p.1 - 21 * p.2 ≤ 272))
theorem lnIn_bd {b : Int} {p : Int × Int} (h : LnIn b p) : -108 ≤ p.1 ∧ p.1 ≤ 108 ∧ -108 ≤ p.2 ∧ p.2 ≤ 108 := by
  rcases h with h | h | ⟨h1, h2, h3, h4⟩
  · omega
  · omega
  · by_cases hb : b = 1
    · have := h4 hb; omega
    · have := h3 hb; omega
theorem lnCut_in {b : Int} {p : Int × Int} {s : Int} (h : LnIn b p) (hs : b = 1 → -12 ≤ s ∧ s ≤ 12) : LnIn b (lnCut b p s) := by
  unfold lnCut
  by_cases h0 : p.1 = 108 ∨ p.1 = -108
  · rw [if_pos h0]
    rcases h0 with h0 | h0
    · exact .inl ⟨h0, rfl⟩
    · exact .inr (.inl ⟨h0, rfl⟩)
  · rw [if_neg h0]
    by_cases h1 : 108 ≤ (lnStep b p s).1
    · rw [if_pos h1]; exact .inl ⟨rfl, rfl⟩
    · rw [if_neg h1]
      by_cases h2 : (lnStep b p s).1 ≤ -108
      · rw [if_pos h2]; exact .inr (.inl ⟨rfl, rfl⟩)
      · rw [if_neg h2]
        refine .inr (.inr ⟨by omega, by omega, fun hb => ?_, fun hb => ?_⟩)
        · unfold lnStep; rw [if_neg hb]
        · have hs' := hs hb
          unfold lnStep
          rw [if_pos hb]
          rcases h with h | h | ⟨h3, h4, h5, h6⟩
          · omega
          · omega
          · have := h6 hb
            show -272 ≤ 13 * (p.1 + p.2 + s) - 21 * (p.1 + s) ∧ 13 * (p.1 + p.2 + s) - 21 * (p.1 + s) ≤ 272
            omega
/-- What the cut one tells of the true one. -/
def LnRel (b : Int) (p P : Int × Int) : Prop := (p = P ∧ LnIn b p ∧ p.1 ≠ 108 ∧ p.1 ≠ -108) ∨ (p = (108, 0) ∧ 108 ≤ P.1 ∧ (b = 1 → 54 ≤ P.2)) ∨ (p = (-108, 0) ∧ P.1 ≤ -108 ∧ (b = 1 → P.2 ≤ -54))
theorem lnRel_step {b : Int} {p P : Int × Int} {s : Int} (h1 : 1 ≤ b) (h : LnRel b p P) (hs : -(12 * (kindsI b - 1)) ≤ s ∧ s ≤ 12 * (kindsI b - 1)) : LnRel b (lnCut b p s) (lnStep b P s) := by
  have hs1 : b = 1 → -12 ≤ s ∧ s ≤ 12 := fun hb => by
    have : kindsI b = 2 := by unfold kindsI; rw [if_pos (by omega)]
    omega
  have hs2 : b ≠ 1 → -(12 * (b - 1)) ≤ s ∧ s ≤ 12 * (b - 1) := fun hb => by
    have : kindsI b = b := by unfold kindsI; split <;> omega
    rw [this] at hs; exact hs
  rcases h with ⟨rfl, hin, hn1, hn2⟩ | ⟨rfl, hP, hY⟩ | ⟨rfl, hP, hY⟩
  · have hcut := lnCut_in hin hs1
    unfold lnCut at hcut ⊢
    rw [if_neg (by omega)] at hcut ⊢
    by_cases c1 : 108 ≤ (lnStep b p s).1
    · rw [if_pos c1]
      refine .inr (.inl ⟨rfl, c1, fun hb => ?_⟩)
      have := hs1 hb
      unfold lnStep at c1 ⊢
      rw [if_pos hb] at c1 ⊢
      rcases hin with h | h | ⟨h3, h4, h5, h6⟩
      · omega
      · omega
      · have := h6 hb
        change 108 ≤ p.1 + p.2 + s at c1
        show 54 ≤ p.1 + s
        omega
    · rw [if_neg c1] at hcut ⊢
      by_cases c2 : (lnStep b p s).1 ≤ -108
      · rw [if_pos c2]
        refine .inr (.inr ⟨rfl, c2, fun hb => ?_⟩)
        have := hs1 hb
        unfold lnStep at c2 ⊢
        rw [if_pos hb] at c2 ⊢
        rcases hin with h | h | ⟨h3, h4, h5, h6⟩
        · omega
        · omega
        · have := h6 hb
          change p.1 + p.2 + s ≤ -108 at c2
          show p.1 + s ≤ -54
          omega
      · rw [if_neg c2] at hcut ⊢
        exact .inl ⟨rfl, hcut, by omega, by omega⟩
  · have e : lnCut b (108, 0) s = (108, 0) := by unfold lnCut; rw [if_pos (.inl rfl)]
    rw [e]
    unfold lnStep
    by_cases hb : b = 1
    · rw [if_pos hb]
      have := hs1 hb
      have := hY hb
      exact .inr (.inl ⟨rfl, by show 108 ≤ P.1 + P.2 + s; omega, fun _ => by show 54 ≤ P.1 + s; omega⟩)
    · rw [if_neg hb]
      have := hs2 hb
      refine .inr (.inl ⟨rfl, ?_, fun h => absurd h hb⟩)
      show 108 ≤ P.1 * b + s
      have h3 : 108 * b ≤ P.1 * b := Int.mul_le_mul_of_nonneg_right hP (by omega)
      omega
  · have e : lnCut b (-108, 0) s = (-108, 0) := by unfold lnCut; rw [if_pos (.inr rfl)]
    rw [e]
    unfold lnStep
    by_cases hb : b = 1
    · rw [if_pos hb]
      have := hs1 hb
      have := hY hb
      exact .inr (.inr ⟨rfl, by show P.1 + P.2 + s ≤ -108; omega, fun _ => by show P.1 + s ≤ -54; omega⟩)
    · rw [if_neg hb]
      have := hs2 hb
      refine .inr (.inr ⟨rfl, ?_, fun h => absurd h hb⟩)
      show P.1 * b + s ≤ -108
      have h3 : P.1 * b ≤ -108 * b := Int.mul_le_mul_of_nonneg_right hP (by omega)
      omega
/-- Two numbers in one. -/
def spotN (p : Int × Int) : Nat := ((p.1 + 108) * 217 + p.2 + 108).toNat
def unspot (n : Nat) : Int × Int := (((n / 217 : Nat) : Int) - 108, ((n % 217 : Nat) : Int) - 108)
theorem unspot_spot {b : Int} {p : Int × Int} (h : LnIn b p) : unspot (spotN p) = p ∧ spotN p < 47089 := by
  have hb := lnIn_bd h
  obtain ⟨x, y⟩ := p
  simp only at hb
  have e : spotN (x, y) = (x + 108).toNat * 217 + (y + 108).toNat := by
    unfold spotN
    show ((x + 108) * 217 + y + 108).toNat = _
    omega
  refine ⟨?_, by rw [e]; omega⟩
  unfold unspot
  rw [e]
  have h1 : ((x + 108).toNat * 217 + (y + 108).toNat) / 217 = (x + 108).toNat := by omega
  have h2 : ((x + 108).toNat * 217 + (y + 108).toNat) % 217 = (y + 108).toNat := by omega
  rw [h1, h2]
  ext
  · show ((x + 108).toNat : Int) - 108 = x; omega
  · show ((y + 108).toNat : Int) - 108 = y; omega
def lnD (b : Int) (C : List Int) (s l : Nat) : Nat := spotN (lnCut b (unspot s) (lsum b C (l : Int)))
/-- The true numbers behind a word. -/
def lnRun (b : Int) (C : List Int) (w : List Int) : Int × Int := w.foldl (fun p l => lnStep b p (lsum b C l)) (0, 0)
theorem lnRun_snoc (b : Int) (C : List Int) (w : List Int) (l : Int) : lnRun b C (w ++ [l]) = lnStep b (lnRun b C w) (lsum b C l) := by simp [lnRun, List.foldl_append]
theorem zero_in (b : Int) : LnIn b (0, 0) := .inr (.inr ⟨by decide, by decide, fun _ => rfl, fun _ => by decide⟩)
theorem unspot_start : unspot 23544 = (0, 0) := by decide
/-- Where a word leads. -/
theorem ln_run {b : Int} {C : List Int} {m : Nat} (h1 : 1 ≤ b) (h2 : b ≤ 6) (h12 : absT C C.length ≤ 12) (w : List Int) : okW m w → LnIn b (unspot (runG (lnD b C) 23544 w)) ∧ LnRel b (unspot (runG (lnD b C) 23544 w)) (lnRun b C w) ∧ runG (lnD b C) 23544 w < 47089 := by
  induction w using list_snoc_ind with
  | h0 =>
    intro _
    have e : runG (lnD b C) 23544 [] = 23544 := rfl
    rw [e, unspot_start]
    exact ⟨zero_in b, .inl ⟨rfl, zero_in b, by decide, by decide⟩, by decide⟩
  | h1 w y ih =>
    intro hw
    obtain ⟨hw1, hw2⟩ := okW_append.1 hw
    have hy := hw2 y (by simp)
    obtain ⟨i1, i2, -⟩ := ih hw1
    have hs := lsum_bd h2 h12 y
    have hs1 : b = 1 → -12 ≤ lsum b C y ∧ lsum b C y ≤ 12 := fun hb => by
      have : kindsI b = 2 := by unfold kindsI; rw [if_pos (by omega)]
      omega
    have hc := lnCut_in i1 hs1
    have hu := unspot_spot hc
    have ey : ((y.toNat : Nat) : Int) = y := by omega
    rw [runG_snoc, lnRun_snoc]
    unfold lnD at i1 i2 hc hu ⊢
    rw [ey]
    rw [hu.1]
    exact ⟨hc, lnRel_step h1 i2 hs, hu.2⟩
def lnEnd (c : Int) (less : Bool) (x : Int) : Bool := if less = true then decide (x + c < 0) else decide (x + c = 0)
theorem lnRel_end {b : Int} {p P : Int × Int} (h : LnRel b p P) {c : Int} (hc : -60 ≤ c ∧ c ≤ 60) (less : Bool) : lnEnd c less p.1 = lnEnd c less P.1 := by
  rcases h with ⟨rfl, -⟩ | ⟨rfl, hP, -⟩ | ⟨rfl, hP, -⟩
  · rfl
  · unfold lnEnd
    cases less
    · simp only [Bool.false_eq_true, if_false]
      rw [decide_eq_false (by show ¬ (108 + c = 0); omega), decide_eq_false (by omega)]
    · simp only [if_true]
      rw [decide_eq_false (by show ¬ (108 + c < 0); omega), decide_eq_false (by omega)]
  · unfold lnEnd
    cases less
    · simp only [Bool.false_eq_true, if_false]
      rw [decide_eq_false (by show ¬ (-108 + c = 0); omega), decide_eq_false (by omega)]
    · simp only [if_true]
      rw [decide_eq_true (by show -108 + c < 0; omega), decide_eq_true (by omega)]
end Go.Proofs.Ythadkoplbgibgaf

/- Sums of numbers: what line.Of hands back; mathematics. -/
namespace Go.Proofs.Ythadkoplbgibgaf
open Go.RowKit

def lnM (b : Int) (C : List Int) : Nat := (manyU b (C.length : Int)).toNat
/-- What comes up. -/
def lnL (b : Int) (C : List Int) : List Nat := outG (lnD b C) (lnM b C) 23544 47089
def lnGN (b : Int) (C : List Int) : List (List Int) := gN (lnD b C) (lnM b C) (lnL b C)
def lnGE (b : Int) (C : List Int) (c : Int) (less : Bool) : List Bool := gE (fun s => lnEnd c less (unspot s).1) (lnL b C)
/-- .. of right words alone. -/
def lnP (b : Int) (C : List Int) : List (List Int) := prodN (lnGN b C) (alN b (C.length : Int)) (lnM b C)
def lnQ (b : Int) (C : List Int) (c : Int) (less : Bool) : List Bool := prodE 8 (lnGN b C).length (alN b (C.length : Int)).length (lnGE b C c less) (alE b (C.length : Int))
/-- The fault. -/
def lnF (b : Int) (C : List Int) (c : Int) : Int := if codeM b (C.length : Int) = 0 then (if absT C C.length ≤ 12 ∧ -60 ≤ c ∧ c ≤ 60 then 0 else 1) else codeM b (C.length : Int)
def lnC (b : Int) (C : List Int) (c : Int) (less : Bool) : Int := if lnF b C c = 0 then (if leastK (lnP b C) (lnQ b C c less) (lnM b C) ≤ 80 then 0 else 3) else lnF b C c
def lnN (b : Int) (C : List Int) (c : Int) (less : Bool) : List (List Int) := if lnC b C c less = 0 then leastN (lnP b C) (lnQ b C c less) (lnM b C) else []
def lnE (b : Int) (C : List Int) (c : Int) (less : Bool) : List Bool := if lnC b C c less = 0 then leastE (lnP b C) (lnQ b C c less) (lnM b C) else []
theorem lnF_zero {b : Int} {C : List Int} {c : Int} (h : lnF b C c = 0) : codeM b (C.length : Int) = 0 ∧ absT C C.length ≤ 12 ∧ -60 ≤ c ∧ c ≤ 60 := by
  unfold lnF at h
  by_cases h1 : codeM b (C.length : Int) = 0
  · rw [if_pos h1] at h
    by_cases h2 : absT C C.length ≤ 12 ∧ -60 ≤ c ∧ c ≤ 60
    · exact ⟨h1, h2⟩
    · rw [if_neg h2] at h; omega
  · rw [if_neg h1] at h; exact absurd h h1
theorem lnC_zero {b : Int} {C : List Int} {c : Int} {less : Bool} (h : lnC b C c less = 0) : lnF b C c = 0 ∧ leastK (lnP b C) (lnQ b C c less) (lnM b C) ≤ 80 := by
  unfold lnC at h
  by_cases h1 : lnF b C c = 0
  · rw [if_pos h1] at h
    by_cases h2 : leastK (lnP b C) (lnQ b C c less) (lnM b C) ≤ 80
    · exact ⟨h1, h2⟩
    · rw [if_neg h2] at h; omega
  · rw [if_neg h1] at h; exact absurd h h1
theorem outG_few {d : Nat → Nat → Nat} {m f B : Nat} (h : ∀ w, okW m w → runG d f w < B) (i : Nat) : (outG d m f i).length ≤ B := by
  have := nodup_sub (K := List.range B) (outG_nodup d m f i) (fun x hx => by
    obtain ⟨w, hw, rfl⟩ := outG_reach hx
    exact List.mem_range.2 (h w hw))
  rwa [List.length_range] at this
theorem outG_done {d : Nat → Nat → Nat} {m f B : Nat} (h : ∀ w, okW m w → runG d f w < B) : ClosedG d m (outG d m f B) ∧ 0 < (outG d m f B).length ∧ (outG d m f B).length ≤ B ∧ (outG d m f B).getD 0 0 = f :=
  ⟨outG_closed (outG_few h B), (outG_pos d m f B).1, outG_few h B, (outG_pos d m f B).2⟩
theorem lnL_ok {b : Int} {C : List Int} (h1 : 1 ≤ b) (h2 : b ≤ 6) (h12 : absT C C.length ≤ 12) : ClosedG (lnD b C) (lnM b C) (lnL b C) ∧ 0 < (lnL b C).length ∧ (lnL b C).length ≤ 47089 ∧ (lnL b C).getD 0 0 = 23544 := by
  have := outG_done (d := lnD b C) (m := lnM b C) (f := 23544) (B := 47089) (fun w hw => (ln_run h1 h2 h12 w hw).2.2)
  unfold lnL
  exact this
/-- The words that are asked for. -/
def lineW (b : Int) (C : List Int) (c : Int) (less : Bool) (w : List Int) : Bool := rightW b (C.length : Int) w && lnEnd c less (lnRun b C w).1
theorem lnG_good {b : Int} {C : List Int} (h1 : 1 ≤ b) (h2 : b ≤ 6) (h12 : absT C C.length ≤ 12) (hM : codeM b (C.length : Int) = 0) : GoodN (lnM b C) (lnGN b C).length (lnGN b C) := by
  obtain ⟨m1, m36⟩ := manyU_bd hM
  obtain ⟨k1, k2, k3, k4⟩ := lnL_ok h1 h2 h12
  have h := gN_good k1 k2 (by omega) m1 m36
  have e : (lnGN b C).length = (lnL b C).length := gN_len _ _ _
  rw [e]
  exact h
theorem lnG_tk {b : Int} {C : List Int} {c : Int} (h1 : 1 ≤ b) (h2 : b ≤ 6) (h12 : absT C C.length ≤ 12) (hc : -60 ≤ c ∧ c ≤ 60) (less : Bool) (w : List Int) (hw : okW (lnM b C) w) : tkB (lnGN b C) (lnGE b C c less) w = lnEnd c less (lnRun b C w).1 := by
  obtain ⟨k1, k2, k3, k4⟩ := lnL_ok h1 h2 h12
  have h := gN_tk (p := fun s => lnEnd c less (unspot s).1) k1 k2 w hw
  rw [k4] at h
  have hr := (ln_run h1 h2 h12 w hw).2.1
  rw [← lnRel_end hr hc less]
  exact h
theorem lnP_ok {b : Int} {C : List Int} {c : Int} (h : lnF b C c = 0) (less : Bool) : GoodN (lnM b C) ((lnGN b C).length * (alN b (C.length : Int)).length) (lnP b C) ∧ ∀ w, okW (lnM b C) w → tkB (lnP b C) (lnQ b C c less) w = lineW b C c less w := by
  obtain ⟨hM, h12, hc⟩ := lnF_zero h
  obtain ⟨h1, h2, -⟩ := codeM_zero hM
  have hL := al_well hM
  have hG := lnG_good h1 h2 h12 hM
  have hG2 : GoodN (lnM b C) (alN b (C.length : Int)).length (alN b (C.length : Int)) := hL.good
  have k3 := (lnL_ok h1 h2 h12).2.2.1
  have e : (lnGN b C).length = (lnL b C).length := gN_len _ _ _
  have h80 := autoC_80 hL.auto
  have hn : (lnGN b C).length * (alN b (C.length : Int)).length ≤ 4000000 := Nat.le_trans (Nat.mul_le_mul (by rw [e]; exact k3) h80) (by decide)
  refine ⟨prod_good hG hG2 hn, fun w hw => ?_⟩
  have hp := prod_takes hG hG2 8 (lnGE b C c less) (alE b (C.length : Int)) w hw
  have h3 := lnG_tk h1 h2 h12 hc less w hw
  have h4 := hL.lang w hw
  unfold tkB at h3 h4
  rw [h3, h4, how_and, Bool.and_comm] at hp
  exact hp
/-- What line.Of hands back, where all is well. -/
structure LnWell (b : Int) (C : List Int) (c : Int) (less : Bool) (m : Nat) (MN : List (List Int)) (ME : List Bool) : Prop where
  auto : autoC b (C.length : Int) MN MN.length = 0
  len : ME.length = MN.length
  good : GoodN m MN.length MN
  many : (manyU b (C.length : Int)).toNat = m
  least : leastN MN ME m = MN ∧ leastE MN ME m = ME
  lang : ∀ w, okW m w → tkB MN ME w = lineW b C c less w
theorem ln_well {b : Int} {C : List Int} {c : Int} {less : Bool} (h : lnC b C c less = 0) : LnWell b C c less (lnM b C) (lnN b C c less) (lnE b C c less) := by
  obtain ⟨hF, hK⟩ := lnC_zero h
  obtain ⟨hM, -, -⟩ := lnF_zero hF
  obtain ⟨hG, hl⟩ := lnP_ok hF less
  have e1 : lnN b C c less = leastN (lnP b C) (lnQ b C c less) (lnM b C) := by unfold lnN; rw [if_pos h]
  have e2 : lnE b C c less = leastE (lnP b C) (lnQ b C c less) (lnM b C) := by unfold lnE; rw [if_pos h]
  have hLG := least_good hG (lnQ b C c less)
  rw [e1, e2]
  refine ⟨?_, by rw [leastE_len, leastN_len], by rw [leastN_len]; exact hLG, rfl, least_again hG _, fun w hw => by rw [tk_least hG _ w hw]; exact hl w hw⟩
  rw [leastN_len]
  exact autoC_good hM hLG hK
/-- Whatever takes these words has this least automaton. -/
theorem ln_same {b : Int} {C : List Int} {c : Int} {less : Bool} (h : lnF b C c = 0) {n : Nat} {N : List (List Int)} {E : List Bool} (hG : GoodN (lnM b C) n N) (hl : ∀ w, okW (lnM b C) w → tkB N E w = lineW b C c less w) : leastN N E (lnM b C) = leastN (lnP b C) (lnQ b C c less) (lnM b C) ∧ leastE N E (lnM b C) = leastE (lnP b C) (lnQ b C c less) (lnM b C) := by
  obtain ⟨hP, hlP⟩ := lnP_ok h less
  refine least_same hG hP E _ fun w hw => ?_
  have h1 := hl w hw
  have h2 := hlP w hw
  unfold tkB at h1 h2
  rw [h1, h2]
/-- .. so that it is found, if it is small. -/
theorem ln_of {b : Int} {C : List Int} {c : Int} {less : Bool} (h : lnF b C c = 0) {MN : List (List Int)} {ME : List Bool} (hG : GoodN (lnM b C) MN.length MN) (h80 : MN.length ≤ 80) (hle : leastN MN ME (lnM b C) = MN ∧ leastE MN ME (lnM b C) = ME) (hl : ∀ w, okW (lnM b C) w → tkB MN ME w = lineW b C c less w) :
    lnC b C c less = 0 ∧ lnN b C c less = MN ∧ lnE b C c less = ME := by
  obtain ⟨s1, s2⟩ := ln_same h hG hl
  rw [hle.1] at s1
  rw [hle.2] at s2
  have hC : lnC b C c less = 0 := by
    unfold lnC
    rw [if_pos h, if_pos]
    rw [← leastN_len, ← s1]
    exact h80
  refine ⟨hC, ?_, ?_⟩
  · unfold lnN; rw [if_pos hC]; exact s1.symm
  · unfold lnE; rw [if_pos hC]; exact s2.symm
end Go.Proofs.Ythadkoplbgibgaf

/- A sum with all signs exchanged; above, below, or 0: mathematics of LineParts, in part. -/
namespace Go.Proofs.Ythadkoplbgibgaf
open Go.RowKit

def negL (C : List Int) : List Int := C.map fun x => -x
theorem negL_len (C : List Int) : (negL C).length = C.length := by simp [negL]
theorem negL_get (C : List Int) (k : Nat) : (negL C).getD k 0 = -(C.getD k 0) := by
  by_cases h : k < C.length
  · simp [negL, List.getD, h]
  · simp [negL, List.getD, h]
theorem sumT_neg (C : List Int) (f : Nat → Int) (k : Nat) : sumT (negL C) f k = -(sumT C f k) := by
  induction k with
  | zero => rfl
  | succ k ih =>
    show sumT (negL C) f k + (negL C).getD k 0 * f k = -(sumT C f k + C.getD k 0 * f k)
    rw [ih, negL_get, Int.neg_mul]
    omega
theorem absI_neg (x : Int) : absI (-x) = absI x := by unfold absI; split <;> split <;> omega
theorem absT_neg (C : List Int) (k : Nat) : absT (negL C) k = absT C k := by
  induction k with
  | zero => rfl
  | succ k ih =>
    show absT (negL C) k + absI ((negL C).getD k 0) = absT C k + absI (C.getD k 0)
    rw [ih, negL_get, absI_neg]
theorem lsum_neg (b : Int) (C : List Int) (l : Int) : lsum b (negL C) l = -(lsum b C l) := by
  unfold lsum
  rw [negL_len, sumT_neg]
theorem lnRun_neg (b : Int) (C : List Int) (w : List Int) : lnRun b (negL C) w = (-(lnRun b C w).1, -(lnRun b C w).2) := by
  induction w using list_snoc_ind with
  | h0 => rfl
  | h1 w y ih =>
    rw [lnRun_snoc, lnRun_snoc, ih, lsum_neg]
    unfold lnStep
    by_cases hb : b = 1
    · rw [if_pos hb, if_pos hb]
      refine Prod.ext ?_ ?_
      · show -(lnRun b C w).1 + -(lnRun b C w).2 + -(lsum b C y) = -((lnRun b C w).1 + (lnRun b C w).2 + lsum b C y)
        omega
      · show -(lnRun b C w).1 + -(lsum b C y) = -((lnRun b C w).1 + lsum b C y)
        omega
    · rw [if_neg hb, if_neg hb]
      refine Prod.ext ?_ ?_
      · show -(lnRun b C w).1 * b + -(lsum b C y) = -((lnRun b C w).1 * b + lsum b C y)
        rw [Int.neg_mul]
        omega
      · rfl
theorem lnM_neg (b : Int) (C : List Int) : lnM b (negL C) = lnM b C := by unfold lnM; rw [negL_len]
theorem lnF_neg (b : Int) (C : List Int) (c : Int) : lnF b (negL C) (-c) = lnF b C c := by
  unfold lnF
  rw [negL_len, absT_neg]
  by_cases h : codeM b (C.length : Int) = 0
  · rw [if_pos h, if_pos h]
    by_cases h2 : absT C C.length ≤ 12 ∧ -60 ≤ c ∧ c ≤ 60
    · rw [if_pos h2, if_pos (by omega)]
    · rw [if_neg h2, if_neg (by omega)]
  · rw [if_neg h, if_neg h]
/-- 0 with either sign. -/
theorem lineW_neg0 (b : Int) (C : List Int) (c : Int) (w : List Int) : lineW b (negL C) (-c) false w = lineW b C c false w := by
  unfold lineW lnEnd
  rw [negL_len, lnRun_neg]
  simp only [Bool.false_eq_true, if_false]
  congr 2
  apply propext
  omega
theorem ln_neg (b : Int) (C : List Int) (c : Int) : lnC b (negL C) (-c) false = lnC b C c false ∧ lnN b (negL C) (-c) false = lnN b C c false ∧ lnE b (negL C) (-c) false = lnE b C c false := by
  by_cases hF : lnF b C c = 0
  · have hF2 : lnF b (negL C) (-c) = 0 := by rw [lnF_neg]; exact hF
    obtain ⟨hG, hl⟩ := lnP_ok hF2 false
    rw [lnM_neg] at hG hl
    obtain ⟨s1, s2⟩ := ln_same (C := C) (c := c) (less := false) hF hG (fun w hw => by rw [hl w hw, lineW_neg0])
    have hK : leastK (lnP b (negL C)) (lnQ b (negL C) (-c) false) (lnM b C) = leastK (lnP b C) (lnQ b C c false) (lnM b C) := by rw [← leastN_len, ← leastN_len, s1]
    have hC : lnC b (negL C) (-c) false = lnC b C c false := by
      unfold lnC
      rw [if_pos hF, if_pos hF2, lnM_neg, hK]
    refine ⟨hC, ?_, ?_⟩
    · unfold lnN; rw [hC, lnM_neg, s1]
    · unfold lnE; rw [hC, lnM_neg, s2]
  · have hC : lnC b C c false ≠ 0 := by unfold lnC; rw [if_neg hF]; exact hF
    have hC2 : lnC b (negL C) (-c) false = lnC b C c false := by unfold lnC; rw [lnF_neg, if_neg hF, if_neg hF]
    unfold lnN lnE
    rw [hC2, if_neg hC, if_neg hC, if_neg hC, if_neg hC]
    exact ⟨rfl, rfl, rfl⟩
/-- Each right word is of just one of the three. -/
theorem line_three (b : Int) (C : List Int) (c : Int) (w : List Int) :
    (lineW b C c false w || lineW b C c true w || lineW b (negL C) (-c) true w) = rightW b (C.length : Int) w ∧ (lineW b C c false w && lineW b C c true w) = false ∧ ((lineW b C c false w || lineW b C c true w) && lineW b (negL C) (-c) true w) = false := by
  unfold lineW lnEnd
  rw [negL_len, lnRun_neg]
  simp only [Bool.false_eq_true, if_false, if_true]
  generalize (lnRun b C w).1 = X
  cases rightW b (C.length : Int) w
  · simp
  · simp only [Bool.true_and]
    by_cases h0 : X + c = 0
    · rw [decide_eq_true h0, decide_eq_false (by omega), decide_eq_false (by omega)]; simp
    · by_cases h1 : X + c < 0
      · rw [decide_eq_false h0, decide_eq_true h1, decide_eq_false (by omega)]; simp
      · rw [decide_eq_false h0, decide_eq_false h1, decide_eq_true (by omega)]; simp
end Go.Proofs.Ythadkoplbgibgaf

/- What package right answers. -/
namespace Go.Proofs.Ythadkoplbgibgaf
open Go.RowKit

/-- What right.All, Only and Flip answer, at whatever they are given. -/
def AllSays : Prop := ∀ (b t : Int) (W : World), Calls Try.prog 6 #[.int .i64 b, .int .i64 t] W (PairR W (okI (codeM b t) b) (okI (codeM b t) t) (alN b t) (alE b t) (codeM b t))
/-- What was handed back, in the box that it is put into. -/
theorem autoAt_pair {w W : World} {b t : Int} {a : Option Addr} {n c : Nat} {a' : Option Addr} {c' : Nat} {N : List (List Int)} {E : List Bool} (T : TypeId) (h : AutoNew w a n N a' E W) : AutoAt (W.alloc (.cells #[.int .i64 b, .int .i64 t, .slice a n c, .slice a' n c'] T)) W.heap.size b t a n c a' n c' N E ∧ Below W.heap.size W (W.alloc (.cells #[.int .i64 b, .int .i64 t, .slice a n c, .slice a' n c'] T)) :=
  ⟨autoAt_new h.here.1 h.here.2, (Below.refl _ _).alloc (Nat.le_refl _) _⟩
end Go.Proofs.Ythadkoplbgibgaf

/- What package line answers. -/
namespace Go.Proofs.Ythadkoplbgibgaf
open Go.RowKit

/-- What package line answers. -/
def LineSays : Prop := ∀ (b : Int) (a : Option Addr) (n cap : Nat) (C : List Int) (c : Int) (less : Bool) (W : World), Sl W a n C → Calls Try.prog 5 #[.int .i64 b, .slice a n cap, .int .i64 c, .bool less] W (PairR W (okI (lnC b C c less) b) (okI (lnC b C c less) (n : Int)) (lnN b C c less) (lnE b C c less) (lnC b C c less))
theorem mul_far {C : List Int} (h12 : absT C C.length ≤ 12) {k : Nat} (hk : k < C.length) {y : Int} (h0 : 0 ≤ y) (h1 : y ≤ 1099511627776) : -13194139533312 ≤ C.getD k 0 * y ∧ C.getD k 0 * y ≤ 13194139533312 := by
  have h := mul_bd (x := C.getD k 0) h0 h1
  have h2 := absT_at C hk
  have h3 : absI (C.getD k 0) * 1099511627776 ≤ 13194139533312 := by omega
  omega
end Go.Proofs.Ythadkoplbgibgaf

/- Sums of numbers: what was read counts what the tracks count; mathematics of LineMeans. -/
namespace Go.Proofs.Ythadkoplbgibgaf
open Go.RowKit

/-- A row of digits, and, in Fibonacci's base, what it counts a place lower. -/
def vlStep (b : Int) (p : Int × Int) (x : Int) : Int × Int := if b = 1 then (p.1 + p.2 + x, p.1 + x) else (p.1 * b + x, 0)
def vlRun (b : Int) (l : List Int) : Int × Int := l.foldl (vlStep b) (0, 0)
theorem vlRun_snoc (b : Int) (l : List Int) (x : Int) : vlRun b (l ++ [x]) = vlStep b (vlRun b l) x := by simp [vlRun, List.foldl_append]
theorem sumT_add (C : List Int) (f g : Nat → Int) (k : Nat) : sumT C (fun i => f i + g i) k = sumT C f k + sumT C g k := by
  induction k with
  | zero => rfl
  | succ k ih =>
    show sumT C (fun i => f i + g i) k + C.getD k 0 * (f k + g k) = (sumT C f k + C.getD k 0 * f k) + (sumT C g k + C.getD k 0 * g k)
    rw [ih, Int.mul_add]
    omega
theorem sumT_mul (C : List Int) (f : Nat → Int) (b : Int) (k : Nat) : sumT C (fun i => f i * b) k = sumT C f k * b := by
  induction k with
  | zero => show (0 : Int) = 0 * b; omega
  | succ k ih =>
    show sumT C (fun i => f i * b) k + C.getD k 0 * (f k * b) = (sumT C f k + C.getD k 0 * f k) * b
    rw [ih, Int.add_mul, Int.mul_assoc]
theorem sumT_zero (C : List Int) (k : Nat) : sumT C (fun _ => 0) k = 0 := by
  induction k with
  | zero => rfl
  | succ k ih =>
    show sumT C (fun _ => 0) k + C.getD k 0 * 0 = 0
    rw [ih]; omega
theorem sumT_congr {C : List Int} {f g : Nat → Int} {k : Nat} (h : ∀ i, i < k → f i = g i) : sumT C f k = sumT C g k := by
  induction k with
  | zero => rfl
  | succ k ih =>
    show sumT C f k + C.getD k 0 * f k = sumT C g k + C.getD k 0 * g k
    rw [ih (fun i hi => h i (by omega)), h k (by omega)]
theorem trackL_snoc (b : Int) (t : Nat) (w : List Int) (y : Int) (i : Nat) : trackL b t (w ++ [y]) i = trackL b t w i ++ [dOf b t y i] := by simp [trackL]
/-- All tracks together. -/
theorem ln_tracks (b : Int) (C : List Int) (w : List Int) : lnRun b C w = (sumT C (fun i => (vlRun b (trackL b C.length w i)).1) C.length, sumT C (fun i => (vlRun b (trackL b C.length w i)).2) C.length) := by
  induction w using list_snoc_ind with
  | h0 =>
    have e : ∀ i, vlRun b (trackL b C.length [] i) = (0, 0) := fun i => rfl
    simp only [e]
    rw [sumT_zero]
    rfl
  | h1 w y ih =>
    rw [lnRun_snoc, ih]
    have e : ∀ i, vlRun b (trackL b C.length (w ++ [y]) i) = vlStep b (vlRun b (trackL b C.length w i)) (dOf b C.length y i) := fun i => by rw [trackL_snoc, vlRun_snoc]
    simp only [e]
    unfold lnStep vlStep lsum
    by_cases hb : b = 1
    · simp only [if_pos hb]
      rw [sumT_add C (fun i => (vlRun b (trackL b C.length w i)).1 + (vlRun b (trackL b C.length w i)).2) (dOf b C.length y), sumT_add, sumT_add C (fun i => (vlRun b (trackL b C.length w i)).1) (dOf b C.length y)]
    · simp only [if_neg hb]
      rw [sumT_add C (fun i => (vlRun b (trackL b C.length w i)).1 * b) (dOf b C.length y), sumT_mul, sumT_zero]
end Go.Proofs.Ythadkoplbgibgaf

/- A sum with its tracks in the other order: mathematics of LineParts, in part. -/
namespace Go.Proofs.Ythadkoplbgibgaf
open Go.RowKit

def sumN (g : Nat → Int) : Nat → Int
  | 0 => 0
  | k + 1 => sumN g k + g k
theorem sumN_congr {g h : Nat → Int} {k : Nat} (e : ∀ i, i < k → g i = h i) : sumN g k = sumN h k := by
  induction k with
  | zero => rfl
  | succ k ih =>
    show sumN g k + g k = sumN h k + h k
    rw [ih (fun i hi => e i (by omega)), e k (by omega)]
theorem sumN_first (g : Nat → Int) (n : Nat) : sumN g (n + 1) = g 0 + sumN (fun i => g (i + 1)) n := by
  induction n with
  | zero => show 0 + g 0 = g 0 + 0; omega
  | succ n ih =>
    have h1 : sumN g (n + 1 + 1) = sumN g (n + 1) + g (n + 1) := rfl
    have h2 : sumN (fun i => g (i + 1)) (n + 1) = sumN (fun i => g (i + 1)) n + g (n + 1) := rfl
    rw [h1, h2, ih]
    omega
theorem sumN_rev (n : Nat) : ∀ g : Nat → Int, sumN (fun i => g (n - 1 - i)) n = sumN g n := by
  induction n with
  | zero => exact fun _ => rfl
  | succ n ih =>
    intro g
    have h1 : sumN (fun i => g (n + 1 - 1 - i)) (n + 1) = sumN (fun i => g (n + 1 - 1 - i)) n + g (n + 1 - 1 - n) := rfl
    have h2 : sumN (fun i => g (n + 1 - 1 - i)) n = sumN (fun i => (fun j => g (j + 1)) (n - 1 - i)) n := sumN_congr fun i hi => by
      show g (n + 1 - 1 - i) = g (n - 1 - i + 1)
      congr 1
      omega
    rw [h1, h2, ih (fun j => g (j + 1)), sumN_first, show n + 1 - 1 - n = 0 by omega]
    omega
theorem sumT_N (C : List Int) (f : Nat → Int) (k : Nat) : sumT C f k = sumN (fun i => C.getD i 0 * f i) k := by
  induction k with
  | zero => rfl
  | succ k ih =>
    show sumT C f k + C.getD k 0 * f k = sumN (fun i => C.getD i 0 * f i) k + C.getD k 0 * f k
    rw [ih]
theorem rev_get {C : List Int} {i : Nat} (hi : i < C.length) : C.reverse.getD i 0 = C.getD (C.length - 1 - i) 0 := by
  have h2 : C.length - 1 - i < C.length := by omega
  simp [List.getD, hi, h2]
/-- Both in the other order: the same sum. -/
theorem sumT_rev (C : List Int) (f : Nat → Int) : sumT C.reverse (fun i => f (C.length - 1 - i)) C.length = sumT C f C.length := by
  rw [sumT_N, sumT_N, ← sumN_rev C.length (fun i => C.getD i 0 * f i)]
  exact sumN_congr fun i hi => by
    show C.reverse.getD i 0 * f (C.length - 1 - i) = C.getD (C.length - 1 - i) 0 * f (C.length - 1 - i)
    rw [rev_get hi]
theorem absT_rev (C : List Int) : absT C.reverse C.length = absT C C.length := by
  have h : ∀ (D : List Int) (k : Nat), absT D k = sumN (fun i => absI (D.getD i 0)) k := fun D k => by
    induction k with
    | zero => rfl
    | succ k ih =>
      show absT D k + absI (D.getD k 0) = sumN (fun i => absI (D.getD i 0)) k + absI (D.getD k 0)
      rw [ih]
  rw [h, h, ← sumN_rev C.length (fun i => absI (C.getD i 0))]
  exact sumN_congr fun i hi => by
    show absI (C.reverse.getD i 0) = absI (C.getD (C.length - 1 - i) 0)
    rw [rev_get hi]
theorem lnF_rev (b : Int) (C : List Int) (c : Int) : lnF b C.reverse c = lnF b C c := by
  unfold lnF
  rw [List.length_reverse, absT_rev]
/-- Words whose tracks are one another's, in the other order, have the same sum. -/
theorem lnRun_rev (b : Int) (C : List Int) {w v : List Int} (h : ∀ i, i < C.length → trackL b C.length v i = trackL b C.length w (C.length - 1 - i)) : lnRun b C.reverse v = lnRun b C w := by
  rw [ln_tracks, ln_tracks, List.length_reverse]
  have e1 : sumT C.reverse (fun i => (vlRun b (trackL b C.length v i)).1) C.length = sumT C (fun i => (vlRun b (trackL b C.length w i)).1) C.length := by
    rw [← sumT_rev C (fun i => (vlRun b (trackL b C.length w i)).1)]
    exact sumT_congr fun i hi => by rw [h i hi]
  have e2 : sumT C.reverse (fun i => (vlRun b (trackL b C.length v i)).2) C.length = sumT C (fun i => (vlRun b (trackL b C.length w i)).2) C.length := by
    rw [← sumT_rev C (fun i => (vlRun b (trackL b C.length w i)).2)]
    exact sumT_congr fun i hi => by rw [h i hi]
  rw [e1, e2]
end Go.Proofs.Ythadkoplbgibgaf

/- A sum with its tracks in the other order: its automaton is the other one's, relettered; mathematics of LineParts. -/
namespace Go.Proofs.Ythadkoplbgibgaf
open Go.RowKit

def revAt (n : Nat) : List Int := (List.range n).map fun i : Nat => ((n - 1 - i : Nat) : Int)
theorem revAt_len (n : Nat) : (revAt n).length = n := by simp [revAt]
theorem revAt_get {n i : Nat} (hi : i < n) : (revAt n).getD i 0 = ((n - 1 - i : Nat) : Int) := by simp [revAt, List.getD, hi]
theorem rev_digit {b : Int} (h2 : b ≤ 6) {n m : Nat} {x : Int} (h0 : 0 ≤ x) (hx : x < (m : Int)) {i : Nat} (hi : i < n) : dOf b n ((spreadT b n (revAt n) m).getD x.toNat 0) i = dOf b n x (n - 1 - i) := by
  have hl : (spreadD b n (revAt n) x).length = n := by simp [spreadD, revAt_len]
  have h := dOf_pack b h2 (spreadD b n (revAt n) x) (spreadD_bd b h2 n (revAt n) x) i (by rw [hl]; exact hi)
  rw [hl] at h
  rw [spread_get b n (revAt n) h0 hx, h]
  have e : (spreadD b n (revAt n) x).getD i 0 = dOf b n x ((revAt n).getD i 0).toNat := by
    have hi2 : i < (revAt n).length := by rw [revAt_len]; exact hi
    rw [getD_at _ i (by rw [hl]; exact hi), getD_at _ i hi2]
    simp [spreadD]
  rw [e, revAt_get hi, Int.toNat_natCast]
theorem rev_track {b : Int} (h2 : b ≤ 6) {n m : Nat} {w : List Int} (hw : okW m w) {i : Nat} (hi : i < n) : trackL b n (reW (spreadT b n (revAt n) m) w) i = trackL b n w (n - 1 - i) := by
  unfold trackL reW
  rw [List.map_map]
  refine List.map_congr_left fun x hx => ?_
  have := hw x hx
  exact rev_digit h2 this.1 this.2 hi
theorem rev_right {b : Int} (h2 : b ≤ 6) {n m : Nat} {w : List Int} (hw : okW m w) : rightW b (n : Int) (reW (spreadT b n (revAt n) m) w) = rightW b (n : Int) w := by
  unfold rightW tracksL
  rw [Int.toNat_natCast, Bool.eq_iff_iff, List.all_eq_true, List.all_eq_true]
  constructor
  · intro h l hl
    obtain ⟨i, hi, rfl⟩ := List.mem_map.1 hl
    have hi := List.mem_range.1 hi
    have := h _ (List.mem_map.2 ⟨n - 1 - i, List.mem_range.2 (by omega), rfl⟩)
    rw [rev_track h2 hw (by omega), show n - 1 - (n - 1 - i) = i by omega] at this
    exact this
  · intro h l hl
    obtain ⟨i, hi, rfl⟩ := List.mem_map.1 hl
    have hi := List.mem_range.1 hi
    rw [rev_track h2 hw hi]
    exact h _ (List.mem_map.2 ⟨n - 1 - i, List.mem_range.2 (by omega), rfl⟩)
theorem lineW_rev {b : Int} (h2 : b ≤ 6) (C : List Int) (c : Int) (less : Bool) {m : Nat} {w : List Int} (hw : okW m w) : lineW b C.reverse c less (reW (spreadT b C.length (revAt C.length) m) w) = lineW b C c less w := by
  unfold lineW
  rw [List.length_reverse, rev_right h2 hw, lnRun_rev b C (w := w) (fun i hi => rev_track h2 hw hi)]
/-- The turned sum's automaton is found, and turned back it is the first one. -/
theorem ln_rev {b : Int} {C : List Int} {c : Int} {less : Bool} (h : lnC b C c less = 0) : lnC b C.reverse c less = 0 ∧ leastN (relN (lnN b C.reverse c less) (spreadT b C.length (revAt C.length) (lnM b C))) (lnE b C.reverse c less) (lnM b C) = lnN b C c less ∧ leastE (relN (lnN b C.reverse c less) (spreadT b C.length (revAt C.length) (lnM b C))) (lnE b C.reverse c less) (lnM b C) = lnE b C c less := by
  obtain ⟨hF, -⟩ := lnC_zero h
  obtain ⟨hM, h12, hc⟩ := lnF_zero hF
  obtain ⟨h1, h2, -, -, -, hU⟩ := codeM_zero hM
  obtain ⟨m1, m36⟩ := manyU_bd hM
  have Z := ln_well h
  have hm : lnM b C.reverse = lnM b C := by unfold lnM; rw [List.length_reverse]
  have hpw : pw (kindsI b) (revAt C.length).length = ((lnM b C : Nat) : Int) := by
    rw [revAt_len]
    unfold lnM
    rw [Int.toNat_natCast] at hU
    omega
  have hto : okTo (lnM b C) (spreadT b C.length (revAt C.length) (lnM b C)) := spread_ok b h2 C.length (revAt C.length) (lnM b C) (lnM b C) hpw
  have htl : (spreadT b C.length (revAt C.length) (lnM b C)).length = lnM b C := spread_len _ _ _ _
  have m1' : 1 ≤ lnM b C := m1
  have m36' : lnM b C ≤ 36 := m36
  have hGr := rel_good Z.good hto (by rw [htl]; exact m1') (by rw [htl]; exact m36')
  rw [htl] at hGr
  have hlr : ∀ v, okW (lnM b C) v → tkB (relN (lnN b C c less) (spreadT b C.length (revAt C.length) (lnM b C))) (lnE b C c less) v = lineW b C.reverse c less v := fun v hv => by
    rw [rel_tk Z.good hto (by rw [htl]; exact m1') (by rw [htl]; exact m36') (lnE b C c less) v (by rw [htl]; exact hv), Z.lang _ (reW_ok hto (by rw [htl]; exact hv))]
    have := lineW_rev h2 C.reverse c less (m := lnM b C) hv
    rw [List.reverse_reverse, List.length_reverse] at this
    exact this
  have hLG := least_good hGr (lnE b C c less)
  have h80 : leastK (relN (lnN b C c less) (spreadT b C.length (revAt C.length) (lnM b C))) (lnE b C c less) (lnM b C) ≤ 80 := leastK_80 hGr _ (autoC_80 Z.auto)
  obtain ⟨r1, r2, r3⟩ := ln_of (C := C.reverse) (c := c) (less := less) (MN := leastN (relN (lnN b C c less) (spreadT b C.length (revAt C.length) (lnM b C))) (lnE b C c less) (lnM b C)) (ME := leastE (relN (lnN b C c less) (spreadT b C.length (revAt C.length) (lnM b C))) (lnE b C c less) (lnM b C)) (by rw [lnF_rev]; exact hF) (by rw [hm, leastN_len]; exact hLG) (by rw [leastN_len]; exact h80) (by rw [hm]; exact least_again hGr _) (fun v hv => by
    rw [hm] at hv
    rw [tk_least hGr _ v hv]
    exact hlr v hv)
  have Y := ln_well r1
  rw [hm] at Y
  have hGy := rel_good Y.good hto (by rw [htl]; exact m1') (by rw [htl]; exact m36')
  rw [htl] at hGy
  have s := least_same hGy Z.good (lnE b C.reverse c less) (lnE b C c less) (fun w hw => by
    have e1 := rel_tk Y.good hto (by rw [htl]; exact m1') (by rw [htl]; exact m36') (lnE b C.reverse c less) w (by rw [htl]; exact hw)
    have e2 := Y.lang _ (reW_ok hto (by rw [htl]; exact hw))
    have e3 := Z.lang w hw
    rw [e2, lineW_rev h2 C c less hw, ← e3] at e1
    exact e1)
  exact ⟨r1, s.1.trans Z.least.1, s.2.trans Z.least.2⟩
end Go.Proofs.Ythadkoplbgibgaf

/- The facts that LineMeans and LineParts ask first: the automata of x + y = z in base 2, and of x = y in Fibonacci's base; mathematics. -/
namespace Go.Proofs.Ythadkoplbgibgaf
open Go.RowKit

def feN : List (List Int) := [[0, 1, 1, 2], [1, 1, 1, 1], [0, 1, 1, 1]]
def feE : List Bool := [true, false, true]
theorem fe_sums : ∀ y : Nat, y < 4 → lsum 1 [1, -1] (y : Int) = [0, -1, 1, 0].getD y 0 := by decide +kernel
theorem fe_hits : ∀ x : Nat, x < 4 → ∀ y : Nat, y < 4 → hitB 1 2 (x : Int) (y : Int) = [false, false, false, false, false, true, false, true, false, false, true, true, false, true, true, true].getD (x * 4 + y) false := by decide +kernel
theorem fe_m : lnM 1 [1, -1] = 4 := by decide +kernel
theorem fe_F : lnF 1 [1, -1] 0 = 0 := by decide +kernel
/-- What a word has come to: alike so far, behind no 1s or behind two; gone wrong; or parted, one way or the other. -/
def FeAt (last : Nat) (st : Nat) (bad : Bool) (p : Int × Int) : Prop :=
  (bad = false ∧ st = 0 ∧ p = (0, 0) ∧ last = 0) ∨ (bad = false ∧ st = 2 ∧ p = (0, 0) ∧ last = 3) ∨ (bad = true ∧ st = 1) ∨
  (bad = false ∧ st = 1 ∧ 1 ≤ p.1 ∧ 0 ≤ p.2 ∧ (1 ≤ p.2 ∨ last = 1 ∨ last = 3)) ∨ (bad = false ∧ st = 1 ∧ p.1 ≤ -1 ∧ p.2 ≤ 0 ∧ (p.2 ≤ -1 ∨ last = 2 ∨ last = 3))
theorem fe_step {last st : Nat} {bad : Bool} {p : Int × Int} (h : FeAt last st bad p) (hl : last < 4) {y : Nat} (hy : y < 4) : FeAt y (nxt feN st y) (bad || hitB 1 2 (last : Int) (y : Int)) (lnStep 1 p (lsum 1 [1, -1] (y : Int))) := by
  have hst : lnStep 1 p (lsum 1 [1, -1] (y : Int)) = (p.1 + p.2 + lsum 1 [1, -1] (y : Int), p.1 + lsum 1 [1, -1] (y : Int)) := rfl
  rw [hst, fe_sums y hy, fe_hits last hl y hy]
  have y4 : y = 0 ∨ y = 1 ∨ y = 2 ∨ y = 3 := by omega
  have l4 : last = 0 ∨ last = 1 ∨ last = 2 ∨ last = 3 := by omega
  obtain ⟨X, Y⟩ := p
  unfold FeAt at h ⊢
  rcases h with ⟨rfl, rfl, e, rfl⟩ | ⟨rfl, rfl, e, rfl⟩ | ⟨rfl, rfl⟩ | ⟨rfl, rfl, h1, h2, h3⟩ | ⟨rfl, rfl, h1, h2, h3⟩
  · simp only [Prod.mk.injEq] at e
    obtain ⟨rfl, rfl⟩ := e
    rcases y4 with rfl | rfl | rfl | rfl <;> simp [nxt, feN, List.getD]
  · simp only [Prod.mk.injEq] at e
    obtain ⟨rfl, rfl⟩ := e
    rcases y4 with rfl | rfl | rfl | rfl <;> simp [nxt, feN, List.getD]
  · refine .inr (.inr (.inl ⟨rfl, ?_⟩))
    rcases y4 with rfl | rfl | rfl | rfl <;> rfl
  · simp only at h1 h2 h3
    rcases l4 with rfl | rfl | rfl | rfl <;> rcases y4 with rfl | rfl | rfl | rfl <;> first
      | exact .inr (.inr (.inl ⟨rfl, rfl⟩))
      | exact .inr (.inr (.inr (.inl ⟨rfl, rfl, show 1 ≤ X + Y + 0 by omega, show 0 ≤ X + 0 by omega, .inl (show 1 ≤ X + 0 by omega)⟩)))
      | exact .inr (.inr (.inr (.inl ⟨rfl, rfl, show 1 ≤ X + Y + 1 by omega, show 0 ≤ X + 1 by omega, .inl (show 1 ≤ X + 1 by omega)⟩)))
      | exact .inr (.inr (.inr (.inl ⟨rfl, rfl, show 1 ≤ X + Y + -1 by omega, show 0 ≤ X + -1 by omega, .inr (.inl rfl)⟩)))
  · simp only at h1 h2 h3
    rcases l4 with rfl | rfl | rfl | rfl <;> rcases y4 with rfl | rfl | rfl | rfl <;> first
      | exact .inr (.inr (.inl ⟨rfl, rfl⟩))
      | exact .inr (.inr (.inr (.inr ⟨rfl, rfl, show X + Y + 0 ≤ -1 by omega, show X + 0 ≤ 0 by omega, .inl (show X + 0 ≤ -1 by omega)⟩)))
      | exact .inr (.inr (.inr (.inr ⟨rfl, rfl, show X + Y + -1 ≤ -1 by omega, show X + -1 ≤ 0 by omega, .inl (show X + -1 ≤ -1 by omega)⟩)))
      | exact .inr (.inr (.inr (.inr ⟨rfl, rfl, show X + Y + 1 ≤ -1 by omega, show X + 1 ≤ 0 by omega, .inr (.inl rfl)⟩)))
theorem fe_run (w : List Int) : okW 4 w → ∃ last : Nat, last < 4 ∧ FeAt last (runL feN w) (badL 1 2 w) (lnRun 1 [1, -1] w) ∧ ∀ y : Int, badL 1 2 (w ++ [y]) = (badL 1 2 w || hitB 1 2 (last : Int) y) ∨ (w = [] ∧ last = 0) := by
  induction w using list_snoc_ind with
  | h0 => exact fun _ => ⟨0, by decide, .inl ⟨rfl, rfl, rfl, rfl⟩, fun y => .inr ⟨rfl, rfl⟩⟩
  | h1 w y ih =>
    intro hw
    obtain ⟨hw1, hw2⟩ := okW_append.1 hw
    have hy := hw2 y (by simp)
    obtain ⟨n, rfl⟩ : ∃ n : Nat, y = (n : Int) := ⟨y.toNat, by omega⟩
    have hn : n < 4 := by omega
    obtain ⟨last, h1, h2, h3⟩ := ih hw1
    have hb : badL 1 2 (w ++ [(n : Int)]) = (badL 1 2 w || hitB 1 2 (last : Int) (n : Int)) := by
      rcases h3 (n : Int) with e | ⟨rfl, rfl⟩
      · exact e
      · rw [fe_hits 0 (by decide) n hn]
        have : n = 0 ∨ n = 1 ∨ n = 2 ∨ n = 3 := by omega
        rcases this with rfl | rfl | rfl | rfl <;> rfl
    refine ⟨n, hn, ?_, fun z => .inl (badL_snoc 1 2 w (n : Int) z)⟩
    rw [runL_snoc, lnRun_snoc, step_nxt, Int.toNat_natCast, hb]
    exact fe_step h2 h1 hn
theorem fe_tk (w : List Int) (hw : okW 4 w) : tkB feN feE w = lineW 1 [1, -1] 0 false w := by
  have hr : (!badL 1 2 w) = rightW 1 (([1, -1] : List Int).length : Int) w := bad_right rfl w
  obtain ⟨last, -, h, -⟩ := fe_run w hw
  unfold lineW
  rw [← hr]
  unfold tkB lnEnd
  simp only [Bool.false_eq_true, if_false]
  rcases h with ⟨e1, e2, e3, -⟩ | ⟨e1, e2, e3, -⟩ | ⟨e1, e2⟩ | ⟨e1, e2, e3, -⟩ | ⟨e1, e2, e3, -⟩
  · rw [e1, e2, e3]; rfl
  · rw [e1, e2, e3]; rfl
  · rw [e1, e2]; rfl
  · rw [e1, e2, decide_eq_false (by omega)]; rfl
  · rw [e1, e2, decide_eq_false (by omega)]; rfl
/-- The fact of LineParts. -/
theorem fe_fact : lnC 1 [1, -1] 0 false = 0 ∧ lnN 1 [1, -1] 0 false = feN ∧ lnE 1 [1, -1] 0 false = feE := by
  have hl : leastN feN feE 4 = feN ∧ leastE feN feE 4 = feE := cert_of 2 [0, 1, 2] (by decide +kernel)
  have hg : GoodN 4 feN.length feN := good_of (by decide +kernel)
  refine ln_of fe_F (by rw [fe_m]; exact hg) (by decide) (by rw [fe_m]; exact hl) (fun w hw => ?_)
  rw [fe_m] at hw
  exact fe_tk w hw
end Go.Proofs.Ythadkoplbgibgaf

/- The walk of the law PairLaws. -/
namespace Go.Proofs.Ythadkoplbgibgaf
open Go.RowKit

theorem alikeC_ok {b t : Int} {N N2 : List (List Int)} {k k2 : Nat} (h1 : autoC b t N k = 0) (h2 : autoC b t N2 k2 = 0) : alikeC b t N k b t N2 k2 = 0 := by
  unfold alikeC
  rw [if_pos h1, if_pos h2, if_pos ⟨rfl, rfl⟩]
end Go.Proofs.Ythadkoplbgibgaf

/- LineParts: mathematics. -/
namespace Go.Proofs.Ythadkoplbgibgaf
open Go.RowKit

section
variable {how b t : Int} {N N2 : List (List Int)} {E E2 : List Bool}
theorem both_parts (h0 : 0 ≤ how ∧ how ≤ 15) (hA : autoC b t N N.length = 0) (hA2 : autoC b t N2 N2.length = 0) :
    GoodN (manyU b t).toNat (N.length * N2.length) (bothP b t N N2) ∧ (∀ w, okW (manyU b t).toNat w → tkB (bothP b t N N2) (bothQ how N N2 E E2) w = howB how (tkB N E w) (tkB N2 E2 w)) ∧ (bothK b t how N N2 E E2 ≤ 80 → bothC how b t N E N.length b t N2 E2 N2.length = 0) := by
  obtain ⟨hM, hk1, hG, -⟩ := autoC_zero hA
  obtain ⟨-, hk2, hG2, -⟩ := autoC_zero hA2
  have h80 := autoC_80 hA
  have h80' := autoC_80 hA2
  have hn : N.length * N2.length ≤ 4000000 := Nat.le_trans (Nat.mul_le_mul h80 h80') (by decide)
  refine ⟨prod_good hG hG2 hn, fun w hw => tk_prod hG hG2 how E E2 w hw, fun hK => ?_⟩
  unfold bothC
  rw [if_pos h0, if_pos (alikeC_ok hA hA2), if_pos hK]
theorem both_none (h0 : 0 ≤ how ∧ how ≤ 15) (hA : autoC b t N N.length = 0) (hA2 : autoC b t N2 N2.length = 0) (h : ∀ w, okW (manyU b t).toNat w → howB how (tkB N E w) (tkB N2 E2 w) = false) :
    bothC how b t N E N.length b t N2 E2 N2.length = 0 ∧ (bothN how b t N E N.length b t N2 E2 N2.length).length = 1 ∧ (bothE how b t N E N.length b t N2 E2 N2.length).getD 0 false = false := by
  obtain ⟨hG, hl, hC⟩ := both_parts (how := how) (E := E) (E2 := E2) h0 hA hA2
  obtain ⟨k1, k2⟩ := none_one hG (bothQ how N N2 E E2) (fun w hw => by rw [hl w hw]; exact h w hw)
  have hc := hC (by unfold bothK; rw [k1]; decide)
  refine ⟨hc, ?_, ?_⟩
  · unfold bothN; rw [if_pos hc, leastN_len]; exact k1
  · unfold bothE; rw [if_pos hc]; exact k2
theorem both_is (h0 : 0 ≤ how ∧ how ≤ 15) (hA : autoC b t N N.length = 0) (hA2 : autoC b t N2 N2.length = 0) {M : List (List Int)} {ME : List Bool} (hG : GoodN (manyU b t).toNat M.length M) (hle : leastN M ME (manyU b t).toNat = M ∧ leastE M ME (manyU b t).toNat = ME) (h80 : M.length ≤ 80) (h : ∀ w, okW (manyU b t).toNat w → howB how (tkB N E w) (tkB N2 E2 w) = tkB M ME w) :
    bothC how b t N E N.length b t N2 E2 N2.length = 0 ∧ bothN how b t N E N.length b t N2 E2 N2.length = M ∧ bothE how b t N E N.length b t N2 E2 N2.length = ME := by
  obtain ⟨hP, hl, hC⟩ := both_parts (how := how) (E := E) (E2 := E2) h0 hA hA2
  obtain ⟨s1, s2⟩ := least_same hP hG (bothQ how N N2 E E2) ME (fun w hw => by
    have h1 := hl w hw
    have h2 := h w hw
    unfold tkB at h1 h2
    rw [h1, h2])
  rw [hle.1] at s1
  rw [hle.2] at s2
  have hc := hC (by unfold bothK; rw [← leastN_len, s1]; exact h80)
  refine ⟨hc, ?_, ?_⟩
  · unfold bothN; rw [if_pos hc]; exact s1
  · unfold bothE; rw [if_pos hc]; exact s2
end
theorem revAt_atC (n : Nat) : atC (n : Int) (revAt n) = 0 := by
  unfold atC
  rw [if_pos]
  rw [List.all_eq_true]
  intro x hx
  unfold revAt at hx
  obtain ⟨i, hi, rfl⟩ := List.mem_map.1 hx
  have := List.mem_range.1 hi
  exact decide_eq_true (by omega)
/-- Two of one are parted; with the third they are all. -/
theorem lp_two {b : Int} {C : List Int} {c : Int} (hz : lnC b C c false = 0) (hb : lnC b C c true = 0) :
    bothC 8 b (C.length : Int) (lnN b C c false) (lnE b C c false) (lnN b C c false).length b (C.length : Int) (lnN b C c true) (lnE b C c true) (lnN b C c true).length = 0 ∧ (bothN 8 b (C.length : Int) (lnN b C c false) (lnE b C c false) (lnN b C c false).length b (C.length : Int) (lnN b C c true) (lnE b C c true) (lnN b C c true).length).length = 1 ∧ (bothE 8 b (C.length : Int) (lnN b C c false) (lnE b C c false) (lnN b C c false).length b (C.length : Int) (lnN b C c true) (lnE b C c true) (lnN b C c true).length).getD 0 false = false := by
  have h0 := ln_well hz
  have h1 := ln_well hb
  refine both_none (by decide) h0.auto h1.auto fun w hw => ?_
  have hw' : okW (lnM b C) w := hw
  rw [how_and, h0.lang w hw', h1.lang w hw']
  exact (line_three b C c w).2.1
theorem lp_three {b : Int} {C : List Int} {c : Int} (hz : lnC b C c false = 0) (hb : lnC b C c true = 0) (ha : lnC b (negL C) (-c) true = 0) {X : List (List Int)} {XE : List Bool} (hX : X = bothN 14 b (C.length : Int) (lnN b C c false) (lnE b C c false) (lnN b C c false).length b (C.length : Int) (lnN b C c true) (lnE b C c true) (lnN b C c true).length) (hXE : XE = bothE 14 b (C.length : Int) (lnN b C c false) (lnE b C c false) (lnN b C c false).length b (C.length : Int) (lnN b C c true) (lnE b C c true) (lnN b C c true).length) (hx : bothC 14 b (C.length : Int) (lnN b C c false) (lnE b C c false) (lnN b C c false).length b (C.length : Int) (lnN b C c true) (lnE b C c true) (lnN b C c true).length = 0) :
    (bothC 14 b (C.length : Int) X XE X.length b (C.length : Int) (lnN b (negL C) (-c) true) (lnE b (negL C) (-c) true) (lnN b (negL C) (-c) true).length = 0 ∧ bothN 14 b (C.length : Int) X XE X.length b (C.length : Int) (lnN b (negL C) (-c) true) (lnE b (negL C) (-c) true) (lnN b (negL C) (-c) true).length = alN b (C.length : Int) ∧ bothE 14 b (C.length : Int) X XE X.length b (C.length : Int) (lnN b (negL C) (-c) true) (lnE b (negL C) (-c) true) (lnN b (negL C) (-c) true).length = alE b (C.length : Int)) ∧
    (bothC 8 b (C.length : Int) X XE X.length b (C.length : Int) (lnN b (negL C) (-c) true) (lnE b (negL C) (-c) true) (lnN b (negL C) (-c) true).length = 0 ∧ (bothN 8 b (C.length : Int) X XE X.length b (C.length : Int) (lnN b (negL C) (-c) true) (lnE b (negL C) (-c) true) (lnN b (negL C) (-c) true).length).length = 1 ∧ (bothE 8 b (C.length : Int) X XE X.length b (C.length : Int) (lnN b (negL C) (-c) true) (lnE b (negL C) (-c) true) (lnN b (negL C) (-c) true).length).getD 0 false = false) := by
  have h0 := ln_well hz
  have h1 := ln_well hb
  have h2 := ln_well ha
  have h2a := h2.auto
  have h2l := h2.lang
  rw [negL_len] at h2a
  rw [lnM_neg] at h2l
  obtain ⟨hF, -⟩ := lnC_zero hz
  obtain ⟨hM, -⟩ := lnF_zero hF
  have hal := al_well hM
  obtain ⟨-, -, -, -, -, hXA, hXL, hXT⟩ := both_well hx
  rw [← hX, ← hXE] at hXT
  rw [← hX] at hXA
  have hXT' : ∀ w, okW (manyU b (C.length : Int)).toNat w → tkB X XE w = (lineW b C c false w || lineW b C c true w) := fun w hw => by
    have hw' : okW (lnM b C) w := hw
    rw [hXT w hw, how_or, h0.lang w hw', h1.lang w hw']
  refine ⟨both_is (by decide) hXA h2a hal.good hal.least (autoC_80 hal.auto) fun w hw => ?_, both_none (by decide) hXA h2a fun w hw => ?_⟩
  · have hw' : okW (lnM b C) w := hw
    rw [how_or, hXT' w hw, h2l w hw', hal.lang w hw]
    exact (line_three b C c w).1
  · have hw' : okW (lnM b C) w := hw
    rw [how_and, hXT' w hw, h2l w hw']
    exact (line_three b C c w).2.2
theorem lp_turn {b : Int} {C : List Int} {c : Int} (hz : lnC b C c false = 0) :
    lnC b C.reverse c false = 0 ∧ sprC b (C.length : Int) (lnN b C.reverse c false) (lnN b C.reverse c false).length (C.length : Int) (revAt C.length) = 0 ∧ sprN b (C.length : Int) (lnN b C.reverse c false) (lnE b C.reverse c false) (lnN b C.reverse c false).length (C.length : Int) (revAt C.length) = lnN b C c false ∧ sprE b (C.length : Int) (lnN b C.reverse c false) (lnE b C.reverse c false) (lnN b C.reverse c false).length (C.length : Int) (revAt C.length) = lnE b C c false := by
  obtain ⟨h1, h2, h3⟩ := ln_rev hz
  have hr := ln_well h1
  have hra := hr.auto
  rw [List.length_reverse] at hra
  obtain ⟨hF, -⟩ := lnC_zero hz
  obtain ⟨hM, -⟩ := lnF_zero hF
  have hs : sprC b (C.length : Int) (lnN b C.reverse c false) (lnN b C.reverse c false).length (C.length : Int) (revAt C.length) = 0 := by
    unfold sprC
    rw [if_pos hra, if_pos hM, if_pos (by rw [revAt_len])]
    exact revAt_atC _
  refine ⟨h1, hs, ?_, ?_⟩
  · unfold sprN; rw [if_pos hs, Int.toNat_natCast]; exact h2
  · unfold sprE; rw [if_pos hs, Int.toNat_natCast]; exact h3
theorem fe_len : (lnN 1 [1, -1] 0 false).length = 3 := by rw [fe_fact.2.1]; rfl
end Go.Proofs.Ythadkoplbgibgaf

/- right.All: its automaton; mathematics. -/
namespace Go.Proofs.Ythadkoplbgibgaf
open Go.RowKit

/-- Two letters that may not stand side by side. -/
def clB (b : Int) (x y : Nat) : Bool := decide (b = 1) && decide (x &&& y ≠ 0)
/-- The developers' rows: a state is the letter that was read last. -/
def daR (b : Int) (m j : Nat) : List Int := if j < m then (List.range m).map fun l => if clB b j l = true then (m : Int) else (l : Int) else List.replicate m (m : Int)
def daF (m j : Nat) : Bool := decide (j < m)
def daN (b : Int) (m : Nat) : List (List Int) := (List.range (m + 1)).map (daR b m)
def daE (m : Nat) : List Bool := (List.range (m + 1)).map (daF m)
theorem daN_len (b : Int) (m : Nat) : (daN b m).length = m + 1 := by simp [daN]
theorem daE_len (m : Nat) : (daE m).length = m + 1 := by simp [daE]
theorem daN_get {b : Int} {m j : Nat} (hj : j < m + 1) : (daN b m).getD j [] = daR b m j := by simp [daN, List.getD, hj]
theorem daE_get {m j : Nat} (hj : j < m + 1) : (daE m).getD j false = daF m j := by simp [daE, List.getD, hj]
theorem daR_len (b : Int) (m j : Nat) : (daR b m j).length = m := by unfold daR; split <;> simp
theorem daR_in {b : Int} {m j l : Nat} (hj : j < m) (hl : l < m) : (daR b m j).getD l 0 = if clB b j l = true then (m : Int) else (l : Int) := by unfold daR; rw [if_pos hj]; simp [List.getD, hl]
theorem daR_out {b : Int} {m j l : Nat} (hj : ¬ j < m) (hl : l < m) : (daR b m j).getD l 0 = (m : Int) := by unfold daR; rw [if_neg hj]; simp [List.getD, hl]
theorem da_good (b : Int) {m : Nat} (h1 : 1 ≤ m) (h36 : m ≤ 36) : GoodN m (m + 1) (daN b m) := by
  refine ⟨daN_len b m, by omega, by omega, h36, h1, fun s hs => ?_⟩
  rw [daN_get hs]
  refine ⟨daR_len b m s, fun j hj => ?_⟩
  by_cases h : s < m
  · rw [daR_in h hj]
    split <;> omega
  · rw [daR_out h hj]; omega
theorem da_nxt {b : Int} {m s l : Nat} (hs : s < m + 1) (hl : l < m) : nxt (daN b m) s l = if s < m then (if clB b s l = true then m else l) else m := by
  unfold nxt
  rw [daN_get hs]
  by_cases h : s < m
  · rw [daR_in h hl, if_pos h]; split <;> simp
  · rw [daR_out h hl, if_neg h]; simp
theorem ar_nxt {b : Int} {tr m s l : Nat} (hs : s < m + 2) (hl : l < m) : nxt (arN b tr m) s l = arT b tr m s l := by
  unfold nxt
  rw [arN_cell hs hl, Int.toNat_natCast]
theorem hit_fib : ∀ t : Nat, t < 6 → ∀ x : Nat, x < (manyU 1 (t : Int)).toNat → ∀ y : Nat, y < (manyU 1 (t : Int)).toNat → hitB 1 t (x : Int) (y : Int) = clB 1 x y := by decide +kernel
theorem hit_cl {b t : Int} (h : codeM b t = 0) {x y : Nat} (hx : x < (manyU b t).toNat) (hy : y < (manyU b t).toNat) : hitB b t.toNat (x : Int) (y : Int) = clB b x y := by
  obtain ⟨h1, h2, h3, h4, -⟩ := codeM_zero h
  by_cases hb : b = 1
  · subst hb
    obtain ⟨tn, rfl⟩ : ∃ tn : Nat, t = (tn : Int) := ⟨t.toNat, by omega⟩
    rw [Int.toNat_natCast]
    exact hit_fib tn (by omega) x hx y hy
  · unfold hitB clB
    simp [hb]
theorem cl_zero (b : Int) (y : Nat) : clB b 0 y = false := by unfold clB; simp
/-- Its least one is that of all right words. -/
theorem da_least {b t : Int} (h : codeM b t = 0) : leastN (daN b (manyU b t).toNat) (daE (manyU b t).toNat) (manyU b t).toNat = alN b t ∧ leastE (daN b (manyU b t).toNat) (daE (manyU b t).toNat) (manyU b t).toNat = alE b t := by
  obtain ⟨m1, m36⟩ := manyU_bd h
  have hc := fun x y => @hit_cl b t h x y
  generalize hm : (manyU b t).toNat = m at m1 m36 hc ⊢
  unfold alN alE
  rw [if_pos h, if_pos h, hm]
  have hA := ar_good b t.toNat m1 m36
  have hH : ∀ s, s < m + 2 → ((List.range (m + 2)).map fun s => s - 1).getD s 0 = s - 1 := fun s hs => by simp [List.getD, hs]
  refine least_same (da_good b m1 m36) hA _ _ fun w hw => ?_
  have hr := run_lt hA w hw
  rw [mor_run hA ((List.range (m + 2)).map fun s => s - 1) (by rw [hH 0 (by omega)]) (fun s hs j hj => ?_) w hw, hH _ hr, arE_get hr, daE_get (by omega)]
  · unfold daF
    congr 1
    apply propext
    omega
  · rw [ar_nxt hs hj, hH s hs, hH _ (arT_lt hj), da_nxt (by omega) hj]
    unfold arT
    by_cases e1 : s = m + 1
    · subst e1
      rw [if_pos rfl, if_neg (by omega)]
      omega
    · rw [if_neg e1, if_pos (show s - 1 < m by omega)]
      by_cases e0 : s = 0
      · subst e0
        rw [if_neg (by omega), cl_zero, if_neg (by decide)]
        omega
      · have e : ((s : Int) - 1) = ((s - 1 : Nat) : Int) := by omega
        rw [e, hc (s - 1) j (by omega) hj]
        by_cases ec : clB b (s - 1) j = true
        · rw [if_pos ⟨by omega, ec⟩, if_pos ec]; omega
        · rw [if_neg (fun h => ec h.2), if_neg ec]; omega
theorem da_auto {b t : Int} (h : codeM b t = 0) : autoC b t (daN b (manyU b t).toNat) ((manyU b t).toNat + 1) = 0 := by
  obtain ⟨m1, m36⟩ := manyU_bd h
  exact autoC_good h (da_good b m1 m36) (by omega)
end Go.Proofs.Ythadkoplbgibgaf

/- The developers' automaton of a sum: points whose fate is open, or no longer; mathematics. -/
namespace Go.Proofs.Ythadkoplbgibgaf
open Go.RowKit

/-- What raises a sum, and, without a sign, what lowers it. -/
def upT (C : List Int) (f : Nat → Int) : Nat → Int
  | 0 => 0
  | k + 1 => if 0 < C.getD k 0 then upT C f k + C.getD k 0 * f k else upT C f k
def dnT (C : List Int) (f : Nat → Int) : Nat → Int
  | 0 => 0
  | k + 1 => if 0 < C.getD k 0 then dnT C f k else dnT C f k - C.getD k 0 * f k
theorem ud_sum (C : List Int) (f : Nat → Int) (k : Nat) : upT C f k - dnT C f k = sumT C f k := by
  induction k with
  | zero => rfl
  | succ k ih =>
    unfold upT dnT sumT
    by_cases h : 0 < C.getD k 0
    · rw [if_pos h, if_pos h]; omega
    · rw [if_neg h, if_neg h]; omega
theorem ud_abs (C : List Int) (k : Nat) : upT C (fun _ => 1) k + dnT C (fun _ => 1) k = absT C k := by
  induction k with
  | zero => rfl
  | succ k ih =>
    unfold upT dnT absT absI
    by_cases h : 0 < C.getD k 0
    · rw [if_pos h, if_pos h, if_neg (by omega)]; omega
    · rw [if_neg h, if_neg h]
      split <;> omega
theorem ud_mono {C : List Int} {f g : Nat → Int} : ∀ {k : Nat}, (∀ i, i < k → f i ≤ g i) → upT C f k ≤ upT C g k ∧ dnT C f k ≤ dnT C g k
  | 0, _ => ⟨Int.le_refl _, Int.le_refl _⟩
  | k + 1, h => by
    have ih := ud_mono (C := C) (k := k) (fun i hi => h i (by omega))
    have hk := h k (by omega)
    unfold upT dnT
    by_cases hc : 0 < C.getD k 0
    · rw [if_pos hc, if_pos hc, if_pos hc, if_pos hc]
      have := Int.mul_le_mul_of_nonneg_left hk (Int.le_of_lt hc)
      omega
    · rw [if_neg hc, if_neg hc, if_neg hc, if_neg hc]
      have := Int.mul_le_mul_of_nonpos_left (a := C.getD k 0) (by omega) hk
      omega
theorem ud_add (C : List Int) (f g : Nat → Int) (k : Nat) : upT C (fun i => f i + g i) k = upT C f k + upT C g k ∧ dnT C (fun i => f i + g i) k = dnT C f k + dnT C g k := by
  induction k with
  | zero => exact ⟨rfl, rfl⟩
  | succ k ih =>
    unfold upT dnT
    by_cases hc : 0 < C.getD k 0
    · rw [if_pos hc, if_pos hc, if_pos hc, if_pos hc, if_pos hc, if_pos hc, Int.mul_add]
      omega
    · rw [if_neg hc, if_neg hc, if_neg hc, if_neg hc, if_neg hc, if_neg hc, Int.mul_add]
      omega
theorem ud_zero (C : List Int) (k : Nat) : upT C (fun _ => 0) k = 0 ∧ dnT C (fun _ => 0) k = 0 := by
  induction k with
  | zero => exact ⟨rfl, rfl⟩
  | succ k ih =>
    unfold upT dnT
    by_cases hc : 0 < C.getD k 0
    · rw [if_pos hc, if_pos hc]; omega
    · rw [if_neg hc, if_neg hc]; omega
theorem ud_mul (C : List Int) (K : Int) (k : Nat) : upT C (fun _ => K) k = K * upT C (fun _ => 1) k ∧ dnT C (fun _ => K) k = K * dnT C (fun _ => 1) k := by
  induction k with
  | zero => exact ⟨by simp [upT], by simp [dnT]⟩
  | succ k ih =>
    unfold upT dnT
    by_cases hc : 0 < C.getD k 0
    · rw [if_pos hc, if_pos hc, if_pos hc, if_pos hc, Int.mul_add, Int.mul_one, Int.mul_comm (C.getD k 0) K]
      omega
    · rw [if_neg hc, if_neg hc, if_neg hc, if_neg hc, Int.mul_sub, Int.mul_one, Int.mul_comm (C.getD k 0) K]
      omega
theorem ud_nn {C : List Int} {f : Nat → Int} {k : Nat} (h : ∀ i, i < k → 0 ≤ f i) : 0 ≤ upT C f k ∧ 0 ≤ dnT C f k := by
  have h1 := ud_mono (C := C) (f := fun _ => 0) (g := f) h
  have h2 := ud_zero C k
  omega
def upA (C : List Int) : Int := upT C (fun _ => 1) C.length
def dnA (C : List Int) : Int := dnT C (fun _ => 1) C.length
def upL (b : Int) (C : List Int) (x : Int) : Int := upT C (dOf b C.length x) C.length
def dnL (b : Int) (C : List Int) (x : Int) : Int := dnT C (dOf b C.length x) C.length
theorem udA {C : List Int} (h12 : absT C C.length ≤ 12) : 0 ≤ upA C ∧ 0 ≤ dnA C ∧ upA C + dnA C ≤ 12 := by
  have h1 := ud_abs C C.length
  have h2 := ud_nn (C := C) (f := fun _ => 1) (k := C.length) (fun _ _ => by decide)
  unfold upA dnA
  omega
theorem udL_sum (b : Int) (C : List Int) (x : Int) : upL b C x - dnL b C x = lsum b C x := ud_sum _ _ _
theorem udL_bd {b : Int} (h2 : b ≤ 6) (C : List Int) (x : Int) : 0 ≤ upL b C x ∧ 0 ≤ dnL b C x ∧ upL b C x ≤ (kindsI b - 1) * upA C ∧ dnL b C x ≤ (kindsI b - 1) * dnA C := by
  have h1 := ud_nn (C := C) (f := dOf b C.length x) (k := C.length) (fun i _ => (dOf_bd b h2 C.length x i).1)
  have h3 := ud_mono (C := C) (f := dOf b C.length x) (g := fun _ => kindsI b - 1) (k := C.length) (fun i _ => by have := dOf_bd b h2 C.length x i; show _ ≤ kindsI b - 1; omega)
  have h4 := ud_mul C (kindsI b - 1) C.length
  unfold upL dnL upA dnA
  omega
theorem udL_two {C : List Int} {l x : Int} (h : hitB 1 C.length l x = false) : upL 1 C l + upL 1 C x ≤ upA C ∧ dnL 1 C l + dnL 1 C x ≤ dnA C := by
  have hk : kindsI 1 = 2 := by decide
  have h1 := ud_add C (dOf 1 C.length l) (dOf 1 C.length x) C.length
  have h3 := ud_mono (C := C) (f := fun i => dOf 1 C.length l i + dOf 1 C.length x i) (g := fun _ => 1) (k := C.length) (fun i hi => by
    have a1 := dOf_bd 1 (by decide) C.length l i
    have a2 := dOf_bd 1 (by decide) C.length x i
    show dOf 1 C.length l i + dOf 1 C.length x i ≤ 1
    rw [hk] at a1 a2
    apply Decidable.byContradiction
    intro hn
    have e1 : dOf 1 C.length l i = 1 := by omega
    have e2 : dOf 1 C.length x i = 1 := by omega
    have : hitB 1 C.length l x = true := by
      unfold hitB
      rw [List.any_eq_true]
      exact ⟨i, List.mem_range.2 hi, by simp [e1, e2]⟩
    rw [h] at this
    cases this)
  unfold upL dnL upA dnA
  omega

/-- Numbers of which each is the two ahead of it together. -/
def fibS (a b : Int) : Nat → Int
  | 0 => a
  | n + 1 => fibS b (a + b) n
theorem fibS_up : ∀ (n : Nat) (a b : Int), 0 ≤ a → 0 ≤ b → b ≤ fibS a b (n + 1)
  | 0, _, _, _, _ => Int.le_refl _
  | n + 1, a, b, ha, hb => by
    have := fibS_up n b (a + b) hb (by omega)
    show b ≤ fibS b (a + b) (n + 1)
    omega
/-- The least of them; -2^41 if they fall without an end. -/
def fallG : Nat → Int → Int → Int → Int
  | 0, low, _, _ => low
  | k + 1, low, a, b => if 0 ≤ a ∧ 0 ≤ b then (if b < low then b else low) else if a ≤ 0 ∧ b ≤ 0 then -2199023255552 else fallG k (if b < low then b else low) b (a + b)
/-- There is enough to go on with. -/
def fallOk (k : Nat) (a b : Int) : Prop := 1 ≤ k ∧ (¬ (0 ≤ a ∧ 0 ≤ b) → ¬ (a ≤ 0 ∧ b ≤ 0) → 2 + absI a + absI b ≤ k)
theorem fallOk_next {k : Nat} {a b : Int} (h : fallOk (k + 1) a b) (h1 : ¬ (0 ≤ a ∧ 0 ≤ b)) (h2 : ¬ (a ≤ 0 ∧ b ≤ 0)) : fallOk k b (a + b) := by
  obtain ⟨-, h3⟩ := h
  have h4 := h3 h1 h2
  unfold absI at h4
  refine ⟨by split at h4 <;> split at h4 <;> omega, fun h5 h6 => ?_⟩
  unfold absI
  split at h4 <;> split at h4 <;> split <;> split <;> omega
theorem fallG_is : ∀ (k : Nat) (low a b : Int), fallOk k a b → fallG k low a b = -2199023255552 ∨ (fallG k low a b ≤ low ∧ ∀ n, fallG k low a b ≤ fibS a b (n + 1))
  | 0, _, _, _, h => absurd h.1 (by decide)
  | k + 1, low, a, b, h => by
    unfold fallG
    by_cases h1 : 0 ≤ a ∧ 0 ≤ b
    · rw [if_pos h1]
      refine .inr ⟨by split <;> omega, fun n => ?_⟩
      have := fibS_up n a b h1.1 h1.2
      split <;> omega
    · rw [if_neg h1]
      by_cases h2 : a ≤ 0 ∧ b ≤ 0
      · rw [if_pos h2]; exact .inl rfl
      · rw [if_neg h2]
        rcases fallG_is k (if b < low then b else low) b (a + b) (fallOk_next h h1 h2) with h3 | ⟨h3, h4⟩
        · exact .inl h3
        · refine .inr ⟨by split at h3 <;> split <;> omega, fun n => ?_⟩
          cases n with
          | zero =>
            show _ ≤ b
            split at h3 <;> split <;> omega
          | succ n => exact h4 n
def fallV (a more : Int) : Int := fallG 2000 a a (a + more)
theorem fallV_ok {a more : Int} (h1 : -900 ≤ a ∧ a ≤ 900) (h2 : -900 ≤ a + more ∧ a + more ≤ 900) : fallOk 2000 a (a + more) := ⟨by decide, fun _ _ => by unfold absI; split <;> split <;> omega⟩
theorem fallV_is {a more : Int} (h1 : -900 ≤ a ∧ a ≤ 900) (h2 : -900 ≤ a + more ∧ a + more ≤ 900) : fallV a more = -2199023255552 ∨ ∀ n, fallV a more ≤ fibS a (a + more) n := by
  rcases fallG_is 2000 a a (a + more) (fallV_ok h1 h2) with h | ⟨h, h3⟩
  · exact .inl h
  · refine .inr fun n => ?_
    cases n with
    | zero => exact h
    | succ n => exact h3 n
theorem fallV_up {a more : Int} (h1 : 0 ≤ a) (h2 : 0 ≤ a + more) : fallV a more = if a + more < a then a + more else a := by
  unfold fallV
  rw [show (2000 : Nat) = 1999 + 1 from rfl]
  unfold fallG
  rw [if_pos ⟨h1, h2⟩]
/-- How low a sum can come: by letters that fit, each lowers it by no more than is left. -/
theorem fib_low {r dn : Int → Int} {D : Int} {t : Nat} (h1 : ∀ z, -dn z ≤ r z) (h2 : ∀ l z, hitB 1 t l z = false → dn l + dn z ≤ D) :
    ∀ (v : List Int) (x y l a b : Int), a ≤ x - D → b ≤ x + y - 2 * D + dn l → badL 1 t (l :: v) = false → fibS a b v.length ≤ (v.foldl (fun (p : Int × Int) z => (p.1 + p.2 + r z, p.1 + r z)) (x, y)).1 - D
  | [], _, _, _, _, _, ha, _, _ => ha
  | z :: v, x, y, l, a, b, ha, hb, hr => by
    have hr' : (hitB 1 t l z || badL 1 t (z :: v)) = false := hr
    rw [Bool.or_eq_false_iff] at hr'
    have e1 := h1 z
    have e2 := h2 l z hr'.1
    exact fib_low h1 h2 v (x + y + r z) (x + r z) z b (a + b) (by omega) (by omega) hr'.2
end Go.Proofs.Ythadkoplbgibgaf

/- The developers' automaton of a sum: from point to point; mathematics. -/
namespace Go.Proofs.Ythadkoplbgibgaf
open Go.RowKit

/-- How far a sum has come. -/
structure LPt where
  f : Int
  s : Int
  y : Int
  l : Int
def lpSettle (c : Int) (less : Bool) (p : LPt) (low high : Int) : LPt :=
  if less = true ∧ high < -c then ⟨1, 0, 0, p.l⟩ else if high < -c ∨ low > -c ∨ (less = true ∧ low = -c) then ⟨2, 0, 0, 0⟩ else p
def lpLowP (C : List Int) (s : Int) : Int := if dnA C ≤ s then s else -1099511627776
def lpHighP (C : List Int) (s : Int) : Int := if s ≤ -upA C then s else 1099511627776
def lpPlain (b : Int) (C : List Int) (c : Int) (less : Bool) (p : LPt) (x : Nat) : LPt :=
  if p.f = 0 then lpSettle c less ⟨0, p.s * b + lsum b C x, 0, 0⟩ (lpLowP C (p.s * b + lsum b C x)) (lpHighP C (p.s * b + lsum b C x)) else p
def lpLowF (C : List Int) (s y : Int) (x : Nat) : Int := fallV (s - dnA C) (y - dnA C + dnL 1 C x) + dnA C
def lpHighF (C : List Int) (s y : Int) (x : Nat) : Int := -fallV (-s - upA C) (-y - upA C + upL 1 C x) - upA C
def lpFib (C : List Int) (c : Int) (less : Bool) (p : LPt) (x : Nat) : LPt :=
  if p.f = 2 ∨ p.l.toNat &&& x ≠ 0 then ⟨2, 0, 0, 0⟩ else if p.f = 1 then ⟨1, 0, 0, x⟩ else
    lpSettle c less ⟨0, p.s + p.y + lsum 1 C x, p.s + lsum 1 C x, x⟩ (lpLowF C (p.s + p.y + lsum 1 C x) (p.s + lsum 1 C x) x) (lpHighF C (p.s + p.y + lsum 1 C x) (p.s + lsum 1 C x) x)
def lpStep (b : Int) (C : List Int) (c : Int) (less : Bool) (p : LPt) (x : Nat) : LPt := if b = 1 then lpFib C c less p x else lpPlain b C c less p x
def lpEnd (c : Int) (less : Bool) (p : LPt) : Bool := decide (p.f = 1) || (decide (p.f = 0) && lnEnd c less p.s)
/-- Points that there are. -/
def LpOk (b : Int) (p : LPt) : Prop :=
  (p.f = 0 ∧ (-107 ≤ p.s ∧ p.s ≤ 107) ∧ (0 ≤ p.l ∧ p.l < 64) ∧ (b ≠ 1 → p.y = 0 ∧ p.l = 0) ∧ (b = 1 → -272 ≤ 13 * p.s - 21 * p.y ∧ 13 * p.s - 21 * p.y ≤ 272)) ∨ (p.f = 1 ∧ p.s = 0 ∧ p.y = 0 ∧ 0 ≤ p.l ∧ p.l < 64 ∧ (b ≠ 1 → p.l = 0)) ∨ (p.f = 2 ∧ p.s = 0 ∧ p.y = 0 ∧ p.l = 0)
theorem lpOk_bd {b : Int} {p : LPt} (h : LpOk b p) : (0 ≤ p.f ∧ p.f ≤ 2) ∧ (-107 ≤ p.s ∧ p.s ≤ 107) ∧ (-108 ≤ p.y ∧ p.y ≤ 108) ∧ 0 ≤ p.l ∧ p.l < 64 := by
  rcases h with ⟨h1, h2, h3, h4, h5⟩ | ⟨h1, h2, h3, h4, h5, -⟩ | ⟨h1, h2, h3, h4⟩
  · by_cases hb : b = 1
    · have := h5 hb; omega
    · have := h4 hb; omega
  · omega
  · omega
/-- Four numbers in one. -/
def ptN (p : LPt) : Nat := if p.f = 0 then (((p.s + 108) * 217 + (p.y + 108)) * 64 + p.l).toNat else (3013696 + 64 * (p.f - 1) + p.l).toNat
def unpt (n : Nat) : LPt := if n < 3013696 then ⟨0, ((n / 64 / 217 : Nat) : Int) - 108, ((n / 64 % 217 : Nat) : Int) - 108, ((n % 64 : Nat) : Int)⟩ else ⟨1 + (((n - 3013696) / 64 : Nat) : Int), 0, 0, (((n - 3013696) % 64 : Nat) : Int)⟩
theorem unpt_pt {b : Int} {p : LPt} (h : LpOk b p) : unpt (ptN p) = p ∧ ptN p < 3013824 := by
  have hb := lpOk_bd h
  obtain ⟨f, s, y, l⟩ := p
  simp only at hb
  unfold ptN unpt
  by_cases hf : f = 0
  · subst hf
    have e : (((s + 108) * 217 + (y + 108)) * 64 + l).toNat = ((s + 108).toNat * 217 + (y + 108).toNat) * 64 + l.toNat := by omega
    simp only [if_true]
    rw [e]
    have h1 : (((s + 108).toNat * 217 + (y + 108).toNat) * 64 + l.toNat) / 64 = (s + 108).toNat * 217 + (y + 108).toNat := by omega
    have h2 : (((s + 108).toNat * 217 + (y + 108).toNat) * 64 + l.toNat) % 64 = l.toNat := by omega
    have h3 : ((s + 108).toNat * 217 + (y + 108).toNat) / 217 = (s + 108).toNat := by omega
    have h4 : ((s + 108).toNat * 217 + (y + 108).toNat) % 217 = (y + 108).toNat := by omega
    have h5 : ((s + 108).toNat * 217 + (y + 108).toNat) * 64 + l.toNat < 3013696 := by omega
    rw [if_pos h5, h1, h2, h3, h4]
    refine ⟨?_, by omega⟩
    rw [show (((s + 108).toNat : Nat) : Int) - 108 = s by omega, show (((y + 108).toNat : Nat) : Int) - 108 = y by omega, show ((l.toNat : Nat) : Int) = l by omega]
  · have hs : s = 0 ∧ y = 0 := by
      rcases h with ⟨h1, -⟩ | ⟨h1, h2, h3, -⟩ | ⟨h1, h2, h3, -⟩
      · exact absurd h1 hf
      · exact ⟨h2, h3⟩
      · exact ⟨h2, h3⟩
    obtain ⟨rfl, rfl⟩ := hs
    have e : (3013696 + 64 * (f - 1) + l).toNat = 3013696 + (64 * (f - 1).toNat + l.toNat) := by omega
    simp only [hf, if_false]
    rw [e, if_neg (by omega), show 3013696 + (64 * (f - 1).toNat + l.toNat) - 3013696 = 64 * (f - 1).toNat + l.toNat by omega]
    have h1 : (64 * (f - 1).toNat + l.toNat) / 64 = (f - 1).toNat := by omega
    have h2 : (64 * (f - 1).toNat + l.toNat) % 64 = l.toNat := by omega
    rw [h1, h2]
    refine ⟨?_, by omega⟩
    rw [show 1 + (((f - 1).toNat : Nat) : Int) = f by omega, show ((l.toNat : Nat) : Int) = l by omega]
theorem lpOk_start (b : Int) : LpOk b ⟨0, 0, 0, 0⟩ := .inl ⟨rfl, by decide, by decide, fun _ => ⟨rfl, rfl⟩, fun _ => by decide⟩
theorem lp_start : unpt 1506816 = ⟨0, 0, 0, 0⟩ ∧ ptN ⟨0, 0, 0, 0⟩ = 1506816 := by
  have h : ptN ⟨0, 0, 0, 0⟩ = 1506816 := by decide
  refine ⟨?_, h⟩
  rw [← h]
  exact (unpt_pt (lpOk_start 1)).1
theorem settle_cases (c : Int) (less : Bool) (p : LPt) (low high : Int) :
    (lpSettle c less p low high = ⟨1, 0, 0, p.l⟩ ∧ less = true ∧ high < -c) ∨ (lpSettle c less p low high = ⟨2, 0, 0, 0⟩ ∧ ((less = false ∧ high < -c) ∨ low > -c ∨ (less = true ∧ low = -c))) ∨ (lpSettle c less p low high = p ∧ -c ≤ high ∧ low ≤ -c) := by
  unfold lpSettle
  by_cases h1 : less = true ∧ high < -c
  · rw [if_pos h1]; exact .inl ⟨rfl, h1⟩
  · rw [if_neg h1]
    by_cases h2 : high < -c ∨ low > -c ∨ (less = true ∧ low = -c)
    · rw [if_pos h2]
      refine .inr (.inl ⟨rfl, ?_⟩)
      rcases h2 with h2 | h2
      · refine .inl ⟨?_, h2⟩
        cases less
        · rfl
        · exact absurd ⟨rfl, h2⟩ h1
      · exact .inr h2
    · rw [if_neg h2]
      exact .inr (.inr ⟨rfl, by omega, by omega⟩)
section
variable {b : Int} {C : List Int} {c : Int} {less : Bool} {p : LPt} {x : Nat}
/-- A point leads to points. -/
theorem lpStep_ok (h1 : 1 ≤ b) (h2 : b ≤ 6) (h12 : absT C C.length ≤ 12) (hc : -60 ≤ c ∧ c ≤ 60) (hx : x < 64) (h : LpOk b p) : LpOk b (lpStep b C c less p x) := by
  have hA := udA h12
  have hls := lsum_bd h2 h12 (x : Int)
  have hl := lpOk_bd h
  unfold lpStep
  by_cases hb : b = 1
  · subst hb
    rw [if_pos rfl]
    unfold lpFib
    by_cases d1 : p.f = 2 ∨ p.l.toNat &&& x ≠ 0
    · rw [if_pos d1]; exact .inr (.inr ⟨rfl, rfl, rfl, rfl⟩)
    · rw [if_neg d1]
      by_cases d2 : p.f = 1
      · rw [if_pos d2]; exact .inr (.inl ⟨rfl, rfl, rfl, by show 0 ≤ (x : Int); omega, by show (x : Int) < 64; omega, fun h => absurd rfl h⟩)
      · rw [if_neg d2]
        rcases h with ⟨k1, k2, k3, k4, k5⟩ | ⟨k1, -⟩ | ⟨k1, -⟩
        · have k6 := k5 rfl
          have hk : kindsI 1 = 2 := by decide
          rw [hk] at hls
          have hud := udL_bd (b := 1) (by decide) C (x : Int)
          rw [hk] at hud
          generalize lsum 1 C (x : Int) = r at hls ⊢
          rcases settle_cases c less ⟨0, p.s + p.y + r, p.s + r, x⟩ (lpLowF C (p.s + p.y + r) (p.s + r) x) (lpHighF C (p.s + p.y + r) (p.s + r) x) with ⟨e, -⟩ | ⟨e, -⟩ | ⟨e, e1, e2⟩
          · rw [e]; exact .inr (.inl ⟨rfl, rfl, rfl, by show 0 ≤ (x : Int); omega, by show (x : Int) < 64; omega, fun h => absurd rfl h⟩)
          · rw [e]; exact .inr (.inr ⟨rfl, rfl, rfl, rfl⟩)
          · rw [e]
            refine .inl ⟨rfl, ⟨?_, ?_⟩, ⟨by show 0 ≤ (x : Int); omega, by show (x : Int) < 64; omega⟩, fun h => absurd rfl h, fun _ => by show -272 ≤ 13 * (p.s + p.y + r) - 21 * (p.s + r) ∧ 13 * (p.s + p.y + r) - 21 * (p.s + r) ≤ 272; omega⟩
            · show -107 ≤ p.s + p.y + r
              apply Decidable.byContradiction
              intro hn
              have hy : p.s + r ≤ -54 := by omega
              unfold lpHighF at e1
              rw [fallV_up (by omega) (by omega)] at e1
              split at e1 <;> omega
            · show p.s + p.y + r ≤ 107
              apply Decidable.byContradiction
              intro hn
              have hy : 54 ≤ p.s + r := by omega
              unfold lpLowF at e2
              rw [fallV_up (by omega) (by omega)] at e2
              split at e2 <;> omega
        · exact absurd k1 d2
        · exact absurd (.inl k1) d1
  · rw [if_neg hb]
    unfold lpPlain
    by_cases d1 : p.f = 0
    · rw [if_pos d1]
      generalize p.s * b + lsum b C (x : Int) = s
      rcases settle_cases c less ⟨0, s, 0, 0⟩ (lpLowP C s) (lpHighP C s) with ⟨e, -⟩ | ⟨e, -⟩ | ⟨e, e1, e2⟩
      · rw [e]; exact .inr (.inl ⟨rfl, rfl, rfl, Int.le_refl _, by show (0 : Int) < 64; decide, fun _ => rfl⟩)
      · rw [e]; exact .inr (.inr ⟨rfl, rfl, rfl, rfl⟩)
      · rw [e]
        refine .inl ⟨rfl, ⟨?_, ?_⟩, by show (0 : Int) ≤ 0 ∧ (0 : Int) < 64; decide, fun _ => ⟨rfl, rfl⟩, fun h => absurd h hb⟩
        · show -107 ≤ s
          unfold lpHighP at e1
          split at e1 <;> omega
        · show s ≤ 107
          unfold lpLowP at e2
          split at e2 <;> omega
    · rw [if_neg d1]; exact h
end
end Go.Proofs.Ythadkoplbgibgaf

/- The developers' automaton of a sum takes its words; mathematics. -/
namespace Go.Proofs.Ythadkoplbgibgaf
open Go.RowKit

def lastI (w : List Int) : Int := w.getLastD 0
theorem lastI_snoc (w : List Int) (x : Int) : lastI (w ++ [x]) = x := by unfold lastI; rw [List.getLastD_eq_getLast?]; simp
theorem badL_app (b : Int) (tr : Nat) (w : List Int) (x : Int) (v : List Int) : badL b tr (w ++ x :: v) = (badL b tr (w ++ [x]) || badL b tr (x :: v)) := by
  induction w with
  | nil => simp [badL]
  | cons z w ih =>
    cases w with
    | nil => simp [badL]
    | cons z' w =>
      show (hitB b tr z z' || badL b tr (z' :: w ++ x :: v)) = ((hitB b tr z z' || badL b tr (z' :: w ++ [x])) || badL b tr (x :: v))
      rw [ih, Bool.or_assoc]
section
variable {b : Int} {C : List Int} {c : Int} {less : Bool}
theorem hit_clN (hM : codeM b (C.length : Int) = 0) {x y : Nat} (hx : x < lnM b C) (hy : y < lnM b C) : hitB b C.length (x : Int) (y : Int) = clB b x y := by
  have := hit_cl hM hx hy
  rwa [Int.toNat_natCast] at this
theorem hit_zero (hM : codeM b (C.length : Int) = 0) {y : Int} (hy : 0 ≤ y ∧ y < (lnM b C : Int)) : hitB b C.length 0 y = false := by
  obtain ⟨m1, -⟩ := manyU_bd hM
  have h0 : 0 < lnM b C := m1
  have := hit_clN hM h0 (show y.toNat < lnM b C by omega)
  rw [cl_zero, show ((y.toNat : Nat) : Int) = y by omega] at this
  exact this
theorem badL_zero (hM : codeM b (C.length : Int) = 0) {w : List Int} (hw : okW (lnM b C) w) : badL b C.length (0 :: w) = badL b C.length w := by
  cases w with
  | nil => rfl
  | cons y w =>
    show (hitB b C.length 0 y || badL b C.length (y :: w)) = _
    rw [hit_zero hM (hw y (by simp))]
    rfl
/-- A word and what comes behind it. -/
theorem badL_on (hM : codeM b (C.length : Int) = 0) {w v : List Int} (hv : okW (lnM b C) v) : badL b C.length (w ++ v) = (badL b C.length w || badL b C.length (lastI w :: v)) := by
  cases w using list_snoc_ind with
  | h0 =>
    show badL b C.length v = (false || badL b C.length (0 :: v))
    rw [badL_zero hM hv]; rfl
  | h1 u x _ =>
    rw [lastI_snoc, List.append_assoc]
    exact badL_app b C.length u x v
theorem lnRight_bad (w : List Int) : rightW b (C.length : Int) w = !badL b C.length w := (bad_right rfl w).symm
def runP (b : Int) (C : List Int) (p : Int × Int) (v : List Int) : Int × Int := v.foldl (fun p l => lnStep b p (lsum b C l)) p
theorem lnRun_app (w v : List Int) : lnRun b C (w ++ v) = runP b C (lnRun b C w) v := by simp [lnRun, runP, List.foldl_append]
/-- Below: no right word that goes on so comes to more than this. -/
theorem plain_low (h1 : 1 ≤ b) (h2 : b ≤ 6) (hb : b ≠ 1) : ∀ (v : List Int) (p : Int × Int) (s : Int), dnA C ≤ s → s ≤ p.1 → s ≤ (runP b C p v).1
  | [], _, _, _, h => h
  | z :: v, p, s, h, hp => by
    have hud := udL_bd h2 C z
    have hs := udL_sum b C z
    have hk : kindsI b = b := by unfold kindsI; split <;> omega
    rw [hk] at hud
    have e : runP b C p (z :: v) = runP b C (p.1 * b + lsum b C z, 0) v := by
      show runP b C (lnStep b p (lsum b C z)) v = _
      unfold lnStep
      rw [if_neg hb]
    rw [e]
    refine plain_low h1 h2 hb v _ s h ?_
    show s ≤ p.1 * b + lsum b C z
    have h5 : (b - 1) * dnA C ≤ (b - 1) * p.1 := Int.mul_le_mul_of_nonneg_left (by omega) (by omega)
    rw [Int.sub_mul, Int.sub_mul] at h5
    rw [Int.sub_mul, Int.sub_mul] at hud
    rw [Int.mul_comm b p.1] at h5
    omega
theorem plain_high (h1 : 1 ≤ b) (h2 : b ≤ 6) (hb : b ≠ 1) : ∀ (v : List Int) (p : Int × Int) (s : Int), s ≤ -upA C → p.1 ≤ s → (runP b C p v).1 ≤ s
  | [], _, _, _, h => h
  | z :: v, p, s, h, hp => by
    have hud := udL_bd h2 C z
    have hs := udL_sum b C z
    have hk : kindsI b = b := by unfold kindsI; split <;> omega
    rw [hk] at hud
    have e : runP b C p (z :: v) = runP b C (p.1 * b + lsum b C z, 0) v := by
      show runP b C (lnStep b p (lsum b C z)) v = _
      unfold lnStep
      rw [if_neg hb]
    rw [e]
    refine plain_high h1 h2 hb v _ s h ?_
    show p.1 * b + lsum b C z ≤ s
    have h5 : (b - 1) * p.1 ≤ (b - 1) * (-upA C) := Int.mul_le_mul_of_nonneg_left (by omega) (by omega)
    rw [Int.sub_mul, Int.sub_mul, Int.mul_neg] at h5
    rw [Int.sub_mul, Int.sub_mul] at hud
    rw [Int.mul_comm b p.1] at h5
    omega
theorem runP_fib (p : Int × Int) (v : List Int) : runP 1 C p v = v.foldl (fun (p : Int × Int) z => (p.1 + p.2 + lsum 1 C z, p.1 + lsum 1 C z)) p := by
  unfold runP lnStep
  simp
theorem fold_neg (r : Int → Int) : ∀ (v : List Int) (x y : Int), (v.foldl (fun (p : Int × Int) z => (p.1 + p.2 + -r z, p.1 + -r z)) (-x, -y)).1 = -(v.foldl (fun (p : Int × Int) z => (p.1 + p.2 + r z, p.1 + r z)) (x, y)).1
  | [], _, _ => rfl
  | z :: v, x, y => by
    have := fold_neg r v (x + y + r z) (x + r z)
    show (v.foldl _ (-x + -y + -r z, -x + -r z)).1 = -(v.foldl _ (x + y + r z, x + r z)).1
    rw [← this]
    congr 2
    rw [show -x + -y + -r z = -(x + y + r z) by omega, show -x + -r z = -(x + r z) by omega]
theorem fib_lowP {x y l : Int} {v : List Int} (hv : badL 1 C.length (l :: v) = false) (h1 : -900 ≤ x - dnA C ∧ x - dnA C ≤ 900) (h2 : -900 ≤ x - dnA C + (y - dnA C + dnL 1 C l) ∧ x - dnA C + (y - dnA C + dnL 1 C l) ≤ 900) :
    fallV (x - dnA C) (y - dnA C + dnL 1 C l) = -2199023255552 ∨ fallV (x - dnA C) (y - dnA C + dnL 1 C l) + dnA C ≤ (runP 1 C (x, y) v).1 := by
  rcases fallV_is h1 h2 with h | h
  · exact .inl h
  · refine .inr ?_
    have hf := fib_low (r := lsum 1 C) (dn := dnL 1 C) (D := dnA C) (t := C.length) (fun z => by have := udL_sum 1 C z; have := udL_bd (b := 1) (by decide) C z; omega) (fun l z h => (udL_two h).2) v x y l (x - dnA C) (x - dnA C + (y - dnA C + dnL 1 C l)) (Int.le_refl _) (by omega) hv
    rw [runP_fib]
    have := h v.length
    omega
theorem fib_highP {x y l : Int} {v : List Int} (hv : badL 1 C.length (l :: v) = false) (h1 : -900 ≤ -x - upA C ∧ -x - upA C ≤ 900) (h2 : -900 ≤ -x - upA C + (-y - upA C + upL 1 C l) ∧ -x - upA C + (-y - upA C + upL 1 C l) ≤ 900) :
    fallV (-x - upA C) (-y - upA C + upL 1 C l) = -2199023255552 ∨ (runP 1 C (x, y) v).1 ≤ -fallV (-x - upA C) (-y - upA C + upL 1 C l) - upA C := by
  rcases fallV_is h1 h2 with h | h
  · exact .inl h
  · refine .inr ?_
    have hf := fib_low (r := fun z => -lsum 1 C z) (dn := upL 1 C) (D := upA C) (t := C.length) (fun z => by have := udL_sum 1 C z; have := udL_bd (b := 1) (by decide) C z; show -upL 1 C z ≤ -lsum 1 C z; omega) (fun l z h => (udL_two h).1) v (-x) (-y) l (-x - upA C) (-x - upA C + (-y - upA C + upL 1 C l)) (Int.le_refl _) (by omega) hv
    rw [fold_neg (lsum 1 C) v x y] at hf
    rw [runP_fib]
    have := h v.length
    omega
/-- What a point tells of the word that led to it. -/
def LpInv (b : Int) (C : List Int) (c : Int) (less : Bool) (w : List Int) (p : LPt) : Prop :=
  LpOk b p ∧ (p.f = 0 → badL b C.length w = false ∧ lnRun b C w = (p.s, p.y) ∧ (b = 1 → p.l = lastI w)) ∧
  (p.f = 1 → less = true ∧ badL b C.length w = false ∧ (b = 1 → p.l = lastI w) ∧ ∀ v, okW (lnM b C) v → badL b C.length (w ++ v) = false → (lnRun b C (w ++ v)).1 < -c) ∧
  (p.f = 2 → ∀ v, okW (lnM b C) v → lineW b C c less (w ++ v) = false)
theorem lpInv_end {w : List Int} {p : LPt} (h : LpInv b C c less w p) : lpEnd c less p = lineW b C c less w := by
  obtain ⟨h0, h1, h2, h3⟩ := h
  unfold lpEnd
  rcases h0 with ⟨k, -⟩ | ⟨k, -⟩ | ⟨k, -⟩
  · obtain ⟨a1, a2, -⟩ := h1 k
    unfold lineW
    rw [lnRight_bad, a1, a2, k]
    simp
  · obtain ⟨a1, a2, -, a3⟩ := h2 k
    have := a3 [] (fun _ h => by simp at h) (by rw [List.append_nil]; exact a2)
    rw [List.append_nil] at this
    unfold lineW
    rw [lnRight_bad, a2, k, a1]
    unfold lnEnd
    simp
    omega
  · have := h3 k [] (fun _ h => by simp at h)
    rw [List.append_nil] at this
    rw [this, k]
    simp
theorem lpInv_start : LpInv b C c less [] ⟨0, 0, 0, 0⟩ := ⟨lpOk_start b, fun _ => ⟨rfl, rfl, fun _ => rfl⟩, fun h => absurd h (by decide), fun h => absurd h (by decide)⟩
theorem lineW_no_bad {w : List Int} (h : badL b C.length w = true) : lineW b C c less w = false := by unfold lineW; rw [lnRight_bad, h]; rfl
theorem badL_plain (hb : b ≠ 1) (tr : Nat) : ∀ w : List Int, badL b tr w = false
  | [] => rfl
  | [_] => rfl
  | x :: y :: r => by
    show (hitB b tr x y || badL b tr (y :: r)) = false
    rw [badL_plain hb tr (y :: r)]
    unfold hitB
    simp [hb]
/-- What is settled is settled rightly. -/
theorem settle_inv {w : List Int} {p : LPt} {low high : Int} (hc : -60 ≤ c ∧ c ≤ 60) (hok : LpOk b (lpSettle c less p low high)) (hf : p.f = 0) (h0 : badL b C.length w = false) (h1 : lnRun b C w = (p.s, p.y)) (h2 : b = 1 → p.l = lastI w)
    (hlow : low ≤ -100 ∨ ∀ v, okW (lnM b C) v → badL b C.length (w ++ v) = false → low ≤ (lnRun b C (w ++ v)).1)
    (hhigh : 100 ≤ high ∨ ∀ v, okW (lnM b C) v → badL b C.length (w ++ v) = false → (lnRun b C (w ++ v)).1 ≤ high) : LpInv b C c less w (lpSettle c less p low high) := by
  rcases settle_cases c less p low high with ⟨e, e1, e2⟩ | ⟨e, e1⟩ | ⟨e, -⟩
  · rw [e] at hok ⊢
    refine ⟨hok, fun h => absurd h (by show ¬ (1 : Int) = 0; decide), fun _ => ⟨e1, h0, h2, fun v hv hb => ?_⟩, fun h => absurd h (by show ¬ (1 : Int) = 2; decide)⟩
    rcases hhigh with h | h
    · omega
    · have := h v hv hb; omega
  · rw [e] at hok ⊢
    refine ⟨hok, fun h => absurd h (by show ¬ (2 : Int) = 0; decide), fun h => absurd h (by show ¬ (2 : Int) = 1; decide), fun _ v hv => ?_⟩
    by_cases hb : badL b C.length (w ++ v) = true
    · exact lineW_no_bad hb
    · have hb' : badL b C.length (w ++ v) = false := by simpa using hb
      unfold lineW lnEnd
      rw [lnRight_bad, hb']
      rcases e1 with ⟨k1, k2⟩ | k2 | ⟨k1, k2⟩
      · rcases hhigh with h | h
        · omega
        · have := h v hv hb'
          subst k1
          simp; omega
      · rcases hlow with h | h
        · omega
        · have := h v hv hb'
          cases less <;> simp <;> omega
      · rcases hlow with h | h
        · omega
        · have := h v hv hb'
          subst k1
          simp; omega
  · rw [e] at hok ⊢
    refine ⟨hok, fun _ => ⟨h0, h1, h2⟩, fun h => absurd (hf.symm.trans h) (by decide), fun h => absurd (hf.symm.trans h) (by decide)⟩
theorem lpInv_step {w : List Int} {p : LPt} {x : Nat} (hM : codeM b (C.length : Int) = 0) (h12 : absT C C.length ≤ 12) (hc : -60 ≤ c ∧ c ≤ 60) (hw : okW (lnM b C) w) (hx : x < lnM b C) (h : LpInv b C c less w p) : LpInv b C c less (w ++ [(x : Int)]) (lpStep b C c less p x) := by
  obtain ⟨h1, h2, -⟩ := codeM_zero hM
  obtain ⟨m1, m36⟩ := manyU_bd hM
  have hx36 : x < 36 := Nat.lt_of_lt_of_le hx m36
  have hok := lpStep_ok (c := c) (less := less) h1 h2 h12 hc (show x < 64 by omega) h.1
  obtain ⟨k0, k1, k2, k3⟩ := h
  have hA := udA h12
  have hxw : okW (lnM b C) [(x : Int)] := fun y hy => by simp at hy; subst hy; omega
  have hcat : ∀ v, okW (lnM b C) v → okW (lnM b C) ((x : Int) :: v) := fun v hv => okW_append.2 ⟨hxw, hv⟩
  have happ : ∀ v : List Int, w ++ [(x : Int)] ++ v = w ++ (x : Int) :: v := fun v => by simp
  have hbd := lpOk_bd k0
  unfold lpStep at hok ⊢
  by_cases hb : b = 1
  · subst hb
    rw [if_pos rfl] at hok ⊢
    unfold lpFib at hok ⊢
    have hlm : ∀ hl : p.l = lastI w, lastI w = ((p.l.toNat : Nat) : Int) ∧ p.l.toNat < lnM 1 C := fun hl => by
      refine ⟨by omega, ?_⟩
      cases w using list_snoc_ind with
      | h0 => rw [hl]; exact m1
      | h1 u y _ =>
        rw [lastI_snoc] at hl
        have := hw y (by simp)
        omega
    have hcl : ∀ hl : p.l = lastI w, badL 1 C.length w = false → badL 1 C.length (w ++ [(x : Int)]) = decide (p.l.toNat &&& x ≠ 0) := fun hl h0 => by
      rw [badL_on hM hxw, h0]
      obtain ⟨e1, e2⟩ := hlm hl
      rw [e1]
      show (false || (hitB 1 C.length ((p.l.toNat : Nat) : Int) (x : Int) || false)) = _
      rw [hit_clN hM e2 hx]
      unfold clB
      simp
    by_cases d1 : p.f = 2 ∨ p.l.toNat &&& x ≠ 0
    · rw [if_pos d1] at hok ⊢
      refine ⟨hok, fun h => absurd h (by show ¬ (2 : Int) = 0; decide), fun h => absurd h (by show ¬ (2 : Int) = 1; decide), fun _ v hv => ?_⟩
      by_cases d3 : p.f = 2
      · rw [happ]; exact k3 d3 _ (hcat v hv)
      · have d4 : p.l.toNat &&& x ≠ 0 := d1.resolve_left d3
        have hh : badL 1 C.length w = false ∧ p.l = lastI w := by
          rcases k0 with ⟨q, -⟩ | ⟨q, -⟩ | ⟨q, -⟩
          · exact ⟨(k1 q).1, (k1 q).2.2 rfl⟩
          · exact ⟨(k2 q).2.1, (k2 q).2.2.1 rfl⟩
          · exact absurd q d3
        have h5 := hcl hh.2 hh.1
        rw [decide_eq_true d4] at h5
        refine lineW_no_bad ?_
        rw [badL_on hM hv, h5]; rfl
    · rw [if_neg d1] at hok ⊢
      have d4 : ¬ (p.l.toNat &&& x ≠ 0) := fun h => d1 (.inr h)
      have d5 : p.f ≠ 2 := fun h => d1 (.inl h)
      by_cases d2 : p.f = 1
      · rw [if_pos d2] at hok ⊢
        obtain ⟨a1, a2, a3, a4⟩ := k2 d2
        have h5 := hcl (a3 rfl) a2
        rw [decide_eq_false d4] at h5
        exact ⟨hok, fun h => absurd h (by show ¬ (1 : Int) = 0; decide), fun _ => ⟨a1, h5, fun _ => (lastI_snoc _ _).symm, fun v hv hbv => by rw [happ] at hbv ⊢; exact a4 _ (hcat v hv) hbv⟩, fun h => absurd h (by show ¬ (1 : Int) = 2; decide)⟩
      · rw [if_neg d2] at hok ⊢
        have d0 : p.f = 0 := by omega
        obtain ⟨a1, a2, a3⟩ := k1 d0
        have h5 := hcl (a3 rfl) a1
        rw [decide_eq_false d4] at h5
        have hrun : lnRun 1 C (w ++ [(x : Int)]) = (p.s + p.y + lsum 1 C x, p.s + lsum 1 C x) := by rw [lnRun_snoc, a2]; rfl
        have hls := lsum_bd h2 h12 (x : Int)
        have hk : kindsI 1 = 2 := by decide
        have hud := udL_bd (b := 1) (by decide) C (x : Int)
        rw [hk] at hls hud
        have hgo : ∀ v, okW (lnM 1 C) v → badL 1 C.length (w ++ [(x : Int)] ++ v) = false → badL 1 C.length ((x : Int) :: v) = false := fun v hv hbv => by
          rw [badL_on hM hv, h5, lastI_snoc] at hbv
          simpa using hbv
        refine settle_inv hc hok rfl h5 hrun (fun _ => (lastI_snoc _ _).symm) ?_ ?_
        · unfold lpLowF
          by_cases hfar : fallV (p.s + p.y + lsum 1 C x - dnA C) (p.s + lsum 1 C x - dnA C + dnL 1 C x) = -2199023255552
          · left; omega
          · right
            intro v hv hbv
            rw [lnRun_app, hrun]
            rcases fib_lowP (x := p.s + p.y + lsum 1 C x) (y := p.s + lsum 1 C x) (hgo v hv hbv) (by omega) (by omega) with h | h
            · exact absurd h hfar
            · exact h
        · unfold lpHighF
          by_cases hfar : fallV (-(p.s + p.y + lsum 1 C x) - upA C) (-(p.s + lsum 1 C x) - upA C + upL 1 C x) = -2199023255552
          · left; omega
          · right
            intro v hv hbv
            rw [lnRun_app, hrun]
            rcases fib_highP (x := p.s + p.y + lsum 1 C x) (y := p.s + lsum 1 C x) (hgo v hv hbv) (by omega) (by omega) with h | h
            · exact absurd h hfar
            · exact h
  · rw [if_neg hb] at hok ⊢
    unfold lpPlain at hok ⊢
    by_cases d1 : p.f = 0
    · rw [if_pos d1] at hok ⊢
      obtain ⟨a1, a2, a3⟩ := k1 d1
      have hrun : lnRun b C (w ++ [(x : Int)]) = (p.s * b + lsum b C x, 0) := by
        rw [lnRun_snoc, a2]
        unfold lnStep
        rw [if_neg hb]
      refine settle_inv hc hok rfl (badL_plain hb _ _) hrun (fun h => absurd h hb) ?_ ?_
      · unfold lpLowP
        by_cases hD : dnA C ≤ p.s * b + lsum b C x
        · rw [if_pos hD]
          exact .inr fun v _ _ => by rw [lnRun_app, hrun]; exact plain_low h1 h2 hb v _ _ hD (Int.le_refl _)
        · rw [if_neg hD]; left; decide
      · unfold lpHighP
        by_cases hD : p.s * b + lsum b C x ≤ -upA C
        · rw [if_pos hD]
          exact .inr fun v _ _ => by rw [lnRun_app, hrun]; exact plain_high h1 h2 hb v _ _ hD (Int.le_refl _)
        · rw [if_neg hD]; left; decide
    · rw [if_neg d1] at hok ⊢
      refine ⟨hok, fun h => absurd h d1, fun h => ?_, fun h v hv => by rw [happ]; exact k3 h _ (hcat v hv)⟩
      obtain ⟨a1, a2, a3, a4⟩ := k2 h
      exact ⟨a1, badL_plain hb _ _, fun h => absurd h hb, fun v hv hbv => by rw [happ] at hbv ⊢; exact a4 _ (hcat v hv) hbv⟩
/-- By numbers. -/
def lpD (b : Int) (C : List Int) (c : Int) (less : Bool) (s l : Nat) : Nat := ptN (lpStep b C c less (unpt s) l)
theorem lp_run (h : lnF b C c = 0) (less : Bool) (w : List Int) (hw : okW (lnM b C) w) : LpInv b C c less w (unpt (runG (lpD b C c less) 1506816 w)) ∧ runG (lpD b C c less) 1506816 w = ptN (unpt (runG (lpD b C c less) 1506816 w)) := by
  obtain ⟨hM, h12, hc⟩ := lnF_zero h
  induction w using list_snoc_ind with
  | h0 =>
    have e : runG (lpD b C c less) 1506816 [] = 1506816 := rfl
    rw [e, lp_start.1]
    exact ⟨lpInv_start, lp_start.2.symm⟩
  | h1 w y ih =>
    obtain ⟨hw1, hw2⟩ := okW_append.1 hw
    have hy := hw2 y (by simp)
    obtain ⟨i1, i2⟩ := ih hw1
    have hs := lpInv_step (x := y.toNat) hM h12 hc hw1 (by omega) i1
    rw [show ((y.toNat : Nat) : Int) = y by omega] at hs
    have hu := unpt_pt hs.1
    rw [runG_snoc]
    unfold lpD at i1 i2 hs hu ⊢
    rw [hu.1]
    exact ⟨hs, rfl⟩
def lpL (b : Int) (C : List Int) (c : Int) (less : Bool) : List Nat := outG (lpD b C c less) (lnM b C) 1506816 3013824
def lpN (b : Int) (C : List Int) (c : Int) (less : Bool) : List (List Int) := gN (lpD b C c less) (lnM b C) (lpL b C c less)
def lpE (b : Int) (C : List Int) (c : Int) (less : Bool) : List Bool := gE (fun s => lpEnd c less (unpt s)) (lpL b C c less)
theorem lp_few (h : lnF b C c = 0) (less : Bool) (w : List Int) (hw : okW (lnM b C) w) : runG (lpD b C c less) 1506816 w < 3013824 := by
  obtain ⟨h1, h2⟩ := lp_run h less w hw
  have := (unpt_pt h1.1).2
  omega
theorem lpL_ok (h : lnF b C c = 0) (less : Bool) : ClosedG (lpD b C c less) (lnM b C) (lpL b C c less) ∧ 0 < (lpL b C c less).length ∧ (lpL b C c less).length ≤ 3013824 ∧ (lpL b C c less).getD 0 0 = 1506816 := by
  have := outG_done (d := lpD b C c less) (m := lnM b C) (f := 1506816) (B := 3013824) (fun w hw => lp_few h less w hw)
  unfold lpL
  exact this
theorem lp_all (h : lnF b C c = 0) (less : Bool) : GoodN (lnM b C) (lpN b C c less).length (lpN b C c less) ∧ ∀ w, okW (lnM b C) w → tkB (lpN b C c less) (lpE b C c less) w = lineW b C c less w := by
  obtain ⟨hM, -⟩ := lnF_zero h
  obtain ⟨m1, m36⟩ := manyU_bd hM
  obtain ⟨k1, k2, k3, k4⟩ := lpL_ok h less
  constructor
  · have hg := gN_good k1 k2 (by omega) m1 m36
    have e : (lpN b C c less).length = (lpL b C c less).length := gN_len _ _ _
    rw [e]
    exact hg
  · intro w hw
    have ht := gN_tk (p := fun s => lpEnd c less (unpt s)) k1 k2 w hw
    rw [k4] at ht
    rw [← lpInv_end (lp_run h less w hw).1]
    exact ht
end
end Go.Proofs.Ythadkoplbgibgaf

/- What the law TrackTakes says: mathematics; two rows that grow side by side. -/
namespace Go.Proofs.Ythadkoplbgibgaf
open Go.RowKit

/-- Two rows of the call's own, side by side. -/
def TwoR (w : World) (xs ys : List Int) (v v' : Value) (W : World) : Prop :=
  W.ownsRow w.heap.size 3 1 v xs.length (xs.map (Value.int .i64)) ∧ W.ownsRow w.heap.size 3 1 v' ys.length (ys.map (Value.int .i64)) ∧ (∀ z, v.ownBlock = some z → v'.ownBlock ≠ some z) ∧ Below w.heap.size w W
theorem twoR_nil (w : World) : TwoR w [] [] (.slice none 0 0) (.slice none 0 0) w := ⟨World.ownsRow_nil _ _ _ _, World.ownsRow_nil _ _ _ _, fun z h => by simp [Value.ownBlock] at h, Below.refl _ _⟩
theorem twoR_swap {w : World} {xs ys : List Int} {v v' : Value} {W : World} (h : TwoR w xs ys v v' W) : TwoR w ys xs v' v W := ⟨h.2.1, h.1, fun z h1 h2 => h.2.2.1 z h2 h1, h.2.2.2⟩
end Go.Proofs.Ythadkoplbgibgaf
