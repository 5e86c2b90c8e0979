/- least.shrink, Least, LeastWide: contracts. -/
import Derived.Deep.RegionWith
import Derived.Test.YtebbjmcjgjecmaaZAt
import Derived.Test.YtebbjmcjgjecmaaBx
import Derived.Test.YtebbjmcjgjecmaaZMp
namespace Go.Proofs.Ytebbjmcjgjecmaa
open Go.RowKit

def LeastU (w : World) (b t : Int) (N : List (List Int)) (E : List Bool) (m : Nat) (e : Ending) (w' : World) : Prop :=
  ∃ a c a' c', e = .returned (.tuple #[.agg #[.int .i64 b, .int .i64 t, .slice a (leastN N E m).length c, .slice a' (leastN N E m).length c'], .nilIface]) ∧ AutoNew w a (leastN N E m).length (leastN N E m) a' (leastE N E m) w' ∧ Below w.heap.size w w'

/-- .. or it has too many states. -/
def LeastR (w : World) (b t : Int) (N : List (List Int)) (E : List Bool) (m : Nat) (e : Ending) (w' : World) : Prop :=
  (leastK N E m ≤ 80 → LeastU w b t N E m e w') ∧ (80 < leastK N E m → e = .returned (.tuple #[.agg #[.int .i64 0, .int .i64 0, .slice none 0 0, .slice none 0 0], .iface 44 (.int .i64 3)]) ∧ Below w.heap.size w w')

set_option maxHeartbeats 8000000 in
set_option maxRecDepth 8000 in
theorem shrink_any (b t : Int) (a : Option Addr) (n cap m : Nat) (N : List (List Int)) (a' : Option Addr) (cap' : Nat) (E : List Bool) (ast : Option Addr) (cs : Nat) (w : World) (hs : Sl2 w a n N) (hG : GoodN m n N) (he : SlB w a' n E) (hst : Sl w ast (metL N).length (metL N)) :
    Calls Try.prog 24 #[.agg #[.int .i64 b, .int .i64 t, .slice a n cap, .slice a' n cap'], .slice ast (metL N).length cs] w (LeastR w b t N E m) := by
  have hB0 : Below w.heap.size w ((w.alloc (.cells #[.int .i64 b, .int .i64 t, .slice a n cap, .slice a' n cap'] 25)).alloc (.cells #[.int .i64 0, .int .i64 0, .slice none 0 0, .slice none 0 0] 25)) := ((Below.refl _ _).alloc (Nat.le_refl _) _).alloc (by simp) _
  have HB0 := hide hB0
  have HS := hide (sl2_below hs hB0)
  have HE := hide (slB_below he hB0)
  have HBX := hide (fun W (h : Below _ _ W) => (@two_boxes w W (.int .i64 b) (.int .i64 t) (.slice a n cap) (.slice a' n cap') (.int .i64 0) (.int .i64 0) (.slice none 0 0) (.slice none 0 0) 25 h).1)
  have HOLD := hide (heap_alloc_last (w.alloc (.cells #[.int .i64 b, .int .i64 t, .slice a n cap, .slice a' n cap'] 25)) (.cells #[.int .i64 0, .int .i64 0, .slice none 0 0, .slice none 0 0] 25))
  rw [World.size_alloc] at HOLD
  have HST := hide (sl_below hst hB0)
  have HCL := hide (classes_any b t a n cap m N a' cap' E ast cs _ HS.out hG HE.out HST.out)
  unfold ClsW ClsU at HCL
  have HMG := hide (fun K ac cc W h1 h2 h3 h4 => merge_any b t a n cap m N a' cap' E (simB N E m (K + 1)) (simB_eqv N E m (K + 1)) ast cs ac cc W h1 hG h2 h3 h4)
  unfold GivesAuto at HMG
  have HRS := hide (fun K h => @round_stab m n N hG E K h)
  clear hs he hG hst hB0
  generalize hW0 : (w.alloc (.cells #[.int .i64 b, .int .i64 t, .slice a n cap, .slice a' n cap'] 25)).alloc (.cells #[.int .i64 0, .int .i64 0, .slice none 0 0, .slice none 0 0] 25) = wb at HB0 HS HE HBX HOLD HST HCL
  have HSZ0 : Hid (wb.heap.size = w.heap.size + 2) := by show _ = _; rw [← hW0]; simp
  obtain ⟨hx0, hx1, hx2, hx3⟩ := HBX.out wb (Below.refl _ _)
  unfold LeastR LeastU
  generalize hLN : leastN N E m = LN at HRS ⊢
  generalize hLE : leastE N E m = LE at HRS ⊢
  generalize hLK : leastK N E m = LK at HRS HCL ⊢
  clear hLN hLE hLK
  go_enter Try.func24, Try.ntmps24
  go_wp2_with fail
  clear hW0 hx0 hx1 hx2 hx3
  refine HCL.out.mono ?_
  rintro e w1 ⟨hyes, hno⟩
  by_cases hK : LK ≤ 80
  · obtain ⟨K, bf, hst, rfl, hbf, hsl, hb1⟩ := hyes hK
    have HBW := hide hb1
    have hm := HMG.out K (some ⟨bf, 0, none⟩) n w1 (sl2_below HS.out hb1) (slB_below HE.out hb1) (sl_below HST.out hb1) hsl
    obtain ⟨-, e1, e2, -⟩ := HRS.out K hst
    rw [e1, e2] at hm
    have HM := hide hm
    obtain ⟨hx0, hx1, hx2, hx3⟩ := HBX.out w1 hb1
    clear hyes hno hst hbf hsl hb1 e1 e2 hm HMG HRS HCL
    go_wp2_with fail
    clear hx0 hx1 hx2 hx3
    refine HM.out.mono ?_
    rintro e w3 ⟨ax, cx, ax', cx', rfl, hnew, hb3⟩
    have hold := ((below_step HBW.out hb3).block (w.heap.size + 1) (by have := HSZ0.out; omega)).trans HOLD.out
    have HHOLD := hide hold
    have HBF := hide (below_step HB0.out (below_step HBW.out hb3))
    have HNEW := hide hnew
    have HSW := hide HBW.out.size
    obtain ⟨⟨o0, o1, o2, o3⟩, of⟩ := box_cells hold
    clear hold hnew hb3
    go_wp2
    obtain ⟨⟨hset, hsz, hoth⟩, hbel⟩ := box_set (v0 := .int .i64 b) (v1 := .int .i64 t) (v2 := .slice ax LN.length cx) (v3 := .slice ax' LN.length cx') HHOLD.out rfl
    have hfin : AutoNew w ax LN.length LN ax' LE ((((w3.setCell ⟨w.heap.size + 1, 0, none⟩ (.int .i64 b)).setCell ⟨w.heap.size + 1, 1, none⟩ (.int .i64 t)).setCell ⟨w.heap.size + 1, 2, none⟩ (.slice ax LN.length cx)).setCell ⟨w.heap.size + 1, 3, none⟩ (.slice ax' LN.length cx')) := fun W' hW' => HNEW.out W' (fun x hx hxl => by
      have h1 := HSW.out
      have h2 := HSZ0.out
      rw [hW' x (by omega) (by rw [hsz]; exact hxl), hoth x (by omega)])
    have hb := hbel w w.heap.size HBF.out (by omega)
    generalize (((w3.setCell ⟨w.heap.size + 1, 0, none⟩ (.int .i64 b)).setCell ⟨w.heap.size + 1, 1, none⟩ (.int .i64 t)).setCell ⟨w.heap.size + 1, 2, none⟩ (.slice ax LN.length cx)).setCell ⟨w.heap.size + 1, 3, none⟩ (.slice ax' LN.length cx') = wZ at hset hfin hb ⊢
    obtain ⟨⟨z0, z1, z2, z3⟩, -⟩ := box_cells hset
    exact bodyPost_ret (v := .tuple #[.agg #[.int .i64 b, .int .i64 t, .slice ax LN.length cx, .slice ax' LN.length cx'], .nilIface]) (by simp [results, Try.results24, go_sem, z0, z1, z2, z3]) rfl ⟨fun _ => ⟨ax, cx, ax', cx', rfl, hfin, hb⟩, fun h => by omega⟩
  · obtain ⟨rfl, hb3⟩ := hno (by omega)
    have HBW := hide (Below.refl wb.heap.size wb)
    clear hyes hno HMG HRS HCL
    have hold := ((hb3).block (w.heap.size + 1) (by have := HSZ0.out; omega)).trans HOLD.out
    have HHOLD := hide hold
    have HBF := hide (below_step HB0.out (hb3))
    obtain ⟨⟨o0, o1, o2, o3⟩, of⟩ := box_cells hold
    clear hold hb3
    go_wp2
    obtain ⟨⟨hset, hsz, hoth⟩, hbel⟩ := box_set0 HHOLD.out rfl
    have hb := hbel w w.heap.size HBF.out (by omega)
    generalize (((w1.setCell ⟨w.heap.size + 1, 0, none⟩ (.int .i64 0)).setCell ⟨w.heap.size + 1, 1, none⟩ (.int .i64 0)).setCell ⟨w.heap.size + 1, 2, none⟩ (.slice none 0 0)).setCell ⟨w.heap.size + 1, 3, none⟩ (.slice none 0 0) = wZ at hset hb ⊢
    obtain ⟨⟨z0, z1, z2, z3⟩, -⟩ := box_cells hset
    exact bodyPost_ret (v := .tuple #[.agg #[.int .i64 0, .int .i64 0, .slice none 0 0, .slice none 0 0], .iface 44 (.int .i64 3)]) (by simp [results, Try.results24, go_sem, z0, z1, z2, z3]) rfl ⟨fun h => by omega, fun _ => ⟨rfl, hb⟩⟩

set_option maxHeartbeats 8000000 in
set_option maxRecDepth 8000 in
theorem least_any (b t : Int) (a : Option Addr) (n cap m : Nat) (N : List (List Int)) (a' : Option Addr) (cap' : Nat) (E : List Bool) (w : World) (hs : Sl2 w a n N) (he : SlB w a' n E) (hG : GoodN m n N) (hA : autoC b t N n = 0) :
    Calls Try.prog 12 #[.agg #[.int .i64 b, .int .i64 t, .slice a n cap, .slice a' n cap']] w (LeastR w b t N E m) := by
  have hB0 : Below w.heap.size w ((w.alloc (.cells #[.int .i64 b, .int .i64 t, .slice a n cap, .slice a' n cap'] 25)).alloc (.cells #[.int .i64 0, .int .i64 0, .slice none 0 0, .slice none 0 0] 25)) := ((Below.refl _ _).alloc (Nat.le_refl _) _).alloc (by simp) _
  have HB0 := hide hB0
  have HS := hide (sl2_below hs hB0)
  have HE := hide (slB_below he hB0)
  have HBX := hide (fun W (h : Below _ _ W) => (@two_boxes w W (.int .i64 b) (.int .i64 t) (.slice a n cap) (.slice a' n cap') (.int .i64 0) (.int .i64 0) (.slice none 0 0) (.slice none 0 0) 25 h).1)
  have HOLD := hide (heap_alloc_last (w.alloc (.cells #[.int .i64 b, .int .i64 t, .slice a n cap, .slice a' n cap'] 25)) (.cells #[.int .i64 0, .int .i64 0, .slice none 0 0, .slice none 0 0] 25))
  rw [World.size_alloc] at HOLD
  have HRE := hide (fun W h => reach_u b t a a' n cap n cap' N W h he.2.1)
  rw [show reachL b t N n = metL N by unfold reachL; rw [if_pos hA], hA, errV_yes rfl] at HRE
  unfold OfU at HRE
  have HSH := hide (fun ast cs W h1 h2 h3 => shrink_any b t a n cap m N a' cap' E ast cs W h1 hG h2 h3)
  unfold LeastR LeastU at HSH ⊢
  clear hs he hA hG hB0
  generalize hW0 : (w.alloc (.cells #[.int .i64 b, .int .i64 t, .slice a n cap, .slice a' n cap'] 25)).alloc (.cells #[.int .i64 0, .int .i64 0, .slice none 0 0, .slice none 0 0] 25) = wb at HB0 HS HE HBX HOLD
  have HSZ0 : Hid (wb.heap.size = w.heap.size + 2) := by show _ = _; rw [← hW0]; simp
  obtain ⟨hx0, hx1, hx2, hx3⟩ := HBX.out wb (Below.refl _ _)
  generalize hLN : leastN N E m = LN at HSH ⊢
  generalize hLE : leastE N E m = LE at HSH ⊢
  generalize hLK : leastK N E m = LK at HSH ⊢
  clear hLN hLE hLK
  go_enter Try.func12, Try.ntmps12
  go_wp2_with fail
  clear hW0 hx0 hx1 hx2 hx3
  refine (HRE.out wb HS.out).mono ?_
  rintro e w1 ⟨ar, cr, rfl, ⟨hsr, -⟩, hb1⟩
  have HBW := hide hb1
  obtain ⟨hx0, hx1, hx2, hx3⟩ := HBX.out w1 hb1
  have HS1 := hide (HSH.out ar cr w1 (sl2_below HS.out hb1) (slB_below HE.out hb1) hsr)
  clear hsr hb1 HRE HSH
  go_wp2_with fail
  clear hx0 hx1 hx2 hx3
  refine HS1.out.mono ?_
  rintro e w3 ⟨hyes, hno⟩
  by_cases hK : LK ≤ 80
  · obtain ⟨ax, cx, ax', cx', rfl, hnew, hb3⟩ := hyes hK
    clear hyes hno HS1
    have hold := ((below_step HBW.out hb3).block (w.heap.size + 1) (by have := HSZ0.out; omega)).trans HOLD.out
    have HHOLD := hide hold
    have HBF := hide (below_step HB0.out (below_step HBW.out hb3))
    have HNEW := hide hnew
    have HSW := hide HBW.out.size
    obtain ⟨⟨o0, o1, o2, o3⟩, of⟩ := box_cells hold
    clear hold hnew hb3
    go_wp2
    obtain ⟨⟨hset, hsz, hoth⟩, hbel⟩ := box_set (v0 := .int .i64 b) (v1 := .int .i64 t) (v2 := .slice ax LN.length cx) (v3 := .slice ax' LN.length cx') HHOLD.out rfl
    have hfin : AutoNew w ax LN.length LN ax' LE ((((w3.setCell ⟨w.heap.size + 1, 0, none⟩ (.int .i64 b)).setCell ⟨w.heap.size + 1, 1, none⟩ (.int .i64 t)).setCell ⟨w.heap.size + 1, 2, none⟩ (.slice ax LN.length cx)).setCell ⟨w.heap.size + 1, 3, none⟩ (.slice ax' LN.length cx')) := fun W' hW' => HNEW.out W' (fun x hx hxl => by
      have h1 := HSW.out
      have h2 := HSZ0.out
      rw [hW' x (by omega) (by rw [hsz]; exact hxl), hoth x (by omega)])
    have hb := hbel w w.heap.size HBF.out (by omega)
    generalize (((w3.setCell ⟨w.heap.size + 1, 0, none⟩ (.int .i64 b)).setCell ⟨w.heap.size + 1, 1, none⟩ (.int .i64 t)).setCell ⟨w.heap.size + 1, 2, none⟩ (.slice ax LN.length cx)).setCell ⟨w.heap.size + 1, 3, none⟩ (.slice ax' LN.length cx') = wZ at hset hfin hb ⊢
    obtain ⟨⟨z0, z1, z2, z3⟩, -⟩ := box_cells hset
    exact bodyPost_ret (v := .tuple #[.agg #[.int .i64 b, .int .i64 t, .slice ax LN.length cx, .slice ax' LN.length cx'], .nilIface]) (by simp [results, Try.results12, go_sem, z0, z1, z2, z3]) rfl ⟨fun _ => ⟨ax, cx, ax', cx', rfl, hfin, hb⟩, fun h => by omega⟩
  · obtain ⟨rfl, hb3⟩ := hno (by omega)
    clear hyes hno HS1
    have hold := ((below_step HBW.out hb3).block (w.heap.size + 1) (by have := HSZ0.out; omega)).trans HOLD.out
    have HHOLD := hide hold
    have HBF := hide (below_step HB0.out (below_step HBW.out hb3))
    obtain ⟨⟨o0, o1, o2, o3⟩, of⟩ := box_cells hold
    clear hold hb3
    go_wp2
    obtain ⟨⟨hset, hsz, hoth⟩, hbel⟩ := box_set0 HHOLD.out rfl
    have hb := hbel w w.heap.size HBF.out (by omega)
    generalize (((w3.setCell ⟨w.heap.size + 1, 0, none⟩ (.int .i64 0)).setCell ⟨w.heap.size + 1, 1, none⟩ (.int .i64 0)).setCell ⟨w.heap.size + 1, 2, none⟩ (.slice none 0 0)).setCell ⟨w.heap.size + 1, 3, none⟩ (.slice none 0 0) = wZ at hset hb ⊢
    obtain ⟨⟨z0, z1, z2, z3⟩, -⟩ := box_cells hset
    exact bodyPost_ret (v := .tuple #[.agg #[.int .i64 0, .int .i64 0, .slice none 0 0, .slice none 0 0], .iface 44 (.int .i64 3)]) (by simp [results, Try.results12, go_sem, z0, z1, z2, z3]) rfl ⟨fun h => by omega, fun _ => ⟨rfl, hb⟩⟩
theorem least_ok (b t : Int) (a : Option Addr) (n cap : Nat) (N : List (List Int)) (a' : Option Addr) (cap' : Nat) (E : List Bool) (w : World) (hs : Sl2 w a n N) (he : SlB w a' n E) (hA : autoC b t N n = 0) :
    Calls Try.prog 12 #[.agg #[.int .i64 b, .int .i64 t, .slice a n cap, .slice a' n cap']] w (LeastU w b t N E (manyU b t).toNat) := by
  obtain ⟨-, -, hG, -⟩ := autoC_zero hA
  rw [hs.1] at hG
  refine (least_any b t a n cap _ N a' cap' E w hs he hG hA).mono ?_
  rintro e w' ⟨h, -⟩
  exact h (leastK_80 hG E (by have := autoC_80 hA; rw [hs.1] at this; exact this))

set_option maxHeartbeats 8000000 in
set_option maxRecDepth 8000 in
theorem leastw_any (b t : Int) (a : Option Addr) (n cap m : Nat) (N : List (List Int)) (a' : Option Addr) (cap' : Nat) (E : List Bool) (w : World) (hs : Sl2 w a n N) (he : SlB w a' n E) (hG : GoodN m n N) (hA : autoM 9223372036854775807 b t N n = 0) :
    Calls Try.prog 17 #[.agg #[.int .i64 b, .int .i64 t, .slice a n cap, .slice a' n cap']] w (LeastR w b t N E m) := by
  have hB0 : Below w.heap.size w ((w.alloc (.cells #[.int .i64 b, .int .i64 t, .slice a n cap, .slice a' n cap'] 25)).alloc (.cells #[.int .i64 0, .int .i64 0, .slice none 0 0, .slice none 0 0] 25)) := ((Below.refl _ _).alloc (Nat.le_refl _) _).alloc (by simp) _
  have HB0 := hide hB0
  have HS := hide (sl2_below hs hB0)
  have HE := hide (slB_below he hB0)
  have HBX := hide (fun W (h : Below _ _ W) => (@two_boxes w W (.int .i64 b) (.int .i64 t) (.slice a n cap) (.slice a' n cap') (.int .i64 0) (.int .i64 0) (.slice none 0 0) (.slice none 0 0) 25 h).1)
  have HOLD := hide (heap_alloc_last (w.alloc (.cells #[.int .i64 b, .int .i64 t, .slice a n cap, .slice a' n cap'] 25)) (.cells #[.int .i64 0, .int .i64 0, .slice none 0 0, .slice none 0 0] 25))
  rw [World.size_alloc] at HOLD
  have HRE := hide (fun W h => reachw_u b t m a a' n cap n cap' N W h he.2.1 hA hG)
  unfold OfU at HRE
  have HSH := hide (fun ast cs W h1 h2 h3 => shrink_any b t a n cap m N a' cap' E ast cs W h1 hG h2 h3)
  unfold LeastR LeastU at HSH ⊢
  clear hs he hA hG hB0
  generalize hW0 : (w.alloc (.cells #[.int .i64 b, .int .i64 t, .slice a n cap, .slice a' n cap'] 25)).alloc (.cells #[.int .i64 0, .int .i64 0, .slice none 0 0, .slice none 0 0] 25) = wb at HB0 HS HE HBX HOLD
  have HSZ0 : Hid (wb.heap.size = w.heap.size + 2) := by show _ = _; rw [← hW0]; simp
  obtain ⟨hx0, hx1, hx2, hx3⟩ := HBX.out wb (Below.refl _ _)
  generalize hLN : leastN N E m = LN at HSH ⊢
  generalize hLE : leastE N E m = LE at HSH ⊢
  generalize hLK : leastK N E m = LK at HSH ⊢
  clear hLN hLE hLK
  go_enter Try.func17, Try.ntmps17
  go_wp2_with fail
  clear hW0 hx0 hx1 hx2 hx3
  refine (HRE.out wb HS.out).mono ?_
  rintro e w1 ⟨ar, cr, rfl, ⟨hsr, -⟩, hb1⟩
  have HBW := hide hb1
  obtain ⟨hx0, hx1, hx2, hx3⟩ := HBX.out w1 hb1
  have HS1 := hide (HSH.out ar cr w1 (sl2_below HS.out hb1) (slB_below HE.out hb1) hsr)
  clear hsr hb1 HRE HSH
  go_wp2_with fail
  clear hx0 hx1 hx2 hx3
  refine HS1.out.mono ?_
  rintro e w3 ⟨hyes, hno⟩
  by_cases hK : LK ≤ 80
  · obtain ⟨ax, cx, ax', cx', rfl, hnew, hb3⟩ := hyes hK
    clear hyes hno HS1
    have hold := ((below_step HBW.out hb3).block (w.heap.size + 1) (by have := HSZ0.out; omega)).trans HOLD.out
    have HHOLD := hide hold
    have HBF := hide (below_step HB0.out (below_step HBW.out hb3))
    have HNEW := hide hnew
    have HSW := hide HBW.out.size
    obtain ⟨⟨o0, o1, o2, o3⟩, of⟩ := box_cells hold
    clear hold hnew hb3
    go_wp2
    obtain ⟨⟨hset, hsz, hoth⟩, hbel⟩ := box_set (v0 := .int .i64 b) (v1 := .int .i64 t) (v2 := .slice ax LN.length cx) (v3 := .slice ax' LN.length cx') HHOLD.out rfl
    have hfin : AutoNew w ax LN.length LN ax' LE ((((w3.setCell ⟨w.heap.size + 1, 0, none⟩ (.int .i64 b)).setCell ⟨w.heap.size + 1, 1, none⟩ (.int .i64 t)).setCell ⟨w.heap.size + 1, 2, none⟩ (.slice ax LN.length cx)).setCell ⟨w.heap.size + 1, 3, none⟩ (.slice ax' LN.length cx')) := fun W' hW' => HNEW.out W' (fun x hx hxl => by
      have h1 := HSW.out
      have h2 := HSZ0.out
      rw [hW' x (by omega) (by rw [hsz]; exact hxl), hoth x (by omega)])
    have hb := hbel w w.heap.size HBF.out (by omega)
    generalize (((w3.setCell ⟨w.heap.size + 1, 0, none⟩ (.int .i64 b)).setCell ⟨w.heap.size + 1, 1, none⟩ (.int .i64 t)).setCell ⟨w.heap.size + 1, 2, none⟩ (.slice ax LN.length cx)).setCell ⟨w.heap.size + 1, 3, none⟩ (.slice ax' LN.length cx') = wZ at hset hfin hb ⊢
    obtain ⟨⟨z0, z1, z2, z3⟩, -⟩ := box_cells hset
    exact bodyPost_ret (v := .tuple #[.agg #[.int .i64 b, .int .i64 t, .slice ax LN.length cx, .slice ax' LN.length cx'], .nilIface]) (by simp [results, Try.results17, go_sem, z0, z1, z2, z3]) rfl ⟨fun _ => ⟨ax, cx, ax', cx', rfl, hfin, hb⟩, fun h => by omega⟩
  · obtain ⟨rfl, hb3⟩ := hno (by omega)
    clear hyes hno HS1
    have hold := ((below_step HBW.out hb3).block (w.heap.size + 1) (by have := HSZ0.out; omega)).trans HOLD.out
    have HHOLD := hide hold
    have HBF := hide (below_step HB0.out (below_step HBW.out hb3))
    obtain ⟨⟨o0, o1, o2, o3⟩, of⟩ := box_cells hold
    clear hold hb3
    go_wp2
    obtain ⟨⟨hset, hsz, hoth⟩, hbel⟩ := box_set0 HHOLD.out rfl
    have hb := hbel w w.heap.size HBF.out (by omega)
    generalize (((w3.setCell ⟨w.heap.size + 1, 0, none⟩ (.int .i64 0)).setCell ⟨w.heap.size + 1, 1, none⟩ (.int .i64 0)).setCell ⟨w.heap.size + 1, 2, none⟩ (.slice none 0 0)).setCell ⟨w.heap.size + 1, 3, none⟩ (.slice none 0 0) = wZ at hset hb ⊢
    obtain ⟨⟨z0, z1, z2, z3⟩, -⟩ := box_cells hset
    exact bodyPost_ret (v := .tuple #[.agg #[.int .i64 0, .int .i64 0, .slice none 0 0, .slice none 0 0], .iface 44 (.int .i64 3)]) (by simp [results, Try.results17, go_sem, z0, z1, z2, z3]) rfl ⟨fun h => by omega, fun _ => ⟨rfl, hb⟩⟩

set_option maxHeartbeats 4000000 in
set_option maxRecDepth 4000 in
theorem least_no (b t : Int) (a : Option Addr) (n cap : Nat) (N : List (List Int)) (a' : Option Addr) (k cap' : Nat) (w : World) (hs : Sl2 w a n N) (hm : k ≤ maxLen) (hA : autoC b t N k ≠ 0) :
    Calls Try.prog 12 #[.agg #[.int .i64 b, .int .i64 t, .slice a n cap, .slice a' k cap']] w fun e w' => e = .returned (.tuple #[.agg #[.int .i64 0, .int .i64 0, .slice none 0 0, .slice none 0 0], errV (autoC b t N k)]) ∧ Below w.heap.size w w' := by
  have hB0 : Below w.heap.size w ((w.alloc (.cells #[.int .i64 b, .int .i64 t, .slice a n cap, .slice a' k cap'] 25)).alloc (.cells #[.int .i64 0, .int .i64 0, .slice none 0 0, .slice none 0 0] 25)) := ((Below.refl _ _).alloc (Nat.le_refl _) _).alloc (by simp) _
  have HB0 := hide hB0
  have HBX := hide (fun W (h : Below _ _ W) => (@two_boxes w W (.int .i64 b) (.int .i64 t) (.slice a n cap) (.slice a' k cap') (.int .i64 0) (.int .i64 0) (.slice none 0 0) (.slice none 0 0) 25 h).1)
  have HOLD := hide (heap_alloc_last (w.alloc (.cells #[.int .i64 b, .int .i64 t, .slice a n cap, .slice a' k cap'] 25)) (.cells #[.int .i64 0, .int .i64 0, .slice none 0 0, .slice none 0 0] 25))
  rw [World.size_alloc] at HOLD
  have HRE := hide (reach_no b t a a' n cap k cap' N _ (sl2_below hs hB0) hm hA)
  rw [errV_no hA] at HRE ⊢
  generalize autoC b t N k = c at HRE ⊢
  clear hs hm hA hB0
  generalize hW0 : (w.alloc (.cells #[.int .i64 b, .int .i64 t, .slice a n cap, .slice a' k cap'] 25)).alloc (.cells #[.int .i64 0, .int .i64 0, .slice none 0 0, .slice none 0 0] 25) = wb at HB0 HBX HOLD HRE
  have HSZ0 : Hid (wb.heap.size = w.heap.size + 2) := by show _ = _; rw [← hW0]; simp
  obtain ⟨hx0, hx1, hx2, hx3⟩ := HBX.out wb (Below.refl _ _)
  go_enter Try.func12, Try.ntmps12
  go_wp2_with fail
  clear hW0 hx0 hx1 hx2 hx3
  refine HRE.out.mono ?_
  rintro e w3 ⟨rfl, hb1⟩
  have hold : w3.heap[w.heap.size + 1]? = some (.cells #[.int .i64 0, .int .i64 0, .slice none 0 0, .slice none 0 0] 25 (0, 0)) := (hb1.block (w.heap.size + 1) (by have := HSZ0.out; omega)).trans HOLD.out
  have HHOLD := hide hold
  have HB1 := hide (below_step HB0.out hb1)
  have ho0 : w3.cell? ⟨w.heap.size + 1, 0, none⟩ = some (.int .i64 0) := by simp [World.cell?, hold]
  have ho1 : w3.cell? ⟨w.heap.size + 1, 1, none⟩ = some (.int .i64 0) := by simp [World.cell?, hold]
  have ho2 : w3.cell? ⟨w.heap.size + 1, 2, none⟩ = some (.slice none 0 0) := by simp [World.cell?, hold]
  have ho3 : w3.cell? ⟨w.heap.size + 1, 3, none⟩ = some (.slice none 0 0) := by simp [World.cell?, hold]
  have hf : ∀ i, w3.frozen? ⟨w.heap.size + 1, i, none⟩ = false := fun i => by simp [World.frozen?, hold]
  clear hb1 hold
  go_wp2
  have hset := set_all (v0 := .int .i64 0) (v1 := .int .i64 0) (v2 := .slice none 0 0) (v3 := .slice none 0 0) HHOLD.out
  have hbel : Below w.heap.size w ((((w3.setCell ⟨w.heap.size + 1, 0, none⟩ (.int .i64 0)).setCell ⟨w.heap.size + 1, 1, none⟩ (.int .i64 0)).setCell ⟨w.heap.size + 1, 2, none⟩ (.slice none 0 0)).setCell ⟨w.heap.size + 1, 3, none⟩ (.slice none 0 0)) := (((HB1.out.setCell (by simp) _).setCell (by simp) _).setCell (by simp) _).setCell (by simp) _
  generalize (((w3.setCell ⟨w.heap.size + 1, 0, none⟩ (.int .i64 0)).setCell ⟨w.heap.size + 1, 1, none⟩ (.int .i64 0)).setCell ⟨w.heap.size + 1, 2, none⟩ (.slice none 0 0)).setCell ⟨w.heap.size + 1, 3, none⟩ (.slice none 0 0) = wZ at hset hbel ⊢
  have z0 : wZ.cell? ⟨w.heap.size + 1, 0, none⟩ = some (.int .i64 0) := by simp [World.cell?, hset]
  have z1 : wZ.cell? ⟨w.heap.size + 1, 1, none⟩ = some (.int .i64 0) := by simp [World.cell?, hset]
  have z2 : wZ.cell? ⟨w.heap.size + 1, 2, none⟩ = some (.slice none 0 0) := by simp [World.cell?, hset]
  have z3 : wZ.cell? ⟨w.heap.size + 1, 3, none⟩ = some (.slice none 0 0) := by simp [World.cell?, hset]
  exact bodyPost_ret (v := .tuple #[.agg #[.int .i64 0, .int .i64 0, .slice none 0 0, .slice none 0 0], .iface 44 (.int .i64 c)]) (by simp [results, Try.results12, go_sem, z0, z1, z2, z3]) rfl ⟨rfl, hbel⟩
end Go.Proofs.Ytebbjmcjgjecmaa
