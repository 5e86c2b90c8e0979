/- turn.fromBehind, whatever it is given; turn.Turn, turn.Sets: contracts. -/
import Derived.Test.YtokcejakjaimladDoorDd
import Derived.Test.YtokcejakjaimladDoorJh
namespace Go.Proofs.YtokcejakjaimladDoor
open Go.RowKit

/-- What turn.Turn and turn.Sets answer, at whatever they are given. -/
def TurnSays : Prop := ∀ (b t : Int) (a : Option Addr) (n cap : Nat) (a' : Option Addr) (k cap' : Nat) (N : List (List Int)) (E : List Bool) (W : World), Sl2 W a n N → SlB W a' k E → Calls Tryd.prog 13 #[.agg #[.int .i64 b, .int .i64 t, .slice a n cap, .slice a' k cap']] W (PairR W (okI (tnC b t N E k) b) (okI (tnC b t N E k) t) (tnN b t N E k) (tnE b t N E k) (tnC b t N E k))
def TSetsSays : Prop := ∀ (b t : Int) (a : Option Addr) (n cap : Nat) (a' : Option Addr) (k cap' : Nat) (N : List (List Int)) (E : List Bool) (W : World), Sl2 W a n N → SlB W a' k E → Calls Tryd.prog 14 #[.agg #[.int .i64 b, .int .i64 t, .slice a n cap, .slice a' k cap']] W fun e W' => e = .returned (.tuple #[.int .i64 (tnM b t N E k), errV (tnS b t N E k)]) ∧ Below W.heap.size W W'
/-- The automaton of the sets, where all is well. -/
theorem tn_auto {b t : Int} {N : List (List Int)} {E : List Bool} {k : Nat} (h : tnS b t N E k = 0) : codeM b t = 0 ∧ GoodN (manyU b t).toNat (tnGN b t N E).length (tnGN b t N E) ∧ (tnGN b t N E).length ≤ 2000 ∧ (tnGE b t N E).length = (tnGN b t N E).length ∧ (manyU b t).toNat ≤ 36 := by
  obtain ⟨hA, hL⟩ := tnS_zero h
  obtain ⟨hM, hk, hG, hmu⟩ := autoC_zero hA
  have e1 : (tnGN b t N E).length = (tnL b t N E).length := by unfold tnGN tnL tbN; exact gN_len _ _ _
  have e2 : (tnGE b t N E).length = (tnL b t N E).length := by unfold tnGE tnL tbE; exact gE_len _ _
  rw [e1, e2]
  exact ⟨hM, tn_good hG hL, hL, rfl, hG.2.2.2.1⟩

set_option maxHeartbeats 4000000 in
set_option maxRecDepth 8000 in
theorem fromBehind_no (b t : Int) (a : Option Addr) (n cap : Nat) (a' : Option Addr) (k cap' : Nat) (N : List (List Int)) (w : World) (hs : Sl2 w a n N) (hm : k ≤ maxLen) (hA : autoC b t N k ≠ 0) :
    Calls Tryd.prog 30 #[.agg #[.int .i64 b, .int .i64 t, .slice a n cap, .slice a' k cap']] w fun e w' => e = .returned (.tuple #[.agg #[.int .i64 0, .int .i64 0, .slice none 0 0, .slice none 0 0], errV (autoC b t N k)]) ∧ Below w.heap.size w w' := by
  have HB0 := hide (below_two w (.cells #[.int .i64 b, .int .i64 t, .slice a n cap, .slice a' k cap'] 25) (.cells #[.int .i64 0, .int .i64 0, .slice none 0 0, .slice none 0 0] 25))
  have HX1 := hide (heap_alloc2_fst w (.cells #[.int .i64 b, .int .i64 t, .slice a n cap, .slice a' k cap'] 25) (.cells #[.int .i64 0, .int .i64 0, .slice none 0 0, .slice none 0 0] 25))
  have HX2 := hide (heap_alloc2_snd w (.cells #[.int .i64 b, .int .i64 t, .slice a n cap, .slice a' k cap'] 25) (.cells #[.int .i64 0, .int .i64 0, .slice none 0 0, .slice none 0 0] 25))
  generalize hwb : (w.alloc (.cells #[.int .i64 b, .int .i64 t, .slice a n cap, .slice a' k cap'] 25)).alloc (.cells #[.int .i64 0, .int .i64 0, .slice none 0 0, .slice none 0 0] 25) = wb at HB0 HX1 HX2
  have HSZ : Hid (wb.heap.size = w.heap.size + 2) := by show _ = _; rw [← hwb]; simp
  have HC := hide (least_no b t a n cap N a' k cap' wb (sl2_below hs HB0.out) hm hA)
  rw [errV_no hA] at HC ⊢
  generalize autoC b t N k = c at HC ⊢
  clear hs hA
  obtain ⟨⟨p0, p1, p2, p3⟩, -⟩ := box_cells HX1.out
  go_enter Tryd.func30, Tryd.ntmps30
  go_wp2_with fail
  clear hwb p0 p1 p2 p3
  refine HC.out.mono ?_
  rintro e w1 ⟨rfl, hb1⟩
  have hbA := (Below.refl w1.heap.size w1).alloc (Nat.le_refl _) (.cells #[.int .i64 0, .int .i64 0, .slice none 0 0, .slice none 0 0] 25)
  have hr := (hbA.block _ (Nat.lt_of_lt_of_le (by rw [HSZ.out]; omega) hb1.size)).trans ((hb1.block (w.heap.size + 1) (by rw [HSZ.out]; omega)).trans HX2.out)
  have HB5 := hide (below_step (below_step HB0.out hb1) hbA)
  obtain ⟨⟨r0, r1, r2, r3⟩, rf⟩ := box_cells hr
  have HR := hide hr
  clear hr hb1 hbA
  go_wp2
  obtain ⟨⟨hset, hsz, hoth⟩, hbel⟩ := box_set (v0 := .int .i64 0) (v1 := .int .i64 0) (v2 := .slice none 0 0) (v3 := .slice none 0 0) HR.out rfl
  have hb := hbel w w.heap.size HB5.out (by omega)
  obtain ⟨⟨z0, z1, z2, z3⟩, -⟩ := box_cells hset
  exact bodyPost_ret (v := .tuple #[.agg #[.int .i64 0, .int .i64 0, .slice none 0 0, .slice none 0 0], .iface 26 (.int .i64 c)]) (by simp [results, Tryd.results30, go_sem, z0, z1, z2, z3]) rfl ⟨rfl, hb⟩
theorem fromBehind_u (b t : Int) (a : Option Addr) (n cap : Nat) (a' : Option Addr) (k cap' : Nat) (N : List (List Int)) (E : List Bool) (w : World) (hs : Sl2 w a n N) (he : SlB w a' k E) :
    Calls Tryd.prog 30 #[.agg #[.int .i64 b, .int .i64 t, .slice a n cap, .slice a' k cap']] w (FbU w b t N E k) := by
  by_cases hA : autoC b t N k = 0
  · have hk := (autoC_zero hA).2.1
    obtain rfl : k = n := by rw [hk, hs.1]
    exact fromBehind_ok b t a k cap a' cap' N E w hs he hA
  · refine (fromBehind_no b t a n cap a' k cap' N w hs he.2.1 hA).mono ?_
    rintro e w' ⟨rfl, hb⟩
    have hS : tnS b t N E k = autoC b t N k := by unfold tnS; rw [if_neg hA]
    exact ⟨fun h => absurd (hS.symm.trans h) hA, fun _ => ⟨by rw [hS], hb⟩⟩

set_option maxHeartbeats 4000000 in
set_option maxRecDepth 8000 in
theorem tsets_says : TSetsSays := by
  intro b t a n cap a' k cap' N E w hs he
  have HB0 : Hid (Below w.heap.size w (w.alloc (.cells #[.int .i64 b, .int .i64 t, .slice a n cap, .slice a' k cap'] 25))) := (Below.refl _ _).alloc (Nat.le_refl _) _
  have HC := hide (fromBehind_u b t a n cap a' k cap' N E _ (sl2_below hs HB0.out) (slB_below he HB0.out))
  have hbx := box4 (w := w) (v0 := .int .i64 b) (v1 := .int .i64 t) (v2 := .slice a n cap) (v3 := .slice a' k cap') (T := 25) (Below.refl _ _)
  obtain ⟨p0, p1, p2, p3⟩ := hbx
  unfold FbU at HC
  have HM1 : Hid (tnS b t N E k = 0 → (tnGN b t N E).length = (tnL b t N E).length) := fun _ => by
    unfold tnGN tnL tbN
    exact gN_len _ _ _
  have HM2 : Hid (tnS b t N E k = 0 → tnM b t N E k = ((tnL b t N E).length : Int)) := fun h => by unfold tnM; rw [if_pos h]
  have HM3 : Hid (tnS b t N E k ≠ 0 → tnM b t N E k = 0) := fun h => by unfold tnM; rw [if_neg h]
  clear hs he
  generalize hwb : w.alloc (.cells #[.int .i64 b, .int .i64 t, .slice a n cap, .slice a' k cap'] 25) = wb at HB0 HC p0 p1 p2 p3
  generalize tnS b t N E k = S at HC HM1 HM2 HM3 ⊢
  generalize tnM b t N E k = MM at HM2 HM3 ⊢
  generalize (tnL b t N E).length = LL at HM1 HM2
  generalize tnGN b t N E = SN at HC HM1
  generalize tnGE b t N E = SE at HC
  go_enter Tryd.func14, Tryd.ntmps14
  go_wp2_with fail
  clear hwb p0 p1 p2 p3
  refine HC.out.mono ?_
  rintro e w1 ⟨hyes, hno⟩
  by_cases hS : S = 0
  · obtain ⟨bx, vN, vE, vals, G, rfl, hA, hb1⟩ := hyes hS
    obtain ⟨aN, cN, rfl⟩ := owns_sl hA.ownN
    obtain ⟨aE, cE, rfl⟩ := owns_sl hA.ownE
    have HB1 := hide (below_step HB0.out hb1)
    have HFIN : Hid (Value.tuple #[.int .i64 (SN.length : Int), .nilIface] = .tuple #[.int .i64 MM, errV S]) := by
      show _ = _
      rw [HM2.out hS, ← HM1.out hS, hS, errV_zero]
    have HBA := hide (HB1.out.alloc HB1.out.size (.cells #[.int .i64 b, .int .i64 t, .slice aN SN.length cN, .slice aE SN.length cE] 25))
    clear hA hb1 hyes hno hS
    go_wp2
    go_ret2
    exact ⟨by rw [← HFIN.out]; rfl, HBA.out⟩
  · obtain ⟨rfl, hb1⟩ := hno hS
    have HB1 := hide (below_step HB0.out hb1)
    have HFIN : Hid (Value.tuple #[.int .i64 0, .iface 26 (.int .i64 S)] = .tuple #[.int .i64 MM, errV S]) := by
      show _ = _
      rw [HM3.out hS, errV_no hS]
    rw [errV_no hS]
    have HBA := hide (HB1.out.alloc HB1.out.size (.cells #[.int .i64 0, .int .i64 0, .slice none 0 0, .slice none 0 0] 25))
    clear hb1 hyes hno hS
    go_wp2
    go_ret2
    exact ⟨by rw [← HFIN.out]; rfl, HBA.out⟩

set_option maxHeartbeats 8000000 in
set_option maxRecDepth 8000 in
theorem turn_says : TurnSays := by
  intro b t a n cap a' k cap' N E w hs he
  have hB0 := below_two w (.cells #[.int .i64 b, .int .i64 t, .slice a n cap, .slice a' k cap'] 25) (.cells #[.int .i64 0, .int .i64 0, .slice none 0 0, .slice none 0 0] 25)
  have HB0 := hide hB0
  have HX1 := hide (heap_alloc2_fst w (.cells #[.int .i64 b, .int .i64 t, .slice a n cap, .slice a' k cap'] 25) (.cells #[.int .i64 0, .int .i64 0, .slice none 0 0, .slice none 0 0] 25))
  have HX2 := hide (heap_alloc2_snd w (.cells #[.int .i64 b, .int .i64 t, .slice a n cap, .slice a' k cap'] 25) (.cells #[.int .i64 0, .int .i64 0, .slice none 0 0, .slice none 0 0] 25))
  have HC := hide (fromBehind_u b t a n cap a' k cap' N E _ (sl2_below hs hB0) (slB_below he hB0))
  unfold FbU at HC
  have HAU := hide (@tn_auto b t N E k)
  have HY : Hid (∀ (e : Ending) (w' : World), tnS b t N E k = 0 → leastK (tnGN b t N E) (tnGE b t N E) (manyU b t).toNat ≤ 80 → PairR w b t (leastN (tnGN b t N E) (tnGE b t N E) (manyU b t).toNat) (leastE (tnGN b t N E) (tnGE b t N E) (manyU b t).toNat) 0 e w' → PairR w (okI (tnC b t N E k) b) (okI (tnC b t N E k) t) (tnN b t N E k) (tnE b t N E k) (tnC b t N E k) e w') := fun e w' h1 h2 h3 => by
    have hc : tnC b t N E k = 0 := by unfold tnC; rw [if_pos h1, if_neg (by omega)]
    unfold tnN tnE
    rw [if_pos hc, if_pos hc, hc]
    exact h3
  have HZ : Hid (∀ (e : Ending) (w' : World), tnS b t N E k = 0 → 80 < leastK (tnGN b t N E) (tnGE b t N E) (manyU b t).toNat → PairR w 0 0 [] [] 3 e w' → PairR w (okI (tnC b t N E k) b) (okI (tnC b t N E k) t) (tnN b t N E k) (tnE b t N E k) (tnC b t N E k) e w') := fun e w' h1 h2 h3 => by
    have hc : tnC b t N E k = 3 := by unfold tnC; rw [if_pos h1, if_pos (by omega)]
    unfold tnN tnE
    rw [hc, if_neg (by decide), if_neg (by decide)]
    exact h3
  have HN : Hid (∀ (e : Ending) (w' : World), tnS b t N E k ≠ 0 → PairR w 0 0 [] [] (tnS b t N E k) e w' → PairR w (okI (tnC b t N E k) b) (okI (tnC b t N E k) t) (tnN b t N E k) (tnE b t N E k) (tnC b t N E k) e w') := fun e w' h1 h3 => by
    have hc : tnC b t N E k = tnS b t N E k := by unfold tnC; rw [if_neg h1]
    unfold tnN tnE
    rw [hc, if_neg h1, if_neg h1]
    unfold okI
    rw [if_neg h1, if_neg h1]
    exact h3
  clear hs he hB0
  generalize hwb : (w.alloc (.cells #[.int .i64 b, .int .i64 t, .slice a n cap, .slice a' k cap'] 25)).alloc (.cells #[.int .i64 0, .int .i64 0, .slice none 0 0, .slice none 0 0] 25) = wb at HB0 HX1 HX2 HC
  have HSZ : Hid (wb.heap.size = w.heap.size + 2) := by show _ = _; rw [← hwb]; simp
  obtain ⟨⟨p0, p1, p2, p3⟩, -⟩ := box_cells HX1.out
  generalize tnS b t N E k = S at HC HAU HY HZ HN
  generalize tnGN b t N E = SN at HC HAU HY HZ
  generalize tnGE b t N E = SE at HC HAU HY HZ
  generalize okI (tnC b t N E k) b = OB at HY HZ HN ⊢
  generalize okI (tnC b t N E k) t = OT at HY HZ HN ⊢
  generalize tnN b t N E k = RN at HY HZ HN ⊢
  generalize tnE b t N E k = RE at HY HZ HN ⊢
  generalize tnC b t N E k = RC at HY HZ HN ⊢
  go_enter Tryd.func13, Tryd.ntmps13
  go_wp2_with fail
  clear hwb p0 p1 p2 p3
  refine HC.out.mono ?_
  rintro e w1 ⟨hyes, hno⟩
  by_cases hS : S = 0
  · obtain ⟨bx, vN, vE, vals, G, rfl, hA, hb1⟩ := hyes hS
    obtain ⟨hM, hG, hK, hEl, h36⟩ := HAU.out hS
    obtain ⟨aN, cN, aE, cE, rfl, rfl, hsN, hsE⟩ := autI_sl2 hA (by omega) h36 (fun j hj => (good_wf hG j hj).1) (fun j hj => (good_wf hG j hj).2) hEl
    have HB1 := hide hb1
    have HBA := hide ((Below.refl w1.heap.size w1).alloc (Nat.le_refl _) (.cells #[.int .i64 b, .int .i64 t, .slice aN SN.length cN, .slice aE SN.length cE] 25))
    have HLW := hide (leastw_any b t aN SN.length cN _ SN aE cE SE _ (sl2_below hsN HBA.out) (slB_below hsE HBA.out) hG (autoM_good hM hG (by omega)))
    unfold LeastR LeastU at HLW
    clear hA hb1 hyes hno hM hG hK hEl h36 hsN hsE HAU
    have HYS := hide (fun e w' => HY.out e w' hS)
    have HZS := hide (fun e w' => HZ.out e w' hS)
    clear HY HZ HN hS
    have HXA := hide (heap_alloc_last w1 (.cells #[.int .i64 b, .int .i64 t, .slice aN SN.length cN, .slice aE SN.length cE] 25))
    generalize hwa : w1.alloc (.cells #[.int .i64 b, .int .i64 t, .slice aN SN.length cN, .slice aE SN.length cE] 25) = wa at HBA HLW HXA
    generalize leastN SN SE (manyU b t).toNat = LN at HLW HYS
    generalize leastE SN SE (manyU b t).toNat = LE at HLW HYS
    generalize leastK SN SE (manyU b t).toNat = LK at HLW HYS HZS
    obtain ⟨⟨q0, q1, q2, q3⟩, -⟩ := box_cells HXA.out
    have HBW : Hid (Below wb.heap.size wb wa) := HB1.out.trans (HBA.out.mono HB1.out.size)
    go_wp2_with fail
    clear hwa q0 q1 q2 q3
    refine HLW.out.mono ?_
    rintro e w2 ⟨hy2, hn2⟩
    by_cases hK : LK ≤ 80
    · obtain ⟨a1, c1, a2, c2, rfl, hnw, hb2⟩ := hy2 hK
      have hr := ((HBW.out.trans (hb2.mono HBW.out.size)).block (w.heap.size + 1) (by rw [HSZ.out]; omega)).trans HX2.out
      obtain ⟨⟨r0, r1, r2, r3⟩, rf⟩ := box_cells hr
      have HR := hide hr
      have HNW := hide hnw
      have HB5 : Hid (Below w.heap.size w w2) := (HB0.out.trans (HBW.out.mono HB0.out.size)).trans (hb2.mono (Nat.le_trans HB0.out.size HBW.out.size))
      have HSW : Hid (w.heap.size + 2 ≤ wa.heap.size) := by have := HBW.out.size; have := HSZ.out; show _ ≤ _; omega
      clear hr hnw hb2 hy2 hn2
      go_wp2
      obtain ⟨⟨hset, hsz, hoth⟩, hbel⟩ := box_set (v0 := .int .i64 b) (v1 := .int .i64 t) (v2 := .slice a1 LN.length c1) (v3 := .slice a2 LN.length c2) HR.out rfl
      have hfin : AutoNew w a1 LN.length LN a2 LE ((((w2.setCell ⟨w.heap.size + 1, 0, none⟩ (.int .i64 b)).setCell ⟨w.heap.size + 1, 1, none⟩ (.int .i64 t)).setCell ⟨w.heap.size + 1, 2, none⟩ (.slice a1 LN.length c1)).setCell ⟨w.heap.size + 1, 3, none⟩ (.slice a2 LN.length c2)) := fun W' hW' => HNW.out W' (fun x hx hxl => by
        have h1 := HSW.out
        rw [hW' x (by omega) (by rw [hsz]; exact hxl), hoth x (by omega)])
      have hb := hbel w w.heap.size HB5.out (by omega)
      obtain ⟨⟨z0, z1, z2, z3⟩, -⟩ := box_cells hset
      exact bodyPost_ret (v := .tuple #[.agg #[.int .i64 b, .int .i64 t, .slice a1 LN.length c1, .slice a2 LN.length c2], .nilIface]) (by simp [results, Tryd.results13, go_sem, z0, z1, z2, z3]) rfl (HYS.out _ _ hK ⟨a1, c1, a2, c2, rfl, hfin, hb⟩)
    · obtain ⟨rfl, hb2⟩ := hn2 (by omega)
      have hr := ((HBW.out.trans (hb2.mono HBW.out.size)).block (w.heap.size + 1) (by rw [HSZ.out]; omega)).trans HX2.out
      obtain ⟨⟨r0, r1, r2, r3⟩, rf⟩ := box_cells hr
      have HR := hide hr
      have HB5 : Hid (Below w.heap.size w w2) := (HB0.out.trans (HBW.out.mono HB0.out.size)).trans (hb2.mono (Nat.le_trans HB0.out.size HBW.out.size))
      clear hr hb2 hy2 hn2
      go_wp2
      obtain ⟨⟨hset, hsz, hoth⟩, hbel⟩ := box_set (v0 := .int .i64 0) (v1 := .int .i64 0) (v2 := .slice none 0 0) (v3 := .slice none 0 0) HR.out rfl
      have hb := hbel w w.heap.size HB5.out (by omega)
      obtain ⟨⟨z0, z1, z2, z3⟩, -⟩ := box_cells hset
      exact bodyPost_ret (v := .tuple #[.agg #[.int .i64 0, .int .i64 0, .slice none 0 0, .slice none 0 0], .iface 26 (.int .i64 3)]) (by simp [results, Tryd.results13, go_sem, z0, z1, z2, z3]) rfl (HZS.out _ _ (by omega) ⟨none, 0, none, 0, rfl, autoNew_nil _ _, hb⟩)
  · obtain ⟨rfl, hb1⟩ := hno hS
    have HNS := hide (fun e w' => HN.out e w' hS)
    have hr := (hb1.block (w.heap.size + 1) (by rw [HSZ.out]; omega)).trans HX2.out
    have hBA := (Below.refl w1.heap.size w1).alloc (Nat.le_refl _) (.cells #[.int .i64 0, .int .i64 0, .slice none 0 0, .slice none 0 0] 25)
    have HB5 : Hid (Below w.heap.size w (w1.alloc (.cells #[.int .i64 0, .int .i64 0, .slice none 0 0, .slice none 0 0] 25))) := below_step (below_step HB0.out hb1) hBA
    have hr2 := (hBA.block _ (Array.getElem?_eq_some_iff.1 hr).1).trans hr
    have HSN := hide hS
    rw [errV_no hS]
    clear hb1 hyes hno hS HY HZ HN hr HAU hBA
    obtain ⟨⟨r0, r1, r2, r3⟩, rf⟩ := box_cells hr2
    have HR := hide hr2
    clear hr2
    go_wp2
    obtain ⟨⟨hset, hsz, hoth⟩, hbel⟩ := box_set (v0 := .int .i64 0) (v1 := .int .i64 0) (v2 := .slice none 0 0) (v3 := .slice none 0 0) HR.out rfl
    have hb := hbel w w.heap.size HB5.out (by omega)
    obtain ⟨⟨z0, z1, z2, z3⟩, -⟩ := box_cells hset
    exact bodyPost_ret (v := .tuple #[.agg #[.int .i64 0, .int .i64 0, .slice none 0 0, .slice none 0 0], .iface 26 (.int .i64 S)]) (by simp [results, Tryd.results13, go_sem, z0, z1, z2, z3]) rfl (HNS.out _ _ ⟨none, 0, none, 0, by rw [errV_no HSN.out]; rfl, autoNew_nil _ _, hb⟩)
end Go.Proofs.YtokcejakjaimladDoor
