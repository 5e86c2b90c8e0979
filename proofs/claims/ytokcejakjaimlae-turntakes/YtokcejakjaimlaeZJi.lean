/- 2 texts in one. -/
import Derived.Laws.AppendOwnNone
import Derived.Test.YtokcejakjaimlaeDd
import Derived.Test.YtokcejakjaimlaeJh
import Derived.Test.YtokcejakjaimlaeZNx
import Derived.Test.YtokcejakjaimlaeBs
import Derived.Test.YtokcejakjaimlaeBy
import Derived.Test.YtokcejakjaimlaeZGb
/- turn.fromBehind, whatever it is given; turn.Turn, turn.Sets: contracts. -/
namespace Go.Proofs.Ytokcejakjaimlae
open Go.RowKit

/-- What turn.Turn and turn.Sets answer, at whatever they are given. -/
def TurnSays : Prop := ∀ (b t : Int) (a : Option Addr) (n cap : Nat) (a' : Option Addr) (k cap' : Nat) (N : List (List Int)) (E : List Bool) (W : World), Sl2 W a n N → SlB W a' k E → Calls Try.prog 4 #[.agg #[.int .i64 b, .int .i64 t, .slice a n cap, .slice a' k cap']] W (PairR W (okI (tnC b t N E k) b) (okI (tnC b t N E k) t) (tnN b t N E k) (tnE b t N E k) (tnC b t N E k))
/-- The automaton of the sets, where all is well. -/
theorem tn_auto {b t : Int} {N : List (List Int)} {E : List Bool} {k : Nat} (h : tnS b t N E k = 0) : codeM b t = 0 ∧ GoodN (manyU b t).toNat (tnGN b t N E).length (tnGN b t N E) ∧ (tnGN b t N E).length ≤ 2000 ∧ (tnGE b t N E).length = (tnGN b t N E).length ∧ (manyU b t).toNat ≤ 36 := by
  obtain ⟨hA, hL⟩ := tnS_zero h
  obtain ⟨hM, hk, hG, hmu⟩ := autoC_zero hA
  have e1 : (tnGN b t N E).length = (tnL b t N E).length := by unfold tnGN tnL tbN; exact gN_len _ _ _
  have e2 : (tnGE b t N E).length = (tnL b t N E).length := by unfold tnGE tnL tbE; exact gE_len _ _
  rw [e1, e2]
  exact ⟨hM, tn_good hG hL, hL, rfl, hG.2.2.2.1⟩

set_option maxHeartbeats 4000000 in
set_option maxRecDepth 8000 in
theorem fromBehind_no (b t : Int) (a : Option Addr) (n cap : Nat) (a' : Option Addr) (k cap' : Nat) (N : List (List Int)) (w : World) (hs : Sl2 w a n N) (hm : k ≤ maxLen) (hA : autoC b t N k ≠ 0) :
    Calls Try.prog 8 #[.agg #[.int .i64 b, .int .i64 t, .slice a n cap, .slice a' k cap']] w fun e w' => e = .returned (.tuple #[.agg #[.int .i64 0, .int .i64 0, .slice none 0 0, .slice none 0 0], errV (autoC b t N k)]) ∧ Below w.heap.size w w' := by
  have HB0 := hide (below_two w (.cells #[.int .i64 b, .int .i64 t, .slice a n cap, .slice a' k cap'] 25) (.cells #[.int .i64 0, .int .i64 0, .slice none 0 0, .slice none 0 0] 25))
  have HX1 := hide (heap_alloc2_fst w (.cells #[.int .i64 b, .int .i64 t, .slice a n cap, .slice a' k cap'] 25) (.cells #[.int .i64 0, .int .i64 0, .slice none 0 0, .slice none 0 0] 25))
  have HX2 := hide (heap_alloc2_snd w (.cells #[.int .i64 b, .int .i64 t, .slice a n cap, .slice a' k cap'] 25) (.cells #[.int .i64 0, .int .i64 0, .slice none 0 0, .slice none 0 0] 25))
  generalize hwb : (w.alloc (.cells #[.int .i64 b, .int .i64 t, .slice a n cap, .slice a' k cap'] 25)).alloc (.cells #[.int .i64 0, .int .i64 0, .slice none 0 0, .slice none 0 0] 25) = wb at HB0 HX1 HX2
  have HSZ : Hid (wb.heap.size = w.heap.size + 2) := by show _ = _; rw [← hwb]; simp
  have HC := hide (least_no b t a n cap N a' k cap' wb (sl2_below hs HB0.out) hm hA)
  rw [errV_no hA] at HC ⊢
  generalize autoC b t N k = c at HC ⊢
  clear hs hA
  obtain ⟨⟨p0, p1, p2, p3⟩, -⟩ := box_cells HX1.out
  go_enter Try.func8, Try.ntmps8
  go_wp2_with fail
  clear hwb p0 p1 p2 p3
  refine HC.out.mono ?_
  rintro e w1 ⟨rfl, hb1⟩
  have hbA := (Below.refl w1.heap.size w1).alloc (Nat.le_refl _) (.cells #[.int .i64 0, .int .i64 0, .slice none 0 0, .slice none 0 0] 25)
  have hr := (hbA.block _ (Nat.lt_of_lt_of_le (by rw [HSZ.out]; omega) hb1.size)).trans ((hb1.block (w.heap.size + 1) (by rw [HSZ.out]; omega)).trans HX2.out)
  have HB5 := hide (below_step (below_step HB0.out hb1) hbA)
  obtain ⟨⟨r0, r1, r2, r3⟩, rf⟩ := box_cells hr
  have HR := hide hr
  clear hr hb1 hbA
  go_wp2
  obtain ⟨⟨hset, hsz, hoth⟩, hbel⟩ := box_set (v0 := .int .i64 0) (v1 := .int .i64 0) (v2 := .slice none 0 0) (v3 := .slice none 0 0) HR.out rfl
  have hb := hbel w w.heap.size HB5.out (by omega)
  obtain ⟨⟨z0, z1, z2, z3⟩, -⟩ := box_cells hset
  exact bodyPost_ret (v := .tuple #[.agg #[.int .i64 0, .int .i64 0, .slice none 0 0, .slice none 0 0], .iface 51 (.int .i64 c)]) (by simp [results, Try.results8, go_sem, z0, z1, z2, z3]) rfl ⟨rfl, hb⟩
theorem fromBehind_u (b t : Int) (a : Option Addr) (n cap : Nat) (a' : Option Addr) (k cap' : Nat) (N : List (List Int)) (E : List Bool) (w : World) (hs : Sl2 w a n N) (he : SlB w a' k E) :
    Calls Try.prog 8 #[.agg #[.int .i64 b, .int .i64 t, .slice a n cap, .slice a' k cap']] w (FbU w b t N E k) := by
  by_cases hA : autoC b t N k = 0
  · have hk := (autoC_zero hA).2.1
    obtain rfl : k = n := by rw [hk, hs.1]
    exact fromBehind_ok b t a k cap a' cap' N E w hs he hA
  · refine (fromBehind_no b t a n cap a' k cap' N w hs he.2.1 hA).mono ?_
    rintro e w' ⟨rfl, hb⟩
    have hS : tnS b t N E k = autoC b t N k := by unfold tnS; rw [if_neg hA]
    exact ⟨fun h => absurd (hS.symm.trans h) hA, fun _ => ⟨by rw [hS], hb⟩⟩

set_option maxHeartbeats 8000000 in
set_option maxRecDepth 8000 in
theorem turn_says : TurnSays := by
  intro b t a n cap a' k cap' N E w hs he
  have hB0 := below_two w (.cells #[.int .i64 b, .int .i64 t, .slice a n cap, .slice a' k cap'] 25) (.cells #[.int .i64 0, .int .i64 0, .slice none 0 0, .slice none 0 0] 25)
  have HB0 := hide hB0
  have HX1 := hide (heap_alloc2_fst w (.cells #[.int .i64 b, .int .i64 t, .slice a n cap, .slice a' k cap'] 25) (.cells #[.int .i64 0, .int .i64 0, .slice none 0 0, .slice none 0 0] 25))
  have HX2 := hide (heap_alloc2_snd w (.cells #[.int .i64 b, .int .i64 t, .slice a n cap, .slice a' k cap'] 25) (.cells #[.int .i64 0, .int .i64 0, .slice none 0 0, .slice none 0 0] 25))
  have HC := hide (fromBehind_u b t a n cap a' k cap' N E _ (sl2_below hs hB0) (slB_below he hB0))
  unfold FbU at HC
  have HAU := hide (@tn_auto b t N E k)
  have HY : Hid (∀ (e : Ending) (w' : World), tnS b t N E k = 0 → leastK (tnGN b t N E) (tnGE b t N E) (manyU b t).toNat ≤ 80 → PairR w b t (leastN (tnGN b t N E) (tnGE b t N E) (manyU b t).toNat) (leastE (tnGN b t N E) (tnGE b t N E) (manyU b t).toNat) 0 e w' → PairR w (okI (tnC b t N E k) b) (okI (tnC b t N E k) t) (tnN b t N E k) (tnE b t N E k) (tnC b t N E k) e w') := fun e w' h1 h2 h3 => by
    have hc : tnC b t N E k = 0 := by unfold tnC; rw [if_pos h1, if_neg (by omega)]
    unfold tnN tnE
    rw [if_pos hc, if_pos hc, hc]
    exact h3
  have HZ : Hid (∀ (e : Ending) (w' : World), tnS b t N E k = 0 → 80 < leastK (tnGN b t N E) (tnGE b t N E) (manyU b t).toNat → PairR w 0 0 [] [] 3 e w' → PairR w (okI (tnC b t N E k) b) (okI (tnC b t N E k) t) (tnN b t N E k) (tnE b t N E k) (tnC b t N E k) e w') := fun e w' h1 h2 h3 => by
    have hc : tnC b t N E k = 3 := by unfold tnC; rw [if_pos h1, if_pos (by omega)]
    unfold tnN tnE
    rw [hc, if_neg (by decide), if_neg (by decide)]
    exact h3
  have HN : Hid (∀ (e : Ending) (w' : World), tnS b t N E k ≠ 0 → PairR w 0 0 [] [] (tnS b t N E k) e w' → PairR w (okI (tnC b t N E k) b) (okI (tnC b t N E k) t) (tnN b t N E k) (tnE b t N E k) (tnC b t N E k) e w') := fun e w' h1 h3 => by
    have hc : tnC b t N E k = tnS b t N E k := by unfold tnC; rw [if_neg h1]
    unfold tnN tnE
    rw [hc, if_neg h1, if_neg h1]
    unfold okI
    rw [if_neg h1, if_neg h1]
    exact h3
  clear hs he hB0
  generalize hwb : (w.alloc (.cells #[.int .i64 b, .int .i64 t, .slice a n cap, .slice a' k cap'] 25)).alloc (.cells #[.int .i64 0, .int .i64 0, .slice none 0 0, .slice none 0 0] 25) = wb at HB0 HX1 HX2 HC
  have HSZ : Hid (wb.heap.size = w.heap.size + 2) := by show _ = _; rw [← hwb]; simp
  obtain ⟨⟨p0, p1, p2, p3⟩, -⟩ := box_cells HX1.out
  generalize tnS b t N E k = S at HC HAU HY HZ HN
  generalize tnGN b t N E = SN at HC HAU HY HZ
  generalize tnGE b t N E = SE at HC HAU HY HZ
  generalize okI (tnC b t N E k) b = OB at HY HZ HN ⊢
  generalize okI (tnC b t N E k) t = OT at HY HZ HN ⊢
  generalize tnN b t N E k = RN at HY HZ HN ⊢
  generalize tnE b t N E k = RE at HY HZ HN ⊢
  generalize tnC b t N E k = RC at HY HZ HN ⊢
  go_enter Try.func4, Try.ntmps4
  go_wp2_with fail
  clear hwb p0 p1 p2 p3
  refine HC.out.mono ?_
  rintro e w1 ⟨hyes, hno⟩
  by_cases hS : S = 0
  · obtain ⟨bx, vN, vE, vals, G, rfl, hA, hb1⟩ := hyes hS
    obtain ⟨hM, hG, hK, hEl, h36⟩ := HAU.out hS
    obtain ⟨aN, cN, aE, cE, rfl, rfl, hsN, hsE⟩ := autI_sl2 hA (by omega) h36 (fun j hj => (good_wf hG j hj).1) (fun j hj => (good_wf hG j hj).2) hEl
    have HB1 := hide hb1
    have HBA := hide ((Below.refl w1.heap.size w1).alloc (Nat.le_refl _) (.cells #[.int .i64 b, .int .i64 t, .slice aN SN.length cN, .slice aE SN.length cE] 25))
    have HLW := hide (leastw_any b t aN SN.length cN _ SN aE cE SE _ (sl2_below hsN HBA.out) (slB_below hsE HBA.out) hG (autoM_good hM hG (by omega)))
    unfold LeastR LeastU at HLW
    clear hA hb1 hyes hno hM hG hK hEl h36 hsN hsE HAU
    have HYS := hide (fun e w' => HY.out e w' hS)
    have HZS := hide (fun e w' => HZ.out e w' hS)
    clear HY HZ HN hS
    have HXA := hide (heap_alloc_last w1 (.cells #[.int .i64 b, .int .i64 t, .slice aN SN.length cN, .slice aE SN.length cE] 25))
    generalize hwa : w1.alloc (.cells #[.int .i64 b, .int .i64 t, .slice aN SN.length cN, .slice aE SN.length cE] 25) = wa at HBA HLW HXA
    generalize leastN SN SE (manyU b t).toNat = LN at HLW HYS
    generalize leastE SN SE (manyU b t).toNat = LE at HLW HYS
    generalize leastK SN SE (manyU b t).toNat = LK at HLW HYS HZS
    obtain ⟨⟨q0, q1, q2, q3⟩, -⟩ := box_cells HXA.out
    have HBW : Hid (Below wb.heap.size wb wa) := HB1.out.trans (HBA.out.mono HB1.out.size)
    go_wp2_with fail
    clear hwa q0 q1 q2 q3
    refine HLW.out.mono ?_
    rintro e w2 ⟨hy2, hn2⟩
    by_cases hK : LK ≤ 80
    · obtain ⟨a1, c1, a2, c2, rfl, hnw, hb2⟩ := hy2 hK
      have hr := ((HBW.out.trans (hb2.mono HBW.out.size)).block (w.heap.size + 1) (by rw [HSZ.out]; omega)).trans HX2.out
      obtain ⟨⟨r0, r1, r2, r3⟩, rf⟩ := box_cells hr
      have HR := hide hr
      have HNW := hide hnw
      have HB5 : Hid (Below w.heap.size w w2) := (HB0.out.trans (HBW.out.mono HB0.out.size)).trans (hb2.mono (Nat.le_trans HB0.out.size HBW.out.size))
      have HSW : Hid (w.heap.size + 2 ≤ wa.heap.size) := by have := HBW.out.size; have := HSZ.out; show _ ≤ _; omega
      clear hr hnw hb2 hy2 hn2
      go_wp2
      obtain ⟨⟨hset, hsz, hoth⟩, hbel⟩ := box_set (v0 := .int .i64 b) (v1 := .int .i64 t) (v2 := .slice a1 LN.length c1) (v3 := .slice a2 LN.length c2) HR.out rfl
      have hfin : AutoNew w a1 LN.length LN a2 LE ((((w2.setCell ⟨w.heap.size + 1, 0, none⟩ (.int .i64 b)).setCell ⟨w.heap.size + 1, 1, none⟩ (.int .i64 t)).setCell ⟨w.heap.size + 1, 2, none⟩ (.slice a1 LN.length c1)).setCell ⟨w.heap.size + 1, 3, none⟩ (.slice a2 LN.length c2)) := fun W' hW' => HNW.out W' (fun x hx hxl => by
        have h1 := HSW.out
        rw [hW' x (by omega) (by rw [hsz]; exact hxl), hoth x (by omega)])
      have hb := hbel w w.heap.size HB5.out (by omega)
      obtain ⟨⟨z0, z1, z2, z3⟩, -⟩ := box_cells hset
      exact bodyPost_ret (v := .tuple #[.agg #[.int .i64 b, .int .i64 t, .slice a1 LN.length c1, .slice a2 LN.length c2], .nilIface]) (by simp [results, Try.results4, go_sem, z0, z1, z2, z3]) rfl (HYS.out _ _ hK ⟨a1, c1, a2, c2, rfl, hfin, hb⟩)
    · obtain ⟨rfl, hb2⟩ := hn2 (by omega)
      have hr := ((HBW.out.trans (hb2.mono HBW.out.size)).block (w.heap.size + 1) (by rw [HSZ.out]; omega)).trans HX2.out
      obtain ⟨⟨r0, r1, r2, r3⟩, rf⟩ := box_cells hr
      have HR := hide hr
      have HB5 : Hid (Below w.heap.size w w2) := (HB0.out.trans (HBW.out.mono HB0.out.size)).trans (hb2.mono (Nat.le_trans HB0.out.size HBW.out.size))
      clear hr hb2 hy2 hn2
      go_wp2
      obtain ⟨⟨hset, hsz, hoth⟩, hbel⟩ := box_set (v0 := .int .i64 0) (v1 := .int .i64 0) (v2 := .slice none 0 0) (v3 := .slice none 0 0) HR.out rfl
      have hb := hbel w w.heap.size HB5.out (by omega)
      obtain ⟨⟨z0, z1, z2, z3⟩, -⟩ := box_cells hset
      exact bodyPost_ret (v := .tuple #[.agg #[.int .i64 0, .int .i64 0, .slice none 0 0, .slice none 0 0], .iface 51 (.int .i64 3)]) (by simp [results, Try.results4, go_sem, z0, z1, z2, z3]) rfl (HZS.out _ _ (by omega) ⟨none, 0, none, 0, rfl, autoNew_nil _ _, hb⟩)
  · obtain ⟨rfl, hb1⟩ := hno hS
    have HNS := hide (fun e w' => HN.out e w' hS)
    have hr := (hb1.block (w.heap.size + 1) (by rw [HSZ.out]; omega)).trans HX2.out
    have hBA := (Below.refl w1.heap.size w1).alloc (Nat.le_refl _) (.cells #[.int .i64 0, .int .i64 0, .slice none 0 0, .slice none 0 0] 25)
    have HB5 : Hid (Below w.heap.size w (w1.alloc (.cells #[.int .i64 0, .int .i64 0, .slice none 0 0, .slice none 0 0] 25))) := below_step (below_step HB0.out hb1) hBA
    have hr2 := (hBA.block _ (Array.getElem?_eq_some_iff.1 hr).1).trans hr
    have HSN := hide hS
    rw [errV_no hS]
    clear hb1 hyes hno hS HY HZ HN hr HAU hBA
    obtain ⟨⟨r0, r1, r2, r3⟩, rf⟩ := box_cells hr2
    have HR := hide hr2
    clear hr2
    go_wp2
    obtain ⟨⟨hset, hsz, hoth⟩, hbel⟩ := box_set (v0 := .int .i64 0) (v1 := .int .i64 0) (v2 := .slice none 0 0) (v3 := .slice none 0 0) HR.out rfl
    have hb := hbel w w.heap.size HB5.out (by omega)
    obtain ⟨⟨z0, z1, z2, z3⟩, -⟩ := box_cells hset
    exact bodyPost_ret (v := .tuple #[.agg #[.int .i64 0, .int .i64 0, .slice none 0 0, .slice none 0 0], .iface 51 (.int .i64 S)]) (by simp [results, Try.results4, go_sem, z0, z1, z2, z3]) rfl (HNS.out _ _ ⟨none, 0, none, 0, by rw [errV_no HSN.out]; rfl, autoNew_nil _ _, hb⟩)
end Go.Proofs.Ytokcejakjaimlae

/- The law TurnTakes: its walk. -/
namespace Go.Proofs.Ytokcejakjaimlae
open Go.RowKit

theorem las_world (w : World) (T T2 T3 : TypeId) {W : World} (hW : W = (((w.alloc (.cells #[.int .i64 0, .int .i64 1] T)).alloc (.cells #[.int .i64 0, .int .i64 1] T)).alloc (.cells #[.slice (some ⟨w.heap.size, 0, none⟩) 2 2, .slice (some ⟨w.heap.size + 1, 0, none⟩) 2 2] T2)).alloc (.cells #[.bool false, .bool true] T3)) :
    Sl2 W (some ⟨w.heap.size + 1 + 1, 0, none⟩) 2 lasN ∧ SlB W (some ⟨w.heap.size + 1 + 1 + 1, 0, none⟩) 2 lasE ∧ Below w.heap.size w W := by
  have h1 := heap_alloc_last w (.cells #[.int .i64 0, .int .i64 1] T)
  have h2 := heap_alloc_last (w.alloc (.cells #[.int .i64 0, .int .i64 1] T)) (.cells #[.int .i64 0, .int .i64 1] T)
  have h3 := heap_alloc_last ((w.alloc (.cells #[.int .i64 0, .int .i64 1] T)).alloc (.cells #[.int .i64 0, .int .i64 1] T)) (.cells #[.slice (some ⟨w.heap.size, 0, none⟩) 2 2, .slice (some ⟨w.heap.size + 1, 0, none⟩) 2 2] T2)
  have h4 := heap_alloc_last (((w.alloc (.cells #[.int .i64 0, .int .i64 1] T)).alloc (.cells #[.int .i64 0, .int .i64 1] T)).alloc (.cells #[.slice (some ⟨w.heap.size, 0, none⟩) 2 2, .slice (some ⟨w.heap.size + 1, 0, none⟩) 2 2] T2)) (.cells #[.bool false, .bool true] T3)
  simp only [World.size_alloc] at h1 h2 h3 h4
  have b1 : Below w.heap.size w (w.alloc (.cells #[.int .i64 0, .int .i64 1] T)) := (Below.refl _ _).alloc (Nat.le_refl _) _
  have g3 := (Below.heap_alloc _ (.cells #[.bool false, .bool true] T3) (w.heap.size + 1 + 1) (by simp)).trans h3
  have g2 := (Below.heap_alloc _ (.cells #[.bool false, .bool true] T3) (w.heap.size + 1) (by simp)).trans ((Below.heap_alloc _ (.cells #[.slice (some ⟨w.heap.size, 0, none⟩) 2 2, .slice (some ⟨w.heap.size + 1, 0, none⟩) 2 2] T2) (w.heap.size + 1) (by simp)).trans h2)
  have g1 := (Below.heap_alloc _ (.cells #[.bool false, .bool true] T3) w.heap.size (by simp; omega)).trans ((Below.heap_alloc _ (.cells #[.slice (some ⟨w.heap.size, 0, none⟩) 2 2, .slice (some ⟨w.heap.size + 1, 0, none⟩) 2 2] T2) w.heap.size (by simp; omega)).trans ((Below.heap_alloc _ (.cells #[.int .i64 0, .int .i64 1] T) w.heap.size (by simp)).trans h1))
  have hB : Below w.heap.size w W := by
    rw [hW]
    exact ((((Below.refl _ _).alloc (Nat.le_refl _) _).alloc (by simp) _).alloc (by simp; omega) _).alloc (by simp; omega) _
  rw [← hW] at g1 g2 g3 h4
  clear hW h1 h2 h3
  have c1 : ∀ i, W.cell? ⟨w.heap.size, i, none⟩ = #[Value.int .i64 0, .int .i64 1][i]? := fun i => by simp [World.cell?, g1]
  have c2 : ∀ i, W.cell? ⟨w.heap.size + 1, i, none⟩ = #[Value.int .i64 0, .int .i64 1][i]? := fun i => by simp [World.cell?, g2]
  have c3 : ∀ i, W.cell? ⟨w.heap.size + 1 + 1, i, none⟩ = #[Value.slice (some ⟨w.heap.size, 0, none⟩) 2 2, .slice (some ⟨w.heap.size + 1, 0, none⟩) 2 2][i]? := fun i => by simp [World.cell?, g3]
  have c4 : ∀ i, W.cell? ⟨w.heap.size + 1 + 1 + 1, i, none⟩ = #[Value.bool false, .bool true][i]? := fun i => by simp [World.cell?, h4]
  have two : ∀ i, i < 2 → i = 0 ∨ i = 1 := by omega
  have s1 : Sl W (some ⟨w.heap.size, 0, none⟩) 2 [0, 1] := ⟨rfl, by decide, by decide, Or.inr ⟨_, 0, rfl, fun i hi => by rcases two i hi with rfl | rfl <;> exact c1 _⟩⟩
  have s2 : Sl W (some ⟨w.heap.size + 1, 0, none⟩) 2 [0, 1] := ⟨rfl, by decide, by decide, Or.inr ⟨_, 0, rfl, fun i hi => by rcases two i hi with rfl | rfl <;> exact c2 _⟩⟩
  refine ⟨⟨rfl, by decide, Or.inr ⟨_, 0, rfl, fun i hi => ?_⟩⟩, ⟨rfl, by decide, Or.inr ⟨_, 0, rfl, fun i hi => by rcases two i hi with rfl | rfl <;> exact c4 _⟩⟩, hB⟩
  rcases two i hi with rfl | rfl
  · exact ⟨_, 2, c3 0, s1⟩
  · exact ⟨_, 2, c3 1, s2⟩
theorem turn_parts {b t : Int} {N : List (List Int)} {E : List Bool} {k : Nat} (h : tnC b t N E k = 0) (hE : E.length = k) (u : List Int) :
    (runC b t (tnN b t N E k) (tnN b t N E k).length u = runC b t N k u.reverse ∧ takesB b t (tnN b t N E k) (tnE b t N E k) u = takesB b t N E u.reverse) ∧ (tnC b t (tnN b t N E k) (tnE b t N E k) (tnN b t N E k).length = 0 ∧ tnN b t (tnN b t N E k) (tnE b t N E k) (tnN b t N E k).length = leastN N E (manyU b t).toNat ∧ tnE b t (tnN b t N E k) (tnE b t N E k) (tnN b t N E k).length = leastE N E (manyU b t).toNat) ∧ autoC b t N k = 0 := ⟨tt_same h hE u, turn_twice h, (tnS_zero (tnC_zero h).1).1⟩

set_option maxHeartbeats 16000000 in
set_option maxRecDepth 8000 in
theorem turntakes_any (b t : Int) (a : Option Addr) (n cap : Nat) (a' : Option Addr) (k cap' : Nat) (N : List (List Int)) (E : List Bool) (aw : Option Addr) (lw cw : Nat) (u : List Int) (w : World) (hs : Sl2 w a n N) (he : SlB w a' k E) (hw : Sl w aw lw u) (_hnw : aw = none → cw = 0) (hbw : lw * 8 ≤ 140737488351232) :
    Calls Try.prog 3 #[.agg #[.int .i64 b, .int .i64 t, .slice a n cap, .slice a' k cap'], .slice aw lw cw] w fun e w' => e = .returned (.bool true) ∧ Below w.heap.size w w' := by
  have hE := he.1
  have hlu := hw.1
  have hwf := hw.2.2.1
  have hN := hs.1
  have hB0 : Below w.heap.size w (w.alloc (.cells #[.int .i64 b, .int .i64 t, .slice a n cap, .slice a' k cap'] 25)) := (Below.refl _ _).alloc (Nat.le_refl _) _
  have HB0 := hide hB0
  have HAB : Hid (∀ W, Below (w.alloc (.cells #[.int .i64 b, .int .i64 t, .slice a n cap, .slice a' k cap'] 25)).heap.size (w.alloc (.cells #[.int .i64 b, .int .i64 t, .slice a n cap, .slice a' k cap'] 25)) W → AutoAt W w.heap.size b t a n cap a' k cap' N E ∧ Sl W aw lw u) := fun W h => ⟨autoAt_below (autoAt_new (cap := cap) (cap' := cap') (T := 25) hs he) h, sl_below (sl_below hw hB0) h⟩
  have HS0 := hide (fun aa cc aa' cc' W h1 h2 => turn_says 2 1 aa 2 cc aa' 2 cc' lasN lasE W h1 h2)
  rw [las_code, las_next, las_ends, show okI 0 2 = 2 from rfl, show okI 0 (1 : Int) = 1 from rfl] at HS0
  unfold PairR at HS0
  rw [show ([[1, 2], [1, 1], [2, 2]] : List (List Int)).length = 3 from rfl, errV_yes rfl] at HS0
  have HS1 := hide (fun W h1 h2 => turn_says b t a n cap a' k cap' N E W h1 h2)
  unfold PairR at HS1
  have HTM := hide (fun x cx x' cx' W h1 h2 h3 => takes_u b t x x' (tnN b t N E k).length cx (tnN b t N E k).length cx' (tnN b t N E k) (tnE b t N E k) aw lw cw u W h1 h2 h3)
  have HTA := hide (fun xw lx cx2 W h1 h2 h3 => takes_u b t a a' n cap k cap' N E xw lx cx2 u.reverse W h1 h2 h3)
  have HS2 := hide (fun x cx x' cx' W h1 h2 => turn_says b t x (tnN b t N E k).length cx x' (tnN b t N E k).length cx' (tnN b t N E k) (tnE b t N E k) W h1 h2)
  unfold PairR at HS2
  have HLE : Hid (autoC b t N k = 0 → ∀ W, Sl2 W a n N → SlB W a' k E → Calls Try.prog 6 #[.agg #[.int .i64 b, .int .i64 t, .slice a n cap, .slice a' k cap']] W (LeastU W b t N E (manyU b t).toNat)) := fun hA W h1 h2 => by
    obtain rfl : k = n := by rw [(autoC_zero hA).2.1, h1.1]
    exact least_ok b t a k cap N a' cap' E W h1 h2 hA
  unfold LeastU at HLE
  have HMA := hide (fun h => @turn_parts b t N E k h hE u)
  generalize tnC b t (tnN b t N E k) (tnE b t N E k) (tnN b t N E k).length = c2 at HS2 HMA
  generalize tnN b t (tnN b t N E k) (tnE b t N E k) (tnN b t N E k).length = BN at HS2 HMA
  generalize tnE b t (tnN b t N E k) (tnE b t N E k) (tnN b t N E k).length = BE at HS2 HMA
  generalize tnN b t N E k = MN at HS1 HTM HS2 HMA
  generalize tnE b t N E k = ME at HS1 HTM HS2 HMA
  generalize tnC b t N E k = c at HS1 HMA
  generalize leastN N E (manyU b t).toNat = LN at HMA HLE
  generalize leastE N E (manyU b t).toNat = LE at HMA HLE
  generalize runC b t MN MN.length u = e1 at HTM HMA
  generalize takesB b t MN ME u = X at HTM HMA
  generalize runC b t N k u.reverse = e2 at HTA HMA
  generalize takesB b t N E u.reverse = Y at HTA HMA
  clear hs he hw hB0
  generalize hW0 : w.alloc (.cells #[.int .i64 b, .int .i64 t, .slice a n cap, .slice a' k cap'] 25) = w0 at HB0 HAB
  have HSZ0 : Hid (w0.heap.size = w.heap.size + 1) := by show _ = _; rw [← hW0]; simp
  generalize hWL : (((w0.alloc (.cells #[.int .i64 0, .int .i64 1] 3)).alloc (.cells #[.int .i64 0, .int .i64 1] 3)).alloc (.cells #[.slice (some ⟨w0.heap.size, 0, none⟩) 2 2, .slice (some ⟨w0.heap.size + 1, 0, none⟩) 2 2] 26)).alloc (.cells #[.bool false, .bool true] 4) = wl
  obtain ⟨l1, l2, l3⟩ := las_world w0 3 26 4 hWL.symm
  have HBL := hide ((Below.refl wl.heap.size wl).alloc (Nat.le_refl _) (.cells #[.int .i64 2, .int .i64 1, .slice (some ⟨w0.heap.size + 1 + 1, 0, none⟩) 2 2, .slice (some ⟨w0.heap.size + 1 + 1 + 1, 0, none⟩) 2 2] 25))
  have HL1 := hide (And.intro l1 l2)
  have HB5 := hide l3
  clear l1 l2 l3
  go_enter Try.func3, Try.ntmps3
  go_wp2_with fail
  refine (HS0.out (some ⟨w0.heap.size + 1 + 1, 0, none⟩) 2 (some ⟨w0.heap.size + 1 + 1 + 1, 0, none⟩) 2 _ (sl2_below HL1.out.1 HBL.out) (slB_below HL1.out.2 HBL.out)).mono ?_
  rintro e w2 ⟨fa, fc, fa', fc', rfl, hnew, hb2⟩
  clear hW0 hWL
  have hbz := (Below.refl w2.heap.size w2).alloc (Nat.le_refl _) (.cells #[.int .i64 2, .int .i64 1, .slice fa 3 fc, .slice fa' 3 fc'] 25)
  have HB3 := hide (below_step HB5.out (below_step HBL.out (below_step hb2 hbz)))
  have HX3 := hide (heap_alloc_last w2 (.cells #[.int .i64 2, .int .i64 1, .slice fa 3 fc, .slice fa' 3 fc'] 25))
  have hN3 := (hnew.below hbz).here
  obtain ⟨be, oe, rfl, hce0⟩ := slB_cell hN3.2 0 (by decide)
  obtain ⟨_, _, e2', hce2⟩ := slB_cell hN3.2 2 (by decide)
  cases e2'
  obtain ⟨br, or, ar, cr, rfl, hcr, hsr⟩ := sl2_cell hN3.1 0 (by decide)
  obtain ⟨b1, o1, rfl, hc1⟩ := sl_cell hsr 1 (by decide)
  rw [show ([false, false, true] : List Bool).getD 0 false = false from rfl, Nat.add_zero] at hce0
  rw [show ([false, false, true] : List Bool).getD 2 false = true from rfl] at hce2
  rw [show (([[1, 2], [1, 1], [2, 2]] : List (List Int)).getD 0 []).length = 2 from rfl, Nat.add_zero] at hcr
  rw [show (([[1, 2], [1, 1], [2, 2]] : List (List Int)).getD 0 []).getD 1 0 = 2 from rfl] at hc1
  clear hnew hb2 hbz hN3 hsr HL1 HB5 HBL HS0
  generalize hW3 : w2.alloc (.cells #[.int .i64 2, .int .i64 1, .slice (some ⟨br, or, none⟩) 3 fc, .slice (some ⟨be, oe, none⟩) 3 fc'] 25) = w3 at HB3 HX3 hce0 hce2 hcr hc1
  obtain ⟨⟨q0, q1, q2, q3⟩, -⟩ := box_cells HX3.out
  obtain ⟨⟨⟨p0, p1, p2, p3⟩, -⟩, -⟩ := HAB.out w3 HB3.out
  go_wp2
  clear hW3
  go_quiet (fail)
  have HB4 := hide (below_drewN HB3.out nq)
  clear q0 q1 q2 q3 p0 p1 p2 p3 hce0 hce2 hcr hc1 HX3 HB3
  generalize w3.drewN nq = w4 at HB4 ⊢
  obtain ⟨⟨⟨p0, p1, p2, p3⟩, -⟩, -⟩ := HAB.out w4 HB4.out
  go_wp2_with fail
  clear p0 p1 p2 p3
  refine (HS1.out w4 (HAB.out w4 HB4.out).1.2.1 (HAB.out w4 HB4.out).1.2.2).mono ?_
  rintro e w5 ⟨ax, cx, ax', cx', rfl, hnew, hb5⟩
  have hbz := (Below.refl w5.heap.size w5).alloc (Nat.le_refl _) (.cells #[.int .i64 (okI c b), .int .i64 (okI c t), .slice ax MN.length cx, .slice ax' MN.length cx'] 25)
  have HB6 := hide (below_step HB4.out (below_step hb5 hbz))
  have HX6 := hide (heap_alloc_last w5 (.cells #[.int .i64 (okI c b), .int .i64 (okI c t), .slice ax MN.length cx, .slice ax' MN.length cx'] 25))
  have HN6 := hide (hnew.below hbz).here
  clear hnew hb5 hbz HB4 HS1
  generalize hW6 : w5.alloc (.cells #[.int .i64 (okI c b), .int .i64 (okI c t), .slice ax MN.length cx, .slice ax' MN.length cx'] 25) = w6 at HB6 HX6 HN6
  by_cases hc : c = 0
  · rw [show okI c b = b by unfold okI; rw [if_pos hc], show okI c t = t by unfold okI; rw [if_pos hc]] at HX6 hW6 ⊢
    rw [errV_yes hc]
    obtain ⟨⟨m1, m2⟩, ⟨m3, m4, m5⟩, m6⟩ := HMA.out hc
    subst m1 m2 m3 m4 m5
    have HLA := hide (HLE.out m6)
    rw [show okI 0 b = b from rfl, show okI 0 t = t from rfl, errV_yes rfl] at HS2
    have hlw : lw ≤ 17592186043904 := by omega
    obtain ⟨i0, hi0, hz0, hz1, hz2⟩ := info_parts info3
    clear hc HMA HLE m6 hN
    go_wp2
    clear hW6
    go_loopw [10, 11] (fun v iv wx => ∃ j : Nat, j ≤ lw ∧ iv = .int .i64 ((lw : Int) - 1 - j) ∧ wx.ownsRow w6.heap.size 3 1 v j ((u.reverse.take j).map (Value.int .i64)) ∧ Below w6.heap.size w6 wx) (fun _ iv _ => (intOf iv + 1).toNat)
    case atStart => exact ⟨0, by omega, by simp, World.ownsRow_nil _ _ _ _, Below.refl _ _⟩
    case round =>
      obtain ⟨j, hj, rfl, hown, hb⟩ := hrel
      have HOW := hide hown
      have HB := hide hb
      clear hown hb
      by_cases hlt : j < lw
      · obtain ⟨q, hq⟩ : ∃ q : Nat, (lw : Int) - 1 - j = (q : Int) := ⟨lw - 1 - j, by omega⟩
        rw [hq]
        have hqn : q < lw := by omega
        have hqi : (q : Int) < (lw : Int) := by omega
        have hqp : (q : Int) ≥ 0 := by omega
        obtain ⟨bw, ow, rfl, hcw⟩ := sl_cell (HAB.out wr (below_step HB6.out HB.out)).2 q hqn
        have HTK : Hid (u.reverse.take (j + 1) = u.reverse.take j ++ [u.getD q 0]) := by
          show _ = _
          rw [rev_take (by omega), show u.length - 1 - j = q by omega]
        have HTL : Hid ((u.reverse.take j).length = j) := by show _ = _; rw [List.length_take, List.length_reverse]; omega
        obtain ⟨x, hx⟩ : ∃ x, x = u.getD q 0 := ⟨_, rfl⟩
        rw [← hx] at hcw HTK
        have HQ := hide hq
        clear hq hx
        go_wp2_with (at_builtin; refine wpList_append_own _ rfl _ _ 26 rfl w6.heap.size 3 i0 (.int .i64 0) 1 8 Try.underlying26 hi0 hz0 hz1 hz2 rfl (by decide) u10 j _ rfl (HOW.out.alloc _) ⟨wr.heap.size, 0, none⟩ 1 1 [.int .i64 x] rfl rfl (one_new _ _ _) (fun u hu => by simp at hu; subst hu; rfl) (by unfold maxLen; omega) (by omega) (by have := HB.out.size; simp; omega) ?_; intro v' w7 hown7 hgrow7 _; have HO7 := hide hown7; have HB7 := hide (Below.grown (HB.out.alloc HB.out.size _) hgrow7 (by have := HB.out.size; simp; omega) (fun y hy => (HOW.out.lt y hy).1)); clear hown7 hgrow7)
        have HO8 : Hid (w7.ownsRow w6.heap.size 3 1 v' (j + 1) ((u.reverse.take (j + 1)).map (Value.int .i64))) := by
          have h := HO7.out
          show World.ownsRow _ _ _ _ _ _ _
          rw [HTK.out, List.map_append]
          exact h
        go_roundw
        case rel => exact ⟨j + 1, by omega, by have := HQ.out; congr 1; omega, HO8.out, HB7.out⟩
        case measure => simp [intOf]
      · have hqp : ¬ ((lw : Int) - 1 - j ≥ 0) := by omega
        obtain rfl : j = lw := by omega
        have HWF : Hid (∀ x ∈ u.reverse, (Lit.int .i64 x).wf = true) := fun x hx => hwf x (List.mem_reverse.1 hx)
        have hrl : u.reverse.length = j := by rw [List.length_reverse]; exact hlu
        have hfull : u.reverse.take j = u.reverse := List.take_of_length_le (Nat.le_of_eq hrl)
        rw [hfull] at HOW
        obtain ⟨av, cv, rfl, hsv⟩ := sl_of_owns hrl (by unfold maxLen; omega) HWF.out HOW.out
        have HSV := hide hsv.1
        have HBr := hide (below_step HB6.out HB.out)
        have HXr := hide ((HB.out.block _ (Array.getElem?_eq_some_iff.1 HX6.out).1).trans HX6.out)
        have HNr := hide (And.intro (sl2_below HN6.out.1 HB.out) (slB_below HN6.out.2 HB.out))
        obtain ⟨⟨q0, q1, q2, q3⟩, -⟩ := box_cells HXr.out
        clear hsv hrl hfull HOW HB HX6 HN6 HB6 HWF hwf hlu
        generalize u.reverse = ur at HTA HSV
        go_wp2_with fail
        clear q0 q1 q2 q3
        refine (HTM.out ax cx ax' cx' wr HNr.out.1 HNr.out.2 (HAB.out wr HBr.out).2).mono ?_
        rintro e w7 ⟨rfl, hb7⟩
        have HB7 := hide (below_step HBr.out hb7)
        have HX7 := hide ((hb7.block _ (Array.getElem?_eq_some_iff.1 HXr.out).1).trans HXr.out)
        have HN7 := hide (And.intro (sl2_below HNr.out.1 hb7) (slB_below HNr.out.2 hb7))
        have HSV7 := hide (sl_below HSV.out hb7)
        obtain ⟨⟨⟨p0, p1, p2, p3⟩, -⟩, -⟩ := HAB.out w7 HB7.out
        clear hb7 HBr HXr HNr HSV HTM
        go_wp2_with fail
        clear p0 p1 p2 p3
        refine (HTA.out av j cv w7 (HAB.out w7 HB7.out).1.2.1 (HAB.out w7 HB7.out).1.2.2 HSV7.out).mono ?_
        rintro e w8 ⟨rfl, hb8⟩
        have HB8 := hide (below_step HB7.out hb8)
        have HX8 := hide ((hb8.block _ (Array.getElem?_eq_some_iff.1 HX7.out).1).trans HX7.out)
        have HN8 := hide (And.intro (sl2_below HN7.out.1 hb8) (slB_below HN7.out.2 hb8))
        obtain ⟨⟨q0, q1, q2, q3⟩, -⟩ := box_cells HX8.out
        clear hb8 HB7 HX7 HN7 HSV7 HTA
        have hcs : (errV e1 = .nilIface) ∨ (∃ z, errV e1 = .iface 51 (.int .i64 z)) := by
          by_cases h : e1 = 0
          · exact .inl (errV_yes h)
          · exact .inr ⟨_, errV_no h⟩
        generalize errV e1 = ev at hcs ⊢
        rcases hcs with rfl | ⟨z, rfl⟩ <;> cases X
        all_goals
          go_wp2
          go_quiet (fail)
          have HB9 := hide (below_drewN HB8.out nq)
          have HX9 : Hid ((w8.drewN nq).heap[w5.heap.size]? = _) := HX8.out
          have HN9 : Hid (Sl2 (w8.drewN nq) ax MN.length MN ∧ SlB (w8.drewN nq) ax' MN.length ME) := HN8.out
          clear q0 q1 q2 q3 HB8 HX8 HN8
          generalize w8.drewN nq = w9 at HB9 HX9 HN9 ⊢
          obtain ⟨⟨q0, q1, q2, q3⟩, -⟩ := box_cells HX9.out
          go_wp2_with fail
          clear q0 q1 q2 q3
          refine (HS2.out ax cx ax' cx' w9 HN9.out.1 HN9.out.2).mono ?_
          rintro e wA ⟨ay, cy, ay', cy', rfl, hnew, hbA⟩
          have hbz := (Below.refl wA.heap.size wA).alloc (Nat.le_refl _) (.cells #[.int .i64 b, .int .i64 t, .slice ay BN.length cy, .slice ay' BN.length cy'] 25)
          have HBB := hide (below_step HB9.out (below_step hbA hbz))
          have HYB := hide (heap_alloc_last wA (.cells #[.int .i64 b, .int .i64 t, .slice ay BN.length cy, .slice ay' BN.length cy'] 25))
          have HNB := hide (hnew.below hbz).here
          clear hnew hbA hbz HB9 HX9 HN9 HS2
          generalize hWB : wA.alloc (.cells #[.int .i64 b, .int .i64 t, .slice ay BN.length cy, .slice ay' BN.length cy'] 25) = wB at HBB HYB HNB
          obtain ⟨⟨⟨p0, p1, p2, p3⟩, -⟩, -⟩ := HAB.out wB HBB.out
          go_wp2_with fail
          clear hWB p0 p1 p2 p3
          refine (HLA.out wB (HAB.out wB HBB.out).1.2.1 (HAB.out wB HBB.out).1.2.2).mono ?_
          rintro e wC ⟨al, cl, al', cl', rfl, hnew, hbC⟩
          have hbz := (Below.refl wC.heap.size wC).alloc (Nat.le_refl _) (.cells #[.int .i64 b, .int .i64 t, .slice al BN.length cl, .slice al' BN.length cl'] 25)
          have hbCD := below_step hbC hbz
          have HBD := hide (below_step HBB.out hbCD)
          have HLD := hide (heap_alloc_last wC (.cells #[.int .i64 b, .int .i64 t, .slice al BN.length cl, .slice al' BN.length cl'] 25))
          have HYD := hide ((hbCD.block _ (Array.getElem?_eq_some_iff.1 HYB.out).1).trans HYB.out)
          have HND := hide (And.intro (sl2_below HNB.out.1 hbCD) (slB_below HNB.out.2 hbCD))
          have HMD := hide (hnew.below hbz).here
          clear hnew hbC hbz hbCD HBB HYB HNB HLA
          generalize hWD : wC.alloc (.cells #[.int .i64 b, .int .i64 t, .slice al BN.length cl, .slice al' BN.length cl'] 25) = wD at HBD HLD HYD HND HMD
          obtain ⟨⟨q0, q1, q2, q3⟩, -⟩ := box_cells HYD.out
          obtain ⟨⟨r0, r1, r2, r3⟩, -⟩ := box_cells HLD.out
          go_wp2_with fail
          clear hWD q0 q1 q2 q3 r0 r1 r2 r3
          refine (autos_eq b t ay BN.length cy ay' BN.length cy' al cl al' cl' BN BE wD HND.out.1 HND.out.2 HMD.out.1 HMD.out.2).mono ?_
          rintro e wE ⟨rfl, hbE⟩
          have HBE := hide (below_step HB0.out (below_step HBD.out hbE))
          clear hbE
          go_wp2
          go_ret
          exact ⟨rfl, HBE.out⟩
  · rw [errV_no hc]
    clear hc HMA
    go_wp2_with fail
    go_ret
    exact ⟨rfl, below_step HB0.out HB6.out⟩
end Go.Proofs.Ytokcejakjaimlae
