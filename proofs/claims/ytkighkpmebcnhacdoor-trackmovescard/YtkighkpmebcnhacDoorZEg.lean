/- 2 texts in one. -/
import Derived.Test.YtkighkpmebcnhacDoorAx
import Derived.Test.YtkighkpmebcnhacDoorZEe
/- The reference's Without: contract. -/
namespace Go.Proofs.YtkighkpmebcnhacDoor
open Go.RowKit

/-- The letters that have letter l of the others, and any digit on track t. -/
def withL (b : Int) (tr t : Nat) (l : Int) : List Int := (List.range (kindsI b).toNat).map fun x : Nat => packL b (putD b tr t (x : Int) l)
theorem withL_len (b : Int) (tr t : Nat) (l : Int) : (withL b tr t l).length = (kindsI b).toNat := by simp [withL]
theorem withL_take (b : Int) (tr t : Nat) (l : Int) (x : Nat) (hx : x < (kindsI b).toNat) : (withL b tr t l).take (x + 1) = (withL b tr t l).take x ++ [packL b (putD b tr t (x : Int) l)] := by
  rw [List.take_succ_eq_append_getElem (by rw [withL_len]; exact hx)]
  simp [withL]
theorem split_take (b : Int) (tr : Nat) (l : Int) (i : Nat) (hi : i < tr) : (splitL b tr l).take (i + 1) = (splitL b tr l).take i ++ [dOf b tr l i] := by
  rw [List.take_succ_eq_append_getElem (by rw [splitL_length]; exact hi)]
  simp [splitL]
theorem digB_put (b : Int) (h2 : b ≤ 6) {tr t : Nat} {x : Int} (hx : 0 ≤ x ∧ x < kindsI b) (l : Int) : digB b (putD b tr t x l) = true := by
  unfold digB
  rw [List.all_eq_true]
  intro y hy
  obtain ⟨j, hj, rfl⟩ := List.getElem_of_mem hy
  have := putD_bd b h2 (tr := tr) (t := t) hx l j hj
  rw [getD_at _ j hj] at this
  simpa using this
/-- A part of what a slice reads as. -/
theorem sl_front {w : World} {ad : Option Addr} {len : Nat} {l : List Int} (h : Sl w ad len l) {t : Nat} (ht : t ≤ len) : Sl w ad t (l.take t) := by
  obtain ⟨h1, h2, h3, h4⟩ := h
  refine ⟨by rw [List.length_take]; omega, by omega, fun x hx => h3 x (List.mem_of_mem_take hx), ?_⟩
  rcases h4 with h4 | ⟨b, o, rfl, hc⟩
  · exact .inl (by omega)
  · refine .inr ⟨b, o, rfl, fun i hi => ?_⟩
    rw [hc i (by omega)]
    simp [List.getD, hi]
theorem sl_back {w : World} {b o : Nat} {len : Nat} {l : List Int} (h : Sl w (some ⟨b, o, none⟩) len l) {t : Nat} (ht : t ≤ len) {o' : Nat} (ho : t < len → o' = o + t) : Sl w (some ⟨b, o', none⟩) (len - t) (l.drop t) := by
  obtain ⟨h1, h2, h3, h4⟩ := h
  refine ⟨by rw [List.length_drop]; omega, by omega, fun x hx => h3 x (List.mem_of_mem_drop hx), ?_⟩
  rcases h4 with h4 | ⟨b', o2, e, hc⟩
  · exact .inl (by omega)
  · cases e
    by_cases hl : t < len
    · refine .inr ⟨b, o', rfl, fun i hi => ?_⟩
      rw [ho hl, Nat.add_assoc, hc (t + i) (by omega)]
      simp [List.getD]
    · exact .inl (by omega)

/-- 'd[:t]', 'd[t:]'. -/
theorem run_front (ad : Option Addr) (n c t : Nat) (ht : t ≤ c) (W : World) : (Instr.slice 39 (.slice ad n c) none (some (.int .i64 (t : Int))) none).run Tryd.prog W = .ok (.slice ad t c) W := by
  obtain ⟨i, hi, hz0, hz1, hz2⟩ := info_parts info3
  unfold Instr.slice Instr.sliceBounds Instr.sliceBound
  simp only [Sem.run_bind, run_underlying Tryd.underlying39, Result.andThen_ok, Sem.run_pure, asIntOf]
  simp [sizeOf, typeInfo, hi, hz1, ht]
  intro _
  cases ad <;> rfl
theorem run_back (b o n c t : Nat) (ht : t ≤ n) (hn : n ≤ c) (W : World) : (Instr.slice 39 (.slice (some ⟨b, o, none⟩) n c) (some (.int .i64 (t : Int))) none none).run Tryd.prog W = .ok (.slice (some ⟨b, if t = c then o else o + t, none⟩) (n - t) (c - t)) W := by
  obtain ⟨i, hi, hz0, hz1, hz2⟩ := info_parts info3
  unfold Instr.slice Instr.sliceBounds Instr.sliceBound
  simp only [Sem.run_bind, run_underlying Tryd.underlying39, Result.andThen_ok, Sem.run_pure, asIntOf]
  simp [sizeOf, typeInfo, hi, hz1, Addr.add_lit]
  rw [if_pos ht]
  by_cases e : t = c
  · subst e; simp
  · rw [if_neg (Ne.symm e), if_neg e]

set_option maxHeartbeats 16000000 in
set_option maxRecDepth 8000 in
theorem withoutOf_any (b : Int) (tr t : Nat) (l : Int) (w : World) (h1 : 1 ≤ b) (h2 : b ≤ 6) (h4 : tr ≤ 4) (ht : t ≤ tr) (hl : 0 ≤ l) (hl' : l ≤ 1000000) :
    Calls Tryd.prog 34 #[.int .i64 b, .int .i64 ((tr : Int) + 1), .int .i64 t, .int .i64 l] w (GivesRow w (withL b tr t l)) := by
  have hkb := kinds_bd2 b h2
  obtain ⟨i0, hi0, hz0, hz1, hz2⟩ := info_parts info3
  have HDO := hide (fun i W hi => digitOf_any b tr l i W h1 h2 (by omega) hi hl hl')
  have HRX := hide (fun W => radix_yes b W h1 h2)
  have HST := hide (fun i h => split_take b tr l i h)
  have HSL := hide (splitL_length b tr l)
  have HSW : Hid (∀ x ∈ splitL b tr l, (Lit.int .i64 x).wf = true) := fun x hx => by
    obtain ⟨j, hj, rfl⟩ := List.getElem_of_mem hx
    have := split_bd b h2 tr l j hj
    rw [getD_at _ j hj] at this
    exact dig_wf h2 this
  have HWT := hide (fun x h => withL_take b tr t l x h)
  have HWL := hide (withL_len b tr t l)
  obtain ⟨K, hK⟩ : ∃ K : Nat, kindsI b = (K : Int) := ⟨(kindsI b).toNat, by omega⟩
  have hK6 : K ≤ 6 := by omega
  have HPO : Hid (∀ (x : Nat), x < K → ∀ ad cd W, Sl W ad (tr + 1) (putD b tr t (x : Int) l) → Calls Tryd.prog 28 #[.int .i64 b, .slice ad ((tr + 1 : Nat) : Nat) cd] W fun e w' => e = .returned (.int .i64 (packL b (putD b tr t (x : Int) l))) ∧ ∃ n, w' = W.drewN n) := fun x hx ad cd W h => packOf_any b ad (tr + 1) cd _ W h1 h2 (by omega) (digB_put b h2 (by omega) l) h
  have HPW : Hid (∀ (x : Nat), x < K → ∀ y ∈ putD b tr t (x : Int) l, (Lit.int .i64 y).wf = true) := fun x hx y hy => by
    obtain ⟨j, hj, rfl⟩ := List.getElem_of_mem hy
    have := putD_bd b h2 (tr := tr) (t := t) (x := (x : Int)) (by omega) l j hj
    rw [getD_at _ j hj] at this
    exact dig_wf h2 this
  have HPD : Hid (∀ x : Int, putD b tr t x l = (splitL b tr l).take t ++ [x] ++ (splitL b tr l).drop t) := fun x => rfl
  have HWW : Hid (∀ y ∈ withL b tr t l, (Lit.int .i64 y).wf = true) := fun y hy => by
    obtain ⟨x, hx, rfl⟩ := List.mem_map.1 hy
    rw [List.mem_range] at hx
    have h3 := pack_bd b h2 _ (putD_bd b h2 (tr := tr) (t := t) (x := (x : Int)) (by omega) l)
    rw [putD_len ht] at h3
    have h5 := pw_bd (kindsI b) hkb.1 hkb.2 (tr + 1) (by omega)
    exact WalkArith.wf_i64 (by omega)
  rw [hK] at HRX HWT HWL
  rw [Int.toNat_natCast] at HWT HWL
  generalize withL b tr t l = WL at HWT HWL HWW ⊢
  generalize hDD : splitL b tr l = DD at HST HSL HSW HPD
  clear hDD hkb hK
  go_enter Tryd.func34, Tryd.ntmps34
  go_wp2
  go_loopw [9, 10] (fun v iv wx => ∃ i : Nat, i ≤ tr ∧ iv = .int .i64 i ∧ Grow w (DD.take i) v wx) (fun _ iv _ => tr - (intOf iv).toNat)
  case atStart => exact ⟨0, by omega, rfl, grow_nil w⟩
  case round =>
    obtain ⟨i, hi, rfl, hgr⟩ := hrel
    have HGR := hide hgr
    clear hgr
    by_cases hlt : i < tr
    · have hlti : (i : Int) < (tr : Int) := by omega
      have HDC := hide (fun W => HDO.out i W hlt)
      have HTK := hide (HST.out i hlt)
      generalize dOf b tr l i = u at HDC HTK
      have HTL : Hid ((DD.take i).length = i) := by show _ = _; rw [List.length_take]; have := HSL.out; omega
      have HOWN := hide HGR.out.1
      rw [HTL.out] at HOWN
      have HSZ := hide HGR.out.2.size
      go_wp2_with fail
      refine (HDC.out wr).mono ?_
      rintro e w' ⟨rfl, hw⟩
      rw [hw]
      clear hw w'
      go_wp2_with (at_builtin; refine wpList_append_own _ rfl _ _ 39 rfl w.heap.size 3 i0 (.int .i64 0) 1 8 Tryd.underlying39 hi0 hz0 hz1 hz2 rfl (by decide) _ i ((DD.take i).map (Value.int .i64)) rfl (HOWN.out.alloc _) ⟨wr.heap.size, 0, none⟩ 1 1 [.int .i64 u] rfl rfl (one_new _ _ _) (fun u hu => by simp at hu; subst hu; rfl) (by unfold maxLen; omega) (by omega) (by have := HSZ.out; simp; omega) ?_; intro v3 w6 hown hgrow _)
      go_roundw
      case rel => exact ⟨i + 1, by omega, by go_num, by rw [HTK.out]; exact grow_push HGR.out (by rw [HTL.out]; exact hown) hgrow⟩
      case measure => simp [intOf]; omega
    · have hlti : ¬ (i : Int) < (tr : Int) := by omega
      obtain rfl : tr = i := by omega
      have HFULL : Hid (DD.take tr = DD) := List.take_of_length_le (by have := HSL.out; omega)
      rw [HFULL.out] at HGR
      obtain ⟨ad, cd, rfl, hsr⟩ := sl_of_owns rfl (by unfold maxLen; have := HSL.out; omega) HSW.out HGR.out.1
      have hsr1 := hsr.1
      rw [HSL.out] at hsr1 ⊢
      have HSD := hide hsr1
      have HBW := hide HGR.out.2
      have hdn : ad = none → cd = 0 := by
        intro e
        subst e
        rcases HGR.out.1.2 with ⟨h, -⟩ | ⟨g, cap, cur, h, -⟩
        · injection h with _ _ h
        · cases h
      have hdc : tr ≤ cd := by
        rcases HGR.out.1.2 with ⟨h, h'⟩ | ⟨g, cap, cur, h, -, -, hc, -⟩
        · have := HSL.out; omega
        · have := HSL.out; injection h with h5 h6 h7; omega
      clear hsr hsr1
      go_wp2
      obtain ⟨w2, hw2⟩ : ∃ w2 : World, w2 = wr := ⟨_, rfl⟩
      rw [← hw2] at HGR HSD HBW ⊢
      clear hw2 wr
      go_loopw [11, 12] (fun v xv wx => ∃ x : Nat, x ≤ K ∧ xv = .int .i64 x ∧ Grow w2 (WL.take x) v wx) (fun _ xv _ => K - (intOf xv).toNat)
      case atStart => exact ⟨0, by omega, rfl, grow_nil w2⟩
      case round =>
        obtain ⟨x, hx, rfl, hgx⟩ := hrel
        have HGX := hide hgx
        clear hgx
        by_cases hxk : x < K
        · have hxi : (x : Int) < (K : Int) := by omega
          have HBX := hide (HBW.out.trans (HGX.out.2.mono HBW.out.size))
          have HFR : Hid (Sl wr ad t (DD.take t)) := sl_front (sl_below HSD.out HGX.out.2) ht
          have hfr := fun W => run_front ad tr cd t (by omega) W
          obtain ⟨ad2, hbk, HBK, hdn2⟩ : ∃ ad2 : Option Addr, (∀ W, (Instr.slice 39 (.slice ad tr cd) (some (.int .i64 (t : Int))) none none).run Tryd.prog W = .ok (.slice ad2 (tr - t) (cd - t)) W) ∧ Hid (∀ W, Below w2.heap.size w2 W → Sl W ad2 (tr - t) (DD.drop t)) ∧ (ad2 = none → cd - t = 0) := by
            cases ad with
            | none =>
              have h0 := hdn rfl
              subst h0
              obtain rfl : tr = 0 := by omega
              obtain rfl : t = 0 := by omega
              refine ⟨none, fun W => ?_, fun W hW => ?_, fun _ => rfl⟩
              · unfold Instr.slice Instr.sliceBounds Instr.sliceBound
                obtain ⟨i, hi, hz0, hz1, hz2⟩ := info_parts info3
                simp only [Sem.run_bind, run_underlying Tryd.underlying39, Result.andThen_ok, Sem.run_pure, asIntOf]
                simp [sizeOf, typeInfo, hi, hz1]
              · have := sl_below HSD.out hW
                simpa using this
            | some x =>
              obtain ⟨bd, od, sp⟩ := x
              obtain rfl : sp = none := by
                rcases HGR.out.1.2 with ⟨h, -⟩ | ⟨g, cap, cur, h, -⟩
                · cases h
                · injection h with h; injection h with h; injection h
              exact ⟨_, fun W => run_back bd od tr cd t ht hdc W, fun W hW => sl_back (sl_below HSD.out hW) ht (fun h => by rw [if_neg (by omega)]), fun h => by cases h⟩
          have HLF : Hid ((DD.take t).length = t) := by show _ = _; rw [List.length_take]; have := HSL.out; omega
          have HPDx := hide (HPD.out (x : Int))
          have HPOx := hide (HPO.out x hxk)
          have HPWx := hide (HPW.out x hxk)
          have HWTx := hide (HWT.out x hxk)
          have HPLx : Hid ((putD b tr t (x : Int) l).length = tr + 1) := putD_len ht _ _
          generalize putD b tr t (x : Int) l = PD at HPDx HPOx HPWx HWTx HPLx
          go_wp2_with (first
            | (go_at_call 33; refine (HRX.out _).mono ?_; rintro e w' ⟨rfl, hw'⟩; obtain rfl := hw'.symm)
            | (at_builtin; refine wpList_append_sl rfl _ _ rfl wr.heap.size (.slice none 0 0) [] rfl (World.ownsRow_nil _ _ _ _) ad t cd (DD.take t) rfl HFR.out hdn (by simp) (by omega) (Nat.le_refl _) ?_; intro v1 wA hownA hgrowA; have HG1 : Hid (GrowR wr (DD.take t) v1 wA) := ⟨by simpa using hownA, Below.grown (Below.refl _ _) hgrowA (Nat.le_refl _) (fun k hk => by simp [Value.ownBlock] at hk)⟩; have HO1 := hide HG1.out.1; rw [HLF.out] at HO1; have HZ1 := hide HG1.out.2.size; clear hownA hgrowA)
            | (at_builtin; refine wpList_append_own _ rfl _ _ 39 rfl wr.heap.size 3 i0 (.int .i64 0) 1 8 Tryd.underlying39 hi0 hz0 hz1 hz2 rfl (by decide) v1 t ((DD.take t).map (Value.int .i64)) rfl (HO1.out.alloc _) ⟨wA.heap.size, 0, none⟩ 1 1 [.int .i64 (x : Int)] rfl rfl (one_new _ _ _) (fun u hu => by simp at hu; subst hu; rfl) (by unfold maxLen; omega) (by omega) (by have := HZ1.out; simp; omega) ?_; intro v2 wB hownB hgrowB _; have HG2 : Hid (GrowR wr (DD.take t ++ [(x : Int)]) v2 wB) := growR_push HG1.out (by rw [HLF.out]; exact hownB) hgrowB; clear hownB hgrowB)
            | (at_builtin; refine wpList_append_sl rfl _ _ rfl wr.heap.size v2 (DD.take t ++ [(x : Int)]) rfl HG2.out.1 ad2 (tr - t) (cd - t) (DD.drop t) rfl (HBK.out wB (below_step HGX.out.2 HG2.out.2)) hdn2 (by rw [List.length_append, HLF.out]; simp; omega) (by omega) HG2.out.2.size ?_; intro v3 wC hownC hgrowC; have HG3 : Hid (GrowR wr PD v3 wC) := ⟨by rw [HPDx.out]; exact hownC, Below.grown HG2.out.2 hgrowC HG2.out.2.size (fun k hk => (HG2.out.1.lt k hk).1)⟩; obtain ⟨ar, cr, rfl, hsr⟩ := sl_of_owns rfl (by rw [HPLx.out]; unfold maxLen; omega) HPWx.out HG3.out.1; have hsr1 := hsr.1; rw [HPLx.out] at hsr1 ⊢; have HSR := hide hsr1; clear hownC hgrowC hsr hsr1))
          refine (HPOx.out ar cr wC HSR.out).mono ?_
          rintro e w' ⟨rfl, nn, hw'⟩
          have HGW := hide (grow_below HGX.out (below_step HG3.out.2 (below_drewN (Below.refl wC.heap.size wC) nn)))
          rw [hw']
          clear hw' w' hfr hbk
          generalize wC.drewN nn = w5 at HGW ⊢
          have HTLx : Hid ((WL.take x).length = x) := by show _ = _; rw [List.length_take]; have := HWL.out; omega
          have HOWN := hide HGW.out.1
          rw [HTLx.out] at HOWN
          have HSZ := hide HGW.out.2.size
          generalize packL b PD = pk at HWTx
          go_wp2_with (at_builtin; refine wpList_append_own _ rfl _ _ 39 rfl w2.heap.size 3 i0 (.int .i64 0) 1 8 Tryd.underlying39 hi0 hz0 hz1 hz2 rfl (by decide) _ x ((WL.take x).map (Value.int .i64)) rfl (HOWN.out.alloc _) ⟨w5.heap.size, 0, none⟩ 1 1 [.int .i64 pk] rfl rfl (one_new _ _ _) (fun u hu => by simp at hu; subst hu; rfl) (by unfold maxLen; omega) (by omega) (by have := HSZ.out; simp; omega) ?_; intro v6 w6 hown hgrow _)
          go_roundw
          case rel => exact ⟨x + 1, by omega, by go_num, by rw [HWTx.out]; exact grow_push HGW.out (by rw [HTLx.out]; exact hown) hgrow⟩
          case measure => simp [intOf]; omega
        · have hxi : ¬ (x : Int) < (K : Int) := by omega
          obtain rfl : K = x := by omega
          have HFULL2 : Hid (WL.take K = WL) := List.take_of_length_le (by have := HWL.out; omega)
          rw [HFULL2.out] at HGX
          obtain ⟨ar, cr, rfl, hsr⟩ := sl_of_owns rfl (by rw [HWL.out]; unfold maxLen; omega) HWW.out HGX.out.1
          have HSR := hide hsr
          clear hsr
          go_wp2_with (go_at_call 33; refine (HRX.out _).mono ?_; rintro e w' ⟨rfl, hw'⟩; obtain rfl := hw'.symm)
          go_ret
          exact ⟨ar, cr, rfl, HSR.out.mono HBW.out.size, HBW.out.trans (HGX.out.2.mono HBW.out.size)⟩
end Go.Proofs.YtkighkpmebcnhacDoor

/- The reference's FixOf: contract. -/
namespace Go.Proofs.YtkighkpmebcnhacDoor
open Go.RowKit

/-- Fix's code, and what it hands back. -/
def fixC (b t : Int) (N : List (List Int)) (k : Nat) (tk x : Int) : Int := if autoC b t N k = 0 then (if (0 ≤ tk ∧ tk < t) ∧ 0 ≤ x ∧ x < kindsI b then 0 else 1) else autoC b t N k
def fixN (b t : Int) (N : List (List Int)) (E : List Bool) (k : Nat) (tk x : Int) : List (List Int) := if fixC b t N k tk x = 0 then leastN (relN N (fixT b (t.toNat - 1) tk.toNat x (manyU b (t - 1)).toNat)) E (manyU b (t - 1)).toNat else []
def fixE (b t : Int) (N : List (List Int)) (E : List Bool) (k : Nat) (tk x : Int) : List Bool := if fixC b t N k tk x = 0 then leastE (relN N (fixT b (t.toNat - 1) tk.toNat x (manyU b (t - 1)).toNat)) E (manyU b (t - 1)).toNat else []
theorem fixC_zero {b t : Int} {N : List (List Int)} {k : Nat} {tk x : Int} (h : fixC b t N k tk x = 0) : autoC b t N k = 0 ∧ (0 ≤ tk ∧ tk < t) ∧ 0 ≤ x ∧ x < kindsI b := by
  unfold fixC at h
  split at h
  · split at h
    · rename_i h1 h2; exact ⟨h1, h2⟩
    · cases h
  · rename_i h1; exact absurd h h1
/-- One track fewer has no more letters. -/
theorem many_less {b : Int} {tr : Nat} (h : codeM b ((tr : Int) + 1) = 0) : codeM b (tr : Int) = 0 ∧ manyU b (tr : Int) = pw (kindsI b) tr ∧ 1 ≤ manyU b (tr : Int) ∧ manyU b (tr : Int) ≤ 36 ∧ pw (kindsI b) (tr + 1) = manyU b ((tr : Int) + 1) ∧ tr ≤ 4 ∧ 1 ≤ b ∧ b ≤ 6 := by
  obtain ⟨h1, h2, h3, h4, h5, h6⟩ := codeM_zero h
  have hk := kinds_bd2 b h2
  rw [show ((tr : Int) + 1).toNat = tr + 1 by omega] at h5 h6
  have hp := pw_pos (kindsI b) hk.1 tr
  have hle : pw (kindsI b) tr ≤ 36 := by
    rw [pw_succ] at h5
    have := Int.mul_le_mul_of_nonneg_left (show (1 : Int) ≤ kindsI b by omega) (show 0 ≤ pw (kindsI b) tr by omega)
    omega
  have hc : codeM b (tr : Int) = 0 := by
    rw [codeM_yes h1 h2 (by omega) (by omega), Int.toNat_natCast, if_pos hle]
  have hm : manyU b (tr : Int) = pw (kindsI b) tr := by
    have := (codeM_zero hc).2.2.2.2.2
    rwa [Int.toNat_natCast] at this
  exact ⟨hc, hm, by omega, by omega, h6.symm, by omega, h1, h2⟩

set_option maxHeartbeats 4000000 in
set_option maxRecDepth 8000 in
theorem fixOf_bad (b t : Int) (a : Option Addr) (n cap : Nat) (a' : Option Addr) (k cap' : Nat) (N : List (List Int)) (tk x : Int) (w : World) (hs : Sl2 w a n N) (hk : k ≤ maxLen) (hC : fixC b t N k tk x ≠ 0) :
    Calls Tryd.prog 14 #[.agg #[.int .i64 b, .int .i64 t, .slice a n cap, .slice a' k cap'], .int .i64 tk, .int .i64 x] w (BothR w 0 0 [] [] (fixC b t N k tk x)) := by
  have hB0 := below_two w (.cells #[.int .i64 b, .int .i64 t, .slice a n cap, .slice a' k cap'] 25) (.cells #[.int .i64 0, .int .i64 0, .slice none 0 0, .slice none 0 0] 25)
  have HB0 := hide hB0
  have HF := hide (afault_u b t a a' n cap k cap' N _ (sl2_below hs hB0) hk)
  have HRD : Hid (autoC b t N k = 0 → ∀ W, Calls Tryd.prog 33 #[.int .i64 b] W fun e w' => e = .returned (.int .i64 (kindsI b)) ∧ w' = W) := fun h W => by
    obtain ⟨h1, h2, -⟩ := codeM_zero (autoC_zero h).1
    exact radix_yes b W h1 h2
  have HBX := hide (fun W (h : Below _ _ W) => (@two_boxes w W (.int .i64 b) (.int .i64 t) (.slice a n cap) (.slice a' k cap') (.int .i64 0) (.int .i64 0) (.slice none 0 0) (.slice none 0 0) 25 h).1)
  have HRX := hide (heap_alloc2_snd w (.cells #[.int .i64 b, .int .i64 t, .slice a n cap, .slice a' k cap'] 25) (.cells #[.int .i64 0, .int .i64 0, .slice none 0 0, .slice none 0 0] 25))
  generalize hW0 : (w.alloc (.cells #[.int .i64 b, .int .i64 t, .slice a n cap, .slice a' k cap'] 25)).alloc (.cells #[.int .i64 0, .int .i64 0, .slice none 0 0, .slice none 0 0] 25) = wb at HB0 HF HBX HRX
  clear hs hk hB0
  have HC : Hid (fixC b t N k tk x = if autoC b t N k = 0 then (if (0 ≤ tk ∧ tk < t) ∧ 0 ≤ x ∧ x < kindsI b then 0 else 1) else autoC b t N k) := rfl
  generalize fixC b t N k tk x = c at HC hC ⊢
  generalize autoC b t N k = cx at HC HF HRD
  generalize kindsI b = K at HC HRD
  obtain ⟨p0, p1, p2, p3⟩ := HBX.out wb (Below.refl _ _)
  go_enter Tryd.func14, Tryd.ntmps14
  go_wp2_with fail
  clear hW0 p0 p1 p2 p3
  refine HF.out.mono ?_
  rintro e w1 ⟨rfl, hb1⟩
  have HB1 := hide hb1
  have HR1 := hide ((hb1.block _ (Array.getElem?_eq_some_iff.1 HRX.out).1).trans HRX.out)
  obtain ⟨p0, p1, p2, p3⟩ := HBX.out w1 hb1
  obtain ⟨⟨r0, r1, r2, r3⟩, rf⟩ := box_cells HR1.out
  clear hb1 HF
  by_cases hx : cx = 0
  · rw [if_pos hx] at HC
    have hxi : (cx != 0) = false := by simpa using hx
    have HRD1 := hide (HRD.out hx)
    have hno : ¬ ((0 ≤ tk ∧ tk < t) ∧ 0 ≤ x ∧ x < K) := fun h => hC (by rw [HC.out, if_pos h])
    rw [if_neg hno] at HC
    have hcs : decide (tk < 0) = true ∨ (decide (tk < 0) = false ∧ decide (t ≤ tk) = true) ∨ (decide (tk < 0) = false ∧ decide (t ≤ tk) = false ∧ decide (x < 0) = true) ∨ (decide (tk < 0) = false ∧ decide (t ≤ tk) = false ∧ decide (x < 0) = false ∧ decide (K ≤ x) = true) := by
      simp only [decide_eq_true_eq, decide_eq_false_iff_not]
      omega
    clear hno HRD
    rcases hcs with h | ⟨h, h'⟩ | ⟨h, h', h''⟩ | ⟨h, h', h'', h3⟩
    all_goals
      go_wp2_with (go_at_call 33; refine (HRD1.out _).mono ?_; rintro e w' ⟨rfl, hw'⟩; obtain rfl := hw'.symm)
      obtain ⟨⟨hset, -, -⟩, hbel⟩ := box_set (v0 := .int .i64 0) (v1 := .int .i64 0) (v2 := .slice none 0 0) (v3 := .slice none 0 0) HR1.out rfl
      obtain ⟨⟨z0, z1, z2, z3⟩, -⟩ := box_cells hset
      exact bodyPost_ret (v := .tuple #[.agg #[.int .i64 0, .int .i64 0, .slice none 0 0, .slice none 0 0], .int .i64 1]) (by simp [results, Tryd.results14, go_sem, z0, z1, z2, z3]) rfl ⟨none, 0, none, 0, by rw [HC.out]; rfl, autoNew_nil _ _, hbel _ _ (below_step HB0.out HB1.out) (by omega)⟩
  · rw [if_neg hx] at HC
    have hxi : (cx != 0) = true := by simpa using hx
    go_wp2
    obtain ⟨⟨hset, -, -⟩, hbel⟩ := box_set (v0 := .int .i64 0) (v1 := .int .i64 0) (v2 := .slice none 0 0) (v3 := .slice none 0 0) HR1.out rfl
    obtain ⟨⟨z0, z1, z2, z3⟩, -⟩ := box_cells hset
    exact bodyPost_ret (v := .tuple #[.agg #[.int .i64 0, .int .i64 0, .slice none 0 0, .slice none 0 0], .int .i64 cx]) (by simp [results, Tryd.results14, go_sem, z0, z1, z2, z3]) rfl ⟨none, 0, none, 0, by rw [HC.out]; rfl, autoNew_nil _ _, hbel _ _ (below_step HB0.out HB1.out) (by omega)⟩

theorem fixT_take (b : Int) (tr t : Nat) (x : Int) (n l : Nat) (hl : l < n) : (fixT b tr t x n).take (l + 1) = (fixT b tr t x n).take l ++ [packL b (putD b tr t x (l : Int))] := by
  rw [List.take_succ_eq_append_getElem (by rw [fix_len]; exact hl)]
  simp [fixT]
theorem withL_get (b : Int) (tr t : Nat) (l : Int) {x : Nat} (hx : x < (kindsI b).toNat) : (withL b tr t l).getD x 0 = packL b (putD b tr t (x : Int) l) := by
  simp [withL, List.getD, hx]

set_option maxHeartbeats 16000000 in
set_option maxRecDepth 8000 in
theorem fixOf_ok (b : Int) (tr : Nat) (a : Option Addr) (n cap : Nat) (a' : Option Addr) (cap' : Nat) (N : List (List Int)) (E : List Bool) (tk x : Nat) (w : World) (hs : Sl2 w a n N) (he : SlB w a' n E) (hA : autoC b ((tr : Int) + 1) N n = 0) (htk : tk ≤ tr) (hx : (x : Int) < kindsI b) :
    Calls Tryd.prog 14 #[.agg #[.int .i64 b, .int .i64 ((tr : Int) + 1), .slice a n cap, .slice a' n cap'], .int .i64 tk, .int .i64 x] w (BothR w b tr (leastN (relN N (fixT b tr tk x (manyU b tr).toNat)) E (manyU b tr).toNat) (leastE (relN N (fixT b tr tk x (manyU b tr).toNat)) E (manyU b tr).toNat) 0) := by
  obtain ⟨hMt, -, hG, hmu⟩ := autoC_zero hA
  have hn80 := autoC_80 hA
  rw [hs.1] at hG hn80
  obtain ⟨hM, hm1, hm2, hm3, hm4, htr4, h1, h2⟩ := many_less hMt
  have hkb := kinds_bd2 b h2
  have hmm : ((manyU b (tr : Int)).toNat : Int) = manyU b (tr : Int) := by omega
  have hok := fix_ok b h2 htk (x := (x : Int)) ⟨by omega, hx⟩ (manyU b (tr : Int)).toNat (manyU b ((tr : Int) + 1)).toNat (by rw [hm4]; omega)
  have hmm1 : 1 ≤ (manyU b (tr : Int)).toNat := by omega
  have hmm36 : (manyU b (tr : Int)).toNat ≤ 36 := by omega
  have hB0 := below_two w (.cells #[.int .i64 b, .int .i64 ((tr : Int) + 1), .slice a n cap, .slice a' n cap'] 25) (.cells #[.int .i64 0, .int .i64 0, .slice none 0 0, .slice none 0 0] 25)
  have HB0 := hide hB0
  have HF := hide (afault_u b ((tr : Int) + 1) a a' n cap n cap' N _ (sl2_below hs hB0) he.2.1)
  rw [hA] at HF
  have HLT := hide (fun W => letters_u b (tr : Int) W)
  rw [hM, ← hmm] at HLT
  have HRD := hide (fun W => radix_yes b W h1 h2)
  have HS := hide (sl2_below hs hB0)
  have HE := hide (slB_below he hB0)
  have HBX := hide (fun W (h : Below _ _ W) => (@two_boxes w W (.int .i64 b) (.int .i64 ((tr : Int) + 1)) (.slice a n cap) (.slice a' n cap') (.int .i64 0) (.int .i64 0) (.slice none 0 0) (.slice none 0 0) 25 h).1)
  have HRX := hide (heap_alloc2_snd w (.cells #[.int .i64 b, .int .i64 ((tr : Int) + 1), .slice a n cap, .slice a' n cap'] 25) (.cells #[.int .i64 0, .int .i64 0, .slice none 0 0, .slice none 0 0] 25))
  have HRE := hide (fun ato ct W g1 g2 g3 => relettered_any b ((tr : Int) + 1) (tr : Int) a n cap (manyU b ((tr : Int) + 1)).toNat N a' cap' E ato (manyU b (tr : Int)).toNat ct (fixT b tr tk (x : Int) (manyU b (tr : Int)).toNat) W g1 g2 g3 hG hok hmm1 hmm36 hn80)
  unfold GivesAuto at HRE
  have HTK := hide (fun l h => fixT_take b tr tk (x : Int) (manyU b (tr : Int)).toNat l h)
  have HTL := hide (fix_len b tr tk (x : Int) (manyU b (tr : Int)).toNat)
  have HTW : Hid (∀ y ∈ fixT b tr tk (x : Int) (manyU b (tr : Int)).toNat, (Lit.int .i64 y).wf = true) := fun y hy => by
    have := hok y hy
    have := hG.2.2.2.1
    exact WalkArith.wf_i64 (by omega)
  have HWO := hide (fun l W hl hl' => withoutOf_any b tr tk l W h1 h2 htr4 htk hl hl')
  unfold GivesRow at HWO
  have HWG := hide (fun l => withL_get b tr tk l (x := x) (by omega))
  have HWLn := hide (fun l => withL_len b tr tk l)
  obtain ⟨i0, hi0, hz0, hz1, hz2⟩ := info_parts info3
  have htki : (tk : Int) < (tr : Int) + 1 := by omega
  have hd1 : decide ((tk : Int) < 0) = false := by simp
  have hd2 : decide ((tr : Int) + 1 ≤ (tk : Int)) = false := by simp; omega
  have hd3 : decide ((x : Int) < 0) = false := by simp
  have hd4 : ¬ kindsI b ≤ (x : Int) := by omega
  have hxk : x < (kindsI b).toNat := by omega
  clear hs he hA hM hMt hG hok hB0 hmu hm1 hm2 hm3 hm4 hmm htki
  generalize leastN (relN N (fixT b tr tk (x : Int) (manyU b (tr : Int)).toNat)) E (manyU b (tr : Int)).toNat = LN at HRE ⊢
  generalize leastE (relN N (fixT b tr tk (x : Int) (manyU b (tr : Int)).toNat)) E (manyU b (tr : Int)).toNat = LE at HRE ⊢
  generalize fixT b tr tk (x : Int) (manyU b (tr : Int)).toNat = T at HRE HTK HTL HTW
  generalize (manyU b (tr : Int)).toNat = mu at HRE HTK HTL HLT hmm1 hmm36
  generalize kindsI b = K at HRD hd4 hxk HWLn hx hkb
  generalize hW0 : (w.alloc (.cells #[.int .i64 b, .int .i64 ((tr : Int) + 1), .slice a n cap, .slice a' n cap'] 25)).alloc (.cells #[.int .i64 0, .int .i64 0, .slice none 0 0, .slice none 0 0] 25) = wb at HB0 HF HS HE HBX HRX
  have HSZ0 : Hid (wb.heap.size = w.heap.size + 2) := by show _ = _; rw [← hW0]; simp
  obtain ⟨p0, p1, p2, p3⟩ := HBX.out wb (Below.refl _ _)
  go_enter Tryd.func14, Tryd.ntmps14
  go_wp2_with fail
  clear hW0 p0 p1 p2 p3
  refine HF.out.mono ?_
  rintro e w1 ⟨rfl, hb1⟩
  have HB1 := hide hb1
  obtain ⟨p0, p1, p2, p3⟩ := HBX.out w1 hb1
  clear hb1 HF
  go_wp2_with (first
    | (go_at_call 33; refine (HRD.out _).mono ?_; rintro e w' ⟨rfl, hw'⟩; obtain rfl := hw'.symm)
    | (go_at_call 24; refine (HLT.out _).mono ?_; rintro e w' ⟨rfl, hw'⟩; obtain rfl := hw'.symm))
  clear p0 p1 p2 p3
  go_loopw [11, 12] (fun v lv wx => ∃ l : Nat, l ≤ mu ∧ lv = .int .i64 l ∧ Grow w1 (T.take l) v wx) (fun _ lv _ => mu - (intOf lv).toNat)
  case atStart => exact ⟨0, by omega, rfl, grow_nil w1⟩
  case round =>
    obtain ⟨l, hl, rfl, hgr⟩ := hrel
    have HGR := hide hgr
    have HBL := hide (below_step HB1.out hgr.2)
    obtain ⟨p0, p1, p2, p3⟩ := HBX.out wr HBL.out
    clear hgr
    by_cases hlm : l < mu
    · have hlmi : (l : Int) < (mu : Int) := by omega
      have HTK1 := hide (HTK.out l hlm)
      have HWO1 := hide (HWO.out (l : Int) wr (by omega) (by omega))
      have HWG1 := hide (HWG.out (l : Int))
      have HWL1 := hide (HWLn.out (l : Int))
      rw [← HWG1.out] at HTK1
      generalize withL b tr tk (l : Int) = WL at HTK1 HWO1 HWL1
      have HTLl : Hid ((T.take l).length = l) := by show _ = _; rw [List.length_take]; have := HTL.out; omega
      clear p2 p3
      go_wp2_with fail
      clear p0 p1
      refine HWO1.out.mono ?_
      rintro e w3 ⟨aw, cw, rfl, hsw, hb3⟩
      have hxl : x < WL.length := by have := HWL1.out; omega
      have hxli : (x : Int) < (WL.length : Int) := by omega
      obtain ⟨b1, o1, rfl, hc1⟩ := sl_cell hsw.1 x hxl
      have HGW := hide (grow_below HGR.out hb3)
      have HOWN := hide HGW.out.1
      rw [HTLl.out] at HOWN
      have HSZ := hide HGW.out.2.size
      generalize WL.getD x 0 = u at HTK1 hc1
      clear hsw hb3 HWO1
      go_wp2_with (at_builtin; refine wpList_append_own _ rfl _ _ 39 rfl w1.heap.size 3 i0 (.int .i64 0) 1 8 Tryd.underlying39 hi0 hz0 hz1 hz2 rfl (by decide) _ l ((T.take l).map (Value.int .i64)) rfl (HOWN.out.alloc _) ⟨w3.heap.size, 0, none⟩ 1 1 [.int .i64 u] rfl rfl (one_new _ _ _) (fun u hu => by simp at hu; subst hu; rfl) (by unfold maxLen; omega) (by omega) (by have := HSZ.out; simp; omega) ?_; intro v6 w6 hown hgrow _)
      go_roundw
      case rel => exact ⟨l + 1, by omega, by go_num, by rw [HTK1.out]; exact grow_push HGW.out (by rw [HTLl.out]; exact hown) hgrow⟩
      case measure => simp [intOf]; omega
    · have hlmi : ¬ (l : Int) < (mu : Int) := by omega
      obtain rfl : mu = l := by omega
      have HFULL : Hid (T.take mu = T) := List.take_of_length_le (by have := HTL.out; omega)
      rw [HFULL.out] at HGR
      obtain ⟨ar, cr, rfl, hsr⟩ := sl_of_owns rfl (by unfold maxLen; have := HTL.out; omega) HTW.out HGR.out.1
      have hsr1 := hsr.1
      rw [HTL.out] at hsr1 ⊢
      have HRC := hide (HRE.out ar cr wr (sl2_below HS.out HBL.out) (slB_below HE.out HBL.out) hsr1)
      have HR := hide ((HBL.out.block _ (Array.getElem?_eq_some_iff.1 HRX.out).1).trans HRX.out)
      clear hsr hsr1 HRE
      go_wp2_with fail
      clear p0 p1 p2 p3
      refine HRC.out.mono ?_
      rintro e w3 ⟨ay, cy, ay', cy', rfl, hnew, hb3⟩
      have hold := (hb3.block _ (Array.getElem?_eq_some_iff.1 HR.out).1).trans HR.out
      have HHOLD := hide hold
      have HNEW := hide hnew
      have HBF := hide (below_step HB0.out (below_step HBL.out hb3))
      have HSW := hide HBL.out.size
      obtain ⟨⟨o0, o1, o2, o3⟩, of⟩ := box_cells hold
      clear hnew hb3 hold HRC
      go_wp2
      obtain ⟨⟨hset, hsz, hoth⟩, hbel⟩ := box_set (v0 := .int .i64 b) (v1 := .int .i64 (tr : Int)) (v2 := .slice ay LN.length cy) (v3 := .slice ay' LN.length cy') HHOLD.out rfl
      have hfin : AutoNew w ay LN.length LN ay' LE ((((w3.setCell ⟨w.heap.size + 1, 0, none⟩ (.int .i64 b)).setCell ⟨w.heap.size + 1, 1, none⟩ (.int .i64 (tr : Int))).setCell ⟨w.heap.size + 1, 2, none⟩ (.slice ay LN.length cy)).setCell ⟨w.heap.size + 1, 3, none⟩ (.slice ay' LN.length cy')) := fun W' hW' => HNEW.out W' (fun x hx hxl => by
        have h1 := HSW.out
        have h2 := HSZ0.out
        rw [hW' x (by omega) (by rw [hsz]; exact hxl), hoth x (by omega)])
      have hb := hbel w w.heap.size HBF.out (by omega)
      obtain ⟨⟨z0, z1, z2, z3⟩, -⟩ := box_cells hset
      exact bodyPost_ret (v := .tuple #[.agg #[.int .i64 b, .int .i64 (tr : Int), .slice ay LN.length cy, .slice ay' LN.length cy'], .int .i64 0]) (by simp [results, Tryd.results14, go_sem, z0, z1, z2, z3]) rfl ⟨ay, cy, ay', cy', rfl, hfin, hb⟩

theorem fixOf_u (b t : Int) (a : Option Addr) (n cap : Nat) (a' : Option Addr) (k cap' : Nat) (N : List (List Int)) (E : List Bool) (tk x : Int) (w : World) (hs : Sl2 w a n N) (he : SlB w a' k E) :
    Calls Tryd.prog 14 #[.agg #[.int .i64 b, .int .i64 t, .slice a n cap, .slice a' k cap'], .int .i64 tk, .int .i64 x] w (BothR w (okI (fixC b t N k tk x) b) (okI (fixC b t N k tk x) (t - 1)) (fixN b t N E k tk x) (fixE b t N E k tk x) (fixC b t N k tk x)) := by
  by_cases hc : fixC b t N k tk x = 0
  · obtain ⟨hA, ⟨ht0, ht1⟩, hx0, hx1⟩ := fixC_zero hc
    obtain rfl : k = n := by rw [(autoC_zero hA).2.1, hs.1]
    unfold fixN fixE okI
    rw [if_pos hc, if_pos hc, if_pos hc, if_pos hc, hc]
    obtain ⟨tr, rfl⟩ : ∃ tr : Nat, t = (tr : Int) + 1 := ⟨(t - 1).toNat, by omega⟩
    obtain ⟨tkn, rfl⟩ : ∃ tkn : Nat, tk = (tkn : Int) := ⟨tk.toNat, by omega⟩
    obtain ⟨xn, rfl⟩ : ∃ xn : Nat, x = (xn : Int) := ⟨x.toNat, by omega⟩
    rw [show (tr : Int) + 1 - 1 = (tr : Int) by omega, show ((tr : Int) + 1).toNat - 1 = tr by omega, Int.toNat_natCast]
    exact fixOf_ok b tr a k cap a' cap' N E tkn xn w hs he hA (by omega) hx1
  · unfold fixN fixE okI
    rw [if_neg hc, if_neg hc, if_neg hc, if_neg hc]
    exact fixOf_bad b t a n cap a' k cap' N tk x w hs he.2.1 hc
end Go.Proofs.YtkighkpmebcnhacDoor
