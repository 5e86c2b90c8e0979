/- 7 texts in one. -/
import Derived.Deep.RegionHeldLaw
import Derived.Test.YtleebojibobgaaaGreatDoorAx
import Derived.Test.YtleebojibobgaaaGreatDoorEf
import Derived.Test.YtleebojibobgaaaGreatDoorZMp
import Derived.Test.YtleebojibobgaaaGreatDoorZCd
import Derived.Test.YtleebojibobgaaaGreatDoorZCf
import Derived.Test.YtleebojibobgaaaGreatDoorZLq
/- The reference's Without: contract. -/
namespace Go.Proofs.YtleebojibobgaaaGreatDoor
open Go.RowKit

/-- The letters that have letter l of the others, and any digit on track t. -/
def withL (b : Int) (tr t : Nat) (l : Int) : List Int := (List.range (kindsI b).toNat).map fun x : Nat => packL b (putD b tr t (x : Int) l)
theorem withL_len (b : Int) (tr t : Nat) (l : Int) : (withL b tr t l).length = (kindsI b).toNat := by simp [withL]
theorem withL_take (b : Int) (tr t : Nat) (l : Int) (x : Nat) (hx : x < (kindsI b).toNat) : (withL b tr t l).take (x + 1) = (withL b tr t l).take x ++ [packL b (putD b tr t (x : Int) l)] := by
  rw [List.take_succ_eq_append_getElem (by rw [withL_len]; exact hx)]
  simp [withL]
theorem split_take (b : Int) (tr : Nat) (l : Int) (i : Nat) (hi : i < tr) : (splitL b tr l).take (i + 1) = (splitL b tr l).take i ++ [dOf b tr l i] := by
  rw [List.take_succ_eq_append_getElem (by rw [splitL_length]; exact hi)]
  simp [splitL]
theorem digB_put (b : Int) (h2 : b ≤ 6) {tr t : Nat} {x : Int} (hx : 0 ≤ x ∧ x < kindsI b) (l : Int) : digB b (putD b tr t x l) = true := by
  unfold digB
  rw [List.all_eq_true]
  intro y hy
  obtain ⟨j, hj, rfl⟩ := List.getElem_of_mem hy
  have := putD_bd b h2 (tr := tr) (t := t) hx l j hj
  rw [getD_at _ j hj] at this
  simpa using this
/-- A part of what a slice reads as. -/
theorem sl_front {w : World} {ad : Option Addr} {len : Nat} {l : List Int} (h : Sl w ad len l) {t : Nat} (ht : t ≤ len) : Sl w ad t (l.take t) := by
  obtain ⟨h1, h2, h3, h4⟩ := h
  refine ⟨by rw [List.length_take]; omega, by omega, fun x hx => h3 x (List.mem_of_mem_take hx), ?_⟩
  rcases h4 with h4 | ⟨b, o, rfl, hc⟩
  · exact .inl (by omega)
  · refine .inr ⟨b, o, rfl, fun i hi => ?_⟩
    rw [hc i (by omega)]
    simp [List.getD, hi]
theorem sl_back {w : World} {b o : Nat} {len : Nat} {l : List Int} (h : Sl w (some ⟨b, o, none⟩) len l) {t : Nat} (ht : t ≤ len) {o' : Nat} (ho : t < len → o' = o + t) : Sl w (some ⟨b, o', none⟩) (len - t) (l.drop t) := by
  obtain ⟨h1, h2, h3, h4⟩ := h
  refine ⟨by rw [List.length_drop]; omega, by omega, fun x hx => h3 x (List.mem_of_mem_drop hx), ?_⟩
  rcases h4 with h4 | ⟨b', o2, e, hc⟩
  · exact .inl (by omega)
  · cases e
    by_cases hl : t < len
    · refine .inr ⟨b, o', rfl, fun i hi => ?_⟩
      rw [ho hl, Nat.add_assoc, hc (t + i) (by omega)]
      simp [List.getD]
    · exact .inl (by omega)

/-- 'd[:t]', 'd[t:]'. -/
theorem run_front (ad : Option Addr) (n c t : Nat) (ht : t ≤ c) (W : World) : (Instr.slice 42 (.slice ad n c) none (some (.int .i64 (t : Int))) none).run Tryz.prog W = .ok (.slice ad t c) W := by
  obtain ⟨i, hi, hz0, hz1, hz2⟩ := info_parts info3
  unfold Instr.slice Instr.sliceBounds Instr.sliceBound
  simp only [Sem.run_bind, run_underlying Tryz.underlying42, Result.andThen_ok, Sem.run_pure, asIntOf]
  simp [sizeOf, typeInfo, hi, hz1, ht]
  intro _
  cases ad <;> rfl
theorem run_back (b o n c t : Nat) (ht : t ≤ n) (hn : n ≤ c) (W : World) : (Instr.slice 42 (.slice (some ⟨b, o, none⟩) n c) (some (.int .i64 (t : Int))) none none).run Tryz.prog W = .ok (.slice (some ⟨b, if t = c then o else o + t, none⟩) (n - t) (c - t)) W := by
  obtain ⟨i, hi, hz0, hz1, hz2⟩ := info_parts info3
  unfold Instr.slice Instr.sliceBounds Instr.sliceBound
  simp only [Sem.run_bind, run_underlying Tryz.underlying42, Result.andThen_ok, Sem.run_pure, asIntOf]
  simp [sizeOf, typeInfo, hi, hz1, Addr.add_lit]
  rw [if_pos ht]
  by_cases e : t = c
  · subst e; simp
  · rw [if_neg (Ne.symm e), if_neg e]

set_option maxHeartbeats 16000000 in
set_option maxRecDepth 8000 in
theorem withoutOf_any (b : Int) (tr t : Nat) (l : Int) (w : World) (h1 : 1 ≤ b) (h2 : b ≤ 6) (h4 : tr ≤ 4) (ht : t ≤ tr) (hl : 0 ≤ l) (hl' : l ≤ 100000000) :
    Calls Tryz.prog 12 #[.int .i64 b, .int .i64 ((tr : Int) + 1), .int .i64 t, .int .i64 l] w (GivesRow w (withL b tr t l)) := by
  have hkb := kinds_bd2 b h2
  obtain ⟨i0, hi0, hz0, hz1, hz2⟩ := info_parts info3
  have HDO := hide (fun i W hi => digitOf_any b tr l i W h1 h2 (by omega) hi hl hl')
  have HRX := hide (fun W => radix_yes b W h1 h2)
  have HST := hide (fun i h => split_take b tr l i h)
  have HSL := hide (splitL_length b tr l)
  have HSW : Hid (∀ x ∈ splitL b tr l, (Lit.int .i64 x).wf = true) := fun x hx => by
    obtain ⟨j, hj, rfl⟩ := List.getElem_of_mem hx
    have := split_bd b h2 tr l j hj
    rw [getD_at _ j hj] at this
    exact dig_wf h2 this
  have HWT := hide (fun x h => withL_take b tr t l x h)
  have HWL := hide (withL_len b tr t l)
  obtain ⟨K, hK⟩ : ∃ K : Nat, kindsI b = (K : Int) := ⟨(kindsI b).toNat, by omega⟩
  have hK6 : K ≤ 6 := by omega
  have HPO : Hid (∀ (x : Nat), x < K → ∀ ad cd W, Sl W ad (tr + 1) (putD b tr t (x : Int) l) → Calls Tryz.prog 23 #[.int .i64 b, .slice ad ((tr + 1 : Nat) : Nat) cd] W fun e w' => e = .returned (.int .i64 (packL b (putD b tr t (x : Int) l))) ∧ ∃ n, w' = W.drewN n) := fun x hx ad cd W h => packOf_any b ad (tr + 1) cd _ W h1 h2 (by omega) (digB_put b h2 (by omega) l) h
  have HPW : Hid (∀ (x : Nat), x < K → ∀ y ∈ putD b tr t (x : Int) l, (Lit.int .i64 y).wf = true) := fun x hx y hy => by
    obtain ⟨j, hj, rfl⟩ := List.getElem_of_mem hy
    have := putD_bd b h2 (tr := tr) (t := t) (x := (x : Int)) (by omega) l j hj
    rw [getD_at _ j hj] at this
    exact dig_wf h2 this
  have HPD : Hid (∀ x : Int, putD b tr t x l = (splitL b tr l).take t ++ [x] ++ (splitL b tr l).drop t) := fun x => rfl
  have HWW : Hid (∀ y ∈ withL b tr t l, (Lit.int .i64 y).wf = true) := fun y hy => by
    obtain ⟨x, hx, rfl⟩ := List.mem_map.1 hy
    rw [List.mem_range] at hx
    have h3 := pack_bd b h2 _ (putD_bd b h2 (tr := tr) (t := t) (x := (x : Int)) (by omega) l)
    rw [putD_len ht] at h3
    have h5 := pw_bd (kindsI b) hkb.1 hkb.2 (tr + 1) (by omega)
    exact WalkArith.wf_i64 (by omega)
  rw [hK] at HRX HWT HWL
  rw [Int.toNat_natCast] at HWT HWL
  generalize withL b tr t l = WL at HWT HWL HWW ⊢
  generalize hDD : splitL b tr l = DD at HST HSL HSW HPD
  clear hDD hkb hK
  go_enter Tryz.func12, Tryz.ntmps12
  go_wp2
  go_loopw [9, 10] (fun v iv wx => ∃ i : Nat, i ≤ tr ∧ iv = .int .i64 i ∧ Grow w (DD.take i) v wx) (fun _ iv _ => tr - (intOf iv).toNat)
  case atStart => exact ⟨0, by omega, rfl, grow_nil w⟩
  case round =>
    obtain ⟨i, hi, rfl, hgr⟩ := hrel
    have HGR := hide hgr
    clear hgr
    by_cases hlt : i < tr
    · have hlti : (i : Int) < (tr : Int) := by omega
      have HDC := hide (fun W => HDO.out i W hlt)
      have HTK := hide (HST.out i hlt)
      generalize dOf b tr l i = u at HDC HTK
      have HTL : Hid ((DD.take i).length = i) := by show _ = _; rw [List.length_take]; have := HSL.out; omega
      have HOWN := hide HGR.out.1
      rw [HTL.out] at HOWN
      have HSZ := hide HGR.out.2.size
      go_wp2_with fail
      refine (HDC.out wr).mono ?_
      rintro e w' ⟨rfl, hw⟩
      rw [hw]
      clear hw w'
      go_wp2_with (at_builtin; refine wpList_append_own _ rfl _ _ 42 rfl w.heap.size 3 i0 (.int .i64 0) 1 8 Tryz.underlying42 hi0 hz0 hz1 hz2 rfl (by decide) _ i ((DD.take i).map (Value.int .i64)) rfl (HOWN.out.alloc _) ⟨wr.heap.size, 0, none⟩ 1 1 [.int .i64 u] rfl rfl (one_new _ _ _) (fun u hu => by simp at hu; subst hu; rfl) (by unfold maxLen; omega) (by omega) (by have := HSZ.out; simp; omega) ?_; intro v3 w6 hown hgrow _)
      go_roundw
      case rel => exact ⟨i + 1, by omega, by go_num, by rw [HTK.out]; exact grow_push HGR.out (by rw [HTL.out]; exact hown) hgrow⟩
      case measure => simp [intOf]; omega
    · have hlti : ¬ (i : Int) < (tr : Int) := by omega
      obtain rfl : tr = i := by omega
      have HFULL : Hid (DD.take tr = DD) := List.take_of_length_le (by have := HSL.out; omega)
      rw [HFULL.out] at HGR
      obtain ⟨ad, cd, rfl, hsr⟩ := sl_of_owns rfl (by unfold maxLen; have := HSL.out; omega) HSW.out HGR.out.1
      have hsr1 := hsr.1
      rw [HSL.out] at hsr1 ⊢
      have HSD := hide hsr1
      have HBW := hide HGR.out.2
      have hdn : ad = none → cd = 0 := by
        intro e
        subst e
        rcases HGR.out.1.2 with ⟨h, -⟩ | ⟨g, cap, cur, h, -⟩
        · injection h with _ _ h
        · cases h
      have hdc : tr ≤ cd := by
        rcases HGR.out.1.2 with ⟨h, h'⟩ | ⟨g, cap, cur, h, -, -, hc, -⟩
        · have := HSL.out; omega
        · have := HSL.out; injection h with h5 h6 h7; omega
      clear hsr hsr1
      go_wp2
      obtain ⟨w2, hw2⟩ : ∃ w2 : World, w2 = wr := ⟨_, rfl⟩
      rw [← hw2] at HGR HSD HBW ⊢
      clear hw2 wr
      go_loopw [11, 12] (fun v xv wx => ∃ x : Nat, x ≤ K ∧ xv = .int .i64 x ∧ Grow w2 (WL.take x) v wx) (fun _ xv _ => K - (intOf xv).toNat)
      case atStart => exact ⟨0, by omega, rfl, grow_nil w2⟩
      case round =>
        obtain ⟨x, hx, rfl, hgx⟩ := hrel
        have HGX := hide hgx
        clear hgx
        by_cases hxk : x < K
        · have hxi : (x : Int) < (K : Int) := by omega
          have HBX := hide (HBW.out.trans (HGX.out.2.mono HBW.out.size))
          have HFR : Hid (Sl wr ad t (DD.take t)) := sl_front (sl_below HSD.out HGX.out.2) ht
          have hfr := fun W => run_front ad tr cd t (by omega) W
          obtain ⟨ad2, hbk, HBK, hdn2⟩ : ∃ ad2 : Option Addr, (∀ W, (Instr.slice 42 (.slice ad tr cd) (some (.int .i64 (t : Int))) none none).run Tryz.prog W = .ok (.slice ad2 (tr - t) (cd - t)) W) ∧ Hid (∀ W, Below w2.heap.size w2 W → Sl W ad2 (tr - t) (DD.drop t)) ∧ (ad2 = none → cd - t = 0) := by
            cases ad with
            | none =>
              have h0 := hdn rfl
              subst h0
              obtain rfl : tr = 0 := by omega
              obtain rfl : t = 0 := by omega
              refine ⟨none, fun W => ?_, fun W hW => ?_, fun _ => rfl⟩
              · unfold Instr.slice Instr.sliceBounds Instr.sliceBound
                obtain ⟨i, hi, hz0, hz1, hz2⟩ := info_parts info3
                simp only [Sem.run_bind, run_underlying Tryz.underlying42, Result.andThen_ok, Sem.run_pure, asIntOf]
                simp [sizeOf, typeInfo, hi, hz1]
              · have := sl_below HSD.out hW
                simpa using this
            | some x =>
              obtain ⟨bd, od, sp⟩ := x
              obtain rfl : sp = none := by
                rcases HGR.out.1.2 with ⟨h, -⟩ | ⟨g, cap, cur, h, -⟩
                · cases h
                · injection h with h; injection h with h; injection h
              exact ⟨_, fun W => run_back bd od tr cd t ht hdc W, fun W hW => sl_back (sl_below HSD.out hW) ht (fun h => by rw [if_neg (by omega)]), fun h => by cases h⟩
          have HLF : Hid ((DD.take t).length = t) := by show _ = _; rw [List.length_take]; have := HSL.out; omega
          have HPDx := hide (HPD.out (x : Int))
          have HPOx := hide (HPO.out x hxk)
          have HPWx := hide (HPW.out x hxk)
          have HWTx := hide (HWT.out x hxk)
          have HPLx : Hid ((putD b tr t (x : Int) l).length = tr + 1) := putD_len ht _ _
          generalize putD b tr t (x : Int) l = PD at HPDx HPOx HPWx HWTx HPLx
          go_wp2_with (first
            | (go_at_call 21; refine (HRX.out _).mono ?_; rintro e w' ⟨rfl, hw'⟩; obtain rfl := hw'.symm)
            | (at_builtin; refine wpList_append_sl rfl _ _ rfl wr.heap.size (.slice none 0 0) [] rfl (World.ownsRow_nil _ _ _ _) ad t cd (DD.take t) rfl HFR.out hdn (by simp) (by omega) (Nat.le_refl _) ?_; intro v1 wA hownA hgrowA; have HG1 : Hid (GrowR wr (DD.take t) v1 wA) := ⟨by simpa using hownA, Below.grown (Below.refl _ _) hgrowA (Nat.le_refl _) (fun k hk => by simp [Value.ownBlock] at hk)⟩; have HO1 := hide HG1.out.1; rw [HLF.out] at HO1; have HZ1 := hide HG1.out.2.size; clear hownA hgrowA)
            | (at_builtin; refine wpList_append_own _ rfl _ _ 42 rfl wr.heap.size 3 i0 (.int .i64 0) 1 8 Tryz.underlying42 hi0 hz0 hz1 hz2 rfl (by decide) v1 t ((DD.take t).map (Value.int .i64)) rfl (HO1.out.alloc _) ⟨wA.heap.size, 0, none⟩ 1 1 [.int .i64 (x : Int)] rfl rfl (one_new _ _ _) (fun u hu => by simp at hu; subst hu; rfl) (by unfold maxLen; omega) (by omega) (by have := HZ1.out; simp; omega) ?_; intro v2 wB hownB hgrowB _; have HG2 : Hid (GrowR wr (DD.take t ++ [(x : Int)]) v2 wB) := growR_push HG1.out (by rw [HLF.out]; exact hownB) hgrowB; clear hownB hgrowB)
            | (at_builtin; refine wpList_append_sl rfl _ _ rfl wr.heap.size v2 (DD.take t ++ [(x : Int)]) rfl HG2.out.1 ad2 (tr - t) (cd - t) (DD.drop t) rfl (HBK.out wB (below_step HGX.out.2 HG2.out.2)) hdn2 (by rw [List.length_append, HLF.out]; simp; omega) (by omega) HG2.out.2.size ?_; intro v3 wC hownC hgrowC; have HG3 : Hid (GrowR wr PD v3 wC) := ⟨by rw [HPDx.out]; exact hownC, Below.grown HG2.out.2 hgrowC HG2.out.2.size (fun k hk => (HG2.out.1.lt k hk).1)⟩; obtain ⟨ar, cr, rfl, hsr⟩ := sl_of_owns rfl (by rw [HPLx.out]; unfold maxLen; omega) HPWx.out HG3.out.1; have hsr1 := hsr.1; rw [HPLx.out] at hsr1 ⊢; have HSR := hide hsr1; clear hownC hgrowC hsr hsr1))
          refine (HPOx.out ar cr wC HSR.out).mono ?_
          rintro e w' ⟨rfl, nn, hw'⟩
          have HGW := hide (grow_below HGX.out (below_step HG3.out.2 (below_drewN (Below.refl wC.heap.size wC) nn)))
          rw [hw']
          clear hw' w' hfr hbk
          generalize wC.drewN nn = w5 at HGW ⊢
          have HTLx : Hid ((WL.take x).length = x) := by show _ = _; rw [List.length_take]; have := HWL.out; omega
          have HOWN := hide HGW.out.1
          rw [HTLx.out] at HOWN
          have HSZ := hide HGW.out.2.size
          generalize packL b PD = pk at HWTx
          go_wp2_with (at_builtin; refine wpList_append_own _ rfl _ _ 42 rfl w2.heap.size 3 i0 (.int .i64 0) 1 8 Tryz.underlying42 hi0 hz0 hz1 hz2 rfl (by decide) _ x ((WL.take x).map (Value.int .i64)) rfl (HOWN.out.alloc _) ⟨w5.heap.size, 0, none⟩ 1 1 [.int .i64 pk] rfl rfl (one_new _ _ _) (fun u hu => by simp at hu; subst hu; rfl) (by unfold maxLen; omega) (by omega) (by have := HSZ.out; simp; omega) ?_; intro v6 w6 hown hgrow _)
          go_roundw
          case rel => exact ⟨x + 1, by omega, by go_num, by rw [HWTx.out]; exact grow_push HGW.out (by rw [HTLx.out]; exact hown) hgrow⟩
          case measure => simp [intOf]; omega
        · have hxi : ¬ (x : Int) < (K : Int) := by omega
          obtain rfl : K = x := by omega
          have HFULL2 : Hid (WL.take K = WL) := List.take_of_length_le (by have := HWL.out; omega)
          rw [HFULL2.out] at HGX
          obtain ⟨ar, cr, rfl, hsr⟩ := sl_of_owns rfl (by rw [HWL.out]; unfold maxLen; omega) HWW.out HGX.out.1
          have HSR := hide hsr
          clear hsr
          go_wp2_with (go_at_call 21; refine (HRX.out _).mono ?_; rintro e w' ⟨rfl, hw'⟩; obtain rfl := hw'.symm)
          go_ret
          exact ⟨ar, cr, rfl, HSR.out.mono HBW.out.size, HBW.out.trans (HGX.out.2.mono HBW.out.size)⟩
end Go.Proofs.YtleebojibobgaaaGreatDoor

/- The reference's FixOf: contract. -/
namespace Go.Proofs.YtleebojibobgaaaGreatDoor
open Go.RowKit

/-- One track fewer has no more letters. -/
theorem many_less {b : Int} {tr : Nat} (h : codeM b ((tr : Int) + 1) = 0) : codeM b (tr : Int) = 0 ∧ manyU b (tr : Int) = pw (kindsI b) tr ∧ 1 ≤ manyU b (tr : Int) ∧ manyU b (tr : Int) ≤ 36 ∧ pw (kindsI b) (tr + 1) = manyU b ((tr : Int) + 1) ∧ tr ≤ 4 ∧ 1 ≤ b ∧ b ≤ 6 := by
  obtain ⟨h1, h2, h3, h4, h5, h6⟩ := codeM_zero h
  have hk := kinds_bd2 b h2
  rw [show ((tr : Int) + 1).toNat = tr + 1 by omega] at h5 h6
  have hp := pw_pos (kindsI b) hk.1 tr
  have hle : pw (kindsI b) tr ≤ 36 := by
    rw [pw_succ] at h5
    have := Int.mul_le_mul_of_nonneg_left (show (1 : Int) ≤ kindsI b by omega) (show 0 ≤ pw (kindsI b) tr by omega)
    omega
  have hc : codeM b (tr : Int) = 0 := by
    rw [codeM_yes h1 h2 (by omega) (by omega), Int.toNat_natCast, if_pos hle]
  have hm : manyU b (tr : Int) = pw (kindsI b) tr := by
    have := (codeM_zero hc).2.2.2.2.2
    rwa [Int.toNat_natCast] at this
  exact ⟨hc, hm, by omega, by omega, h6.symm, by omega, h1, h2⟩

end Go.Proofs.YtleebojibobgaaaGreatDoor

/- A track left out: the sets that come up, the words that are taken; mathematics. -/
namespace Go.Proofs.YtleebojibobgaaaGreatDoor
open Go.RowKit

theorem runF_lt {m n : Nat} {N : List (List Int)} (hG : GoodN m n N) {s : Nat} (hs : s < n) {v : List Int} (hv : okW m v) : runF N s v < n := by
  induction v generalizing s with
  | nil => exact hs
  | cons x v ih => exact ih (goodN_step hG s hs x (hv x (by simp))).1 (fun y hy => hv y (by simp [hy]))
/-- How each letter of the others is read. -/
def readS (b : Int) (tr tk mu : Nat) : List (List Int) := (List.range mu).map fun l : Nat => withL b tr tk (l : Int)
theorem readS_len (b : Int) (tr tk mu : Nat) : (readS b tr tk mu).length = mu := by simp [readS]
theorem readS_get {b : Int} {tr tk mu l : Nat} (hl : l < mu) : (readS b tr tk mu).getD l [] = withL b tr tk (l : Int) := by simp [readS, List.getD, hl]
theorem withL_ok {b : Int} (h2 : b ≤ 6) {tr tk : Nat} (ht : tk ≤ tr) {m : Nat} (hm : pw (kindsI b) (tr + 1) = (m : Int)) (l : Int) : ∀ x ∈ withL b tr tk l, 0 ≤ x ∧ x < (m : Int) := by
  intro x hx
  obtain ⟨y, hy, rfl⟩ := List.mem_map.1 hx
  have hk := kinds_bd2 b h2
  have := pack_bd b h2 (putD b tr tk (y : Int) l) (putD_bd b h2 ⟨by omega, by have := List.mem_range.1 hy; omega⟩ l)
  rwa [putD_len ht, hm] at this
theorem readS_ok {b : Int} (h2 : b ≤ 6) {tr tk mu : Nat} (ht : tk ≤ tr) {m : Nat} (hm : pw (kindsI b) (tr + 1) = (m : Int)) : ∀ l, l < mu → ∀ x ∈ (readS b tr tk mu).getD l [], 0 ≤ x ∧ x < (m : Int) := by
  intro l hl
  rw [readS_get hl]
  exact withL_ok h2 ht hm _

/-- The sets of an automaton that come up; of them the automaton. -/
def setsS (N : List (List Int)) (n : Nat) (read : List (List Int)) (ls : List Int) : List Nat := outG (dM N n read) read.length (cloM N n ls) 2000
def setN (N : List (List Int)) (n : Nat) (read : List (List Int)) (ls : List Int) : List (List Int) := gN (dM N n read) read.length (setsS N n read ls)
def setE (N : List (List Int)) (n : Nat) (E : List Bool) (read : List (List Int)) (ls : List Int) : List Bool := gE (endM n E) (setsS N n read ls)
theorem sets_closed {N : List (List Int)} {n : Nat} {read : List (List Int)} {ls : List Int} (h : (setsS N n read ls).length ≤ 2000) : ClosedG (dM N n read) read.length (setsS N n read ls) := outG_closed h
theorem sets_first (N : List (List Int)) (n : Nat) (read : List (List Int)) (ls : List Int) : 0 < (setsS N n read ls).length ∧ (setsS N n read ls).getD 0 0 = cloM N n ls := outG_pos _ _ _ _
theorem setN_good {N : List (List Int)} {n : Nat} {read : List (List Int)} {ls : List Int} (h : (setsS N n read ls).length ≤ 2000) (h1 : 1 ≤ read.length) (h36 : read.length ≤ 36) : GoodN read.length (setsS N n read ls).length (setN N n read ls) := gN_good (sets_closed h) (sets_first _ _ _ _).1 (by omega) h1 h36
/-- Some: the fault of the sets, how many they are; the fault of all, the automaton. -/
def smR (b t tk : Int) : List (List Int) := readS b (t.toNat - 1) tk.toNat (manyU b (t - 1)).toNat
def smL (b t tk : Int) (N : List (List Int)) (E : List Bool) : List Nat := setsS (leastN N E (manyU b t).toNat) (leastK N E (manyU b t).toNat) (smR b t tk) ((smR b t tk).getD 0 [])
def smGN (b t tk : Int) (N : List (List Int)) (E : List Bool) : List (List Int) := setN (leastN N E (manyU b t).toNat) (leastK N E (manyU b t).toNat) (smR b t tk) ((smR b t tk).getD 0 [])
def smGE (b t tk : Int) (N : List (List Int)) (E : List Bool) : List Bool := setE (leastN N E (manyU b t).toNat) (leastK N E (manyU b t).toNat) (leastE N E (manyU b t).toNat) (smR b t tk) ((smR b t tk).getD 0 [])
def smF (b t : Int) (N : List (List Int)) (k : Nat) (tk : Int) : Int := if autoC b t N k = 0 then (if 0 ≤ tk ∧ tk < t then 0 else 1) else autoC b t N k
def smS (b t : Int) (N : List (List Int)) (E : List Bool) (k : Nat) (tk : Int) : Int := if smF b t N k tk = 0 then (if 2000 < (smL b t tk N E).length then 3 else 0) else smF b t N k tk
def smM (b t : Int) (N : List (List Int)) (E : List Bool) (k : Nat) (tk : Int) : Int := if smS b t N E k tk = 0 then ((smL b t tk N E).length : Int) else 0
def smC (b t : Int) (N : List (List Int)) (E : List Bool) (k : Nat) (tk : Int) : Int := if smS b t N E k tk = 0 then (if 80 < leastK (smGN b t tk N E) (smGE b t tk N E) (manyU b (t - 1)).toNat then 3 else 0) else smS b t N E k tk
def smN (b t : Int) (N : List (List Int)) (E : List Bool) (k : Nat) (tk : Int) : List (List Int) := if smC b t N E k tk = 0 then leastN (smGN b t tk N E) (smGE b t tk N E) (manyU b (t - 1)).toNat else []
def smE (b t : Int) (N : List (List Int)) (E : List Bool) (k : Nat) (tk : Int) : List Bool := if smC b t N E k tk = 0 then leastE (smGN b t tk N E) (smGE b t tk N E) (manyU b (t - 1)).toNat else []
theorem smF_zero {b t : Int} {N : List (List Int)} {k : Nat} {tk : Int} (h : smF b t N k tk = 0) : autoC b t N k = 0 ∧ 0 ≤ tk ∧ tk < t := by
  unfold smF at h
  split at h
  · split at h
    · exact ⟨by assumption, by omega, by omega⟩
    · cases h
  · rename_i h1; exact absurd h h1
theorem smS_zero {b t : Int} {N : List (List Int)} {E : List Bool} {k : Nat} {tk : Int} (h : smS b t N E k tk = 0) : smF b t N k tk = 0 ∧ (smL b t tk N E).length ≤ 2000 := by
  unfold smS at h
  split at h
  · split at h
    · cases h
    · exact ⟨by assumption, by omega⟩
  · rename_i h1; exact absurd h h1
/-- What is so where a track can be left out. -/
structure SmWell (b : Int) (tr tk : Nat) (N : List (List Int)) (E : List Bool) (m mu : Nat) : Prop where
  base : 1 ≤ b ∧ b ≤ 6
  tracks : tr ≤ 4 ∧ tk ≤ tr
  good : GoodN m N.length N
  many : pw (kindsI b) (tr + 1) = (m : Int)
  few : pw (kindsI b) tr = (mu : Int)
  few36 : 1 ≤ mu ∧ mu ≤ 36
  code : codeM b (tr : Int) = 0
  mU : (manyU b ((tr : Int) + 1)).toNat = m
  fU : manyU b (tr : Int) = (mu : Int)
  n80 : N.length ≤ 80
theorem sm_well {b t : Int} {N : List (List Int)} (E : List Bool) {k : Nat} {tk : Int} (h : smF b t N k tk = 0) : ∃ tr tkn m mu : Nat, t = (tr : Int) + 1 ∧ tk = (tkn : Int) ∧ k = N.length ∧ SmWell b tr tkn N E m mu := by
  obtain ⟨hA, h0, h1⟩ := smF_zero h
  obtain ⟨hMt, hk, hG, hmu⟩ := autoC_zero hA
  have hn80 := autoC_80 hA
  obtain ⟨tr, rfl⟩ : ∃ tr : Nat, t = (tr : Int) + 1 := ⟨(t - 1).toNat, by omega⟩
  obtain ⟨tkn, rfl⟩ : ∃ tkn : Nat, tk = (tkn : Int) := ⟨tk.toNat, by omega⟩
  obtain ⟨hM, hm1, hm2, hm3, hm4, htr4, hb1, hb2⟩ := many_less hMt
  refine ⟨tr, tkn, (manyU b ((tr : Int) + 1)).toNat, (manyU b (tr : Int)).toNat, rfl, rfl, hk, ⟨⟨hb1, hb2⟩, ⟨htr4, by omega⟩, hG, by rw [hm4]; omega, by rw [← hm1]; omega, by omega, hM, rfl, by omega, hn80⟩⟩
theorem smR_eq {b : Int} {tr tk mu : Nat} (h : manyU b (tr : Int) = (mu : Int)) : smR b ((tr : Int) + 1) (tk : Int) = readS b tr tk mu := by
  unfold smR
  rw [show ((tr : Int) + 1).toNat - 1 = tr by omega, show (tr : Int) + 1 - 1 = (tr : Int) by omega, h, Int.toNat_natCast, Int.toNat_natCast]

theorem sm_good {b : Int} {tr tk m mu : Nat} {N : List (List Int)} {E : List Bool} (H : SmWell b tr tk N E m mu) (h : (smL b ((tr : Int) + 1) (tk : Int) N E).length ≤ 2000) : GoodN mu (smL b ((tr : Int) + 1) (tk : Int) N E).length (smGN b ((tr : Int) + 1) (tk : Int) N E) := by
  have hR := smR_eq (tk := tk) H.fU
  unfold smL at h ⊢
  unfold smGN
  have := setN_good h (by rw [hR, readS_len]; exact H.few36.1) (by rw [hR, readS_len]; exact H.few36.2)
  rw [hR, readS_len] at this
  rw [hR]
  exact this
end Go.Proofs.YtleebojibobgaaaGreatDoor

/- The reference's rows of sets; find, ended, single: contracts. -/
namespace Go.Proofs.YtleebojibobgaaaGreatDoor
open Go.RowKit

/-- Cell q of a row of sets. -/
def setC (l : List Nat) (q : Nat) : Value := .int .i64 (if q % 2 = 0 then loS (l.getD (q / 2) 0) else hiS (l.getD (q / 2) 0))
theorem setC_fst (l : List Nat) (j : Nat) : setC l (2 * j) = .int .i64 (loS (l.getD j 0)) := by unfold setC; rw [if_pos (by omega), show 2 * j / 2 = j by omega]
theorem setC_snd (l : List Nat) (j : Nat) : setC l (2 * j + 1) = .int .i64 (hiS (l.getD j 0)) := by unfold setC; rw [if_neg (by omega), show (2 * j + 1) / 2 = j by omega]
theorem setC_old (l : List Nat) (x : Nat) (q : Nat) (hq : q < 2 * l.length) : setC (l ++ [x]) q = setC l q := by
  unfold setC
  rw [pre_getN (List.prefix_append _ _) (by omega : q / 2 < l.length)]
theorem setC_new (l : List Nat) (x : Nat) : setC (l ++ [x]) (2 * l.length) = .int .i64 (loS x) ∧ setC (l ++ [x]) (2 * l.length + 1) = .int .i64 (hiS x) := by
  rw [setC_fst, setC_snd]
  simp [List.getD]
theorem info_set : (Tryz.prog.info? 48).map (fun i => (i.zero, i.size, i.bytes)) = some (some (.agg #[.int .i64 0, .int .i64 0]), 2, 16) := by kernel_rfl

/-- Block b holds the sets l, and room for cap of them. -/
def QueG (W : World) (b len cap : Nat) (l : List Nat) : Prop :=
  l.length = len ∧ len ≤ cap ∧ cap ≤ maxLen ∧ ∃ cur : Array Value, W.heap[b]? = some (.cells cur 48 (0, 0)) ∧ 2 * cap ≤ cur.size ∧ ∀ q, q < 2 * len → cur[q]? = some (setC l q)
theorem queG_kept {W W' : World} {b len cap : Nat} {l : List Nat} (h : QueG W b len cap l) (e : W'.heap[b]? = W.heap[b]?) : QueG W' b len cap l := by
  obtain ⟨h1, h2, h3, cur, h4, h5⟩ := h
  exact ⟨h1, h2, h3, cur, e.trans h4, h5⟩
theorem queG_lt {W : World} {b len cap : Nat} {l : List Nat} (h : QueG W b len cap l) : b < W.heap.size := by
  obtain ⟨h1, h2, h3, cur, h4, h5⟩ := h
  exact (Array.getElem?_eq_some_iff.1 h4).1
theorem queG_cell {W : World} {b len cap : Nat} {l : List Nat} (h : QueG W b len cap l) (q : Nat) (hq : q < 2 * len) : W.cell? ⟨b, q, none⟩ = some (setC l q) := by
  obtain ⟨h1, h2, h3, cur, h4, h5, h6⟩ := h
  simp only [World.cell?, h4]
  exact h6 q hq
theorem queG_at {W : World} {b len cap : Nat} {l : List Nat} (h : QueG W b len cap l) (i : Nat) (hi : i < len) : W.cell? ⟨b, i * 2, none⟩ = some (.int .i64 (loS (l.getD i 0))) ∧ W.cell? ⟨b, i * 2 + 1, none⟩ = some (.int .i64 (hiS (l.getD i 0))) := by
  have h0 := queG_cell h (2 * i) (by omega)
  have h1 := queG_cell h (2 * i + 1) (by omega)
  rw [setC_fst, Nat.mul_comm] at h0
  rw [setC_snd, Nat.mul_comm] at h1
  exact ⟨h0, h1⟩
theorem queG_push {W : World} {b len cap : Nat} {l : List Nat} (h : QueG W b len cap l) (hr : len + 1 ≤ cap) (x : Nat) : QueG (W.setCells b (0 + len * 2) [.int .i64 (loS x), .int .i64 (hiS x)]) b (len + 1) cap (l ++ [x]) := by
  obtain ⟨h1, h2, h3, cur, h4, h5, h6⟩ := h
  refine ⟨by rw [List.length_append, List.length_singleton]; omega, hr, h3, (cur.setIfInBounds (0 + len * 2) (.int .i64 (loS x))).setIfInBounds (0 + len * 2 + 1) (.int .i64 (hiS x)), ?_, by simpa using h5, fun q hq => ?_⟩
  · simp [World.setCells, World.setCell, Array.getElem?_modify, h4]
  · rw [Array.getElem?_setIfInBounds, Array.getElem?_setIfInBounds]
    have hn := setC_new l x
    rw [h1] at hn
    by_cases e1 : q = 2 * len + 1
    · subst e1
      rw [if_pos (by omega), if_pos (by simp; omega), hn.2]
    · rw [if_neg (by omega)]
      by_cases e0 : q = 2 * len
      · subst e0
        rw [if_pos (by omega), if_pos (by omega), hn.1]
      · rw [if_neg (by omega), setC_old l x q (by omega)]
        exact h6 q (by omega)
theorem wpList_append_queG (w : World) {ops : Array Oper} {rest : List Oper} {o : Oper} {a : Act} {Q : Exit → Act → World → Prop}
    (hg : o.guard = none) (s x : Operand) (hop : o.op = Op.call { callee := Callee.builtin Builtin.append, args := #[s, x], argTypes := #[44, 44] })
    (b len cap : Nat) (l : List Nat) (hs : a.eval s = .slice (some ⟨b, 0, none⟩) len cap) (hq : QueG w b len cap l) (ad : Addr) (y : Nat) (y0 y1 : Int) (hy0 : y0 = (loS y)) (hy1 : y1 = (hiS y)) (hx : a.eval x = .slice (some ad) 1 1)
    (hc : ∀ j u, [Value.int .i64 y0, .int .i64 y1][j]? = some u → w.cell? (ad.add j) = some u) (hlen : len ≤ 100000000)
    (hK : ∀ b' cap' w', QueG w' b' (len + 1) cap' (l ++ [y]) → w.grownBy w' (some b) → (b' = b ∨ w.heap.size ≤ b') → wpList Tryz.prog ops Q rest (a.put o.dst (.slice (some ⟨b', 0, none⟩) (len + 1) cap')) w') :
    wpList Tryz.prog ops Q (o :: rest) a w := by
  obtain ⟨i, hi, hz0, hz1, hz2⟩ := info_parts info_set
  refine wpList_plain hg fun K hK' => ?_
  by_cases hr : len + 1 ≤ cap
  · obtain ⟨off, hoff⟩ : ∃ off : Nat, off = 0 := ⟨_, rfl⟩
    have hs' : a.eval s = .slice (some ⟨b, off, none⟩) len cap := by rw [hoff]; exact hs
    have hlt : ∀ j, j < 2 → (w.cell? ⟨b, off + len * 2 + j, none⟩).isSome = true ∧ w.frozen? ⟨b, off + len * 2 + j, none⟩ = false := fun j hj => by
      obtain ⟨h1, h2, h3, cur, h4, h5, h6⟩ := hq
      simp only [World.cell?, World.frozen?, h4]
      have : off + len * 2 + j < cur.size := by omega
      simp [this]
    have hrun := run_append_room_cells (P := Tryz.prog) w 44 o.type 48 i Tryz.underlying44 hi b off len cap ad 1 1 [.int .i64 y0, .int .i64 y1] (by rw [hz1]; rfl) hc (fun u hu => by simp at hu; rcases hu with rfl | rfl <;> rfl) hr (by rw [hz1]; exact fun j hj => (hlt j hj).1) (by rw [hz1]; exact fun j hj => (hlt j hj).2)
    rw [hz1] at hrun
    unfold Oper.wp
    simp [execOp, hop, resolve, invoke, builtin, hs', hx, hrun, Result.andThen]
    subst hoff
    exact hK' _ _ (hK _ _ _ (by rw [hy0, hy1]; exact queG_push hq hr y) (grownBy_sets w _ _ _ _) (.inl rfl))
  · have hol : ((List.range (2 * len)).map (setC l)).length = len * 2 := by simp; omega
    have holds : ∀ j u, ((List.range (2 * len)).map (setC l))[j]? = some u → w.cell? ((⟨b, 0, none⟩ : Addr).add j) = some u := fun j u hj => by
      have hjl : j < 2 * len := by have := (List.getElem?_eq_some_iff.1 hj).1; simpa using this
      rw [Addr.add_lit, Nat.zero_add, queG_cell hq j hjl]
      simpa [hjl] using hj
    obtain ⟨v', w', hrun, r1, r2⟩ := run_append_arg_grows (P := Tryz.prog) w 44 o.type 48 i (.agg #[.int .i64 0, .int .i64 0]) 2 16 Tryz.underlying44 hi hz0 hz1 hz2 rfl (by decide) ⟨b, 0, none⟩ len cap _ hol holds ad 1 1 [.int .i64 y0, .int .i64 y1] rfl hc (by omega) (by unfold maxLen; omega) (by omega)
    obtain ⟨r3, r4⟩ := r1
    rcases r4 with ⟨_, r4⟩ | ⟨g', cap2, cur, rfl, hg', hh, hc1, hc2, hc3, ht⟩
    · omega
    · unfold Oper.wp
      simp [execOp, hop, resolve, invoke, builtin, hs, hx, hrun, Result.andThen]
      refine hK' _ _ (hK _ _ _ ⟨by rw [List.length_append, hq.1]; rfl, hc1, hc2, cur, hh, by omega, fun q hq2 => ?_⟩ ⟨r2.os, r2.tape, r2.output, r2.size, fun k hk _ => r2.block k hk (by simp)⟩ (.inr hg'))
      have h3 : (cur.toList.take ((len + 1) * 2))[q]? = ((List.range (2 * len)).map (setC l) ++ [.int .i64 y0, .int .i64 y1])[q]? := by rw [ht]
      rw [List.getElem?_take, if_pos (by omega), Array.getElem?_toList] at h3
      rw [h3]
      have hn := setC_new l y
      rw [hq.1, ← hy0, ← hy1] at hn
      by_cases e0 : q < 2 * len
      · rw [List.getElem?_append_left (by simpa using e0), setC_old l y q (by rw [hq.1]; exact e0)]
        simp [e0]
      · rw [List.getElem?_append_right (by simpa using Nat.le_of_not_lt e0)]
        by_cases e1 : q = 2 * len
        · subst e1; rw [hn.1]; simp
        · obtain rfl : q = 2 * len + 1 := by omega
          rw [hn.2]; simp

/-- Where a set stands among others; else -1. -/
def findI (l : List Nat) (x : Nat) : Int := if x ∈ l then ((l.idxOf x : Nat) : Int) else -1
theorem findG_at {l : List Nat} {x i : Nat} (hi : i < l.length) (h : l.getD i 0 = x) (hb : ∀ j, j < i → l.getD j 0 ≠ x) : findI l x = (i : Int) := by
  have hm : x ∈ l := by rw [← h]; exact getN_mem hi
  unfold findI
  rw [if_pos hm]
  have h1 := idx_get hm
  have h2 := List.idxOf_lt_length_of_mem hm
  have h3 : ¬ l.idxOf x < i := fun h => hb _ h h1
  have h4 : ¬ i < l.idxOf x := fun h4 => by
    have := List.not_of_lt_findIdx (p := fun y => y == x) (xs := l) (i := i) h4
    have e : l[i] = x := by rw [← h]; simp [List.getD, hi]
    simp [e] at this
  omega
theorem find_none {l : List Nat} {x : Nat} (hb : ∀ j, j < l.length → l.getD j 0 ≠ x) : findI l x = -1 := by
  unfold findI
  rw [if_neg]
  intro hm
  obtain ⟨i, hi, e⟩ := mem_getN hm
  exact hb i hi e

set_option maxHeartbeats 4000000 in
set_option maxRecDepth 4000 in
theorem find_any (b len cap : Nat) (l : List Nat) (x : Nat) (w : World) (hq : QueG w b len cap l) (hlen : len ≤ 100000000) :
    Calls Tryz.prog 26 #[.slice (some ⟨b, 0, none⟩) len cap, .agg #[.int .i64 (loS x), .int .i64 (hiS x)]] w fun e w' => e = .returned (.int .i64 (findI l x)) ∧ Below w.heap.size w w' := by
  have hL := hq.1
  have hB0 := (Below.refl w.heap.size w).alloc (Nat.le_refl _) (.cells #[.int .i64 (loS x), .int .i64 (hiS x)] 48)
  have hx := heap_alloc_last w (.cells #[.int .i64 (loS x), .int .i64 (hiS x)] 48)
  have HQ := hide (queG_kept hq (hB0.block _ (queG_lt hq)))
  have HAT := hide (fun i hi h hb => @findG_at l x i hi h hb)
  have HNO := hide (@find_none l x)
  rw [hL] at HAT HNO
  generalize hW0 : w.alloc (.cells #[.int .i64 (loS x), .int .i64 (hiS x)] 48) = wb at hB0 hx HQ
  have HB0 := hide hB0
  have HX := hide hx
  clear hB0 hx hq hL
  generalize findI l x = fi at HAT HNO ⊢
  go_enter Tryz.func26, Tryz.ntmps26
  go_wp2
  clear hW0
  go_loopw [5] (fun iv wx => ∃ i : Nat, i ≤ len ∧ iv = .int .i64 i ∧ (∀ j, j < i → l.getD j 0 ≠ x) ∧ Below wb.heap.size wb wx) (fun iv _ => len - (intOf iv).toNat)
  case atStart => exact ⟨0, by omega, rfl, fun j hj => by omega, Below.refl _ _⟩
  case round =>
    obtain ⟨i, hi, rfl, hne, hbw⟩ := hrel
    have HNE := hide hne
    have HBW := hide hbw
    have HBQ := hide (below_step HB0.out hbw)
    obtain ⟨⟨r0, r1⟩, -⟩ := box2_cells ((hbw.block _ (Array.getElem?_eq_some_iff.1 HX.out).1).trans HX.out)
    clear hne hbw
    by_cases hlt : i < len
    · have hlti : (i : Int) < (len : Int) := by omega
      obtain ⟨c0, c1⟩ := queG_at (queG_kept HQ.out (HBW.out.block _ (queG_lt HQ.out))) i hlt
      have HE := hide (fun h1 h2 => @set_eq (l.getD i 0) x h1 h2)
      have HAT1 := hide (fun h => HAT.out i hlt h HNE.out)
      have HNE1 : Hid (l.getD i 0 ≠ x → ∀ j, j < i + 1 → l.getD j 0 ≠ x) := fun h j hj => by
        by_cases e : j = i
        · subst e; exact h
        · exact HNE.out j (by omega)
      generalize l.getD i 0 = y at c0 c1 HE HAT1 HNE1
      by_cases e : y = x
      · subst e
        have HF := hide (HAT1.out rfl)
        go_wp2
        go_quiet (fail)
        go_wp2
        go_ret
        exact ⟨by rw [HF.out]; simp, below_drewN HBQ.out nq⟩
      · have hd : (loS y == loS x) = false ∨ ((loS y == loS x) = true ∧ (hiS y == hiS x) = false) := by
          by_cases e0 : loS y = loS x
          · exact .inr ⟨by simp [e0], by simp; exact fun e1 => e (HE.out e0 e1)⟩
          · exact .inl (by simp [e0])
        have HNX := hide (HNE1.out e)
        rcases hd with hd | ⟨hd, hd2⟩
        · go_wp2
          go_quiet (fail)
          go_wp2
          go_roundw
          case rel => exact ⟨i + 1, by omega, by go_num, HNX.out, below_drewN HBW.out nq⟩
          case measure => simp [intOf]; omega
        · go_wp2
          go_quiet (fail)
          go_wp2
          go_roundw
          case rel => exact ⟨i + 1, by omega, by go_num, HNX.out, below_drewN HBW.out nq⟩
          case measure => simp [intOf]; omega
    · have hlti : ¬ (i : Int) < (len : Int) := by omega
      obtain rfl : len = i := by omega
      have HF := hide (HNO.out HNE.out)
      go_wp2
      go_ret
      exact ⟨by rw [HF.out]; simp, HBQ.out⟩

set_option maxHeartbeats 4000000 in
set_option maxRecDepth 4000 in
theorem ended_any (b t : Int) (a : Option Addr) (n cap : Nat) (a' : Option Addr) (cap' : Nat) (E : List Bool) (M : Nat) (w : World) (he : SlB w a' n E) (hM : M < 2 ^ 80) (hn : n ≤ 80) :
    Calls Tryz.prog 15 #[.agg #[.int .i64 b, .int .i64 t, .slice a n cap, .slice a' n cap'], .agg #[.int .i64 (loS M), .int .i64 (hiS M)]] w fun e w' => e = .returned (.bool (endM n E M)) ∧ Below w.heap.size w w' := by
  have hB0 := below_two w (.cells #[.int .i64 b, .int .i64 t, .slice a n cap, .slice a' n cap'] 25) (.cells #[.int .i64 (loS M), .int .i64 (hiS M)] 48)
  have HX1 := hide (heap_alloc2_fst w (.cells #[.int .i64 b, .int .i64 t, .slice a n cap, .slice a' n cap'] 25) (.cells #[.int .i64 (loS M), .int .i64 (hiS M)] 48))
  have HX2 := hide (heap_alloc2_snd w (.cells #[.int .i64 b, .int .i64 t, .slice a n cap, .slice a' n cap'] 25) (.cells #[.int .i64 (loS M), .int .i64 (hiS M)] 48))
  have HE := hide (slB_below he hB0)
  have HIN := hide (fun s W (h : s < n) => in_any M s W hM (by omega))
  have HYES : Hid (∀ s, s < n → E.getD s false = true → M.testBit s = true → endM n E M = true) := fun s h1 h2 h3 => endM_iff.2 ⟨s, h1, h2, h3⟩
  have HNO : Hid ((∀ s, s < n → ¬ (E.getD s false = true ∧ M.testBit s = true)) → endM n E M = false) := fun h => by
    cases hh : endM n E M with
    | false => rfl
    | true =>
      obtain ⟨s, h1, h2, h3⟩ := endM_iff.1 hh
      exact absurd ⟨h2, h3⟩ (h s h1)
  generalize hW0 : (w.alloc (.cells #[.int .i64 b, .int .i64 t, .slice a n cap, .slice a' n cap'] 25)).alloc (.cells #[.int .i64 (loS M), .int .i64 (hiS M)] 48) = wb at hB0 HX1 HX2 HE
  have HB0 := hide hB0
  clear he hB0 hM
  generalize endM n E M = ev at HYES HNO ⊢
  go_enter Tryz.func15, Tryz.ntmps15
  go_wp2
  clear hW0
  go_loopw [5] (fun iv wx => ∃ i : Nat, i ≤ n ∧ iv = .int .i64 i ∧ (∀ s, s < i → ¬ (E.getD s false = true ∧ M.testBit s = true)) ∧ Below wb.heap.size wb wx) (fun iv _ => n - (intOf iv).toNat)
  case atStart => exact ⟨0, by omega, rfl, fun j hj => by omega, Below.refl _ _⟩
  case round =>
    obtain ⟨i, hi, rfl, hne, hbw⟩ := hrel
    have HNE := hide hne
    have HBW := hide hbw
    have HBQ := hide (below_step HB0.out hbw)
    obtain ⟨⟨p0, p1, p2, p3⟩, -⟩ := box_cells ((hbw.block _ (Array.getElem?_eq_some_iff.1 HX1.out).1).trans HX1.out)
    obtain ⟨⟨r0, r1⟩, -⟩ := box2_cells ((hbw.block _ (Array.getElem?_eq_some_iff.1 HX2.out).1).trans HX2.out)
    clear hne hbw
    by_cases hlt : i < n
    · have hlti : (i : Int) < (n : Int) := by omega
      obtain ⟨be, oe, rfl, hce⟩ := slB_cell (slB_below HE.out HBW.out) i hlt
      have HN1 : Hid (¬ (E.getD i false = true ∧ M.testBit i = true) → ∀ s, s < i + 1 → ¬ (E.getD s false = true ∧ M.testBit s = true)) := fun h s hs => by
        by_cases e : s = i
        · subst e; exact h
        · exact HNE.out s (by omega)
      have HY1 := hide (fun h1 h2 => HYES.out i hlt h1 h2)
      have HI1 := hide (fun W => HIN.out i W hlt)
      generalize E.getD i false = ee at hce HN1 HY1
      cases ee with
      | false =>
        have HN2 := hide (HN1.out (by simp))
        clear HN1 HY1
        go_wp2
        go_roundw
        case rel => exact ⟨i + 1, by omega, by go_num, HN2.out, HBW.out⟩
        case measure => simp [intOf]; omega
      | true =>
        cases hm : M.testBit i with
        | true =>
          have HF := hide (HY1.out rfl hm)
          rw [hm] at HI1
          clear HN1 HY1 hm
          go_wp2_with (go_at_call 24; refine (HI1.out _).mono ?_; rintro e w1 ⟨rfl, hb1⟩; have HB1 := hide (below_step HBQ.out hb1); clear hb1)
          go_ret
          exact ⟨by rw [HF.out]; simp, HB1.out⟩
        | false =>
          have HN2 := hide (HN1.out (by rw [hm]; simp))
          rw [hm] at HI1
          clear HN1 HY1 hm
          go_wp2_with (go_at_call 24; refine (HI1.out _).mono ?_; rintro e w1 ⟨rfl, hb1⟩; have HB1 := hide (below_step HBW.out hb1); clear hb1)
          go_roundw
          case rel => exact ⟨i + 1, by omega, by go_num, HN2.out, HB1.out⟩
          case measure => simp [intOf]; omega
    · have hlti : ¬ (i : Int) < (n : Int) := by omega
      obtain rfl : n = i := by omega
      have HF := hide (HNO.out HNE.out)
      go_wp2
      go_ret
      exact ⟨by rw [HF.out]; simp, HBQ.out⟩
end Go.Proofs.YtleebojibobgaaaGreatDoor

/- The reference's Closed: contract. -/
namespace Go.Proofs.YtleebojibobgaaaGreatDoor
open Go.RowKit

def SubM (x y : Nat) : Prop := ∀ s, x.testBit s = true → y.testBit s = true
theorem sub_le {x y : Nat} (h : SubM x y) : x ≤ y := by
  have e : y = x ||| y := by
    apply Nat.eq_of_testBit_eq
    intro i
    rw [Nat.testBit_or]
    cases hx : x.testBit i with
    | false => simp
    | true => rw [h i hx]; rfl
  rw [e]
  exact Nat.left_le_or
theorem sub_refl (x : Nat) : SubM x x := fun _ h => h
theorem sub_put (M t : Nat) : SubM M (putM M t) := fun s h => by rw [putM_bit, h]; rfl
theorem put_self (M t : Nat) : (putM M t).testBit t = true := by rw [putM_bit]; simp
theorem clo_zero {m n : Nat} {N : List (List Int)} (hG : GoodN m n N) {ls : List Int} (hl : ∀ x ∈ ls, 0 ≤ x ∧ x < (m : Int)) : (cloM N n ls).testBit 0 = true := (cloM_bit hG hl).2 ⟨[], by simp, rfl⟩
theorem clo_step {m n : Nat} {N : List (List Int)} (hG : GoodN m n N) {ls : List Int} (hl : ∀ x ∈ ls, 0 ≤ x ∧ x < (m : Int)) {s : Nat} (h : (cloM N n ls).testBit s = true) {x : Int} (hx : x ∈ ls) : (cloM N n ls).testBit (stepL N s x) = true := by
  obtain ⟨z, hz, rfl⟩ := (cloM_bit hG hl).1 h
  refine (cloM_bit hG hl).2 ⟨z ++ [x], fun y hy => ?_, by rw [runL_append]; rfl⟩
  rcases List.mem_append.1 hy with hy | hy
  · exact hz y hy
  · simp at hy; rw [hy]; exact hx

/-- Within a round of Closed: s states and i letters of the next one have been seen through. -/
structure CloI (N : List (List Int)) (n : Nat) (ls : List Int) (M0 M s i : Nat) : Prop where
  sub : SubM M0 M
  into : SubM M (cloM N n ls)
  zero : M0.testBit 0 = true
  done : ∀ s', s' < s → M0.testBit s' = true → ∀ j, j < ls.length → M.testBit (stepL N s' (ls.getD j 0)) = true
  now : M0.testBit s = true → ∀ j, j < i → M.testBit (stepL N s (ls.getD j 0)) = true
theorem cloI_lt {N : List (List Int)} {n : Nat} {ls : List Int} {M0 M s i : Nat} (h : CloI N n ls M0 M s i) : M < 2 ^ n := Nat.lt_of_le_of_lt (sub_le h.into) (cloM_lt _ _ _)
theorem cloI_start {N : List (List Int)} {n : Nat} {ls : List Int} {M : Nat} (h1 : SubM M (cloM N n ls)) (h2 : M.testBit 0 = true) : CloI N n ls M M 0 0 := ⟨sub_refl _, h1, h2, fun _ h => by omega, fun _ _ h => by omega⟩
theorem cloI_skip {N : List (List Int)} {n : Nat} {ls : List Int} {M0 M s : Nat} (h : CloI N n ls M0 M s 0) (hs : M.testBit s = false) : CloI N n ls M0 M (s + 1) 0 := ⟨h.sub, h.into, h.zero, fun s' h1 h2 j hj => by
  by_cases e : s' = s
  · subst e; rw [h.sub _ h2] at hs; cases hs
  · exact h.done s' (by omega) h2 j hj, fun _ _ h => by omega⟩
theorem cloI_put {m n : Nat} {N : List (List Int)} (hG : GoodN m n N) {ls : List Int} (hl : ∀ x ∈ ls, 0 ≤ x ∧ x < (m : Int)) {M0 M s i : Nat} (h : CloI N n ls M0 M s i) (hs : M.testBit s = true) (hi : i < ls.length) : CloI N n ls M0 (putM M (stepL N s (ls.getD i 0))) s (i + 1) := by
  have hm : ls.getD i 0 ∈ ls := by rw [getD_at _ i hi]; exact List.getElem_mem _
  refine ⟨fun t ht => sub_put _ _ t (h.sub t ht), fun t ht => ?_, h.zero, fun s' h1 h2 j hj => sub_put _ _ _ (h.done s' h1 h2 j hj), fun h2 j hj => ?_⟩
  · rw [putM_bit, Bool.or_eq_true, decide_eq_true_iff] at ht
    rcases ht with ht | rfl
    · exact h.into t ht
    · exact clo_step hG hl (h.into s hs) hm
  · by_cases e : j = i
    · subst e; exact put_self _ _
    · exact sub_put _ _ _ (h.now h2 j (by omega))
theorem cloI_row {N : List (List Int)} {n : Nat} {ls : List Int} {M0 M s : Nat} (h : CloI N n ls M0 M s ls.length) : CloI N n ls M0 M (s + 1) 0 := ⟨h.sub, h.into, h.zero, fun s' h1 h2 j hj => by
  by_cases e : s' = s
  · subst e; exact h.now h2 j hj
  · exact h.done s' (by omega) h2 j hj, fun _ _ h => by omega⟩
theorem cloI_end {m n : Nat} {N : List (List Int)} (hG : GoodN m n N) {ls : List Int} (hl : ∀ x ∈ ls, 0 ≤ x ∧ x < (m : Int)) {M0 : Nat} (h : CloI N n ls M0 M0 n 0) : M0 = cloM N n ls := by
  refine mask_ext (n := n) (cloI_lt h) (cloM_lt _ _ _) fun s _ => ?_
  have key : ∀ z : List Int, (∀ x ∈ z, x ∈ ls) → M0.testBit (runL N z) = true := fun z => by
    induction z using list_snoc_ind with
    | h0 => exact fun _ => h.zero
    | h1 z x ih =>
      intro hz
      have h1 := ih (fun y hy => hz y (by simp [hy]))
      have hx := hz x (by simp)
      have hs := bit_lt (cloI_lt h) h1
      obtain ⟨j, hj, e⟩ := List.getElem_of_mem hx
      have := h.done _ hs h1 j hj
      rw [getD_at _ j hj, e] at this
      rw [runL_append]
      exact this
  rw [Bool.eq_iff_iff]
  constructor
  · exact h.into s
  · intro hc
    obtain ⟨z, hz, rfl⟩ := (cloM_bit hG hl).1 hc
    exact key z hz
theorem cloI_more {N : List (List Int)} {n : Nat} {ls : List Int} {M0 M s i : Nat} (h : CloI N n ls M0 M s i) (hne : M ≠ M0) : M0 < M := Nat.lt_of_le_of_ne (sub_le h.sub) (Ne.symm hne)

set_option maxHeartbeats 16000000 in
set_option maxRecDepth 8000 in
theorem closed_any (b t : Int) (a : Option Addr) (n cap : Nat) (a' : Option Addr) (k' cap' : Nat) (m : Nat) (N : List (List Int)) (al : Option Addr) (ll cl : Nat) (ls : List Int) (w : World) (hs : Sl2 w a n N) (hG : GoodN m n N) (hn : n ≤ 80) (hls : Sl w al ll ls) (hl : ∀ x ∈ ls, 0 ≤ x ∧ x < (m : Int)) (hll : ll ≤ 1000) :
    Calls Tryz.prog 14 #[.agg #[.int .i64 b, .int .i64 t, .slice a n cap, .slice a' k' cap'], .slice al ll cl] w (GivesSet w (cloM N n ls)) := by
  have hL := hls.1
  have hn1 := hG.2.1
  have hB0 := below_two w (.cells #[.int .i64 b, .int .i64 t, .slice a n cap, .slice a' k' cap'] 25) (.cells #[.int .i64 0, .int .i64 0] 48)
  have HX1 := hide (heap_alloc2_fst w (.cells #[.int .i64 b, .int .i64 t, .slice a n cap, .slice a' k' cap'] 25) (.cells #[.int .i64 0, .int .i64 0] 48))
  have HX2 := hide (heap_alloc2_snd w (.cells #[.int .i64 b, .int .i64 t, .slice a n cap, .slice a' k' cap'] 25) (.cells #[.int .i64 0, .int .i64 0] 48))
  have HS := hide (sl2_below hs hB0)
  have HLS := hide (sl_below hls hB0)
  have HP0 := hide (fun W => put_any 0 0 W (by decide) (by decide))
  rw [show loS 0 = 0 from rfl, show hiS 0 = 0 from rfl] at HP0
  unfold GivesSet at HP0
  have HS0 : Hid (SubM (putM 0 0) (cloM N n ls) ∧ (putM 0 0).testBit 0 = true) := ⟨fun s h => by
    rw [putM_bit] at h
    simp at h
    subst h
    exact clo_zero hG hl, put_self _ _⟩
  have HPUT := hide (fun M s W h1 h2 => put_any M s W h1 h2)
  have HIN := hide (fun M s W h1 h2 => in_any M s W h1 h2)
  unfold GivesSet at HPUT
  have H80 : Hid (∀ M, M < 2 ^ n → M < 2 ^ 80) := fun M h => Nat.lt_of_lt_of_le h (Nat.pow_le_pow_right (by decide) hn)
  have HCP := hide (fun M0 M s i h h1 h2 => @cloI_put m n N hG ls hl M0 M s i h h1 h2)
  have HCE := hide (fun M0 h => @cloI_end m n N hG ls hl M0 h)
  have HG := hide hG
  have HL := hide hl
  have HK : Hid (∃ K, K = 2 ^ 80) := ⟨_, rfl⟩
  obtain ⟨K, hK⟩ := HK.out
  rw [← hK] at H80 HPUT HIN
  clear hK HK
  generalize hW0 : (w.alloc (.cells #[.int .i64 b, .int .i64 t, .slice a n cap, .slice a' k' cap'] 25)).alloc (.cells #[.int .i64 0, .int .i64 0] 48) = wb at hB0 HX1 HX2 HS HLS
  have HB0 := hide hB0
  have HSZ0 : Hid (wb.heap.size = w.heap.size + 2) := by show _ = _; rw [← hW0]; simp
  clear hs hls hl hG hB0
  go_enter Tryz.func14, Tryz.ntmps14
  go_wp2_with fail
  clear hW0
  refine (HP0.out wb).mono ?_
  rintro e w1 ⟨rfl, hb1⟩
  have HB1 := hide hb1
  have HO1 := hide (heap_alloc_last w1 (.cells #[.int .i64 (loS (putM 0 0)), .int .i64 (hiS (putM 0 0))] 48))
  have HBO := hide ((Below.refl w1.heap.size w1).alloc (Nat.le_refl _) (.cells #[.int .i64 (loS (putM 0 0)), .int .i64 (hiS (putM 0 0))] 48))
  clear hb1 HP0
  generalize putM 0 0 = M1 at HS0 HO1 HBO ⊢
  go_wp2
  generalize w1.alloc (.cells #[.int .i64 (loS M1), .int .i64 (hiS M1)] 48) = wA at HO1 HBO ⊢
  go_loopg [7] K (fun g v wx => ∃ M : Nat, K - M ≤ g ∧ (SubM M (cloM N n ls) ∧ M.testBit 0 = true) ∧ wx.heap[w1.heap.size]? = some (.cells #[.int .i64 (loS M), .int .i64 (hiS M)] 48 (0, 0)) ∧ Below w1.heap.size w1 wx ∧ v = v)
  case atStart => exact ⟨M1, Nat.sub_le _ _, HS0.out, HO1.out, HBO.out, rfl⟩
  case round =>
    obtain ⟨M0, hg0, hm0, ho0, hbw, -⟩ := hrel
    have HG0 := hide hg0
    have HM0 := hide hm0
    have HO0 := hide ho0
    have HBW := hide hbw
    obtain ⟨⟨o0, o1⟩, -⟩ := box2_cells ho0
    have HW := hide (heap_alloc_last wr (.cells #[.int .i64 (loS M0), .int .i64 (hiS M0)] 48))
    have HBA := hide (hbw.alloc hbw.size (.cells #[.int .i64 (loS M0), .int .i64 (hiS M0)] 48))
    have HOA := hide ((Below.heap_alloc wr (.cells #[.int .i64 (loS M0), .int .i64 (hiS M0)] 48) _ (Array.getElem?_eq_some_iff.1 ho0).1).trans ho0)
    have HOL : Hid (w1.heap.size < wr.heap.size) := (Array.getElem?_eq_some_iff.1 ho0).1
    clear hg0 hm0 ho0 hbw
    go_wp2
    clear o0 o1
    generalize wr.alloc (.cells #[.int .i64 (loS M0), .int .i64 (hiS M0)] 48) = wB at HW HBA HOA ⊢
    obtain ⟨wq, hwq⟩ : ∃ wq : World, wq = wr := ⟨_, rfl⟩
    rw [← hwq] at HBW HO0 HW HOL ⊢
    clear hwq wr
    go_loopw [7] (fun iv wx => ∃ s M : Nat, s ≤ n ∧ iv = .int .i64 s ∧ CloI N n ls M0 M s 0 ∧ wx.heap[w1.heap.size]? = some (.cells #[.int .i64 (loS M), .int .i64 (hiS M)] 48 (0, 0)) ∧ wx.heap[wq.heap.size]? = some (.cells #[.int .i64 (loS M0), .int .i64 (hiS M0)] 48 (0, 0)) ∧ Below w1.heap.size w1 wx) (fun iv _ => n - (intOf iv).toNat)
    case atStart => exact ⟨0, M0, by omega, rfl, cloI_start HM0.out.1 HM0.out.2, HOA.out, HW.out, HBA.out⟩
    case round =>
      obtain ⟨s, M, hsn, rfl, hci, hob, hwb, hbx⟩ := hrel
      have HCI := hide hci
      have HOB := hide hob
      have HWB := hide hwb
      have HBX := hide hbx
      have HBB := hide (below_step HB1.out hbx)
      obtain ⟨⟨p0, p1, p2, p3⟩, -⟩ := box_cells ((HBB.out.block _ (Array.getElem?_eq_some_iff.1 HX1.out).1).trans HX1.out)
      obtain ⟨⟨o0, o1⟩, -⟩ := box2_cells hob
      have HMK := hide (H80.out M (cloI_lt hci))
      clear hci hob hwb hbx
      by_cases hlt : s < n
      · have hlti : (s : Int) < (n : Int) := by omega
        have HC := hide (fun W => HIN.out M s W HMK.out (by omega))
        cases hm : M.testBit s with
        | false =>
          rw [hm] at HC
          have HCI2 := hide (cloI_skip HCI.out hm)
          clear hm
          go_wp2_with (go_at_call 24; refine (HC.out _).mono ?_; rintro e w2 ⟨rfl, hb2⟩; have HB2 := hide hb2; clear hb2)
          go_roundw
          case rel => exact ⟨s + 1, M, by omega, by go_num, HCI2.out, (HB2.out.block _ (Array.getElem?_eq_some_iff.1 HOB.out).1).trans HOB.out, (HB2.out.block _ (Array.getElem?_eq_some_iff.1 HWB.out).1).trans HWB.out, below_step HBX.out HB2.out⟩
          case measure => simp [intOf]; omega
        | true =>
          rw [hm] at HC
          have HMS := hide hm
          clear hm
          go_wp2_with (go_at_call 24; refine (HC.out _).mono ?_; rintro e w2 ⟨rfl, hb2⟩; have HB2 := hide hb2; clear hb2)
          clear p0 p1 p2 p3 o0 o1 HC
          have HOB2 := hide ((HB2.out.block _ (Array.getElem?_eq_some_iff.1 HOB.out).1).trans HOB.out)
          have HWB2 := hide ((HB2.out.block _ (Array.getElem?_eq_some_iff.1 HWB.out).1).trans HWB.out)
          have HBX2 := hide (below_step HBX.out HB2.out)
          clear HOB HWB HBX HBB HB2
          go_loopw [8] (fun jv wx => ∃ i M : Nat, i ≤ ll ∧ jv = .int .i64 i ∧ CloI N n ls M0 M s i ∧ M.testBit s = true ∧ wx.heap[w1.heap.size]? = some (.cells #[.int .i64 (loS M), .int .i64 (hiS M)] 48 (0, 0)) ∧ wx.heap[wq.heap.size]? = some (.cells #[.int .i64 (loS M0), .int .i64 (hiS M0)] 48 (0, 0)) ∧ Below w1.heap.size w1 wx) (fun jv _ => ll - (intOf jv).toNat)
          case atStart => exact ⟨0, M, by omega, rfl, HCI.out, HMS.out, HOB2.out, HWB2.out, HBX2.out⟩
          case round =>
            obtain ⟨i, M', hil, rfl, hci, hms, hob, hwb, hbx⟩ := hrel
            have HCI' := hide hci
            have HMS' := hide hms
            have HOB := hide hob
            have HWB := hide hwb
            have HBX := hide hbx
            have HBB := hide (below_step HB1.out hbx)
            have HMK' := hide (H80.out M' (cloI_lt hci))
            clear hci hms hwb hbx
            by_cases hil2 : i < ll
            · have hili : (i : Int) < (ll : Int) := by omega
              obtain ⟨⟨p0, p1, p2, p3⟩, -⟩ := box_cells ((HBB.out.block _ (Array.getElem?_eq_some_iff.1 HX1.out).1).trans HX1.out)
              obtain ⟨⟨o0, o1⟩, of⟩ := box2_cells hob
              obtain ⟨bn, on, an, cn, rfl, hcn, hsn2⟩ := sl2_cell HS.out s hlt
              rw [(HG.out.2.2.2.2.2 s hlt).1] at hcn hsn2
              obtain ⟨bl, ol, rfl, hcl⟩ := sl_cell HLS.out i hil2
              have hx := HL.out (ls.getD i 0) (by rw [getD_at _ i (by omega)]; exact List.getElem_mem _)
              have HNXT := hide (HCP.out M0 M' s i HCI'.out HMS'.out (by omega))
              have hst : stepL N s (ls.getD i 0) = nxt N s (ls.getD i 0).toNat := rfl
              rw [hst] at HNXT
              obtain ⟨x, hxe⟩ : ∃ x : Nat, ls.getD i 0 = (x : Int) := ⟨(ls.getD i 0).toNat, by omega⟩
              rw [hxe] at hcl hx HNXT
              rw [Int.toNat_natCast] at HNXT
              have hxm : x < m := by omega
              have hxi : (x : Int) < (m : Int) := by omega
              obtain ⟨b1, o1', rfl, hcx⟩ := sl_cell hsn2 x hxm
              obtain ⟨hy1, hy2⟩ := nxt_cell HG.out hlt hxm
              rw [hy2] at hcx
              have HMS2 : Hid ((putM M' (nxt N s x)).testBit s = true) := sub_put _ _ _ HMS'.out
              have HPC := hide (fun W => HPUT.out M' (nxt N s x) W HMK'.out (by omega))
              generalize nxt N s x = y at hcx hy1 HPC HNXT HMS2
              have HLT : Hid (bn < w1.heap.size ∧ bl < w1.heap.size ∧ b1 < w1.heap.size ∧ w.heap.size < w1.heap.size) := by
                have h0 := HB1.out.size
                have h1 := World.block_lt_of_cell? _ _ hcn
                have h2 := World.block_lt_of_cell? _ _ hcl
                have h3 := World.block_lt_of_cell? _ _ hcx
                have h4 := HSZ0.out
                exact ⟨Nat.lt_of_lt_of_le h1 h0, Nat.lt_of_lt_of_le h2 h0, Nat.lt_of_lt_of_le h3 h0, by omega⟩
              replace hcn := (HBB.out.cell (p := ⟨bn, on + s, none⟩) (World.block_lt_of_cell? _ _ hcn)).trans hcn
              replace hcl := (HBB.out.cell (p := ⟨bl, ol + i, none⟩) (World.block_lt_of_cell? _ _ hcl)).trans hcl
              replace hcx := (HBB.out.cell (p := ⟨b1, o1' + x, none⟩) (World.block_lt_of_cell? _ _ hcx)).trans hcx
              have HBS := hide (fun W (h : Below wr.heap.size wr W) => (h.block _ (Array.getElem?_eq_some_iff.1 HOB.out).1).trans HOB.out)
              have HC6 : Hid (∀ W, Below wr.heap.size wr W → W.cell? ⟨w1.heap.size, 0, none⟩ = some (.int .i64 (loS M')) ∧ W.cell? ⟨w1.heap.size, 1, none⟩ = some (.int .i64 (hiS M')) ∧ W.cell? ⟨w.heap.size, 2, none⟩ = some (.slice (some ⟨bn, on, none⟩) n cap) ∧ W.cell? ⟨bn, on + s, none⟩ = some (.slice (some ⟨b1, o1', none⟩) m cn) ∧ W.cell? ⟨bl, ol + i, none⟩ = some (.int .i64 (x : Int)) ∧ W.cell? ⟨b1, o1' + x, none⟩ = some (.int .i64 (y : Int))) := fun W hW => by
                have k := fun (p : Addr) v (h : wr.cell? p = some v) => (hW.cell (p := p) (World.block_lt_of_cell? _ _ h)).trans h
                exact ⟨k _ _ o0, k _ _ o1, k _ _ p2, k _ _ hcn, k _ _ hcl, k _ _ hcx⟩
              have HBR := hide (Below.refl wr.heap.size wr)
              clear hsn2 hst hxe hx hy2 hob
              go_wp2
              refine wp_region_held_drew (S := (fun W => W.cell? ⟨w.heap.size, 2, none⟩ = some (.slice (some ⟨bn, on, none⟩) n cap) ∧ W.cell? ⟨bn, on + s, none⟩ = some (.slice (some ⟨b1, o1', none⟩) m cn) ∧ W.cell? ⟨bl, ol + i, none⟩ = some (.int .i64 (x : Int)) ∧ W.cell? ⟨b1, o1' + x, none⟩ = some (.int .i64 (y : Int)))) (by kernel_rfl) ⟨p2, hcn, hcl, hcx⟩ (fun hHeld => ?_)
              refine wpAnyH_take (i := 1) (v := .pointer (some ⟨w.heap.size, 2, none⟩)) rfl (by kernel_rfl) (by kernel_rfl) (by kernel_rfl) (fun _ _ _ h => h) (Or.inl ⟨by rfl, fun W hSW => ?_⟩) hHeld ?_
              · obtain ⟨r1, r2, r3, r4⟩ := hSW; go_simp
              simp only [List.getElem_toArray, List.getElem_cons_zero, List.getElem_cons_succ, Act.put, List.setIfInBounds_toArray, List.set_cons_zero, List.set_cons_succ]
              refine wpAnyH_take (i := 2) (v := .slice (some ⟨bn, on, none⟩) n cap) rfl (by kernel_rfl) (by kernel_rfl) (by kernel_rfl) (fun _ _ _ h => h) (Or.inl ⟨by rfl, fun W hSW => ?_⟩) hHeld ?_
              · obtain ⟨r1, r2, r3, r4⟩ := hSW; go_simp
              simp only [List.getElem_toArray, List.getElem_cons_zero, List.getElem_cons_succ, Act.put, List.setIfInBounds_toArray, List.set_cons_zero, List.set_cons_succ]
              refine wpAnyH_take (i := 3) (v := .int .i64 (s : Int)) rfl (by kernel_rfl) (by kernel_rfl) (by kernel_rfl) (fun _ _ _ h => h) (Or.inl ⟨by rfl, fun W hSW => ?_⟩) hHeld ?_
              · obtain ⟨r1, r2, r3, r4⟩ := hSW; go_simp
              simp only [List.getElem_toArray, List.getElem_cons_zero, List.getElem_cons_succ, Act.put, List.setIfInBounds_toArray, List.set_cons_zero, List.set_cons_succ]
              refine wpAnyH_take (i := 4) (v := .pointer (some ⟨bn, on + s, none⟩)) rfl (by kernel_rfl) (by kernel_rfl) (by kernel_rfl) (fun _ _ _ h => h) (Or.inl ⟨by rfl, fun W hSW => ?_⟩) hHeld ?_
              · obtain ⟨r1, r2, r3, r4⟩ := hSW; go_simp
              simp only [List.getElem_toArray, List.getElem_cons_zero, List.getElem_cons_succ, Act.put, List.setIfInBounds_toArray, List.set_cons_zero, List.set_cons_succ]
              refine wpAnyH_take (i := 5) (v := .slice (some ⟨b1, o1', none⟩) m cn) rfl (by kernel_rfl) (by kernel_rfl) (by kernel_rfl) (fun _ _ _ h => h) (Or.inl ⟨by rfl, fun W hSW => ?_⟩) hHeld ?_
              · obtain ⟨r1, r2, r3, r4⟩ := hSW; go_simp
              simp only [List.getElem_toArray, List.getElem_cons_zero, List.getElem_cons_succ, Act.put, List.setIfInBounds_toArray, List.set_cons_zero, List.set_cons_succ]
              refine wpAnyH_take (i := 6) (v := .slice (some ⟨bl, ol, none⟩) ll cl) rfl (by kernel_rfl) (by kernel_rfl) (by kernel_rfl) (fun _ _ _ h => h) (Or.inl ⟨by rfl, fun W hSW => ?_⟩) hHeld ?_
              · obtain ⟨r1, r2, r3, r4⟩ := hSW; go_simp
              simp only [List.getElem_toArray, List.getElem_cons_zero, List.getElem_cons_succ, Act.put, List.setIfInBounds_toArray, List.set_cons_zero, List.set_cons_succ]
              refine wpAnyH_take (i := 7) (v := .int .i64 (i : Int)) rfl (by kernel_rfl) (by kernel_rfl) (by kernel_rfl) (fun _ _ _ h => h) (Or.inl ⟨by rfl, fun W hSW => ?_⟩) hHeld ?_
              · obtain ⟨r1, r2, r3, r4⟩ := hSW; go_simp
              simp only [List.getElem_toArray, List.getElem_cons_zero, List.getElem_cons_succ, Act.put, List.setIfInBounds_toArray, List.set_cons_zero, List.set_cons_succ]
              refine wpAnyH_take (i := 8) (v := .pointer (some ⟨bl, ol + i, none⟩)) rfl (by kernel_rfl) (by kernel_rfl) (by kernel_rfl) (fun _ _ _ h => h) (Or.inl ⟨by rfl, fun W hSW => ?_⟩) hHeld ?_
              · obtain ⟨r1, r2, r3, r4⟩ := hSW; go_simp
              simp only [List.getElem_toArray, List.getElem_cons_zero, List.getElem_cons_succ, Act.put, List.setIfInBounds_toArray, List.set_cons_zero, List.set_cons_succ]
              refine wpAnyH_take (i := 9) (v := .int .i64 (x : Int)) rfl (by kernel_rfl) (by kernel_rfl) (by kernel_rfl) (fun _ _ _ h => h) (Or.inl ⟨by rfl, fun W hSW => ?_⟩) hHeld ?_
              · obtain ⟨r1, r2, r3, r4⟩ := hSW; go_simp
              simp only [List.getElem_toArray, List.getElem_cons_zero, List.getElem_cons_succ, Act.put, List.setIfInBounds_toArray, List.set_cons_zero, List.set_cons_succ]
              refine wpAnyH_take (i := 10) (v := .pointer (some ⟨b1, o1' + x, none⟩)) rfl (by kernel_rfl) (by kernel_rfl) (by kernel_rfl) (fun _ _ _ h => h) (Or.inl ⟨by rfl, fun W hSW => ?_⟩) hHeld ?_
              · obtain ⟨r1, r2, r3, r4⟩ := hSW; go_simp
              simp only [List.getElem_toArray, List.getElem_cons_zero, List.getElem_cons_succ, Act.put, List.setIfInBounds_toArray, List.set_cons_zero, List.set_cons_succ]
              refine wpAnyH_take (i := 11) (v := .int .i64 (y : Int)) rfl (by kernel_rfl) (by kernel_rfl) (by kernel_rfl) (fun _ _ _ h => h) (Or.inl ⟨by rfl, fun W hSW => ?_⟩) hHeld ?_
              · obtain ⟨r1, r2, r3, r4⟩ := hSW; go_simp
              simp only [List.getElem_toArray, List.getElem_cons_zero, List.getElem_cons_succ, Act.put, List.setIfInBounds_toArray, List.set_cons_zero, List.set_cons_succ]
              refine wpAnyH_ready (rs := [0]) (by kernel_rfl) (by simp) (AllReadyH.cons rfl (fun K hK => ?_) AllReadyH.nil)
              go_simp
              refine hK.out _ _ hHeld (fun _ => ?_)
              clear hK K
              refine wpAnyH_ready (rs := [12]) (by kernel_rfl) (by simp) (AllReadyH.cons rfl (fun K hK => ?_) AllReadyH.nil)
              go_simp
              go_wp2_with (go_at_call 25; refine (HPC.out _).mono ?_; rintro e w2 ⟨rfl, hb2⟩; have HB2 := hide hb2; obtain ⟨⟨s0, s1⟩, sf⟩ := box2_cells (HBS.out _ (below_step HBR.out.drew hb2)); clear hb2)
              have hS2 := HC6.out w2 (below_step HBR.out.drew HB2.out)
              have hob2 := HBS.out w2 (below_step HBR.out.drew HB2.out)
              have hwb2 := ((below_step HBR.out.drew HB2.out).block _ (Array.getElem?_eq_some_iff.1 HWB.out).1).trans HWB.out
              have HBX2 := hide (below_step HBX.out (below_step HBR.out.drew HB2.out))
              have HNE : Hid (wq.heap.size ≠ w1.heap.size) := by show _ ≠ _; have := HOL.out; omega
              obtain ⟨⟨hset, -, hoth⟩, hbel⟩ := box2_set (v0 := .int .i64 (loS (putM M' y))) (v1 := .int .i64 (hiS (putM M' y))) hob2 rfl
              have HSET := hide hset
              have HWB3 := hide ((hoth _ HNE.out).trans hwb2)
              have HBX3 := hide (hbel _ _ HBX2.out (Nat.le_refl _))
              obtain ⟨g1, g2, g3, g4⟩ := HLT.out
              obtain ⟨-, -, c1, c2, c3, c4⟩ := hS2
              have HS3 := hide (And.intro ((World.cell?_of_block (a := ⟨w.heap.size, 2, none⟩) (hoth w.heap.size (by omega))).trans c1) (And.intro ((World.cell?_of_block (a := ⟨bn, on + s, none⟩) (hoth bn (by omega))).trans c2) (And.intro ((World.cell?_of_block (a := ⟨bl, ol + i, none⟩) (hoth bl (by omega))).trans c3) ((World.cell?_of_block (a := ⟨b1, o1' + x, none⟩) (hoth b1 (by omega))).trans c4))))
              clear hob2 hwb2 hset hoth hbel g1 g2 g3 g4
              refine hK.out _ _ ⟨c1, c2, c3, c4⟩ (fun _ => ?_)
              clear hK K c1 c2 c3 c4
              refine wpAnyH_ready (rs := [13]) (by kernel_rfl) (by simp) (AllReadyH.cons rfl (fun K hK => ?_) AllReadyH.nil)
              go_simp
              refine hK.out _ _ HS3.out (fun _ => ?_)
              clear hK K
              refine wpAnyH_done (by kernel_rfl) ?_ _
              go_wp2
              go_roundw
              case rel => exact ⟨i + 1, putM M' y, by omega, by go_num, HNXT.out, HMS2.out, HSET.out, HWB3.out, HBX3.out⟩
              case measure => simp [intOf]; omega
            · have hili : ¬ (i : Int) < (ll : Int) := by omega
              obtain rfl : ll = i := by omega
              have HCI2 : Hid (CloI N n ls M0 M' (s + 1) 0) := cloI_row (by rw [hL]; exact HCI'.out)
              go_wp2
              go_roundw
              case rel => exact ⟨s + 1, M', by omega, by go_num, HCI2.out, HOB.out, HWB.out, HBX.out⟩
              case measure => simp [intOf]; omega
      · have hlti : ¬ (s : Int) < (n : Int) := by omega
        obtain rfl : n = s := by omega
        obtain ⟨⟨v0, v1⟩, -⟩ := box2_cells HWB.out
        have hr := (HBB.out.block _ (Array.getElem?_eq_some_iff.1 HX2.out).1).trans HX2.out
        have HR := hide hr
        obtain ⟨⟨r0, r1⟩, rf⟩ := box2_cells hr
        clear hr
        by_cases e : M = M0
        · subst e
          have HF := hide (HCE.out M HCI.out)
          go_wp2
          obtain ⟨⟨hset, -, -⟩, hbel⟩ := box2_set (v0 := .int .i64 (loS M)) (v1 := .int .i64 (hiS M)) HR.out rfl
          obtain ⟨⟨z0, z1⟩, -⟩ := box2_cells hset
          rw [← HF.out]
          exact bodyPost_ret (v := .agg #[.int .i64 (loS M), .int .i64 (hiS M)]) (by simp [results, Tryz.results14, go_sem, z0, z1]) rfl ⟨rfl, hbel _ _ (below_step HB0.out HBB.out) (by omega)⟩
        · have hd : (loS M == loS M0) = false ∨ ((loS M == loS M0) = true ∧ (hiS M == hiS M0) = false) := by
            by_cases e0 : loS M = loS M0
            · exact .inr ⟨by simp [e0], by simp; exact fun e1 => e (set_eq e0 e1)⟩
            · exact .inl (by simp [e0])
          have HMO := hide (cloI_more HCI.out e)
          have HI0 : Hid (SubM M (cloM N n ls) ∧ M.testBit 0 = true) := ⟨HCI.out.into, HCI.out.sub _ HCI.out.zero⟩
          clear e
          rcases hd with hd | ⟨hd, hd2⟩
          all_goals
            go_wp2
            go_roundg (K - M)
            case rel => exact ⟨M, Nat.le_refl _, HI0.out, HOB.out, HBX.out, trivial⟩
            case measure => have h1 := HG0.out; have h2 := HMO.out; have h3 := HMK.out; omega
end Go.Proofs.YtleebojibobgaaaGreatDoor

/- A track left out, word by word: mathematics of the laws SomeTakes and SomeOrder. -/
namespace Go.Proofs.YtleebojibobgaaaGreatDoor
open Go.RowKit

/-- A letter with a track left out. -/
def delT (b : Int) (tr tk : Nat) (y : Int) : Int := packL b ((splitL b (tr + 1) y).eraseIdx tk)
theorem erase_bd {b : Int} {ds : List Int} (tk : Nat) (h : ∀ j, j < ds.length → 0 ≤ ds.getD j 0 ∧ ds.getD j 0 < kindsI b) : ∀ j, j < (ds.eraseIdx tk).length → 0 ≤ (ds.eraseIdx tk).getD j 0 ∧ (ds.eraseIdx tk).getD j 0 < kindsI b := by
  intro j hj
  have hm : (ds.eraseIdx tk).getD j 0 ∈ ds := by
    rw [getD_at _ j hj]
    exact (List.eraseIdx_sublist ds tk).subset (List.getElem_mem hj)
  obtain ⟨i, hi, e⟩ := List.getElem_of_mem hm
  rw [← e, ← getD_at _ i hi]
  exact h i hi
theorem put_erase {b : Int} {tr tk : Nat} (ht : tk ≤ tr) (x l : Int) : (putD b tr tk x l).eraseIdx tk = splitL b tr l := by
  unfold putD
  have hl : ((splitL b tr l).take tk).length = tk := by rw [List.length_take, splitL_length]; omega
  rw [List.append_assoc, List.eraseIdx_append_of_length_le (by omega), hl, Nat.sub_self]
  simp
theorem delT_bd {b : Int} (h2 : b ≤ 6) {tr tk mu : Nat} (ht : tk ≤ tr) (hf : pw (kindsI b) tr = (mu : Int)) (y : Int) : 0 ≤ delT b tr tk y ∧ delT b tr tk y < (mu : Int) := by
  have := pack_bd b h2 ((splitL b (tr + 1) y).eraseIdx tk) (erase_bd tk (split_bd b h2 (tr + 1) y))
  rw [List.length_eraseIdx_of_lt (by rw [splitL_length]; omega), splitL_length, show tr + 1 - 1 = tr by omega, hf] at this
  exact this
theorem mem_withL {b : Int} (h2 : b ≤ 6) {tr tk m mu : Nat} (ht : tk ≤ tr) (hm : pw (kindsI b) (tr + 1) = (m : Int)) (hf : pw (kindsI b) tr = (mu : Int)) {y l : Int} (hl : 0 ≤ l ∧ l < (mu : Int)) : y ∈ withL b tr tk l ↔ (0 ≤ y ∧ y < (m : Int)) ∧ delT b tr tk y = l := by
  have hkb := kinds_bd2 b h2
  constructor
  · intro h
    refine ⟨withL_ok h2 ht hm l y h, ?_⟩
    obtain ⟨x, hx, rfl⟩ := List.mem_map.1 h
    have hx' := List.mem_range.1 hx
    unfold delT
    have e := split_pack b h2 (putD b tr tk (x : Int) l) (putD_bd b h2 ⟨by omega, by omega⟩ l)
    rw [putD_len ht] at e
    rw [e, put_erase ht, pack_split b h2 tr l hl.1 (by rw [hf]; exact hl.2)]
  · rintro ⟨hy, rfl⟩
    have hlen : ((splitL b (tr + 1) y).eraseIdx tk).length = tr := by rw [List.length_eraseIdx_of_lt (by rw [splitL_length]; omega), splitL_length]; omega
    have e := split_pack b h2 ((splitL b (tr + 1) y).eraseIdx tk) (erase_bd tk (split_bd b h2 (tr + 1) y))
    rw [hlen] at e
    have hd := split_bd b h2 (tr + 1) y tk (by rw [splitL_length]; omega)
    refine List.mem_map.2 ⟨((splitL b (tr + 1) y).getD tk 0).toNat, List.mem_range.2 (by omega), ?_⟩
    rw [show ((((splitL b (tr + 1) y).getD tk 0).toNat : Nat) : Int) = (splitL b (tr + 1) y).getD tk 0 by omega]
    have hp : putD b tr tk ((splitL b (tr + 1) y).getD tk 0) (delT b tr tk y) = splitL b (tr + 1) y := by
      unfold putD delT
      rw [e]
      have hlt : tk < (splitL b (tr + 1) y).length := by rw [splitL_length]; omega
      generalize splitL b (tr + 1) y = ds at hlt
      rw [List.eraseIdx_eq_take_drop_succ, List.take_append_of_le_length (by rw [List.length_take]; omega), List.take_take, Nat.min_self, List.drop_append_of_le_length (by rw [List.length_take]; omega)]
      rw [show List.drop tk (List.take tk ds) = [] by rw [List.drop_eq_nil_iff, List.length_take]; omega]
      rw [List.nil_append, getD_at _ tk hlt, List.append_assoc]
      show ds.take tk ++ (ds[tk] :: ds.drop (tk + 1)) = ds
      rw [← List.drop_eq_getElem_cons hlt, List.take_append_drop]
    rw [hp, pack_split b h2 (tr + 1) y hy.1 (by rw [hm]; exact hy.2)]
/-- Two tracks left out, in either order. -/
theorem del_zero {b : Int} (h2 : b ≤ 6) (tr tk : Nat) : delT b tr tk 0 = 0 := by
  have hk := kinds_bd2 b h2
  unfold delT
  have hs : ∀ x ∈ (splitL b (tr + 1) 0).eraseIdx tk, x = 0 := fun x hx => by
    have := (List.eraseIdx_sublist _ tk).subset hx
    simp only [splitL, List.mem_map] at this
    obtain ⟨i, _, rfl⟩ := this
    simp [dOf]
  generalize (splitL b (tr + 1) 0).eraseIdx tk = ds at hs
  induction ds using list_snoc_ind with
  | h0 => rfl
  | h1 ds x ih =>
    have e : packL b (ds ++ [x]) = packL b ds * kindsI b + x := by simp [packL, List.foldl_append]
    rw [e, ih (fun y hy => hs y (by simp [hy])), hs x (by simp)]
    simp
end Go.Proofs.YtleebojibobgaaaGreatDoor

/- The reference's Grown: what holds between its rounds. -/
namespace Go.Proofs.YtleebojibobgaaaGreatDoor
open Go.RowKit

/-- The set that comes of S, as far as s states and k letters of the next one have been looked at. -/
def stM (N : List (List Int)) (n : Nat) (ls : List Int) (S s k : Nat) : Nat := maskB n fun t => (List.range s).any (fun s' => S.testBit s' && ls.any fun l => decide (stepL N s' l = t)) || (S.testBit s && (ls.take k).any fun l => decide (stepL N s l = t))
theorem stM_bit {N : List (List Int)} {n : Nat} {ls : List Int} {S s k t : Nat} : (stM N n ls S s k).testBit t = true ↔ t < n ∧ ((∃ s', s' < s ∧ S.testBit s' = true ∧ ∃ l ∈ ls, stepL N s' l = t) ∨ (S.testBit s = true ∧ ∃ l ∈ ls.take k, stepL N s l = t)) := by
  unfold stM
  rw [maskB_bit, Bool.and_eq_true, decide_eq_true_iff, Bool.or_eq_true, List.any_eq_true, Bool.and_eq_true, List.any_eq_true]
  constructor
  · rintro ⟨h0, h⟩
    refine ⟨h0, ?_⟩
    rcases h with ⟨s', hs, h⟩ | ⟨h1, l, hl, h2⟩
    · rw [Bool.and_eq_true, List.any_eq_true] at h
      obtain ⟨h1, l, hl, h2⟩ := h
      exact .inl ⟨s', List.mem_range.1 hs, h1, l, hl, by simpa using h2⟩
    · exact .inr ⟨h1, l, hl, by simpa using h2⟩
  · rintro ⟨h0, h⟩
    refine ⟨h0, ?_⟩
    rcases h with ⟨s', hs, h1, l, hl, h2⟩ | ⟨h1, l, hl, h2⟩
    · refine .inl ⟨s', List.mem_range.2 hs, ?_⟩
      rw [Bool.and_eq_true, List.any_eq_true]
      exact ⟨h1, l, hl, by simpa using h2⟩
    · exact .inr ⟨h1, l, hl, by simpa using h2⟩
theorem stM_lt (N : List (List Int)) (n : Nat) (ls : List Int) (S s k : Nat) : stM N n ls S s k < 2 ^ n := maskB_lt _ _
theorem stM_zero (N : List (List Int)) (n : Nat) (ls : List Int) (S : Nat) : stM N n ls S 0 0 = 0 := by
  refine mask_ext (n := n) (stM_lt _ _ _ _ _ _) (Nat.two_pow_pos n) fun t _ => ?_
  rw [Nat.zero_testBit]
  cases h : (stM N n ls S 0 0).testBit t with
  | false => rfl
  | true =>
    obtain ⟨-, ⟨s', hs, -⟩ | ⟨-, l, hl, -⟩⟩ := stM_bit.1 h
    · omega
    · simp at hl
theorem stM_put {N : List (List Int)} {n : Nat} {ls : List Int} {S s k : Nat} (hk : k < ls.length) (hS : S.testBit s = true) (hn : stepL N s (ls.getD k 0) < n) : putM (stM N n ls S s k) (stepL N s (ls.getD k 0)) = stM N n ls S s (k + 1) := by
  refine mask_ext (n := n) (putM_lt (stM_lt _ _ _ _ _ _) hn) (stM_lt _ _ _ _ _ _) fun t ht => ?_
  rw [Bool.eq_iff_iff, putM_bit, Bool.or_eq_true, decide_eq_true_iff, stM_bit, stM_bit, List.take_succ_eq_append_getElem hk, ← getD_at _ k hk]
  constructor
  · rintro (⟨h0, h | ⟨h1, l, hl, h2⟩⟩ | h)
    · exact ⟨h0, .inl h⟩
    · exact ⟨h0, .inr ⟨h1, l, by simp [hl], h2⟩⟩
    · exact ⟨ht, .inr ⟨hS, ls.getD k 0, by simp, h⟩⟩
  · rintro ⟨h0, h | ⟨h1, l, hl, h2⟩⟩
    · exact .inl ⟨h0, .inl h⟩
    · rcases List.mem_append.1 hl with hl | hl
      · exact .inl ⟨h0, .inr ⟨h1, l, hl, h2⟩⟩
      · simp only [List.mem_singleton] at hl
        subst hl
        exact .inr h2
theorem stM_skip {N : List (List Int)} {n : Nat} {ls : List Int} {S s : Nat} (hS : S.testBit s = false) (k k' : Nat) : stM N n ls S s k = stM N n ls S s k' := by
  refine mask_ext (n := n) (stM_lt _ _ _ _ _ _) (stM_lt _ _ _ _ _ _) fun t _ => ?_
  rw [Bool.eq_iff_iff, stM_bit, stM_bit, hS]
  simp
theorem stM_row {N : List (List Int)} {n : Nat} {ls : List Int} {S s : Nat} : stM N n ls S s ls.length = stM N n ls S (s + 1) 0 := by
  refine mask_ext (n := n) (stM_lt _ _ _ _ _ _) (stM_lt _ _ _ _ _ _) fun t _ => ?_
  rw [Bool.eq_iff_iff, stM_bit, stM_bit, List.take_length]
  constructor
  · rintro ⟨h0, ⟨s', hs, h⟩ | ⟨h1, h2⟩⟩
    · exact ⟨h0, .inl ⟨s', by omega, h⟩⟩
    · exact ⟨h0, .inl ⟨s, by omega, h1, h2⟩⟩
  · rintro ⟨h0, ⟨s', hs, h⟩ | ⟨h1, l, hl, h2⟩⟩
    · by_cases e : s' = s
      · subst e; exact ⟨h0, .inr h⟩
      · exact ⟨h0, .inl ⟨s', by omega, h⟩⟩
    · simp at hl
theorem stM_end {N : List (List Int)} {n : Nat} {ls : List Int} {S : Nat} : stM N n ls S n 0 = stepM N n ls S := by
  refine mask_ext (n := n) (stM_lt _ _ _ _ _ _) (stepM_lt _ _ _ _) fun t _ => ?_
  rw [Bool.eq_iff_iff, stM_bit, stepM_bit]
  constructor
  · rintro ⟨h0, ⟨s', hs, h⟩ | ⟨h1, l, hl, h2⟩⟩
    · exact ⟨h0, s', hs, h⟩
    · simp at hl
  · rintro ⟨h0, s', hs, h⟩
    exact ⟨h0, .inl ⟨s', hs, h⟩⟩

/-- Rows that were gathered, beside blocks that turn. -/
theorem rwAt_cells {w : World} {ls : Nat → List Int} {k : Nat} {v : Value} {W W2 : World} (h : RwAt w ls k v W) (hc : ∀ (x : Nat) (cs : Array Value) (T : TypeId) (f : Nat × Nat), W.heap[x]? = some (Obj.cells cs T f) → W2.heap[x]? = W.heap[x]?) (hb : Below w.heap.size w W2) : RwAt w ls k v W2 := by
  obtain ⟨vals, h1, h2, -⟩ := h
  refine ⟨vals, ownsRow_of_block h1 fun x hx => ?_, fun j hj => ?_, hb⟩
  · rcases h1.2 with ⟨rfl, _⟩ | ⟨g, cap, cur, rfl, _, hh, _⟩
    · simp [Value.ownBlock] at hx
    · simp [Value.ownBlock] at hx
      subst hx
      exact hc _ _ _ _ hh
  · obtain ⟨a, cap, e1, e2, e3⟩ := h2 j hj
    refine ⟨a, cap, e1, sl_keep e2 fun x hx => ?_, e3⟩
    obtain ⟨h0, ad, rfl, rfl⟩ := hx
    obtain ⟨b', o, e, hcl⟩ := sl_cell e2 0 h0
    cases e
    obtain ⟨cs, T, f, hh⟩ := cell_block hcl
    exact hc _ _ _ _ hh
def RwX (w : World) (ls : Nat → List Int) (k : Nat) (v : Value) (X : List Nat) (W : World) : Prop := RwAt w ls k v (maskW X W) ∧ Below w.heap.size w W ∧ ∀ x ∈ X, w.heap.size ≤ x
theorem rwX_turn {w : World} {ls : Nat → List Int} {k : Nat} {v : Value} {X X' : List Nat} {W W2 : World} (h : RwX w ls k v X W) (hk : ∀ x, x < W.heap.size → ¬ x ∈ X → W2.heap[x]? = W.heap[x]?) (hX : ∀ x ∈ X', x ∈ X ∨ W.heap.size ≤ x) (hb : Below w.heap.size w W2) (hX2 : ∀ x ∈ X', w.heap.size ≤ x) : RwX w ls k v X' W2 := by
  refine ⟨rwAt_cells h.1 (fun x cs T f hx => ?_) (mask_below hb hX2), hb, hX2⟩
  obtain ⟨h1, h2⟩ := mask_cells hx
  have hlt := (Array.getElem?_eq_some_iff.1 h2).1
  rw [mask_out (fun hx' => by rcases hX x hx' with h | h; exact h1 h; omega), mask_out h1, hk x hlt h1]
theorem rwX_nil (w W : World) (ls : Nat → List Int) (X : List Nat) (hb : Below w.heap.size w W) (hX : ∀ x ∈ X, w.heap.size ≤ x) : RwX w ls 0 (.slice none 0 0) X W := ⟨⟨[], World.ownsRow_nil _ _ _ _, fun j hj => by omega, mask_below hb hX⟩, hb, hX⟩
/-- One row more: X are the blocks that have turned since W. -/
theorem rwX_push {w : World} {ls : Nat → List Int} {k : Nat} {v : Value} {X : List Nat} {W W2 : World} {br cr : Nat} (h : RwX w ls k v X W) (hk : ∀ x, x < W.heap.size → ¬ x ∈ X → W2.heap[x]? = W.heap[x]?) (hsz : W.heap.size ≤ W2.heap.size) (hb : Below w.heap.size w W2) (hs : Sl W2 (some ⟨br, 0, none⟩) (ls k).length (ls k)) (hbr : W.heap.size ≤ br) (hbX : ¬ br ∈ X) (hXlt : ∀ x ∈ X, x < W2.heap.size) :
    ∃ vals : List Value, W2.ownsRow w.heap.size 42 1 v k vals ∧ (∀ x, v.ownBlock = some x → ¬ x ∈ X ∧ x < W.heap.size) ∧
      ∀ (w3 : World) (o : Obj) (g' cap' : Nat), w3.ownsRow w.heap.size 42 1 (.slice (some ⟨g', 0, none⟩) (k + 1) cap') (k + 1) (vals ++ [.slice (some ⟨br, 0, none⟩) (ls k).length cr]) → (W2.alloc o).grownBy w3 v.ownBlock → (v.ownBlock = some g' ∨ g' = W2.heap.size + 1) → RwX w ls (k + 1) (.slice (some ⟨g', 0, none⟩) (k + 1) cap') X w3 ∧ ∀ x ∈ X, w3.heap[x]? = W2.heap[x]? := by
  have hbm : Below (maskW X W).heap.size (maskW X W) (maskW X W2) := by
    rw [mask_size]
    exact mask_belows hsz (hb.os.trans h.2.1.os.symm) (hb.tape.trans h.2.1.tape.symm) (hb.output.trans h.2.1.output.symm) hk (Nat.le_refl _)
  obtain ⟨vals, c2, c3, c4⟩ := @rwAt_push w (maskW X W) (maskW X W2) ls k v (some ⟨br, 0, none⟩) cr h.1 hbm ⟨sl_keep hs (fun x hx => by obtain ⟨_, ad, e, rfl⟩ := hx; cases e; exact mask_out hbX _), fun ad e => by cases e; rw [mask_size]; exact hbr⟩
  obtain ⟨d2, d3⟩ := mask_owns c2
  have d4 : ∀ x, v.ownBlock = some x → x < W.heap.size := fun x hx => by
    obtain ⟨vals0, e1, -, -⟩ := h.1
    have := (e1.lt x hx).2
    rwa [mask_size] at this
  refine ⟨vals, d2, fun x hx => ⟨d3 x hx, d4 x hx⟩, fun w3 o g' cap' hown hgrow hat => ?_⟩
  have hg' : ¬ g' ∈ X := by
    rcases hat with e | e
    · exact d3 g' e
    · intro hx; have := hXlt g' hx; omega
  have f3 := c4 (maskW X w3) o g' cap' (owns_mask hown (fun x hx => by simp [Value.ownBlock] at hx; subst hx; exact hg')) (mask_grown hXlt hgrow) (by rw [World.size_alloc, mask_size]; exact hat)
  have hbel : Below w.heap.size w w3 := Below.grown (hb.alloc hb.size o) hgrow (by have := hb.size; simp; omega) (fun x hx => (d2.lt x hx).1)
  refine ⟨⟨f3, hbel, h.2.2⟩, fun x hx => ?_⟩
  rw [hgrow.block x (by have := hXlt x hx; simp; omega) (fun e => d3 x e.symm hx), Below.heap_alloc _ _ _ (hXlt x hx)]
theorem rwX_end {w : World} {ls : Nat → List Int} {k : Nat} {v : Value} {X : List Nat} {W : World} (h : RwX w ls k v X W) (hk : k ≤ maxLen) (L : List (List Int)) (hL : L.length = k) (hl : ∀ j, j < k → L.getD j [] = ls j) : ∃ a cap, v = .slice a k cap ∧ Sl2 W a k L := by
  obtain ⟨a, cap, e, hs⟩ := rwAt_end h.1 hk L hL hl
  exact ⟨a, cap, e, mask_sl2 hs⟩

/-- Within a round: the sets that are found, and the row that is made, beside what was there at its beginning (all but the sets' old block). -/
structure GrI (w wq : World) (b : Nat) (L : List Nat) (row : List Int) (v v' : Value) (W : World) (b' cap : Nat) : Prop where
  val : v = .slice (some ⟨b', 0, none⟩) L.length cap
  que : QueG W b' L.length cap L
  at_ : b' = b ∨ wq.heap.size ≤ b'
  row_ : W.ownsRow wq.heap.size 3 1 v' row.length (row.map (Value.int .i64))
  far : v'.ownBlock ≠ some b'
  keep : ∀ x, x < wq.heap.size → x ≠ b → W.heap[x]? = wq.heap[x]?
  below : Below w.heap.size w W
  size : wq.heap.size ≤ W.heap.size
  base : w.heap.size ≤ b ∧ w.heap.size ≤ wq.heap.size
theorem grI_below {w wq : World} {b : Nat} {L : List Nat} {row : List Int} {v v' : Value} {W W2 : World} {b' cap : Nat} (h : GrI w wq b L row v v' W b' cap) (hb : Below W.heap.size W W2) : GrI w wq b L row v v' W2 b' cap :=
  ⟨h.val, queG_kept h.que (hb.block _ (queG_lt h.que)), h.at_, ownsRow_of_block h.row_ (fun x hx => hb.block _ (h.row_.lt x hx).2), h.far, fun x hx hne => (hb.block x (Nat.lt_of_lt_of_le hx h.size)).trans (h.keep x hx hne), below_step h.below hb, Nat.le_trans h.size hb.size, h.base⟩
theorem grI_set {w wq : World} {b : Nat} {L : List Nat} {row : List Int} {v v' : Value} {W w3 : World} {b' cap x : Nat} {o : Obj} {b2 cap2 : Nat} (h : GrI w wq b L row v v' W b' cap) (hq : QueG w3 b2 (L.length + 1) cap2 (L ++ [x])) (hg : (W.alloc o).grownBy w3 (some b')) (hb2 : b2 = b' ∨ (W.alloc o).heap.size ≤ b2) : GrI w wq b (L ++ [x]) row (.slice (some ⟨b2, 0, none⟩) (L.length + 1) cap2) v' w3 b2 cap2 := by
  have hsz := hg.size
  simp at hsz
  have hs0 := h.size
  have hkeep : ∀ z, z < W.heap.size → z ≠ b' → w3.heap[z]? = W.heap[z]? := fun z hz hne => by
    rw [hg.block z (by simp; omega) (fun e => hne (Option.some.inj e)), Below.heap_alloc _ _ _ hz]
  refine ⟨by rw [List.length_append, List.length_singleton], by rw [List.length_append, List.length_singleton]; exact hq, ?_, ownsRow_of_block h.row_ (fun z hz => hkeep z (h.row_.lt z hz).2 (fun e => h.far (e ▸ hz))), fun e => ?_, fun z hz hne => ?_, ?_, by omega, h.base⟩
  · rcases hb2 with rfl | hb2
    · exact h.at_
    · simp at hb2; exact .inr (by omega)
  · rcases hb2 with rfl | hb2
    · exact h.far e
    · have := (h.row_.lt _ e).2
      simp at hb2; omega
  · rw [hkeep z (by omega) (fun e => ?_), h.keep z hz hne]
    rcases h.at_ with e2 | e2
    · omega
    · omega
  · refine Below.grown (h.below.alloc h.below.size o) hg (by have := h.below.size; simp; omega) (fun k hk => ?_)
    cases hk
    rcases h.at_ with e2 | e2
    · rw [e2]; exact h.base.1
    · have := h.base.2; omega
theorem grI_row {w wq : World} {b : Nat} {L : List Nat} {row : List Int} {v v' v2 : Value} {W w3 : World} {b' cap : Nat} {o : Obj} {x : Int} (h : GrI w wq b L row v v' W b' cap) (hown : w3.ownsRow wq.heap.size 3 1 v2 (row.length + 1) (row.map (Value.int .i64) ++ [.int .i64 x])) (hg : (W.alloc o).grownBy w3 v'.ownBlock) (hat : v2.ownBlock = v'.ownBlock ∨ v2.ownBlock = some (W.alloc o).heap.size) : GrI w wq b L (row ++ [x]) v v2 w3 b' cap := by
  have hsz := hg.size
  simp at hsz
  have hs0 := h.size
  have hqlt := queG_lt h.que
  have hkeep : ∀ z, z < W.heap.size → v'.ownBlock ≠ some z → w3.heap[z]? = W.heap[z]? := fun z hz hne => by
    rw [hg.block z (by simp; omega) (fun e => hne e.symm), Below.heap_alloc _ _ _ hz]
  refine ⟨h.val, queG_kept h.que (hkeep _ hqlt h.far), h.at_, by rw [List.length_append, List.map_append]; exact hown, fun e => ?_, fun z hz hne => ?_, ?_, by omega, h.base⟩
  · rcases hat with e2 | e2
    · exact h.far (e2 ▸ e)
    · rw [e2] at e
      simp at e
      omega
  · rw [hkeep z (by omega) (fun e => ?_), h.keep z hz hne]
    have := (h.row_.lt z e).1
    omega
  · exact Below.grown (h.below.alloc h.below.size o) hg (by have := h.below.size; simp; omega) (fun k hk => by have := (h.row_.lt k hk).1; have := h.base.2; omega)
end Go.Proofs.YtleebojibobgaaaGreatDoor
