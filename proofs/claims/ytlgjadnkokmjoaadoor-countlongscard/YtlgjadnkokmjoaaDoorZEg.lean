/- 4 texts in one. -/
import Derived.Test.YtlgjadnkokmjoaaDoorAx
import Derived.Test.YtlgjadnkokmjoaaDoorEf
import Derived.Test.YtlgjadnkokmjoaaDoorCa
/- The reference's Without: contract. -/
namespace Go.Proofs.YtlgjadnkokmjoaaDoor
open Go.RowKit

/-- The letters that have letter l of the others, and any digit on track t. -/
def withL (b : Int) (tr t : Nat) (l : Int) : List Int := (List.range (kindsI b).toNat).map fun x : Nat => packL b (putD b tr t (x : Int) l)
theorem withL_len (b : Int) (tr t : Nat) (l : Int) : (withL b tr t l).length = (kindsI b).toNat := by simp [withL]
theorem withL_take (b : Int) (tr t : Nat) (l : Int) (x : Nat) (hx : x < (kindsI b).toNat) : (withL b tr t l).take (x + 1) = (withL b tr t l).take x ++ [packL b (putD b tr t (x : Int) l)] := by
  rw [List.take_succ_eq_append_getElem (by rw [withL_len]; exact hx)]
  simp [withL]
theorem split_take (b : Int) (tr : Nat) (l : Int) (i : Nat) (hi : i < tr) : (splitL b tr l).take (i + 1) = (splitL b tr l).take i ++ [dOf b tr l i] := by
  rw [List.take_succ_eq_append_getElem (by rw [splitL_length]; exact hi)]
  simp [splitL]
theorem digB_put (b : Int) (h2 : b ≤ 6) {tr t : Nat} {x : Int} (hx : 0 ≤ x ∧ x < kindsI b) (l : Int) : digB b (putD b tr t x l) = true := by
  unfold digB
  rw [List.all_eq_true]
  intro y hy
  obtain ⟨j, hj, rfl⟩ := List.getElem_of_mem hy
  have := putD_bd b h2 (tr := tr) (t := t) hx l j hj
  rw [getD_at _ j hj] at this
  simpa using this
/-- A part of what a slice reads as. -/
theorem sl_front {w : World} {ad : Option Addr} {len : Nat} {l : List Int} (h : Sl w ad len l) {t : Nat} (ht : t ≤ len) : Sl w ad t (l.take t) := by
  obtain ⟨h1, h2, h3, h4⟩ := h
  refine ⟨by rw [List.length_take]; omega, by omega, fun x hx => h3 x (List.mem_of_mem_take hx), ?_⟩
  rcases h4 with h4 | ⟨b, o, rfl, hc⟩
  · exact .inl (by omega)
  · refine .inr ⟨b, o, rfl, fun i hi => ?_⟩
    rw [hc i (by omega)]
    simp [List.getD, hi]
theorem sl_back {w : World} {b o : Nat} {len : Nat} {l : List Int} (h : Sl w (some ⟨b, o, none⟩) len l) {t : Nat} (ht : t ≤ len) {o' : Nat} (ho : t < len → o' = o + t) : Sl w (some ⟨b, o', none⟩) (len - t) (l.drop t) := by
  obtain ⟨h1, h2, h3, h4⟩ := h
  refine ⟨by rw [List.length_drop]; omega, by omega, fun x hx => h3 x (List.mem_of_mem_drop hx), ?_⟩
  rcases h4 with h4 | ⟨b', o2, e, hc⟩
  · exact .inl (by omega)
  · cases e
    by_cases hl : t < len
    · refine .inr ⟨b, o', rfl, fun i hi => ?_⟩
      rw [ho hl, Nat.add_assoc, hc (t + i) (by omega)]
      simp [List.getD]
    · exact .inl (by omega)

/-- 'd[:t]', 'd[t:]'. -/
theorem run_front (ad : Option Addr) (n c t : Nat) (ht : t ≤ c) (W : World) : (Instr.slice 35 (.slice ad n c) none (some (.int .i64 (t : Int))) none).run Tryd.prog W = .ok (.slice ad t c) W := by
  obtain ⟨i, hi, hz0, hz1, hz2⟩ := info_parts info3
  unfold Instr.slice Instr.sliceBounds Instr.sliceBound
  simp only [Sem.run_bind, run_underlying Tryd.underlying35, Result.andThen_ok, Sem.run_pure, asIntOf]
  simp [sizeOf, typeInfo, hi, hz1, ht]
  intro _
  cases ad <;> rfl
theorem run_back (b o n c t : Nat) (ht : t ≤ n) (hn : n ≤ c) (W : World) : (Instr.slice 35 (.slice (some ⟨b, o, none⟩) n c) (some (.int .i64 (t : Int))) none none).run Tryd.prog W = .ok (.slice (some ⟨b, if t = c then o else o + t, none⟩) (n - t) (c - t)) W := by
  obtain ⟨i, hi, hz0, hz1, hz2⟩ := info_parts info3
  unfold Instr.slice Instr.sliceBounds Instr.sliceBound
  simp only [Sem.run_bind, run_underlying Tryd.underlying35, Result.andThen_ok, Sem.run_pure, asIntOf]
  simp [sizeOf, typeInfo, hi, hz1, Addr.add_lit]
  rw [if_pos ht]
  by_cases e : t = c
  · subst e; simp
  · rw [if_neg (Ne.symm e), if_neg e]

set_option maxHeartbeats 16000000 in
set_option maxRecDepth 8000 in
theorem withoutOf_any (b : Int) (tr t : Nat) (l : Int) (w : World) (h1 : 1 ≤ b) (h2 : b ≤ 6) (h4 : tr ≤ 4) (ht : t ≤ tr) (hl : 0 ≤ l) (hl' : l ≤ 100000000) :
    Calls Tryd.prog 29 #[.int .i64 b, .int .i64 ((tr : Int) + 1), .int .i64 t, .int .i64 l] w (GivesRow w (withL b tr t l)) := by
  have hkb := kinds_bd2 b h2
  obtain ⟨i0, hi0, hz0, hz1, hz2⟩ := info_parts info3
  have HDO := hide (fun i W hi => digitOf_any b tr l i W h1 h2 (by omega) hi hl hl')
  have HRX := hide (fun W => radix_yes b W h1 h2)
  have HST := hide (fun i h => split_take b tr l i h)
  have HSL := hide (splitL_length b tr l)
  have HSW : Hid (∀ x ∈ splitL b tr l, (Lit.int .i64 x).wf = true) := fun x hx => by
    obtain ⟨j, hj, rfl⟩ := List.getElem_of_mem hx
    have := split_bd b h2 tr l j hj
    rw [getD_at _ j hj] at this
    exact dig_wf h2 this
  have HWT := hide (fun x h => withL_take b tr t l x h)
  have HWL := hide (withL_len b tr t l)
  obtain ⟨K, hK⟩ : ∃ K : Nat, kindsI b = (K : Int) := ⟨(kindsI b).toNat, by omega⟩
  have hK6 : K ≤ 6 := by omega
  have HPO : Hid (∀ (x : Nat), x < K → ∀ ad cd W, Sl W ad (tr + 1) (putD b tr t (x : Int) l) → Calls Tryd.prog 54 #[.int .i64 b, .slice ad ((tr + 1 : Nat) : Nat) cd] W fun e w' => e = .returned (.int .i64 (packL b (putD b tr t (x : Int) l))) ∧ ∃ n, w' = W.drewN n) := fun x hx ad cd W h => packOf_any b ad (tr + 1) cd _ W h1 h2 (by omega) (digB_put b h2 (by omega) l) h
  have HPW : Hid (∀ (x : Nat), x < K → ∀ y ∈ putD b tr t (x : Int) l, (Lit.int .i64 y).wf = true) := fun x hx y hy => by
    obtain ⟨j, hj, rfl⟩ := List.getElem_of_mem hy
    have := putD_bd b h2 (tr := tr) (t := t) (x := (x : Int)) (by omega) l j hj
    rw [getD_at _ j hj] at this
    exact dig_wf h2 this
  have HPD : Hid (∀ x : Int, putD b tr t x l = (splitL b tr l).take t ++ [x] ++ (splitL b tr l).drop t) := fun x => rfl
  have HWW : Hid (∀ y ∈ withL b tr t l, (Lit.int .i64 y).wf = true) := fun y hy => by
    obtain ⟨x, hx, rfl⟩ := List.mem_map.1 hy
    rw [List.mem_range] at hx
    have h3 := pack_bd b h2 _ (putD_bd b h2 (tr := tr) (t := t) (x := (x : Int)) (by omega) l)
    rw [putD_len ht] at h3
    have h5 := pw_bd (kindsI b) hkb.1 hkb.2 (tr + 1) (by omega)
    exact WalkArith.wf_i64 (by omega)
  rw [hK] at HRX HWT HWL
  rw [Int.toNat_natCast] at HWT HWL
  generalize withL b tr t l = WL at HWT HWL HWW ⊢
  generalize hDD : splitL b tr l = DD at HST HSL HSW HPD
  clear hDD hkb hK
  go_enter Tryd.func29, Tryd.ntmps29
  go_wp2
  go_loopw [9, 10] (fun v iv wx => ∃ i : Nat, i ≤ tr ∧ iv = .int .i64 i ∧ Grow w (DD.take i) v wx) (fun _ iv _ => tr - (intOf iv).toNat)
  case atStart => exact ⟨0, by omega, rfl, grow_nil w⟩
  case round =>
    obtain ⟨i, hi, rfl, hgr⟩ := hrel
    have HGR := hide hgr
    clear hgr
    by_cases hlt : i < tr
    · have hlti : (i : Int) < (tr : Int) := by omega
      have HDC := hide (fun W => HDO.out i W hlt)
      have HTK := hide (HST.out i hlt)
      generalize dOf b tr l i = u at HDC HTK
      have HTL : Hid ((DD.take i).length = i) := by show _ = _; rw [List.length_take]; have := HSL.out; omega
      have HOWN := hide HGR.out.1
      rw [HTL.out] at HOWN
      have HSZ := hide HGR.out.2.size
      go_wp2_with fail
      refine (HDC.out wr).mono ?_
      rintro e w' ⟨rfl, hw⟩
      rw [hw]
      clear hw w'
      go_wp2_with (at_builtin; refine wpList_append_own _ rfl _ _ 35 rfl w.heap.size 3 i0 (.int .i64 0) 1 8 Tryd.underlying35 hi0 hz0 hz1 hz2 rfl (by decide) _ i ((DD.take i).map (Value.int .i64)) rfl (HOWN.out.alloc _) ⟨wr.heap.size, 0, none⟩ 1 1 [.int .i64 u] rfl rfl (one_new _ _ _) (fun u hu => by simp at hu; subst hu; rfl) (by unfold maxLen; omega) (by omega) (by have := HSZ.out; simp; omega) ?_; intro v3 w6 hown hgrow _)
      go_roundw
      case rel => exact ⟨i + 1, by omega, by go_num, by rw [HTK.out]; exact grow_push HGR.out (by rw [HTL.out]; exact hown) hgrow⟩
      case measure => simp [intOf]; omega
    · have hlti : ¬ (i : Int) < (tr : Int) := by omega
      obtain rfl : tr = i := by omega
      have HFULL : Hid (DD.take tr = DD) := List.take_of_length_le (by have := HSL.out; omega)
      rw [HFULL.out] at HGR
      obtain ⟨ad, cd, rfl, hsr⟩ := sl_of_owns rfl (by unfold maxLen; have := HSL.out; omega) HSW.out HGR.out.1
      have hsr1 := hsr.1
      rw [HSL.out] at hsr1 ⊢
      have HSD := hide hsr1
      have HBW := hide HGR.out.2
      have hdn : ad = none → cd = 0 := by
        intro e
        subst e
        rcases HGR.out.1.2 with ⟨h, -⟩ | ⟨g, cap, cur, h, -⟩
        · injection h with _ _ h
        · cases h
      have hdc : tr ≤ cd := by
        rcases HGR.out.1.2 with ⟨h, h'⟩ | ⟨g, cap, cur, h, -, -, hc, -⟩
        · have := HSL.out; omega
        · have := HSL.out; injection h with h5 h6 h7; omega
      clear hsr hsr1
      go_wp2
      obtain ⟨w2, hw2⟩ : ∃ w2 : World, w2 = wr := ⟨_, rfl⟩
      rw [← hw2] at HGR HSD HBW ⊢
      clear hw2 wr
      go_loopw [11, 12] (fun v xv wx => ∃ x : Nat, x ≤ K ∧ xv = .int .i64 x ∧ Grow w2 (WL.take x) v wx) (fun _ xv _ => K - (intOf xv).toNat)
      case atStart => exact ⟨0, by omega, rfl, grow_nil w2⟩
      case round =>
        obtain ⟨x, hx, rfl, hgx⟩ := hrel
        have HGX := hide hgx
        clear hgx
        by_cases hxk : x < K
        · have hxi : (x : Int) < (K : Int) := by omega
          have HBX := hide (HBW.out.trans (HGX.out.2.mono HBW.out.size))
          have HFR : Hid (Sl wr ad t (DD.take t)) := sl_front (sl_below HSD.out HGX.out.2) ht
          have hfr := fun W => run_front ad tr cd t (by omega) W
          obtain ⟨ad2, hbk, HBK, hdn2⟩ : ∃ ad2 : Option Addr, (∀ W, (Instr.slice 35 (.slice ad tr cd) (some (.int .i64 (t : Int))) none none).run Tryd.prog W = .ok (.slice ad2 (tr - t) (cd - t)) W) ∧ Hid (∀ W, Below w2.heap.size w2 W → Sl W ad2 (tr - t) (DD.drop t)) ∧ (ad2 = none → cd - t = 0) := by
            cases ad with
            | none =>
              have h0 := hdn rfl
              subst h0
              obtain rfl : tr = 0 := by omega
              obtain rfl : t = 0 := by omega
              refine ⟨none, fun W => ?_, fun W hW => ?_, fun _ => rfl⟩
              · unfold Instr.slice Instr.sliceBounds Instr.sliceBound
                obtain ⟨i, hi, hz0, hz1, hz2⟩ := info_parts info3
                simp only [Sem.run_bind, run_underlying Tryd.underlying35, Result.andThen_ok, Sem.run_pure, asIntOf]
                simp [sizeOf, typeInfo, hi, hz1]
              · have := sl_below HSD.out hW
                simpa using this
            | some x =>
              obtain ⟨bd, od, sp⟩ := x
              obtain rfl : sp = none := by
                rcases HGR.out.1.2 with ⟨h, -⟩ | ⟨g, cap, cur, h, -⟩
                · cases h
                · injection h with h; injection h with h; injection h
              exact ⟨_, fun W => run_back bd od tr cd t ht hdc W, fun W hW => sl_back (sl_below HSD.out hW) ht (fun h => by rw [if_neg (by omega)]), fun h => by cases h⟩
          have HLF : Hid ((DD.take t).length = t) := by show _ = _; rw [List.length_take]; have := HSL.out; omega
          have HPDx := hide (HPD.out (x : Int))
          have HPOx := hide (HPO.out x hxk)
          have HPWx := hide (HPW.out x hxk)
          have HWTx := hide (HWT.out x hxk)
          have HPLx : Hid ((putD b tr t (x : Int) l).length = tr + 1) := putD_len ht _ _
          generalize putD b tr t (x : Int) l = PD at HPDx HPOx HPWx HWTx HPLx
          go_wp2_with (first
            | (go_at_call 47; refine (HRX.out _).mono ?_; rintro e w' ⟨rfl, hw'⟩; obtain rfl := hw'.symm)
            | (at_builtin; refine wpList_append_sl rfl _ _ rfl wr.heap.size (.slice none 0 0) [] rfl (World.ownsRow_nil _ _ _ _) ad t cd (DD.take t) rfl HFR.out hdn (by simp) (by omega) (Nat.le_refl _) ?_; intro v1 wA hownA hgrowA; have HG1 : Hid (GrowR wr (DD.take t) v1 wA) := ⟨by simpa using hownA, Below.grown (Below.refl _ _) hgrowA (Nat.le_refl _) (fun k hk => by simp [Value.ownBlock] at hk)⟩; have HO1 := hide HG1.out.1; rw [HLF.out] at HO1; have HZ1 := hide HG1.out.2.size; clear hownA hgrowA)
            | (at_builtin; refine wpList_append_own _ rfl _ _ 35 rfl wr.heap.size 3 i0 (.int .i64 0) 1 8 Tryd.underlying35 hi0 hz0 hz1 hz2 rfl (by decide) v1 t ((DD.take t).map (Value.int .i64)) rfl (HO1.out.alloc _) ⟨wA.heap.size, 0, none⟩ 1 1 [.int .i64 (x : Int)] rfl rfl (one_new _ _ _) (fun u hu => by simp at hu; subst hu; rfl) (by unfold maxLen; omega) (by omega) (by have := HZ1.out; simp; omega) ?_; intro v2 wB hownB hgrowB _; have HG2 : Hid (GrowR wr (DD.take t ++ [(x : Int)]) v2 wB) := growR_push HG1.out (by rw [HLF.out]; exact hownB) hgrowB; clear hownB hgrowB)
            | (at_builtin; refine wpList_append_sl rfl _ _ rfl wr.heap.size v2 (DD.take t ++ [(x : Int)]) rfl HG2.out.1 ad2 (tr - t) (cd - t) (DD.drop t) rfl (HBK.out wB (below_step HGX.out.2 HG2.out.2)) hdn2 (by rw [List.length_append, HLF.out]; simp; omega) (by omega) HG2.out.2.size ?_; intro v3 wC hownC hgrowC; have HG3 : Hid (GrowR wr PD v3 wC) := ⟨by rw [HPDx.out]; exact hownC, Below.grown HG2.out.2 hgrowC HG2.out.2.size (fun k hk => (HG2.out.1.lt k hk).1)⟩; obtain ⟨ar, cr, rfl, hsr⟩ := sl_of_owns rfl (by rw [HPLx.out]; unfold maxLen; omega) HPWx.out HG3.out.1; have hsr1 := hsr.1; rw [HPLx.out] at hsr1 ⊢; have HSR := hide hsr1; clear hownC hgrowC hsr hsr1))
          refine (HPOx.out ar cr wC HSR.out).mono ?_
          rintro e w' ⟨rfl, nn, hw'⟩
          have HGW := hide (grow_below HGX.out (below_step HG3.out.2 (below_drewN (Below.refl wC.heap.size wC) nn)))
          rw [hw']
          clear hw' w' hfr hbk
          generalize wC.drewN nn = w5 at HGW ⊢
          have HTLx : Hid ((WL.take x).length = x) := by show _ = _; rw [List.length_take]; have := HWL.out; omega
          have HOWN := hide HGW.out.1
          rw [HTLx.out] at HOWN
          have HSZ := hide HGW.out.2.size
          generalize packL b PD = pk at HWTx
          go_wp2_with (at_builtin; refine wpList_append_own _ rfl _ _ 35 rfl w2.heap.size 3 i0 (.int .i64 0) 1 8 Tryd.underlying35 hi0 hz0 hz1 hz2 rfl (by decide) _ x ((WL.take x).map (Value.int .i64)) rfl (HOWN.out.alloc _) ⟨w5.heap.size, 0, none⟩ 1 1 [.int .i64 pk] rfl rfl (one_new _ _ _) (fun u hu => by simp at hu; subst hu; rfl) (by unfold maxLen; omega) (by omega) (by have := HSZ.out; simp; omega) ?_; intro v6 w6 hown hgrow _)
          go_roundw
          case rel => exact ⟨x + 1, by omega, by go_num, by rw [HWTx.out]; exact grow_push HGW.out (by rw [HTLx.out]; exact hown) hgrow⟩
          case measure => simp [intOf]; omega
        · have hxi : ¬ (x : Int) < (K : Int) := by omega
          obtain rfl : K = x := by omega
          have HFULL2 : Hid (WL.take K = WL) := List.take_of_length_le (by have := HWL.out; omega)
          rw [HFULL2.out] at HGX
          obtain ⟨ar, cr, rfl, hsr⟩ := sl_of_owns rfl (by rw [HWL.out]; unfold maxLen; omega) HWW.out HGX.out.1
          have HSR := hide hsr
          clear hsr
          go_wp2_with (go_at_call 47; refine (HRX.out _).mono ?_; rintro e w' ⟨rfl, hw'⟩; obtain rfl := hw'.symm)
          go_ret
          exact ⟨ar, cr, rfl, HSR.out.mono HBW.out.size, HBW.out.trans (HGX.out.2.mono HBW.out.size)⟩
end Go.Proofs.YtlgjadnkokmjoaaDoor

/- The reference's FixOf: contract. -/
namespace Go.Proofs.YtlgjadnkokmjoaaDoor
open Go.RowKit

/-- One track fewer has no more letters. -/
theorem many_less {b : Int} {tr : Nat} (h : codeM b ((tr : Int) + 1) = 0) : codeM b (tr : Int) = 0 ∧ manyU b (tr : Int) = pw (kindsI b) tr ∧ 1 ≤ manyU b (tr : Int) ∧ manyU b (tr : Int) ≤ 36 ∧ pw (kindsI b) (tr + 1) = manyU b ((tr : Int) + 1) ∧ tr ≤ 4 ∧ 1 ≤ b ∧ b ≤ 6 := by
  obtain ⟨h1, h2, h3, h4, h5, h6⟩ := codeM_zero h
  have hk := kinds_bd2 b h2
  rw [show ((tr : Int) + 1).toNat = tr + 1 by omega] at h5 h6
  have hp := pw_pos (kindsI b) hk.1 tr
  have hle : pw (kindsI b) tr ≤ 36 := by
    rw [pw_succ] at h5
    have := Int.mul_le_mul_of_nonneg_left (show (1 : Int) ≤ kindsI b by omega) (show 0 ≤ pw (kindsI b) tr by omega)
    omega
  have hc : codeM b (tr : Int) = 0 := by
    rw [codeM_yes h1 h2 (by omega) (by omega), Int.toNat_natCast, if_pos hle]
  have hm : manyU b (tr : Int) = pw (kindsI b) tr := by
    have := (codeM_zero hc).2.2.2.2.2
    rwa [Int.toNat_natCast] at this
  exact ⟨hc, hm, by omega, by omega, h6.symm, by omega, h1, h2⟩

end Go.Proofs.YtlgjadnkokmjoaaDoor

/- A track left out: the sets that come up, the words that are taken; mathematics. -/
namespace Go.Proofs.YtlgjadnkokmjoaaDoor
open Go.RowKit

theorem withL_ok {b : Int} (h2 : b ≤ 6) {tr tk : Nat} (ht : tk ≤ tr) {m : Nat} (hm : pw (kindsI b) (tr + 1) = (m : Int)) (l : Int) : ∀ x ∈ withL b tr tk l, 0 ≤ x ∧ x < (m : Int) := by
  intro x hx
  obtain ⟨y, hy, rfl⟩ := List.mem_map.1 hx
  have hk := kinds_bd2 b h2
  have := pack_bd b h2 (putD b tr tk (y : Int) l) (putD_bd b h2 ⟨by omega, by have := List.mem_range.1 hy; omega⟩ l)
  rwa [putD_len ht, hm] at this
end Go.Proofs.YtlgjadnkokmjoaaDoor

/- A track left out, word by word: mathematics of the laws SomeTakes and SomeOrder. -/
namespace Go.Proofs.YtlgjadnkokmjoaaDoor
open Go.RowKit

/-- A letter with a track left out. -/
def delT (b : Int) (tr tk : Nat) (y : Int) : Int := packL b ((splitL b (tr + 1) y).eraseIdx tk)
theorem erase_bd {b : Int} {ds : List Int} (tk : Nat) (h : ∀ j, j < ds.length → 0 ≤ ds.getD j 0 ∧ ds.getD j 0 < kindsI b) : ∀ j, j < (ds.eraseIdx tk).length → 0 ≤ (ds.eraseIdx tk).getD j 0 ∧ (ds.eraseIdx tk).getD j 0 < kindsI b := by
  intro j hj
  have hm : (ds.eraseIdx tk).getD j 0 ∈ ds := by
    rw [getD_at _ j hj]
    exact (List.eraseIdx_sublist ds tk).subset (List.getElem_mem hj)
  obtain ⟨i, hi, e⟩ := List.getElem_of_mem hm
  rw [← e, ← getD_at _ i hi]
  exact h i hi
theorem put_erase {b : Int} {tr tk : Nat} (ht : tk ≤ tr) (x l : Int) : (putD b tr tk x l).eraseIdx tk = splitL b tr l := by
  unfold putD
  have hl : ((splitL b tr l).take tk).length = tk := by rw [List.length_take, splitL_length]; omega
  rw [List.append_assoc, List.eraseIdx_append_of_length_le (by omega), hl, Nat.sub_self]
  simp
theorem delT_bd {b : Int} (h2 : b ≤ 6) {tr tk mu : Nat} (ht : tk ≤ tr) (hf : pw (kindsI b) tr = (mu : Int)) (y : Int) : 0 ≤ delT b tr tk y ∧ delT b tr tk y < (mu : Int) := by
  have := pack_bd b h2 ((splitL b (tr + 1) y).eraseIdx tk) (erase_bd tk (split_bd b h2 (tr + 1) y))
  rw [List.length_eraseIdx_of_lt (by rw [splitL_length]; omega), splitL_length, show tr + 1 - 1 = tr by omega, hf] at this
  exact this
theorem mem_withL {b : Int} (h2 : b ≤ 6) {tr tk m mu : Nat} (ht : tk ≤ tr) (hm : pw (kindsI b) (tr + 1) = (m : Int)) (hf : pw (kindsI b) tr = (mu : Int)) {y l : Int} (hl : 0 ≤ l ∧ l < (mu : Int)) : y ∈ withL b tr tk l ↔ (0 ≤ y ∧ y < (m : Int)) ∧ delT b tr tk y = l := by
  have hkb := kinds_bd2 b h2
  constructor
  · intro h
    refine ⟨withL_ok h2 ht hm l y h, ?_⟩
    obtain ⟨x, hx, rfl⟩ := List.mem_map.1 h
    have hx' := List.mem_range.1 hx
    unfold delT
    have e := split_pack b h2 (putD b tr tk (x : Int) l) (putD_bd b h2 ⟨by omega, by omega⟩ l)
    rw [putD_len ht] at e
    rw [e, put_erase ht, pack_split b h2 tr l hl.1 (by rw [hf]; exact hl.2)]
  · rintro ⟨hy, rfl⟩
    have hlen : ((splitL b (tr + 1) y).eraseIdx tk).length = tr := by rw [List.length_eraseIdx_of_lt (by rw [splitL_length]; omega), splitL_length]; omega
    have e := split_pack b h2 ((splitL b (tr + 1) y).eraseIdx tk) (erase_bd tk (split_bd b h2 (tr + 1) y))
    rw [hlen] at e
    have hd := split_bd b h2 (tr + 1) y tk (by rw [splitL_length]; omega)
    refine List.mem_map.2 ⟨((splitL b (tr + 1) y).getD tk 0).toNat, List.mem_range.2 (by omega), ?_⟩
    rw [show ((((splitL b (tr + 1) y).getD tk 0).toNat : Nat) : Int) = (splitL b (tr + 1) y).getD tk 0 by omega]
    have hp : putD b tr tk ((splitL b (tr + 1) y).getD tk 0) (delT b tr tk y) = splitL b (tr + 1) y := by
      unfold putD delT
      rw [e]
      have hlt : tk < (splitL b (tr + 1) y).length := by rw [splitL_length]; omega
      generalize splitL b (tr + 1) y = ds at hlt
      rw [List.eraseIdx_eq_take_drop_succ, List.take_append_of_le_length (by rw [List.length_take]; omega), List.take_take, Nat.min_self, List.drop_append_of_le_length (by rw [List.length_take]; omega)]
      rw [show List.drop tk (List.take tk ds) = [] by rw [List.drop_eq_nil_iff, List.length_take]; omega]
      rw [List.nil_append, getD_at _ tk hlt, List.append_assoc]
      show ds.take tk ++ (ds[tk] :: ds.drop (tk + 1)) = ds
      rw [← List.drop_eq_getElem_cons hlt, List.take_append_drop]
    rw [hp, pack_split b h2 (tr + 1) y hy.1 (by rw [hm]; exact hy.2)]
end Go.Proofs.YtlgjadnkokmjoaaDoor
