/- 9 texts in one. -/
import Derived.Deep.RegionHeldLaw
import Derived.Test.YtleebojibobgaaaAx
import Derived.Test.YtleebojibobgaaaEf
import Derived.Test.YtleebojibobgaaaZMp
import Derived.Test.YtleebojibobgaaaZAt
import Derived.Test.YtleebojibobgaaaBt
import Derived.Test.YtleebojibobgaaaZCf
import Derived.Test.YtleebojibobgaaaZLb
import Derived.Test.YtleebojibobgaaaLq
import Derived.Test.YtleebojibobgaaaZNx
import Derived.Test.YtleebojibobgaaaBp
/- The reference's Without: contract. -/
namespace Go.Proofs.Ytleebojibobgaaa
open Go.RowKit

/-- The letters that have letter l of the others, and any digit on track t. -/
def withL (b : Int) (tr t : Nat) (l : Int) : List Int := (List.range (kindsI b).toNat).map fun x : Nat => packL b (putD b tr t (x : Int) l)
theorem withL_len (b : Int) (tr t : Nat) (l : Int) : (withL b tr t l).length = (kindsI b).toNat := by simp [withL]
theorem withL_take (b : Int) (tr t : Nat) (l : Int) (x : Nat) (hx : x < (kindsI b).toNat) : (withL b tr t l).take (x + 1) = (withL b tr t l).take x ++ [packL b (putD b tr t (x : Int) l)] := by
  rw [List.take_succ_eq_append_getElem (by rw [withL_len]; exact hx)]
  simp [withL]
theorem split_take (b : Int) (tr : Nat) (l : Int) (i : Nat) (hi : i < tr) : (splitL b tr l).take (i + 1) = (splitL b tr l).take i ++ [dOf b tr l i] := by
  rw [List.take_succ_eq_append_getElem (by rw [splitL_length]; exact hi)]
  simp [splitL]
theorem digB_put (b : Int) (h2 : b ≤ 6) {tr t : Nat} {x : Int} (hx : 0 ≤ x ∧ x < kindsI b) (l : Int) : digB b (putD b tr t x l) = true := by
  unfold digB
  rw [List.all_eq_true]
  intro y hy
  obtain ⟨j, hj, rfl⟩ := List.getElem_of_mem hy
  have := putD_bd b h2 (tr := tr) (t := t) hx l j hj
  rw [getD_at _ j hj] at this
  simpa using this
/-- A part of what a slice reads as. -/
theorem sl_front {w : World} {ad : Option Addr} {len : Nat} {l : List Int} (h : Sl w ad len l) {t : Nat} (ht : t ≤ len) : Sl w ad t (l.take t) := by
  obtain ⟨h1, h2, h3, h4⟩ := h
  refine ⟨by rw [List.length_take]; omega, by omega, fun x hx => h3 x (List.mem_of_mem_take hx), ?_⟩
  rcases h4 with h4 | ⟨b, o, rfl, hc⟩
  · exact .inl (by omega)
  · refine .inr ⟨b, o, rfl, fun i hi => ?_⟩
    rw [hc i (by omega)]
    simp [List.getD, hi]
theorem sl_back {w : World} {b o : Nat} {len : Nat} {l : List Int} (h : Sl w (some ⟨b, o, none⟩) len l) {t : Nat} (ht : t ≤ len) {o' : Nat} (ho : t < len → o' = o + t) : Sl w (some ⟨b, o', none⟩) (len - t) (l.drop t) := by
  obtain ⟨h1, h2, h3, h4⟩ := h
  refine ⟨by rw [List.length_drop]; omega, by omega, fun x hx => h3 x (List.mem_of_mem_drop hx), ?_⟩
  rcases h4 with h4 | ⟨b', o2, e, hc⟩
  · exact .inl (by omega)
  · cases e
    by_cases hl : t < len
    · refine .inr ⟨b, o', rfl, fun i hi => ?_⟩
      rw [ho hl, Nat.add_assoc, hc (t + i) (by omega)]
      simp [List.getD]
    · exact .inl (by omega)

/-- 'd[:t]', 'd[t:]'. -/
theorem run_front (ad : Option Addr) (n c t : Nat) (ht : t ≤ c) (W : World) : (Instr.slice 26 (.slice ad n c) none (some (.int .i64 (t : Int))) none).run Try.prog W = .ok (.slice ad t c) W := by
  obtain ⟨i, hi, hz0, hz1, hz2⟩ := info_parts info3
  unfold Instr.slice Instr.sliceBounds Instr.sliceBound
  simp only [Sem.run_bind, run_underlying Try.underlying26, Result.andThen_ok, Sem.run_pure, asIntOf]
  simp [sizeOf, typeInfo, hi, hz1, ht]
  intro _
  cases ad <;> rfl
theorem run_back (b o n c t : Nat) (ht : t ≤ n) (hn : n ≤ c) (W : World) : (Instr.slice 26 (.slice (some ⟨b, o, none⟩) n c) (some (.int .i64 (t : Int))) none none).run Try.prog W = .ok (.slice (some ⟨b, if t = c then o else o + t, none⟩) (n - t) (c - t)) W := by
  obtain ⟨i, hi, hz0, hz1, hz2⟩ := info_parts info3
  unfold Instr.slice Instr.sliceBounds Instr.sliceBound
  simp only [Sem.run_bind, run_underlying Try.underlying26, Result.andThen_ok, Sem.run_pure, asIntOf]
  simp [sizeOf, typeInfo, hi, hz1, Addr.add_lit]
  rw [if_pos ht]
  by_cases e : t = c
  · subst e; simp
  · rw [if_neg (Ne.symm e), if_neg e]

set_option maxHeartbeats 16000000 in
set_option maxRecDepth 8000 in
theorem withoutOf_any (b : Int) (tr t : Nat) (l : Int) (w : World) (h1 : 1 ≤ b) (h2 : b ≤ 6) (h4 : tr ≤ 4) (ht : t ≤ tr) (hl : 0 ≤ l) (hl' : l ≤ 100000000) :
    Calls Try.prog 9 #[.int .i64 b, .int .i64 ((tr : Int) + 1), .int .i64 t, .int .i64 l] w (GivesRow w (withL b tr t l)) := by
  have hkb := kinds_bd2 b h2
  obtain ⟨i0, hi0, hz0, hz1, hz2⟩ := info_parts info3
  have HDO := hide (fun i W hi => digitOf_any b tr l i W h1 h2 (by omega) hi hl hl')
  have HRX := hide (fun W => radix_yes b W h1 h2)
  have HST := hide (fun i h => split_take b tr l i h)
  have HSL := hide (splitL_length b tr l)
  have HSW : Hid (∀ x ∈ splitL b tr l, (Lit.int .i64 x).wf = true) := fun x hx => by
    obtain ⟨j, hj, rfl⟩ := List.getElem_of_mem hx
    have := split_bd b h2 tr l j hj
    rw [getD_at _ j hj] at this
    exact dig_wf h2 this
  have HWT := hide (fun x h => withL_take b tr t l x h)
  have HWL := hide (withL_len b tr t l)
  obtain ⟨K, hK⟩ : ∃ K : Nat, kindsI b = (K : Int) := ⟨(kindsI b).toNat, by omega⟩
  have hK6 : K ≤ 6 := by omega
  have HPO : Hid (∀ (x : Nat), x < K → ∀ ad cd W, Sl W ad (tr + 1) (putD b tr t (x : Int) l) → Calls Try.prog 20 #[.int .i64 b, .slice ad ((tr + 1 : Nat) : Nat) cd] W fun e w' => e = .returned (.int .i64 (packL b (putD b tr t (x : Int) l))) ∧ ∃ n, w' = W.drewN n) := fun x hx ad cd W h => packOf_any b ad (tr + 1) cd _ W h1 h2 (by omega) (digB_put b h2 (by omega) l) h
  have HPW : Hid (∀ (x : Nat), x < K → ∀ y ∈ putD b tr t (x : Int) l, (Lit.int .i64 y).wf = true) := fun x hx y hy => by
    obtain ⟨j, hj, rfl⟩ := List.getElem_of_mem hy
    have := putD_bd b h2 (tr := tr) (t := t) (x := (x : Int)) (by omega) l j hj
    rw [getD_at _ j hj] at this
    exact dig_wf h2 this
  have HPD : Hid (∀ x : Int, putD b tr t x l = (splitL b tr l).take t ++ [x] ++ (splitL b tr l).drop t) := fun x => rfl
  have HWW : Hid (∀ y ∈ withL b tr t l, (Lit.int .i64 y).wf = true) := fun y hy => by
    obtain ⟨x, hx, rfl⟩ := List.mem_map.1 hy
    rw [List.mem_range] at hx
    have h3 := pack_bd b h2 _ (putD_bd b h2 (tr := tr) (t := t) (x := (x : Int)) (by omega) l)
    rw [putD_len ht] at h3
    have h5 := pw_bd (kindsI b) hkb.1 hkb.2 (tr + 1) (by omega)
    exact WalkArith.wf_i64 (by omega)
  rw [hK] at HRX HWT HWL
  rw [Int.toNat_natCast] at HWT HWL
  generalize withL b tr t l = WL at HWT HWL HWW ⊢
  generalize hDD : splitL b tr l = DD at HST HSL HSW HPD
  clear hDD hkb hK
  go_enter Try.func9, Try.ntmps9
  go_wp2
  go_loopw [9, 10] (fun v iv wx => ∃ i : Nat, i ≤ tr ∧ iv = .int .i64 i ∧ Grow w (DD.take i) v wx) (fun _ iv _ => tr - (intOf iv).toNat)
  case atStart => exact ⟨0, by omega, rfl, grow_nil w⟩
  case round =>
    obtain ⟨i, hi, rfl, hgr⟩ := hrel
    have HGR := hide hgr
    clear hgr
    by_cases hlt : i < tr
    · have hlti : (i : Int) < (tr : Int) := by omega
      have HDC := hide (fun W => HDO.out i W hlt)
      have HTK := hide (HST.out i hlt)
      generalize dOf b tr l i = u at HDC HTK
      have HTL : Hid ((DD.take i).length = i) := by show _ = _; rw [List.length_take]; have := HSL.out; omega
      have HOWN := hide HGR.out.1
      rw [HTL.out] at HOWN
      have HSZ := hide HGR.out.2.size
      go_wp2_with fail
      refine (HDC.out wr).mono ?_
      rintro e w' ⟨rfl, hw⟩
      rw [hw]
      clear hw w'
      go_wp2_with (at_builtin; refine wpList_append_own _ rfl _ _ 26 rfl w.heap.size 3 i0 (.int .i64 0) 1 8 Try.underlying26 hi0 hz0 hz1 hz2 rfl (by decide) _ i ((DD.take i).map (Value.int .i64)) rfl (HOWN.out.alloc _) ⟨wr.heap.size, 0, none⟩ 1 1 [.int .i64 u] rfl rfl (one_new _ _ _) (fun u hu => by simp at hu; subst hu; rfl) (by unfold maxLen; omega) (by omega) (by have := HSZ.out; simp; omega) ?_; intro v3 w6 hown hgrow _)
      go_roundw
      case rel => exact ⟨i + 1, by omega, by go_num, by rw [HTK.out]; exact grow_push HGR.out (by rw [HTL.out]; exact hown) hgrow⟩
      case measure => simp [intOf]; omega
    · have hlti : ¬ (i : Int) < (tr : Int) := by omega
      obtain rfl : tr = i := by omega
      have HFULL : Hid (DD.take tr = DD) := List.take_of_length_le (by have := HSL.out; omega)
      rw [HFULL.out] at HGR
      obtain ⟨ad, cd, rfl, hsr⟩ := sl_of_owns rfl (by unfold maxLen; have := HSL.out; omega) HSW.out HGR.out.1
      have hsr1 := hsr.1
      rw [HSL.out] at hsr1 ⊢
      have HSD := hide hsr1
      have HBW := hide HGR.out.2
      have hdn : ad = none → cd = 0 := by
        intro e
        subst e
        rcases HGR.out.1.2 with ⟨h, -⟩ | ⟨g, cap, cur, h, -⟩
        · injection h with _ _ h
        · cases h
      have hdc : tr ≤ cd := by
        rcases HGR.out.1.2 with ⟨h, h'⟩ | ⟨g, cap, cur, h, -, -, hc, -⟩
        · have := HSL.out; omega
        · have := HSL.out; injection h with h5 h6 h7; omega
      clear hsr hsr1
      go_wp2
      obtain ⟨w2, hw2⟩ : ∃ w2 : World, w2 = wr := ⟨_, rfl⟩
      rw [← hw2] at HGR HSD HBW ⊢
      clear hw2 wr
      go_loopw [11, 12] (fun v xv wx => ∃ x : Nat, x ≤ K ∧ xv = .int .i64 x ∧ Grow w2 (WL.take x) v wx) (fun _ xv _ => K - (intOf xv).toNat)
      case atStart => exact ⟨0, by omega, rfl, grow_nil w2⟩
      case round =>
        obtain ⟨x, hx, rfl, hgx⟩ := hrel
        have HGX := hide hgx
        clear hgx
        by_cases hxk : x < K
        · have hxi : (x : Int) < (K : Int) := by omega
          have HBX := hide (HBW.out.trans (HGX.out.2.mono HBW.out.size))
          have HFR : Hid (Sl wr ad t (DD.take t)) := sl_front (sl_below HSD.out HGX.out.2) ht
          have hfr := fun W => run_front ad tr cd t (by omega) W
          obtain ⟨ad2, hbk, HBK, hdn2⟩ : ∃ ad2 : Option Addr, (∀ W, (Instr.slice 26 (.slice ad tr cd) (some (.int .i64 (t : Int))) none none).run Try.prog W = .ok (.slice ad2 (tr - t) (cd - t)) W) ∧ Hid (∀ W, Below w2.heap.size w2 W → Sl W ad2 (tr - t) (DD.drop t)) ∧ (ad2 = none → cd - t = 0) := by
            cases ad with
            | none =>
              have h0 := hdn rfl
              subst h0
              obtain rfl : tr = 0 := by omega
              obtain rfl : t = 0 := by omega
              refine ⟨none, fun W => ?_, fun W hW => ?_, fun _ => rfl⟩
              · unfold Instr.slice Instr.sliceBounds Instr.sliceBound
                obtain ⟨i, hi, hz0, hz1, hz2⟩ := info_parts info3
                simp only [Sem.run_bind, run_underlying Try.underlying26, Result.andThen_ok, Sem.run_pure, asIntOf]
                simp [sizeOf, typeInfo, hi, hz1]
              · have := sl_below HSD.out hW
                simpa using this
            | some x =>
              obtain ⟨bd, od, sp⟩ := x
              obtain rfl : sp = none := by
                rcases HGR.out.1.2 with ⟨h, -⟩ | ⟨g, cap, cur, h, -⟩
                · cases h
                · injection h with h; injection h with h; injection h
              exact ⟨_, fun W => run_back bd od tr cd t ht hdc W, fun W hW => sl_back (sl_below HSD.out hW) ht (fun h => by rw [if_neg (by omega)]), fun h => by cases h⟩
          have HLF : Hid ((DD.take t).length = t) := by show _ = _; rw [List.length_take]; have := HSL.out; omega
          have HPDx := hide (HPD.out (x : Int))
          have HPOx := hide (HPO.out x hxk)
          have HPWx := hide (HPW.out x hxk)
          have HWTx := hide (HWT.out x hxk)
          have HPLx : Hid ((putD b tr t (x : Int) l).length = tr + 1) := putD_len ht _ _
          generalize putD b tr t (x : Int) l = PD at HPDx HPOx HPWx HWTx HPLx
          go_wp2_with (first
            | (go_at_call 19; refine (HRX.out _).mono ?_; rintro e w' ⟨rfl, hw'⟩; obtain rfl := hw'.symm)
            | (at_builtin; refine wpList_append_sl rfl _ _ rfl wr.heap.size (.slice none 0 0) [] rfl (World.ownsRow_nil _ _ _ _) ad t cd (DD.take t) rfl HFR.out hdn (by simp) (by omega) (Nat.le_refl _) ?_; intro v1 wA hownA hgrowA; have HG1 : Hid (GrowR wr (DD.take t) v1 wA) := ⟨by simpa using hownA, Below.grown (Below.refl _ _) hgrowA (Nat.le_refl _) (fun k hk => by simp [Value.ownBlock] at hk)⟩; have HO1 := hide HG1.out.1; rw [HLF.out] at HO1; have HZ1 := hide HG1.out.2.size; clear hownA hgrowA)
            | (at_builtin; refine wpList_append_own _ rfl _ _ 26 rfl wr.heap.size 3 i0 (.int .i64 0) 1 8 Try.underlying26 hi0 hz0 hz1 hz2 rfl (by decide) v1 t ((DD.take t).map (Value.int .i64)) rfl (HO1.out.alloc _) ⟨wA.heap.size, 0, none⟩ 1 1 [.int .i64 (x : Int)] rfl rfl (one_new _ _ _) (fun u hu => by simp at hu; subst hu; rfl) (by unfold maxLen; omega) (by omega) (by have := HZ1.out; simp; omega) ?_; intro v2 wB hownB hgrowB _; have HG2 : Hid (GrowR wr (DD.take t ++ [(x : Int)]) v2 wB) := growR_push HG1.out (by rw [HLF.out]; exact hownB) hgrowB; clear hownB hgrowB)
            | (at_builtin; refine wpList_append_sl rfl _ _ rfl wr.heap.size v2 (DD.take t ++ [(x : Int)]) rfl HG2.out.1 ad2 (tr - t) (cd - t) (DD.drop t) rfl (HBK.out wB (below_step HGX.out.2 HG2.out.2)) hdn2 (by rw [List.length_append, HLF.out]; simp; omega) (by omega) HG2.out.2.size ?_; intro v3 wC hownC hgrowC; have HG3 : Hid (GrowR wr PD v3 wC) := ⟨by rw [HPDx.out]; exact hownC, Below.grown HG2.out.2 hgrowC HG2.out.2.size (fun k hk => (HG2.out.1.lt k hk).1)⟩; obtain ⟨ar, cr, rfl, hsr⟩ := sl_of_owns rfl (by rw [HPLx.out]; unfold maxLen; omega) HPWx.out HG3.out.1; have hsr1 := hsr.1; rw [HPLx.out] at hsr1 ⊢; have HSR := hide hsr1; clear hownC hgrowC hsr hsr1))
          refine (HPOx.out ar cr wC HSR.out).mono ?_
          rintro e w' ⟨rfl, nn, hw'⟩
          have HGW := hide (grow_below HGX.out (below_step HG3.out.2 (below_drewN (Below.refl wC.heap.size wC) nn)))
          rw [hw']
          clear hw' w' hfr hbk
          generalize wC.drewN nn = w5 at HGW ⊢
          have HTLx : Hid ((WL.take x).length = x) := by show _ = _; rw [List.length_take]; have := HWL.out; omega
          have HOWN := hide HGW.out.1
          rw [HTLx.out] at HOWN
          have HSZ := hide HGW.out.2.size
          generalize packL b PD = pk at HWTx
          go_wp2_with (at_builtin; refine wpList_append_own _ rfl _ _ 26 rfl w2.heap.size 3 i0 (.int .i64 0) 1 8 Try.underlying26 hi0 hz0 hz1 hz2 rfl (by decide) _ x ((WL.take x).map (Value.int .i64)) rfl (HOWN.out.alloc _) ⟨w5.heap.size, 0, none⟩ 1 1 [.int .i64 pk] rfl rfl (one_new _ _ _) (fun u hu => by simp at hu; subst hu; rfl) (by unfold maxLen; omega) (by omega) (by have := HSZ.out; simp; omega) ?_; intro v6 w6 hown hgrow _)
          go_roundw
          case rel => exact ⟨x + 1, by omega, by go_num, by rw [HWTx.out]; exact grow_push HGW.out (by rw [HTLx.out]; exact hown) hgrow⟩
          case measure => simp [intOf]; omega
        · have hxi : ¬ (x : Int) < (K : Int) := by omega
          obtain rfl : K = x := by omega
          have HFULL2 : Hid (WL.take K = WL) := List.take_of_length_le (by have := HWL.out; omega)
          rw [HFULL2.out] at HGX
          obtain ⟨ar, cr, rfl, hsr⟩ := sl_of_owns rfl (by rw [HWL.out]; unfold maxLen; omega) HWW.out HGX.out.1
          have HSR := hide hsr
          clear hsr
          go_wp2_with (go_at_call 19; refine (HRX.out _).mono ?_; rintro e w' ⟨rfl, hw'⟩; obtain rfl := hw'.symm)
          go_ret
          exact ⟨ar, cr, rfl, HSR.out.mono HBW.out.size, HBW.out.trans (HGX.out.2.mono HBW.out.size)⟩
end Go.Proofs.Ytleebojibobgaaa

/- The reference's FixOf: contract. -/
namespace Go.Proofs.Ytleebojibobgaaa
open Go.RowKit

/-- One track fewer has no more letters. -/
theorem many_less {b : Int} {tr : Nat} (h : codeM b ((tr : Int) + 1) = 0) : codeM b (tr : Int) = 0 ∧ manyU b (tr : Int) = pw (kindsI b) tr ∧ 1 ≤ manyU b (tr : Int) ∧ manyU b (tr : Int) ≤ 36 ∧ pw (kindsI b) (tr + 1) = manyU b ((tr : Int) + 1) ∧ tr ≤ 4 ∧ 1 ≤ b ∧ b ≤ 6 := by
  obtain ⟨h1, h2, h3, h4, h5, h6⟩ := codeM_zero h
  have hk := kinds_bd2 b h2
  rw [show ((tr : Int) + 1).toNat = tr + 1 by omega] at h5 h6
  have hp := pw_pos (kindsI b) hk.1 tr
  have hle : pw (kindsI b) tr ≤ 36 := by
    rw [pw_succ] at h5
    have := Int.mul_le_mul_of_nonneg_left (show (1 : Int) ≤ kindsI b by omega) (show 0 ≤ pw (kindsI b) tr by omega)
    omega
  have hc : codeM b (tr : Int) = 0 := by
    rw [codeM_yes h1 h2 (by omega) (by omega), Int.toNat_natCast, if_pos hle]
  have hm : manyU b (tr : Int) = pw (kindsI b) tr := by
    have := (codeM_zero hc).2.2.2.2.2
    rwa [Int.toNat_natCast] at this
  exact ⟨hc, hm, by omega, by omega, h6.symm, by omega, h1, h2⟩

end Go.Proofs.Ytleebojibobgaaa

/- A track left out: the sets that come up, the words that are taken; mathematics. -/
namespace Go.Proofs.Ytleebojibobgaaa
open Go.RowKit

/-- .. by a word that is not longer than they were seen through. -/
theorem outG_short {d : Nat → Nat → Nat} {m f i x : Nat} (h : x ∈ outG d m f i) : ∃ w, okW m w ∧ runG d f w = x ∧ w.length ≤ i := by
  induction i generalizing x with
  | zero => simp [outG] at h; subst h; exact ⟨[], by simp [okW], rfl, by simp⟩
  | succ i ih =>
    unfold outG at h
    split at h
    · rename_i hi
      rcases rowG_mem.1 h with h | ⟨j, hj, rfl⟩
      · obtain ⟨w, h1, h2, h3⟩ := ih h
        exact ⟨w, h1, h2, by omega⟩
      · obtain ⟨w, hw, hr, hl⟩ := ih (getN_mem hi)
        refine ⟨w ++ [(j : Int)], okW_append.2 ⟨hw, fun y hy => by simp at hy; omega⟩, ?_, by simp; omega⟩
        rw [runG_snoc, hr, Int.toNat_natCast]
    · obtain ⟨w, h1, h2, h3⟩ := ih h
      exact ⟨w, h1, h2, by omega⟩
theorem cloM_short {n : Nat} {N : List (List Int)} {ls : List Int} {t : Nat} (h : (cloM N n ls).testBit t = true) : t < n ∧ ∃ z : List Int, (∀ x ∈ z, x ∈ ls) ∧ runL N z = t ∧ z.length ≤ n := by
  unfold cloM at h
  rw [maskB_bit, Bool.and_eq_true, decide_eq_true_iff, decide_eq_true_iff] at h
  obtain ⟨h0, h⟩ := h
  obtain ⟨w, hw, rfl, hl⟩ := outG_short h
  refine ⟨h0, w.map (fun x => ls.getD x.toNat 0), fun x hx => ?_, by rw [run_byL], by rw [List.length_map]; exact hl⟩
  obtain ⟨y, hy, rfl⟩ := List.mem_map.1 hx
  have := hw y hy
  rw [getD_at _ y.toNat (by omega)]
  exact List.getElem_mem _
theorem readAs_ok {read : List (List Int)} {m mu : Nat} (hr : ∀ l, l < mu → ∀ x ∈ read.getD l [], 0 ≤ x ∧ x < (m : Int)) : ∀ {w v : List Int}, okW mu w → readAs read w v → okW m v
  | [], [], _, _ => fun _ h => by cases h
  | x :: w, y :: v, hw, h => fun z hz => by
    rcases List.mem_cons.1 hz with rfl | hz
    · have := hw x (by simp)
      exact hr x.toNat (by omega) z h.1
    · exact readAs_ok hr (fun q hq => hw q (by simp [hq])) h.2 z hz
  | [], _ :: _, _, h => h.elim
  | _ :: _, [], _, h => h.elim
theorem runF_append (N : List (List Int)) (z v : List Int) : runF N (runL N z) v = runL N (z ++ v) := by rw [runL_append]; rfl
theorem runF_lt {m n : Nat} {N : List (List Int)} (hG : GoodN m n N) {s : Nat} (hs : s < n) {v : List Int} (hv : okW m v) : runF N s v < n := by
  induction v generalizing s with
  | nil => exact hs
  | cons x v ih => exact ih (goodN_step hG s hs x (hv x (by simp))).1 (fun y hy => hv y (by simp [hy]))
theorem okW_take {m : Nat} {v : List Int} (h : okW m v) (k : Nat) : okW m (v.take k) := fun x hx => h x (List.mem_of_mem_take hx)

/-- A word is taken by way of sets, just if some word that it may be read as is taken, behind letters that are let in ahead. -/
theorem langS {m n mu : Nat} {N : List (List Int)} (hG : GoodN m n N) (E : List Bool) {read : List (List Int)} {ls : List Int} (hr : ∀ l, l < mu → ∀ x ∈ read.getD l [], 0 ≤ x ∧ x < (m : Int)) (hl : ∀ x ∈ ls, 0 ≤ x ∧ x < (m : Int)) {w : List Int} (hw : okW mu w) :
    endM n E (runG (dM N n read) (cloM N n ls) w) = true ↔ ∃ z v, (∀ x ∈ z, x ∈ ls) ∧ readAs read w v ∧ tkB N E (z ++ v) = true := by
  have hlt : ∀ z : List Int, (∀ x ∈ z, x ∈ ls) → runL N z < n := fun z hz => by
    have := runL_lt hG z z.length (Nat.le_refl _) (fun j hj => hl _ (hz _ (by rw [getD_at _ j hj]; exact List.getElem_mem _)))
    rwa [List.take_length] at this
  rw [endM_iff]
  constructor
  · rintro ⟨t, ht, he, hb⟩
    obtain ⟨-, s, v, h1, h2, -, h4⟩ := (runM_bit w _ (cloM_lt _ _ _) t).1 hb
    obtain ⟨z, hz, rfl⟩ := (cloM_bit hG hl).1 h1
    refine ⟨z, v, hz, h2, ?_⟩
    unfold tkB
    rw [← runF_append, h4]
    exact he
  · rintro ⟨z, v, hz, h2, h3⟩
    have hv := readAs_ok hr hw h2
    have hs := hlt z hz
    refine ⟨runF N (runL N z) v, runF_lt hG hs hv, ?_, (runM_bit w _ (cloM_lt _ _ _) _).2 ⟨runF_lt hG hs hv, runL N z, v, (cloM_bit hG hl).2 ⟨z, hz, rfl⟩, h2, fun k _ => runF_lt hG hs (okW_take hv k), rfl⟩⟩
    rw [runF_append]
    exact h3

/-- How each letter of the others is read. -/
def readS (b : Int) (tr tk mu : Nat) : List (List Int) := (List.range mu).map fun l : Nat => withL b tr tk (l : Int)
theorem readS_len (b : Int) (tr tk mu : Nat) : (readS b tr tk mu).length = mu := by simp [readS]
theorem readS_get {b : Int} {tr tk mu l : Nat} (hl : l < mu) : (readS b tr tk mu).getD l [] = withL b tr tk (l : Int) := by simp [readS, List.getD, hl]
theorem withL_ok {b : Int} (h2 : b ≤ 6) {tr tk : Nat} (ht : tk ≤ tr) {m : Nat} (hm : pw (kindsI b) (tr + 1) = (m : Int)) (l : Int) : ∀ x ∈ withL b tr tk l, 0 ≤ x ∧ x < (m : Int) := by
  intro x hx
  obtain ⟨y, hy, rfl⟩ := List.mem_map.1 hx
  have hk := kinds_bd2 b h2
  have := pack_bd b h2 (putD b tr tk (y : Int) l) (putD_bd b h2 ⟨by omega, by have := List.mem_range.1 hy; omega⟩ l)
  rwa [putD_len ht, hm] at this
theorem readS_ok {b : Int} (h2 : b ≤ 6) {tr tk mu : Nat} (ht : tk ≤ tr) {m : Nat} (hm : pw (kindsI b) (tr + 1) = (m : Int)) : ∀ l, l < mu → ∀ x ∈ (readS b tr tk mu).getD l [], 0 ≤ x ∧ x < (m : Int) := by
  intro l hl
  rw [readS_get hl]
  exact withL_ok h2 ht hm _

/-- The sets of an automaton that come up; of them the automaton. -/
def setsS (N : List (List Int)) (n : Nat) (read : List (List Int)) (ls : List Int) : List Nat := outG (dM N n read) read.length (cloM N n ls) 2000
def setN (N : List (List Int)) (n : Nat) (read : List (List Int)) (ls : List Int) : List (List Int) := gN (dM N n read) read.length (setsS N n read ls)
def setE (N : List (List Int)) (n : Nat) (E : List Bool) (read : List (List Int)) (ls : List Int) : List Bool := gE (endM n E) (setsS N n read ls)
theorem sets_closed {N : List (List Int)} {n : Nat} {read : List (List Int)} {ls : List Int} (h : (setsS N n read ls).length ≤ 2000) : ClosedG (dM N n read) read.length (setsS N n read ls) := outG_closed h
theorem sets_first (N : List (List Int)) (n : Nat) (read : List (List Int)) (ls : List Int) : 0 < (setsS N n read ls).length ∧ (setsS N n read ls).getD 0 0 = cloM N n ls := outG_pos _ _ _ _
theorem setN_good {N : List (List Int)} {n : Nat} {read : List (List Int)} {ls : List Int} (h : (setsS N n read ls).length ≤ 2000) (h1 : 1 ≤ read.length) (h36 : read.length ≤ 36) : GoodN read.length (setsS N n read ls).length (setN N n read ls) := gN_good (sets_closed h) (sets_first _ _ _ _).1 (by omega) h1 h36
theorem setN_tk {N : List (List Int)} {n : Nat} {E : List Bool} {read : List (List Int)} {ls : List Int} (h : (setsS N n read ls).length ≤ 2000) (w : List Int) (hw : okW read.length w) : tkB (setN N n read ls) (setE N n E read ls) w = endM n E (runG (dM N n read) (cloM N n ls) w) := by
  rw [← (sets_first N n read ls).2]
  exact gN_tk (sets_closed h) (sets_first _ _ _ _).1 w hw

/-- Some: the fault of the sets, how many they are; the fault of all, the automaton. -/
def smR (b t tk : Int) : List (List Int) := readS b (t.toNat - 1) tk.toNat (manyU b (t - 1)).toNat
def smL (b t tk : Int) (N : List (List Int)) (E : List Bool) : List Nat := setsS (leastN N E (manyU b t).toNat) (leastK N E (manyU b t).toNat) (smR b t tk) ((smR b t tk).getD 0 [])
def smGN (b t tk : Int) (N : List (List Int)) (E : List Bool) : List (List Int) := setN (leastN N E (manyU b t).toNat) (leastK N E (manyU b t).toNat) (smR b t tk) ((smR b t tk).getD 0 [])
def smGE (b t tk : Int) (N : List (List Int)) (E : List Bool) : List Bool := setE (leastN N E (manyU b t).toNat) (leastK N E (manyU b t).toNat) (leastE N E (manyU b t).toNat) (smR b t tk) ((smR b t tk).getD 0 [])
def smF (b t : Int) (N : List (List Int)) (k : Nat) (tk : Int) : Int := if autoC b t N k = 0 then (if 0 ≤ tk ∧ tk < t then 0 else 1) else autoC b t N k
def smS (b t : Int) (N : List (List Int)) (E : List Bool) (k : Nat) (tk : Int) : Int := if smF b t N k tk = 0 then (if 2000 < (smL b t tk N E).length then 3 else 0) else smF b t N k tk
def smC (b t : Int) (N : List (List Int)) (E : List Bool) (k : Nat) (tk : Int) : Int := if smS b t N E k tk = 0 then (if 80 < leastK (smGN b t tk N E) (smGE b t tk N E) (manyU b (t - 1)).toNat then 3 else 0) else smS b t N E k tk
def smN (b t : Int) (N : List (List Int)) (E : List Bool) (k : Nat) (tk : Int) : List (List Int) := if smC b t N E k tk = 0 then leastN (smGN b t tk N E) (smGE b t tk N E) (manyU b (t - 1)).toNat else []
def smE (b t : Int) (N : List (List Int)) (E : List Bool) (k : Nat) (tk : Int) : List Bool := if smC b t N E k tk = 0 then leastE (smGN b t tk N E) (smGE b t tk N E) (manyU b (t - 1)).toNat else []
theorem smF_zero {b t : Int} {N : List (List Int)} {k : Nat} {tk : Int} (h : smF b t N k tk = 0) : autoC b t N k = 0 ∧ 0 ≤ tk ∧ tk < t := by
  unfold smF at h
  split at h
  · split at h
    · exact ⟨by assumption, by omega, by omega⟩
    · cases h
  · rename_i h1; exact absurd h h1
theorem smS_zero {b t : Int} {N : List (List Int)} {E : List Bool} {k : Nat} {tk : Int} (h : smS b t N E k tk = 0) : smF b t N k tk = 0 ∧ (smL b t tk N E).length ≤ 2000 := by
  unfold smS at h
  split at h
  · split at h
    · cases h
    · exact ⟨by assumption, by omega⟩
  · rename_i h1; exact absurd h h1
theorem smC_zero {b t : Int} {N : List (List Int)} {E : List Bool} {k : Nat} {tk : Int} (h : smC b t N E k tk = 0) : smS b t N E k tk = 0 ∧ leastK (smGN b t tk N E) (smGE b t tk N E) (manyU b (t - 1)).toNat ≤ 80 := by
  unfold smC at h
  split at h
  · split at h
    · cases h
    · exact ⟨by assumption, by omega⟩
  · rename_i h1; exact absurd h h1

/-- What is so where a track can be left out. -/
structure SmWell (b : Int) (tr tk : Nat) (N : List (List Int)) (E : List Bool) (m mu : Nat) : Prop where
  base : 1 ≤ b ∧ b ≤ 6
  tracks : tr ≤ 4 ∧ tk ≤ tr
  good : GoodN m N.length N
  many : pw (kindsI b) (tr + 1) = (m : Int)
  few : pw (kindsI b) tr = (mu : Int)
  few36 : 1 ≤ mu ∧ mu ≤ 36
  code : codeM b (tr : Int) = 0
  mU : (manyU b ((tr : Int) + 1)).toNat = m
  fU : manyU b (tr : Int) = (mu : Int)
  n80 : N.length ≤ 80
theorem sm_well {b t : Int} {N : List (List Int)} (E : List Bool) {k : Nat} {tk : Int} (h : smF b t N k tk = 0) : ∃ tr tkn m mu : Nat, t = (tr : Int) + 1 ∧ tk = (tkn : Int) ∧ k = N.length ∧ SmWell b tr tkn N E m mu := by
  obtain ⟨hA, h0, h1⟩ := smF_zero h
  obtain ⟨hMt, hk, hG, hmu⟩ := autoC_zero hA
  have hn80 := autoC_80 hA
  obtain ⟨tr, rfl⟩ : ∃ tr : Nat, t = (tr : Int) + 1 := ⟨(t - 1).toNat, by omega⟩
  obtain ⟨tkn, rfl⟩ : ∃ tkn : Nat, tk = (tkn : Int) := ⟨tk.toNat, by omega⟩
  obtain ⟨hM, hm1, hm2, hm3, hm4, htr4, hb1, hb2⟩ := many_less hMt
  refine ⟨tr, tkn, (manyU b ((tr : Int) + 1)).toNat, (manyU b (tr : Int)).toNat, rfl, rfl, hk, ⟨⟨hb1, hb2⟩, ⟨htr4, by omega⟩, hG, by rw [hm4]; omega, by rw [← hm1]; omega, by omega, hM, rfl, by omega, hn80⟩⟩
theorem smR_eq {b : Int} {tr tk mu : Nat} (h : manyU b (tr : Int) = (mu : Int)) : smR b ((tr : Int) + 1) (tk : Int) = readS b tr tk mu := by
  unfold smR
  rw [show ((tr : Int) + 1).toNat - 1 = tr by omega, show (tr : Int) + 1 - 1 = (tr : Int) by omega, h, Int.toNat_natCast, Int.toNat_natCast]

/-- Which words are taken. -/
def someL (b : Int) (tr tk mu : Nat) (N : List (List Int)) (E : List Bool) (w : List Int) : Prop := ∃ z v, (∀ x ∈ z, x ∈ withL b tr tk 0) ∧ readAs (readS b tr tk mu) w v ∧ tkB N E (z ++ v) = true
theorem sm_lang {b : Int} {tr tk m mu : Nat} {N : List (List Int)} {E : List Bool} (H : SmWell b tr tk N E m mu) (h : (smL b ((tr : Int) + 1) (tk : Int) N E).length ≤ 2000) {w : List Int} (hw : okW mu w) :
    tkB (smGN b ((tr : Int) + 1) (tk : Int) N E) (smGE b ((tr : Int) + 1) (tk : Int) N E) w = true ↔ someL b tr tk mu N E w := by
  have hR := smR_eq (tk := tk) H.fU
  have hz : (readS b tr tk mu).getD 0 [] = withL b tr tk 0 := readS_get (by have := H.few36; omega)
  have hLG := least_good H.good E
  unfold smL at h
  unfold smGN smGE
  rw [hR, hz, H.mU] at h ⊢
  rw [setN_tk h w (by rw [readS_len]; exact hw), langS hLG (leastE N E m) (readS_ok H.base.2 H.tracks.2 H.many) (withL_ok H.base.2 H.tracks.2 H.many 0) hw]
  have hok : ∀ z v, (∀ x ∈ z, x ∈ withL b tr tk 0) → readAs (readS b tr tk mu) w v → okW m (z ++ v) := fun z v h1 h2 => okW_append.2 ⟨fun x hx => withL_ok H.base.2 H.tracks.2 H.many 0 x (h1 x hx), readAs_ok (readS_ok H.base.2 H.tracks.2 H.many) hw h2⟩
  constructor
  · rintro ⟨z, v, h1, h2, h3⟩
    exact ⟨z, v, h1, h2, by rw [← tk_least H.good E _ (hok z v h1 h2)]; exact h3⟩
  · rintro ⟨z, v, h1, h2, h3⟩
    exact ⟨z, v, h1, h2, by rw [tk_least H.good E _ (hok z v h1 h2)]; exact h3⟩
theorem sm_good {b : Int} {tr tk m mu : Nat} {N : List (List Int)} {E : List Bool} (H : SmWell b tr tk N E m mu) (h : (smL b ((tr : Int) + 1) (tk : Int) N E).length ≤ 2000) : GoodN mu (smL b ((tr : Int) + 1) (tk : Int) N E).length (smGN b ((tr : Int) + 1) (tk : Int) N E) := by
  have hR := smR_eq (tk := tk) H.fU
  unfold smL at h ⊢
  unfold smGN
  have := setN_good h (by rw [hR, readS_len]; exact H.few36.1) (by rw [hR, readS_len]; exact H.few36.2)
  rw [hR, readS_len] at this
  rw [hR]
  exact this
end Go.Proofs.Ytleebojibobgaaa

/- The reference's Closed: contract. -/
namespace Go.Proofs.Ytleebojibobgaaa
open Go.RowKit

def SubM (x y : Nat) : Prop := ∀ s, x.testBit s = true → y.testBit s = true
theorem sub_le {x y : Nat} (h : SubM x y) : x ≤ y := by
  have e : y = x ||| y := by
    apply Nat.eq_of_testBit_eq
    intro i
    rw [Nat.testBit_or]
    cases hx : x.testBit i with
    | false => simp
    | true => rw [h i hx]; rfl
  rw [e]
  exact Nat.left_le_or
theorem sub_refl (x : Nat) : SubM x x := fun _ h => h
theorem sub_put (M t : Nat) : SubM M (putM M t) := fun s h => by rw [putM_bit, h]; rfl
theorem put_self (M t : Nat) : (putM M t).testBit t = true := by rw [putM_bit]; simp
theorem clo_zero {m n : Nat} {N : List (List Int)} (hG : GoodN m n N) {ls : List Int} (hl : ∀ x ∈ ls, 0 ≤ x ∧ x < (m : Int)) : (cloM N n ls).testBit 0 = true := (cloM_bit hG hl).2 ⟨[], by simp, rfl⟩
theorem clo_step {m n : Nat} {N : List (List Int)} (hG : GoodN m n N) {ls : List Int} (hl : ∀ x ∈ ls, 0 ≤ x ∧ x < (m : Int)) {s : Nat} (h : (cloM N n ls).testBit s = true) {x : Int} (hx : x ∈ ls) : (cloM N n ls).testBit (stepL N s x) = true := by
  obtain ⟨z, hz, rfl⟩ := (cloM_bit hG hl).1 h
  refine (cloM_bit hG hl).2 ⟨z ++ [x], fun y hy => ?_, by rw [runL_append]; rfl⟩
  rcases List.mem_append.1 hy with hy | hy
  · exact hz y hy
  · simp at hy; rw [hy]; exact hx

/-- Within a round of Closed: s states and i letters of the next one have been seen through. -/
structure CloI (N : List (List Int)) (n : Nat) (ls : List Int) (M0 M s i : Nat) : Prop where
  sub : SubM M0 M
  into : SubM M (cloM N n ls)
  zero : M0.testBit 0 = true
  done : ∀ s', s' < s → M0.testBit s' = true → ∀ j, j < ls.length → M.testBit (stepL N s' (ls.getD j 0)) = true
  now : M0.testBit s = true → ∀ j, j < i → M.testBit (stepL N s (ls.getD j 0)) = true
theorem cloI_start {N : List (List Int)} {n : Nat} {ls : List Int} {M : Nat} (h1 : SubM M (cloM N n ls)) (h2 : M.testBit 0 = true) : CloI N n ls M M 0 0 := ⟨sub_refl _, h1, h2, fun _ h => by omega, fun _ _ h => by omega⟩
theorem cloI_skip {N : List (List Int)} {n : Nat} {ls : List Int} {M0 M s : Nat} (h : CloI N n ls M0 M s 0) (hs : M.testBit s = false) : CloI N n ls M0 M (s + 1) 0 := ⟨h.sub, h.into, h.zero, fun s' h1 h2 j hj => by
  by_cases e : s' = s
  · subst e; rw [h.sub _ h2] at hs; cases hs
  · exact h.done s' (by omega) h2 j hj, fun _ _ h => by omega⟩
theorem cloI_put {m n : Nat} {N : List (List Int)} (hG : GoodN m n N) {ls : List Int} (hl : ∀ x ∈ ls, 0 ≤ x ∧ x < (m : Int)) {M0 M s i : Nat} (h : CloI N n ls M0 M s i) (hs : M.testBit s = true) (hi : i < ls.length) : CloI N n ls M0 (putM M (stepL N s (ls.getD i 0))) s (i + 1) := by
  have hm : ls.getD i 0 ∈ ls := by rw [getD_at _ i hi]; exact List.getElem_mem _
  refine ⟨fun t ht => sub_put _ _ t (h.sub t ht), fun t ht => ?_, h.zero, fun s' h1 h2 j hj => sub_put _ _ _ (h.done s' h1 h2 j hj), fun h2 j hj => ?_⟩
  · rw [putM_bit, Bool.or_eq_true, decide_eq_true_iff] at ht
    rcases ht with ht | rfl
    · exact h.into t ht
    · exact clo_step hG hl (h.into s hs) hm
  · by_cases e : j = i
    · subst e; exact put_self _ _
    · exact sub_put _ _ _ (h.now h2 j (by omega))
theorem cloI_row {N : List (List Int)} {n : Nat} {ls : List Int} {M0 M s : Nat} (h : CloI N n ls M0 M s ls.length) : CloI N n ls M0 M (s + 1) 0 := ⟨h.sub, h.into, h.zero, fun s' h1 h2 j hj => by
  by_cases e : s' = s
  · subst e; exact h.now h2 j hj
  · exact h.done s' (by omega) h2 j hj, fun _ _ h => by omega⟩
end Go.Proofs.Ytleebojibobgaaa

/- A track left out, word by word: mathematics of the laws SomeTakes and SomeOrder. -/
namespace Go.Proofs.Ytleebojibobgaaa
open Go.RowKit

theorem autoC_fine {b t : Int} {N : List (List Int)} {n : Nat} (hM : codeM b t = 0) (hG : GoodN (manyU b t).toNat n N) (hn : n ≤ 80) : autoC b t N n = 0 := by
  have h1 := hG.1
  have h2 := hG.2.1
  unfold autoC
  rw [if_pos hM, if_neg (by omega), if_neg (by omega), if_pos (by omega)]
  exact rowsC_all fun j hj => by
    have := hG.2.2.2.2.2 j (by omega)
    exact rowC_good this.1 (by rw [h1]; exact this.2)
/-- A letter with a track left out. -/
def delT (b : Int) (tr tk : Nat) (y : Int) : Int := packL b ((splitL b (tr + 1) y).eraseIdx tk)
theorem erase_bd {b : Int} {ds : List Int} (tk : Nat) (h : ∀ j, j < ds.length → 0 ≤ ds.getD j 0 ∧ ds.getD j 0 < kindsI b) : ∀ j, j < (ds.eraseIdx tk).length → 0 ≤ (ds.eraseIdx tk).getD j 0 ∧ (ds.eraseIdx tk).getD j 0 < kindsI b := by
  intro j hj
  have hm : (ds.eraseIdx tk).getD j 0 ∈ ds := by
    rw [getD_at _ j hj]
    exact (List.eraseIdx_sublist ds tk).subset (List.getElem_mem hj)
  obtain ⟨i, hi, e⟩ := List.getElem_of_mem hm
  rw [← e, ← getD_at _ i hi]
  exact h i hi
theorem put_erase {b : Int} {tr tk : Nat} (ht : tk ≤ tr) (x l : Int) : (putD b tr tk x l).eraseIdx tk = splitL b tr l := by
  unfold putD
  have hl : ((splitL b tr l).take tk).length = tk := by rw [List.length_take, splitL_length]; omega
  rw [List.append_assoc, List.eraseIdx_append_of_length_le (by omega), hl, Nat.sub_self]
  simp
theorem delT_bd {b : Int} (h2 : b ≤ 6) {tr tk mu : Nat} (ht : tk ≤ tr) (hf : pw (kindsI b) tr = (mu : Int)) (y : Int) : 0 ≤ delT b tr tk y ∧ delT b tr tk y < (mu : Int) := by
  have := pack_bd b h2 ((splitL b (tr + 1) y).eraseIdx tk) (erase_bd tk (split_bd b h2 (tr + 1) y))
  rw [List.length_eraseIdx_of_lt (by rw [splitL_length]; omega), splitL_length, show tr + 1 - 1 = tr by omega, hf] at this
  exact this
theorem mem_withL {b : Int} (h2 : b ≤ 6) {tr tk m mu : Nat} (ht : tk ≤ tr) (hm : pw (kindsI b) (tr + 1) = (m : Int)) (hf : pw (kindsI b) tr = (mu : Int)) {y l : Int} (hl : 0 ≤ l ∧ l < (mu : Int)) : y ∈ withL b tr tk l ↔ (0 ≤ y ∧ y < (m : Int)) ∧ delT b tr tk y = l := by
  have hkb := kinds_bd2 b h2
  constructor
  · intro h
    refine ⟨withL_ok h2 ht hm l y h, ?_⟩
    obtain ⟨x, hx, rfl⟩ := List.mem_map.1 h
    have hx' := List.mem_range.1 hx
    unfold delT
    have e := split_pack b h2 (putD b tr tk (x : Int) l) (putD_bd b h2 ⟨by omega, by omega⟩ l)
    rw [putD_len ht] at e
    rw [e, put_erase ht, pack_split b h2 tr l hl.1 (by rw [hf]; exact hl.2)]
  · rintro ⟨hy, rfl⟩
    have hlen : ((splitL b (tr + 1) y).eraseIdx tk).length = tr := by rw [List.length_eraseIdx_of_lt (by rw [splitL_length]; omega), splitL_length]; omega
    have e := split_pack b h2 ((splitL b (tr + 1) y).eraseIdx tk) (erase_bd tk (split_bd b h2 (tr + 1) y))
    rw [hlen] at e
    have hd := split_bd b h2 (tr + 1) y tk (by rw [splitL_length]; omega)
    refine List.mem_map.2 ⟨((splitL b (tr + 1) y).getD tk 0).toNat, List.mem_range.2 (by omega), ?_⟩
    rw [show ((((splitL b (tr + 1) y).getD tk 0).toNat : Nat) : Int) = (splitL b (tr + 1) y).getD tk 0 by omega]
    have hp : putD b tr tk ((splitL b (tr + 1) y).getD tk 0) (delT b tr tk y) = splitL b (tr + 1) y := by
      unfold putD delT
      rw [e]
      have hlt : tk < (splitL b (tr + 1) y).length := by rw [splitL_length]; omega
      generalize splitL b (tr + 1) y = ds at hlt
      rw [List.eraseIdx_eq_take_drop_succ, List.take_append_of_le_length (by rw [List.length_take]; omega), List.take_take, Nat.min_self, List.drop_append_of_le_length (by rw [List.length_take]; omega)]
      rw [show List.drop tk (List.take tk ds) = [] by rw [List.drop_eq_nil_iff, List.length_take]; omega]
      rw [List.nil_append, getD_at _ tk hlt, List.append_assoc]
      show ds.take tk ++ (ds[tk] :: ds.drop (tk + 1)) = ds
      rw [← List.drop_eq_getElem_cons hlt, List.take_append_drop]
    rw [hp, pack_split b h2 (tr + 1) y hy.1 (by rw [hm]; exact hy.2)]
/-- Some's automaton, where all is well. -/
theorem smN_tk {b : Int} {tr tk m mu k : Nat} {N : List (List Int)} {E : List Bool} (H : SmWell b tr tk N E m mu) (h : smC b ((tr : Int) + 1) N E k (tk : Int) = 0) {w : List Int} (hw : okW mu w) :
    tkB (smN b ((tr : Int) + 1) N E k (tk : Int)) (smE b ((tr : Int) + 1) N E k (tk : Int)) w = true ↔ someL b tr tk mu N E w := by
  obtain ⟨hS, hK⟩ := smC_zero h
  obtain ⟨-, hL⟩ := smS_zero hS
  have hG := sm_good H hL
  unfold smN smE
  rw [if_pos h, if_pos h, show (tr : Int) + 1 - 1 = (tr : Int) by omega, H.fU, Int.toNat_natCast, tk_least hG _ _ hw, sm_lang H hL hw]
theorem smN_auto {b : Int} {tr tk m mu k : Nat} {N : List (List Int)} {E : List Bool} (H : SmWell b tr tk N E m mu) (h : smC b ((tr : Int) + 1) N E k (tk : Int) = 0) :
    autoC b (tr : Int) (smN b ((tr : Int) + 1) N E k (tk : Int)) (smN b ((tr : Int) + 1) N E k (tk : Int)).length = 0 ∧ (smE b ((tr : Int) + 1) N E k (tk : Int)).length = (smN b ((tr : Int) + 1) N E k (tk : Int)).length ∧ GoodN mu (smN b ((tr : Int) + 1) N E k (tk : Int)).length (smN b ((tr : Int) + 1) N E k (tk : Int)) := by
  obtain ⟨hS, hK⟩ := smC_zero h
  obtain ⟨-, hL⟩ := smS_zero hS
  have hG := sm_good H hL
  have e : (tr : Int) + 1 - 1 = (tr : Int) := by omega
  rw [e, H.fU, Int.toNat_natCast] at hK
  unfold smN smE
  rw [if_pos h, if_pos h, e, H.fU, Int.toNat_natCast]
  have hLG := least_good hG (smGE b ((tr : Int) + 1) (tk : Int) N E)
  refine ⟨?_, by rw [leastN_len, leastE_len], by rw [leastN_len]; exact hLG⟩
  rw [leastN_len]
  exact autoC_fine H.code (by rw [H.fU, Int.toNat_natCast]; exact hLG) hK
/-- SomeTakes: by sets of the automaton's own states. -/
theorem some_takes {b : Int} {tr tk m mu k : Nat} {N : List (List Int)} {E : List Bool} (H : SmWell b tr tk N E m mu) (h : smC b ((tr : Int) + 1) N E k (tk : Int) = 0) {w : List Int} (hw : okW mu w) :
    tkB (smN b ((tr : Int) + 1) N E k (tk : Int)) (smE b ((tr : Int) + 1) N E k (tk : Int)) w = endM N.length E (runG (dM N N.length (readS b tr tk mu)) (cloM N N.length (withL b tr tk 0)) w) := by
  rw [Bool.eq_iff_iff, smN_tk H h hw, langS H.good E (readS_ok H.base.2 H.tracks.2 H.many) (withL_ok H.base.2 H.tracks.2 H.many 0) hw]
  rfl

/-- Two tracks left out, in either order. -/
theorem del_zero {b : Int} (h2 : b ≤ 6) (tr tk : Nat) : delT b tr tk 0 = 0 := by
  have hk := kinds_bd2 b h2
  unfold delT
  have hs : ∀ x ∈ (splitL b (tr + 1) 0).eraseIdx tk, x = 0 := fun x hx => by
    have := (List.eraseIdx_sublist _ tk).subset hx
    simp only [splitL, List.mem_map] at this
    obtain ⟨i, _, rfl⟩ := this
    simp [dOf]
  generalize (splitL b (tr + 1) 0).eraseIdx tk = ds at hs
  induction ds using list_snoc_ind with
  | h0 => rfl
  | h1 ds x ih =>
    have e : packL b (ds ++ [x]) = packL b ds * kindsI b + x := by simp [packL, List.foldl_append]
    rw [e, ih (fun y hy => hs y (by simp [hy])), hs x (by simp)]
    simp
end Go.Proofs.Ytleebojibobgaaa

/- SomeTakes: its mathematics: sets of states as rows of bools. -/
namespace Go.Proofs.Ytleebojibobgaaa
open Go.RowKit

theorem bit_set {W : World} {S n M : Nat} (h : W.rowIs S 4 n fun p => .bool (M.testBit p)) (x : Nat) : (W.setCell ⟨S, x, none⟩ (.bool true)).rowIs S 4 n fun p => .bool ((putM M x).testBit p) := by
  refine (h.set x (.bool true)).congr fun p hp => ?_
  by_cases e : p = x
  · subst e; simp [put_self]
  · have e' : x ≠ p := fun h => e h.symm
    simp [e, putM_bit, e']

/-- k rounds of closing are through. -/
structure RndI (N : List (List Int)) (n : Nat) (ls : List Int) (k M : Nat) : Prop where
  into : SubM M (cloM N n ls)
  far : ∀ z : List Int, (∀ x ∈ z, x ∈ ls) → z.length ≤ k → M.testBit (runL N z) = true
theorem rnd_zero {N : List (List Int)} {n : Nat} {ls : List Int} {k M : Nat} (h : RndI N n ls k M) : M.testBit 0 = true := h.far [] (by simp) (by simp)
theorem rnd_start {m n : Nat} {N : List (List Int)} (hG : GoodN m n N) {ls : List Int} (hl : ∀ x ∈ ls, 0 ≤ x ∧ x < (m : Int)) : RndI N n ls 0 (putM 0 0) := by
  refine ⟨fun t ht => ?_, fun z _ h0 => ?_⟩
  · rw [putM_bit, Bool.or_eq_true, decide_eq_true_iff] at ht
    rcases ht with ht | rfl
    · simp at ht
    · exact clo_zero hG hl
  · obtain rfl : z = [] := List.eq_nil_of_length_eq_zero (by omega)
    exact put_self 0 0
theorem rnd_clo {N : List (List Int)} {n : Nat} {ls : List Int} {k M : Nat} (h : RndI N n ls k M) : CloI N n ls M M 0 0 := cloI_start h.into (rnd_zero h)
theorem rnd_next {N : List (List Int)} {n : Nat} {ls : List Int} {k M0 M : Nat} (h : RndI N n ls k M0) (hc : CloI N n ls M0 M n 0) : RndI N n ls (k + 1) M := by
  refine ⟨hc.into, fun z => ?_⟩
  induction z using list_snoc_ind with
  | h0 => exact fun _ _ => hc.sub 0 hc.zero
  | h1 z x _ =>
    intro hz hk
    rw [List.length_append, List.length_singleton] at hk
    have h1 := h.far z (fun y hy => hz y (by simp [hy])) (by omega)
    have hx := hz x (by simp)
    have hs := bit_lt (Nat.lt_of_le_of_lt (sub_le h.into) (cloM_lt _ _ _)) h1
    obtain ⟨j, hj, e⟩ := List.getElem_of_mem hx
    have := hc.done _ hs h1 j hj
    rw [getD_at _ j hj, e] at this
    rw [runL_append]
    exact this
theorem rnd_end {N : List (List Int)} {n : Nat} {ls : List Int} {M : Nat} (h : RndI N n ls n M) : M = cloM N n ls := by
  refine mask_ext (n := n) (Nat.lt_of_le_of_lt (sub_le h.into) (cloM_lt _ _ _)) (cloM_lt _ _ _) fun s _ => ?_
  rw [Bool.eq_iff_iff]
  constructor
  · exact h.into s
  · intro hc
    obtain ⟨_, z, hz, rfl, hk⟩ := cloM_short hc
    exact h.far z hz hk

/-- Within a letter: s states and i letters of the next one have been seen through. -/
structure StpI (N : List (List Int)) (n : Nat) (ls : List Int) (M0 M s i : Nat) : Prop where
  into : SubM M (stepM N n ls M0)
  done : ∀ s', s' < s → M0.testBit s' = true → ∀ j, j < ls.length → M.testBit (stepL N s' (ls.getD j 0)) = true
  now : M0.testBit s = true → ∀ j, j < i → M.testBit (stepL N s (ls.getD j 0)) = true
theorem stp_lt {N : List (List Int)} {n : Nat} {ls : List Int} {M0 M s i : Nat} (h : StpI N n ls M0 M s i) : M < 2 ^ n := Nat.lt_of_le_of_lt (sub_le h.into) (stepM_lt _ _ _ _)
theorem stp_start (N : List (List Int)) (n : Nat) (ls : List Int) (M0 : Nat) : StpI N n ls M0 0 0 0 := ⟨fun t ht => by simp at ht, fun _ h => by omega, fun _ _ h => by omega⟩
theorem stp_skip {N : List (List Int)} {n : Nat} {ls : List Int} {M0 M s : Nat} (h : StpI N n ls M0 M s 0) (hs : M0.testBit s = false) : StpI N n ls M0 M (s + 1) 0 := ⟨h.into, fun s' h1 h2 j hj => by
  by_cases e : s' = s
  · subst e; rw [h2] at hs; cases hs
  · exact h.done s' (by omega) h2 j hj, fun _ _ h => by omega⟩
theorem stp_put {N : List (List Int)} {n : Nat} {ls : List Int} {M0 M s i : Nat} (h : StpI N n ls M0 M s i) (hsn : s < n) (hs : M0.testBit s = true) (hi : i < ls.length) (ht : stepL N s (ls.getD i 0) < n) : StpI N n ls M0 (putM M (stepL N s (ls.getD i 0))) s (i + 1) := by
  have hm : ls.getD i 0 ∈ ls := by rw [getD_at _ i hi]; exact List.getElem_mem _
  refine ⟨fun t h1 => ?_, fun s' h1 h2 j hj => sub_put _ _ _ (h.done s' h1 h2 j hj), fun h2 j hj => ?_⟩
  · rw [putM_bit, Bool.or_eq_true, decide_eq_true_iff] at h1
    rcases h1 with h1 | rfl
    · exact h.into t h1
    · exact stepM_bit.2 ⟨ht, s, hsn, hs, _, hm, rfl⟩
  · by_cases e : j = i
    · subst e; exact put_self _ _
    · exact sub_put _ _ _ (h.now h2 j (by omega))
theorem stp_row {N : List (List Int)} {n : Nat} {ls : List Int} {M0 M s : Nat} (h : StpI N n ls M0 M s ls.length) : StpI N n ls M0 M (s + 1) 0 := ⟨h.into, fun s' h1 h2 j hj => by
  by_cases e : s' = s
  · subst e; exact h.now h2 j hj
  · exact h.done s' (by omega) h2 j hj, fun _ _ h => by omega⟩
theorem stp_end {N : List (List Int)} {n : Nat} {ls : List Int} {M0 M : Nat} (h : StpI N n ls M0 M n 0) : M = stepM N n ls M0 := by
  refine mask_ext (n := n) (stp_lt h) (stepM_lt _ _ _ _) fun s _ => ?_
  rw [Bool.eq_iff_iff]
  constructor
  · exact h.into s
  · intro hc
    obtain ⟨_, s', h1, h2, l, hl, rfl⟩ := stepM_bit.1 hc
    obtain ⟨j, hj, e⟩ := List.getElem_of_mem hl
    have := h.done s' h1 h2 j hj
    rw [getD_at _ j hj, e] at this
    exact this

/-- The word so far. -/
theorem runG_take {d : Nat → Nat → Nat} {f : Nat} {w : List Int} {i : Nat} (hi : i < w.length) : runG d f (w.take (i + 1)) = d (runG d f (w.take i)) (w.getD i 0).toNat := by
  unfold runG
  rw [List.take_add_one, List.foldl_append, getD_at _ i hi, List.getElem?_eq_getElem hi]
  rfl
theorem runS_take {b : Int} {tr tk mu : Nat} {N : List (List Int)} {n M : Nat} {w : List Int} {i : Nat} (hw : okW mu w) (hi : i < w.length) : runG (dM N n (readS b tr tk mu)) M (w.take (i + 1)) = stepM N n (withL b tr tk (w.getD i 0)) (runG (dM N n (readS b tr tk mu)) M (w.take i)) := by
  rw [runG_take hi]
  have hm : w.getD i 0 ∈ w := by rw [getD_at _ i hi]; exact List.getElem_mem _
  have hb := hw _ hm
  unfold dM
  rw [readS_get (by omega), Int.toNat_of_nonneg hb.1]

/-- The ends so far. -/
def endTo (E : List Bool) (M : Nat) (s : Nat) : Bool := (List.range s).any fun s => E.getD s false && M.testBit s
theorem endTo_zero (E : List Bool) (M : Nat) : endTo E M 0 = false := rfl
theorem endTo_next (E : List Bool) (M s : Nat) : endTo E M (s + 1) = (endTo E M s || (M.testBit s && E.getD s false)) := by
  unfold endTo
  rw [List.range_succ, List.any_append, Bool.and_comm (M.testBit s)]
  simp
theorem endTo_all (n : Nat) (E : List Bool) (M : Nat) : endTo E M n = endM n E M := rfl
end Go.Proofs.Ytleebojibobgaaa

/- The automaton of the laws of layer 7: what package some answers about it. -/
namespace Go.Proofs.Ytleebojibobgaaa
open Go.RowKit

def smeN : List (List Int) := [[0, 1, 1, 0], [1, 1, 1, 1]]
def smeE : List Bool := [true, false]
/-- Sets that come up, by what comes up early. -/
theorem setsS_early {N : List (List Int)} {n : Nat} {read : List (List Int)} {ls : List Int} {i : Nat} {L : List Nat} (hi : i ≤ 2000) (h : outG (dM N n read) read.length (cloM N n ls) i = L) (hl : L.length ≤ i) : setsS N n read ls = L := by
  obtain ⟨j, hj⟩ : ∃ j, 2000 = i + j := ⟨2000 - i, by omega⟩
  unfold setsS
  rw [hj, outG_stay (by rw [h]; exact hl), h]
theorem sme_row0 : smL 2 2 0 smeN smeE = [3] := setsS_early (i := 1) (by omega) (by decide +kernel) (by decide)
theorem sme_gn : smGN 2 2 0 smeN smeE = [[0, 0]] := by
  have h : smGN 2 2 0 smeN smeE = gN (dM (leastN smeN smeE (manyU 2 2).toNat) (leastK smeN smeE (manyU 2 2).toNat) (smR 2 2 0)) (smR 2 2 0).length (smL 2 2 0 smeN smeE) := rfl
  rw [h, sme_row0]
  decide +kernel
theorem sme_ge : smGE 2 2 0 smeN smeE = [true] := by
  have h : smGE 2 2 0 smeN smeE = gE (endM (leastK smeN smeE (manyU 2 2).toNat) (leastE smeN smeE (manyU 2 2).toNat)) (smL 2 2 0 smeN smeE) := rfl
  rw [h, sme_row0]
  decide +kernel
theorem sme_f0 : smF 2 2 smeN 2 0 = 0 := by decide +kernel
theorem sme_code : smC 2 2 smeN smeE 2 0 = 0 := by
  have h : smS 2 2 smeN smeE 2 0 = 0 := by unfold smS; rw [sme_f0, sme_row0]; decide
  unfold smC; rw [h, sme_gn, sme_ge]; decide +kernel
theorem sme_next : smN 2 2 smeN smeE 2 0 = [[0, 0]] := by unfold smN; rw [sme_code, sme_gn, sme_ge]; decide +kernel
theorem sme_ends : smE 2 2 smeN smeE 2 0 = [true] := by unfold smE; rw [sme_code, sme_gn, sme_ge]; decide +kernel
end Go.Proofs.Ytleebojibobgaaa

/- filbertlaw2.same: contract. -/
namespace Go.Proofs.Ytleebojibobgaaa
open Go.RowKit

/-- The automaton of the facts, built behind its box. -/
theorem sme_world (w : World) (o : Obj) (T T2 T3 : TypeId) {u : World} (hu : u = ((((w.alloc o).alloc (.cells #[.int .i64 0, .int .i64 1, .int .i64 1, .int .i64 0] T)).alloc (.cells #[.int .i64 1, .int .i64 1, .int .i64 1, .int .i64 1] T)).alloc (.cells #[.slice (some ⟨w.heap.size + 1, 0, none⟩) 4 4, .slice (some ⟨w.heap.size + 1 + 1, 0, none⟩) 4 4] T2)).alloc (.cells #[.bool true, .bool false] T3)) :
    AutoNew w (some ⟨w.heap.size + 1 + 1 + 1, 0, none⟩) 2 smeN (some ⟨w.heap.size + 1 + 1 + 1 + 1, 0, none⟩) smeE u ∧ Below w.heap.size w u ∧ u.heap[w.heap.size]? = (w.alloc o).heap[w.heap.size]? := by
  obtain ⟨u0, hu0⟩ : ∃ u0, u0 = w.alloc o := ⟨_, rfl⟩
  rw [← hu0] at hu ⊢
  obtain ⟨u1, hu1⟩ : ∃ u1, u1 = u0.alloc (.cells #[.int .i64 0, .int .i64 1, .int .i64 1, .int .i64 0] T) := ⟨_, rfl⟩
  obtain ⟨u2, hu2⟩ : ∃ u2, u2 = u1.alloc (.cells #[.int .i64 1, .int .i64 1, .int .i64 1, .int .i64 1] T) := ⟨_, rfl⟩
  obtain ⟨u3, hu3⟩ : ∃ u3, u3 = u2.alloc (.cells #[.slice (some ⟨w.heap.size + 1, 0, none⟩) 4 4, .slice (some ⟨w.heap.size + 1 + 1, 0, none⟩) 4 4] T2) := ⟨_, rfl⟩
  rw [← hu1, ← hu2, ← hu3] at hu
  have s0 : u0.heap.size = w.heap.size + 1 := by rw [hu0]; simp
  have s1 : u1.heap.size = w.heap.size + 1 + 1 := by rw [hu1]; simp [s0]
  have s2 : u2.heap.size = w.heap.size + 1 + 1 + 1 := by rw [hu2]; simp [s1]
  have s3 : u3.heap.size = w.heap.size + 1 + 1 + 1 + 1 := by rw [hu3]; simp [s2]
  have s4 : u.heap.size = w.heap.size + 1 + 1 + 1 + 1 + 1 := by rw [hu]; simp [s3]
  have b0 : Below w.heap.size w u0 := by rw [hu0]; exact (Below.refl _ _).alloc (Nat.le_refl _) _
  have b1 : Below u0.heap.size u0 u1 := by rw [hu1]; exact (Below.refl _ _).alloc (Nat.le_refl _) _
  have b2 : Below u1.heap.size u1 u2 := by rw [hu2]; exact (Below.refl _ _).alloc (Nat.le_refl _) _
  have b3 : Below u2.heap.size u2 u3 := by rw [hu3]; exact (Below.refl _ _).alloc (Nat.le_refl _) _
  have b4 : Below u3.heap.size u3 u := by rw [hu]; exact (Below.refl _ _).alloc (Nat.le_refl _) _
  have g1 : u1.heap[w.heap.size + 1]? = some (.cells #[.int .i64 0, .int .i64 1, .int .i64 1, .int .i64 0] T (0, 0)) := by rw [hu1, ← s0]; exact heap_alloc_last _ _
  have g2 : u2.heap[w.heap.size + 1 + 1]? = some (.cells #[.int .i64 1, .int .i64 1, .int .i64 1, .int .i64 1] T (0, 0)) := by rw [hu2, ← s1]; exact heap_alloc_last _ _
  have g3 : u3.heap[w.heap.size + 1 + 1 + 1]? = some (.cells #[.slice (some ⟨w.heap.size + 1, 0, none⟩) 4 4, .slice (some ⟨w.heap.size + 1 + 1, 0, none⟩) 4 4] T2 (0, 0)) := by rw [hu3, ← s2]; exact heap_alloc_last _ _
  have g4 : u.heap[w.heap.size + 1 + 1 + 1 + 1]? = some (.cells #[.bool true, .bool false] T3 (0, 0)) := by rw [hu, ← s3]; exact heap_alloc_last _ _
  have k1 := (b4.block (w.heap.size + 1) (by omega)).trans ((b3.block _ (by omega)).trans ((b2.block _ (by omega)).trans g1))
  have k2 := (b4.block (w.heap.size + 1 + 1) (by omega)).trans ((b3.block _ (by omega)).trans g2)
  have k3 := (b4.block (w.heap.size + 1 + 1 + 1) (by omega)).trans g3
  have k0 := (b4.block w.heap.size (by omega)).trans ((b3.block _ (by omega)).trans ((b2.block _ (by omega)).trans (b1.block _ (by omega))))
  clear hu0 hu1 hu2 hu3 hu
  refine ⟨fun W' hW => ?_, below_step (below_step (below_step (below_step b0 b1) b2) b3) b4, k0⟩
  have l1 := (hW (w.heap.size + 1) (by omega) (by omega)).trans k1
  have l2 := (hW (w.heap.size + 1 + 1) (by omega) (by omega)).trans k2
  have l3 := (hW (w.heap.size + 1 + 1 + 1) (by omega) (by omega)).trans k3
  have l4 := (hW (w.heap.size + 1 + 1 + 1 + 1) (by omega) (by omega)).trans g4
  have four : ∀ i, i < 4 → i = 0 ∨ i = 1 ∨ i = 2 ∨ i = 3 := by omega
  have two : ∀ i, i < 2 → i = 0 ∨ i = 1 := by omega
  have r1 : Sl W' (some ⟨w.heap.size + 1, 0, none⟩) 4 [0, 1, 1, 0] := ⟨rfl, by decide, by decide, Or.inr ⟨_, 0, rfl, fun i hi => by rcases four i hi with rfl | rfl | rfl | rfl <;> simp [World.cell?, l1]⟩⟩
  have r2 : Sl W' (some ⟨w.heap.size + 1 + 1, 0, none⟩) 4 [1, 1, 1, 1] := ⟨rfl, by decide, by decide, Or.inr ⟨_, 0, rfl, fun i hi => by rcases four i hi with rfl | rfl | rfl | rfl <;> simp [World.cell?, l2]⟩⟩
  refine ⟨⟨rfl, by decide, Or.inr ⟨_, 0, rfl, fun i hi => ?_⟩⟩, ⟨rfl, by decide, Or.inr ⟨_, 0, rfl, fun i hi => by rcases two i hi with rfl | rfl <;> simp [smeE, World.cell?, l4]⟩⟩⟩
  rcases two i hi with rfl | rfl
  · exact ⟨_, 4, by simp [smeN, World.cell?, l3], r1⟩
  · exact ⟨_, 4, by simp [smeN, World.cell?, l3], r2⟩

set_option maxHeartbeats 4000000 in
theorem sme_any (w : World) : Calls Try.prog 7 #[] w (GivesAuto w 2 2 smeN smeE) := by
  go_enter Try.func7, Try.ntmps7
  go_wp2
  generalize hu : ((((w.alloc _).alloc _).alloc _).alloc _).alloc _ = u
  obtain ⟨h1, h2, h3⟩ := sme_world w _ _ _ _ hu.symm
  rw [heap_alloc_last] at h3
  obtain ⟨⟨z0, z1, z2, z3⟩, -⟩ := box_cells h3
  clear hu h3
  exact bodyPost_ret (v := .agg #[.int .i64 2, .int .i64 2, .slice (some ⟨w.heap.size + 1 + 1 + 1, 0, none⟩) 2 2, .slice (some ⟨w.heap.size + 1 + 1 + 1 + 1, 0, none⟩) 2 2]) (by simp [results, Try.results7, go_sem, z0, z1, z2, z3]) rfl ⟨_, 2, _, 2, rfl, h1, h2⟩
end Go.Proofs.Ytleebojibobgaaa

/- The law SomeClosed: what its walk asks of the mathematics. -/
namespace Go.Proofs.Ytleebojibobgaaa
open Go.RowKit

theorem wordC_okW {m : Nat} {w : List Int} (h : wordC m w = 0) : okW m w := fun x hx => by
  obtain ⟨-, h2⟩ := wordC_zero h
  obtain ⟨j, hj, rfl⟩ := List.getElem_of_mem hx
  have := h2 j hj
  rwa [getD_at _ j hj] at this
theorem runC_parts {b t : Int} {N : List (List Int)} {e : Nat} {l : List Int} (h : runC b t N e l = 0) : autoC b t N e = 0 ∧ wordC (manyU b t).toNat l = 0 := by
  unfold runC at h
  by_cases hA : autoC b t N e = 0
  · rw [if_pos hA] at h; exact ⟨hA, h⟩
  · rw [if_neg hA] at h; exact absurd h hA
theorem takesB_of {b t : Int} {N : List (List Int)} {E : List Bool} {l : List Int} {e : Nat} (he : E.length = e) (h : runC b t N e l = 0) : takesB b t N E l = tkB N E l := by
  unfold takesB tkB
  rw [he, if_pos h]
end Go.Proofs.Ytleebojibobgaaa
