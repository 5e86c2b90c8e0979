/- right.All: contract. -/
import Derived.Deep.AppendLies
import Derived.Deep.DeepCutAuto
import Derived.Deep.RegionLaw
import Derived.Test.YtebbjmcjgjecmaaBy
import Derived.Test.YtebbjmcjgjecmaaZHh
import Derived.Test.YtebbjmcjgjecmaaZDj
import Derived.Test.YtebbjmcjgjecmaaKm
namespace Go.Proofs.Ytebbjmcjgjecmaa
open Go.RowKit

theorem fillAt_over {w : World} {T : List Int} {m k : Nat} {wx : World} (v : Value) (h : FillAt w T m k wx) : FillAt w T m (k + 1) ((wx.setCell ⟨w.heap.size, k, none⟩ v).setCell ⟨w.heap.size, k, none⟩ (.int .i64 (T.getD k 0))) := by
  refine ⟨((h.1.set k v).set k _).congr fun p hp => ?_, (h.2.setCell (Nat.le_refl _) _).setCell (Nat.le_refl _) _⟩
  by_cases e : p = k
  · subst e; rw [if_pos rfl, if_pos (by omega)]
  · rw [if_neg e, if_neg e]
    by_cases e2 : p < k
    · rw [if_pos e2, if_pos (by omega)]
    · rw [if_neg e2, if_neg (by omega)]
/-- Behind i rows. -/
def DaAt (wb : World) (m : Nat) (b t : Int) (i : Nat) (wx : World) : Prop := ∃ G, AutSt wb.heap.size wb.heap.size m b t (daR b m) (daF m) i i G wx ∧ Below wb.heap.size wb wx

set_option maxHeartbeats 16000000 in
set_option maxRecDepth 8000 in
theorem all_ok (b t : Int) (m : Nat) (w : World) (hM : codeM b t = 0) (hmu : manyU b t = (m : Int)) :
    Calls Try.prog 4 #[.int .i64 b, .int .i64 t] w (LeastU w b t (daN b m) (daE m) m) := by
  obtain ⟨m1, m36⟩ := manyU_bd hM
  have hAU := da_auto hM
  rw [hmu, Int.toNat_natCast] at m1 m36 hAU
  have HB0 := hide ((Below.refl w.heap.size w).alloc (Nat.le_refl _) (.cells #[.int .i64 0, .int .i64 0, .slice none 0 0, .slice none 0 0] 25))
  have HX1 := hide (heap_alloc_last w (.cells #[.int .i64 0, .int .i64 0, .slice none 0 0, .slice none 0 0] 25))
  have HSZ : Hid ((w.alloc (.cells #[.int .i64 0, .int .i64 0, .slice none 0 0, .slice none 0 0] 25)).heap.size = w.heap.size + 1) := by show _ = _; simp
  generalize hwb : w.alloc (.cells #[.int .i64 0, .int .i64 0, .slice none 0 0, .slice none 0 0] 25) = wb at HB0 HX1 HSZ
  have HMC := hide (many_u b t wb)
  rw [hM, errV_zero, hmu] at HMC
  have hA0 : AutI wb.heap.size wb.heap.size m b t (daR b m) (daF m) 0 0 (fun x => x = wb.heap.size) (wb.alloc (.cells #[.int .i64 b, .int .i64 t, .slice none 0 0, .slice none 0 0] 25)) (.slice none 0 0) (.slice none 0 0) [] := autI_start _ _ (by simp) (Nat.le_refl _) (heap_alloc_last wb _)
  have HD0 : Hid (DaAt wb m b t 0 (wb.alloc (.cells #[.int .i64 b, .int .i64 t, .slice none 0 0, .slice none 0 0] 25))) := ⟨_, ⟨_, _, _, hA0⟩, (Below.refl _ _).alloc (Nat.le_refl _) _⟩
  have HLE := hide (fun W a c a' c' h1 h2 => least_ok b t a (m + 1) c (daN b m) a' c' (daE m) W h1 h2 hAU)
  rw [hmu, Int.toNat_natCast] at HLE
  have HSL : Hid (∀ (G : Nat → Prop) (W : World) (vN vE : Value) (vals : List Value), AutI wb.heap.size wb.heap.size m b t (daR b m) (daF m) (m + 1) (m + 1) G W vN vE vals → ∃ a c a' c', vN = .slice a (m + 1) c ∧ vE = .slice a' (m + 1) c' ∧ Sl2 W a (m + 1) (daN b m) ∧ SlB W a' (m + 1) (daE m)) := fun G W vN vE vals h => by
    have hl := daN_len b m
    have hgd := da_good b m1 m36
    have h2 : AutI wb.heap.size wb.heap.size m b t (fun j => (daN b m).getD j []) (fun j => (daE m).getD j false) (daN b m).length (daN b m).length G W vN vE vals := by
      rw [hl]
      exact autI_congr h (fun j hj => (daN_get hj).symm) (fun j hj => (daE_get hj).symm)
    have h3 := autI_sl2 h2 (by omega) m36 (fun j hj => by rw [hl] at hj; exact (good_wf hgd j hj).1) (fun j hj => by rw [hl] at hj; exact (good_wf hgd j hj).2) (by rw [daE_len, hl])
    rw [hl] at h3
    exact h3
  unfold LeastU at HLE ⊢
  have HCL := hide (fun x y (hx : x < m) (hy : y < m) W => clash_any b x y W (by omega) (by omega))
  have HIN := hide (fun j l (hj : j < m) (hl : l < m) => @daR_in b m j l hj hl)
  have HOUT : Hid (daR b m m = List.replicate m (m : Int)) := by show _ = _; unfold daR; rw [if_neg (Nat.lt_irrefl _)]
  have HST := hide (fun W => stay_any (m : Int) m W (by omega))
  unfold StayR at HST
  have hmk := make_ints m (by omega)
  obtain ⟨j0, hj0, hy0, hy1, hy2⟩ := info_parts infoSl
  obtain ⟨l0, hl0, hv0, hv1, hv2⟩ := info_parts infoB
  have HFT : Hid (∀ i, i < m → daF m i = true) := fun i hi => by unfold daF; simp [hi]
  have HFF : Hid (daF m m = false) := by show _ = _; unfold daF; simp
  clear hAU hA0 hM hmu
  generalize daN b m = DN at HLE HSL ⊢
  generalize daE m = DE at HLE HSL ⊢
  generalize leastN DN DE m = LN at HLE ⊢
  generalize leastE DN DE m = LE at HLE ⊢
  go_enter Try.func4, Try.ntmps4
  go_wp2_with fail
  clear hwb
  refine HMC.out.mono ?_
  rintro e w' ⟨rfl, hw⟩
  rw [hw]
  clear hw w' HMC
  go_wp2
  generalize wb.alloc (.cells #[.int .i64 b, .int .i64 t, .slice none 0 0, .slice none 0 0] 25) = W1 at HD0 ⊢
  go_loopg [28] m (fun g u wx => ∃ i : Nat, g = m - i ∧ i ≤ m ∧ u = .int .i64 i ∧ DaAt wb m b t i wx)
  case atStart => exact ⟨0, rfl, by omega, rfl, HD0.out⟩
  case round =>
    obtain ⟨i, hgi, hi, rfl, hda⟩ := hrel
    have HGI := hide hgi
    have HDA := hide hda
    clear hgi hda HD0
    by_cases hlt : i < m
    · have hlti : (i : Int) < (m : Int) := by omega
      have HFS := hide (fillAt_start wr (daR b m i) m)
      have HCI := hide (fun y (hy : y < m) W => HCL.out i y hlt hy W)
      have HII := hide (fun l (hl : l < m) => HIN.out i l hlt hl)
      have HFTI := hide (HFT.out i hlt)
      go_wp2
      obtain ⟨wq, hwq⟩ : ∃ wq : World, wq = wr := ⟨_, rfl⟩
      rw [← hwq] at HDA HFS ⊢
      clear hwq wr
      generalize wq.alloc (.cells (madeCells #[.int .i64 0] m) 3) = w1 at HFS ⊢
      generalize hRI : daR b m i = RI at HFS HII
      have HRI := hide hRI
      clear hRI
      go_loopw [34] (fun u wx => ∃ l : Nat, l ≤ m ∧ u = .int .i64 l ∧ FillAt wq RI m l wx) (fun u _ => m - (intOf u).toNat)
      case atStart => exact ⟨0, by omega, rfl, HFS.out⟩
      case round =>
        obtain ⟨l, hl, rfl, hfl⟩ := hrel
        have HFL := hide hfl
        clear hfl HFS
        by_cases hlm : l < m
        · have hlmi : (l : Int) < (m : Int) := by omega
          have hcell := HFL.out.1.cell hlm
          have hfz := HFL.out.1.frozen l
          rw [if_neg (Nat.lt_irrefl _)] at hcell
          have HC := hide (fun W => HCI.out l hlm W)
          have HV := hide (HII.out l hlm)
          have HN1 := hide (fillAt_step HFL.out)
          have HN2 := hide (fillAt_over (.int .i64 (l : Int)) HFL.out)
          rw [HV.out] at HN1 HN2
          have HC2 := hide ((HFL.out.1.set l (.int .i64 (l : Int))).cell hlm)
          have HF2 := hide ((HFL.out.1.set l (.int .i64 (l : Int))).frozen l)
          rw [if_pos rfl] at HC2
          by_cases hc : clB b i l = true
          · rw [hc] at HC
            rw [if_pos hc] at HN2
            clear hc HN1
            go_wp2_with fail
            have hc2 := HC2.out
            have hf2 := HF2.out
            clear hcell hfz
            generalize wr.setCell ⟨wq.heap.size, l, none⟩ (.int .i64 (l : Int)) = w2 at HN2 hc2 hf2 ⊢
            refine (HC.out w2).mono ?_
            rintro e w' ⟨rfl, hw⟩
            rw [hw]
            clear hw w'
            go_wp2
            go_roundw
            case rel => exact ⟨l + 1, by omega, by go_num, HN2.out⟩
            case measure => simp [intOf]; omega
          · have hc2 : clB b i l = false := by simpa using hc
            rw [hc2] at HC
            rw [if_neg hc] at HN1
            clear hc hc2 HN2
            go_wp2_with fail
            clear hcell hfz
            generalize wr.setCell ⟨wq.heap.size, l, none⟩ (.int .i64 (l : Int)) = w2 at HN1 ⊢
            refine (HC.out w2).mono ?_
            rintro e w' ⟨rfl, hw⟩
            rw [hw]
            clear hw w'
            go_wp2
            go_roundw
            case rel => exact ⟨l + 1, by omega, by go_num, HN1.out⟩
            case measure => simp [intOf]; omega
        · have hlmi : ¬ (l : Int) < (m : Int) := by omega
          obtain rfl : m = l := by omega
          obtain ⟨G, ⟨vN, vE, vals, hA0⟩, hbw⟩ := HDA.out
          have hA := autI_keep hA0 (fun x hx => HFL.out.2.block x (hA0.lt x hx).2) HFL.out.2.size
          have hcN : wr.cell? ⟨wb.heap.size, 2, none⟩ = some vN := (box_cells hA.box).1.2.2.1
          have HNN := hide (fun w3 o g' cap' k1 k2 k3 => @autI_N wb.heap.size wb.heap.size m b t (daR b m) (daF m) i i G wr w3 vN vE vals wq.heap.size o g' cap' hA (HFL.out.1.congr fun q hq => by rw [if_pos hq, HRI.out]) ⟨fun h => by have := (hA0.lt _ h).2; omega, hbw.size⟩ k1 k2 k3)
          have HOWN := hide hA.ownN
          have HLB : Hid (wb.heap.size ≤ wr.heap.size) := hA.hb
          have HA := hide hA
          have HBW : Hid (Below wb.heap.size wb wr) := hbw.trans (HFL.out.2.mono hbw.size)
          clear hA hA0 hbw
          go_upto_region 18 with (at_builtin; refine wpList_append_lies _ rfl _ _ 22 rfl wb.heap.size 31 j0 (.slice none 0 0) 1 24 Try.underlying22 hj0 hy0 hy1 hy2 rfl (by decide) vN i vals rfl (HOWN.out.alloc _) ⟨wr.heap.size, 0, none⟩ 1 1 [.slice (some ⟨wq.heap.size, 0, none⟩) m m] rfl rfl (one_new _ _ _) (fun u hu => by simp at hu; subst hu; rfl) (by omega) (by unfold maxLen; omega) (by omega) (by have := HLB.out; simp; omega) (wr.heap.size + 1) (by simp) ?_; intro g' cg w3 hown3 hgrow3 hat3 hlt3; obtain ⟨⟨hn1', hn2'⟩, hn3', hn4'⟩ := HNN.out w3 _ g' cg hown3 hgrow3 (by rw [World.size_alloc]; exact hat3); have HN3 := hide hn3'; have HN4 := hide hn4'; clear hown3 hgrow3 hat3 hn3' hn4')
          clear hcN hn1' hn2' hlt3
          generalize w3.setCell ⟨wb.heap.size, 2, none⟩ (.slice (some ⟨g', 0, none⟩) (i + 1) cg) = w5 at HN3 HN4 ⊢
          have HB5 : Hid (Below wb.heap.size wb w5) := below_tch HBW.out HN4.out (fun x hx => (HA.out.lt x hx).1) HA.out.hb
          have hcE : w5.cell? ⟨wb.heap.size, 3, none⟩ = some vE := (box_cells HN3.out.box).1.2.2.2
          have HNE := hide (fun w6 o g2 cap2 k1 k2 k3 => @autI_E wb.heap.size wb.heap.size m b t (daR b m) (daF m) (i + 1) i _ w5 w6 _ vE _ o g2 cap2 HN3.out k1 k2 k3)
          rw [HFTI.out] at HNE
          have HOE := hide HN3.out.ownE
          have HS5 : Hid (wb.heap.size ≤ w5.heap.size) := HN3.out.hb
          go_wp2_with (at_builtin; refine wpList_append_lies _ rfl _ _ 23 rfl wb.heap.size 4 l0 (.bool false) 1 1 Try.underlying23 hl0 hv0 hv1 hv2 rfl (by decide) vE i _ rfl (HOE.out.alloc _) ⟨w5.heap.size, 0, none⟩ 1 1 [.bool true] rfl rfl (one_new _ _ _) (fun u hu => by simp at hu; subst hu; rfl) (by omega) (by unfold maxLen; omega) (by omega) (by have := HS5.out; simp; omega) (w5.heap.size + 1) (by simp) ?_; intro g2 cap2 w7 hown7 hgrow7 hat7 hlt7; obtain ⟨⟨m1', m2'⟩, m3', m4'⟩ := HNE.out w7 _ g2 cap2 hown7 hgrow7 (by rw [World.size_alloc]; exact hat7); have HM3 := hide m3'; have HM4 := hide m4'; clear m3' m4' hown7 hgrow7 hat7 hlt7)
          go_roundg (m - (i + 1))
          case measure => have := HGI.out; omega
          case rel => exact ⟨i + 1, rfl, by omega, by go_num, _, ⟨_, _, _, HM3.out⟩, below_tch HB5.out HM4.out (fun x hx => (HN3.out.lt x hx).1) HN3.out.hb⟩
    · have hlti : ¬ (i : Int) < (m : Int) := by omega
      obtain rfl : i = m := by omega
      obtain ⟨G, ⟨vN, vE, vals, hA⟩, hbw⟩ := HDA.out
      have hcN : wr.cell? ⟨wb.heap.size, 2, none⟩ = some vN := (box_cells hA.box).1.2.2.1
      have HA := hide hA
      have HBW := hide hbw
      have HC2 : Hid (∀ w2, Below wr.heap.size wr w2 → w2.cell? ⟨wb.heap.size, 2, none⟩ = some vN) := fun w2 hb => (hb.cell (p := ⟨wb.heap.size, 2, none⟩) (World.block_lt_of_cell? wr _ hcN)).trans hcN
      have HON : Hid (∀ w2, Below wr.heap.size wr w2 → w2.ownsRow wb.heap.size 31 1 vN i vals) := fun w2 hb => ownsRow_of_block HA.out.ownN (fun x hx => hb.block x (HA.out.ownN.lt x hx).2)
      have HNN : Hid (∀ w2 gc, Below wr.heap.size wr w2 → wr.heap.size ≤ gc → (w2.rowIs gc 3 i fun k => .int .i64 ((List.replicate i (i : Int)).getD k 0)) → ∀ w3 o g' cap' k1 k2 k3, _) := fun w2 gc hb hgc hr w3 o g' cap' k1 k2 k3 => @autI_N wb.heap.size wb.heap.size i b t (daR b i) (daF i) i i G w2 w3 vN vE vals gc o g' cap' (autI_keep HA.out (fun x hx => hb.block x (HA.out.lt x hx).2) hb.size) (by rw [HOUT.out]; exact hr) ⟨fun h => by have := (HA.out.lt _ h).2; omega, Nat.le_trans HA.out.hb hgc⟩ k1 k2 k3
      have HCS := hide (HST.out wr.drew)
      have HLB : Hid (wb.heap.size ≤ wr.heap.size) := hA.hb
      clear hA hbw
      go_wp2_with fail
      go_region_law (first
        | (refine step_append_lies _ rfl (.tmp 63) (.tmp 67) 22 rfl wb.heap.size 31 j0 (.slice none 0 0) 1 24 Try.underlying22 hj0 hy0 hy1 hy2 rfl (by decide) vN i vals (by simp [Act.eval]) ((HON.out w2 HB2.out).alloc _) ⟨w2.heap.size, 0, none⟩ 1 1 [.slice (some ⟨gc, 0, none⟩) i i] (by simp [Act.eval]) rfl (one_new _ _ _) (fun u hu => by simp at hu; subst hu; rfl) (by omega) (by unfold maxLen; omega) (by omega) (by have := HLB.out; have := HB2.out.size; simp; omega) (w2.heap.size + 1) (by simp) ?_; intro g' cg w3 hown3 hgrow3 hat3 hlt3; obtain ⟨⟨hn1', hn2'⟩, hn3', hn4'⟩ := HNN.out w2 gc HB2.out HGC.out HRC.out w3 _ g' cg hown3 hgrow3 (by rw [World.size_alloc]; exact hat3); have HN3 := hide hn3'; have HN4 := hide hn4'; clear hown3 hgrow3 hat3 hn3' hn4' hlt3)
        | (go_simp; go_at_call 11; refine HCS.out.mono ?_; rintro e w2 ⟨gc, rfl, hgc, hrc, hb2⟩; have HB2 := hide ((Below.refl wr.heap.size wr).drew.trans hb2); have HGC : Hid (wr.heap.size ≤ gc) := hgc; have HRC := hide hrc; have hcB := HC2.out w2 HB2.out; have hcB2 := HC2.out (w2.alloc (.cells #[.slice (some ⟨gc, 0, none⟩) i i] 31)) (HB2.out.trans (((Below.refl w2.heap.size w2).alloc (Nat.le_refl _) _).mono HB2.out.size)); clear hgc hrc hb2))
      all_goals
        clear hcN hcB hcB2 hn1' hn2'
        generalize w3.setCell ⟨wb.heap.size, 2, none⟩ (.slice (some ⟨g', 0, none⟩) (i + 1) cg) = w5 at HN3 HN4 ⊢
        have HB5 : Hid (Below wb.heap.size wb w5) := below_tch (HBW.out.trans (HB2.out.mono HBW.out.size)) HN4.out (fun x hx => (HA.out.lt x hx).1) (Nat.le_trans HLB.out HB2.out.size)
        have hcE : w5.cell? ⟨wb.heap.size, 3, none⟩ = some vE := (box_cells HN3.out.box).1.2.2.2
        have HNE := hide (fun w6 o g2 cap2 k1 k2 k3 => @autI_E wb.heap.size wb.heap.size i b t (daR b i) (daF i) (i + 1) i _ w5 w6 _ vE _ o g2 cap2 HN3.out k1 k2 k3)
        rw [HFF.out] at HNE
        have HOE := hide HN3.out.ownE
        have HS5 : Hid (wb.heap.size ≤ w5.heap.size) := HN3.out.hb
        go_upto_region 22 with (at_builtin; refine wpList_append_lies _ rfl _ _ 23 rfl wb.heap.size 4 l0 (.bool false) 1 1 Try.underlying23 hl0 hv0 hv1 hv2 rfl (by decide) vE i _ rfl (HOE.out.alloc _) ⟨w5.heap.size, 0, none⟩ 1 1 [.bool false] rfl rfl (one_new _ _ _) (fun u hu => by simp at hu; subst hu; rfl) (by omega) (by unfold maxLen; omega) (by omega) (by have := HS5.out; simp; omega) (w5.heap.size + 1) (by simp) ?_; intro g2 cap2 w7 hown7 hgrow7 hat7 hlt7; obtain ⟨⟨m1', m2'⟩, m3', m4'⟩ := HNE.out w7 _ g2 cap2 hown7 hgrow7 (by rw [World.size_alloc]; exact hat7); have HM3 := hide m3'; have HM4 := hide m4'; clear m3' m4' hown7 hgrow7 hat7 hlt7)
        clear hcE m1' m2'
        generalize w7.setCell ⟨wb.heap.size, 3, none⟩ (.slice (some ⟨g2, 0, none⟩) (i + 1) cap2) = w8 at HM3 HM4 ⊢
        have HB8 : Hid (Below wb.heap.size wb w8) := below_tch HB5.out HM4.out (fun x hx => (HN3.out.lt x hx).1) HN3.out.hb
        obtain ⟨⟨x0, x1, x2, x3⟩, -⟩ := box_cells HM3.out.box
        obtain ⟨aN, cN, aE, cE, e1, e2, hs2, hsB⟩ := HSL.out _ _ _ _ _ HM3.out
        cases e1
        cases e2
        have HL := hide (HLE.out w8 _ cg _ cap2 hs2 hsB)
        clear hs2 hsB
        go_wp2_with fail
        refine HL.out.mono ?_
        rintro e w9 ⟨ay, cy, ay', cy', rfl, hnew, hb9⟩
        have hb9' := HB8.out.trans (hb9.mono HB8.out.size)
        have hr := (hb9'.block w.heap.size (by rw [HSZ.out]; omega)).trans HX1.out
        obtain ⟨⟨r0, r1, r2, r3⟩, rf⟩ := box_cells hr
        have HR := hide hr
        have HNW := hide hnew
        have HB9 : Hid (Below w.heap.size w w9) := HB0.out.trans (hb9'.mono HB0.out.size)
        have HS8 : Hid (w.heap.size < w8.heap.size ∧ w8.heap.size ≤ w9.heap.size) := ⟨by have := HB8.out.size; have := HSZ.out; omega, hb9.size⟩
        clear hr hnew hb9 hb9' x0 x1 x2 x3 HL
        go_wp2
        obtain ⟨⟨hset, hsz, hoth⟩, hbel⟩ := box_set (v0 := .int .i64 b) (v1 := .int .i64 t) (v2 := .slice ay LN.length cy) (v3 := .slice ay' LN.length cy') HR.out rfl
        have hb := hbel w w.heap.size HB9.out (by omega)
        obtain ⟨⟨z0, z1, z2, z3⟩, -⟩ := box_cells hset
        exact bodyPost_ret (v := .tuple #[.agg #[.int .i64 b, .int .i64 t, .slice ay LN.length cy, .slice ay' LN.length cy'], .nilIface]) (by simp [results, Try.results4, go_sem, z0, z1, z2, z3]) rfl ⟨ay, cy, ay', cy', rfl, fun W' hW' => HNW.out W' (fun x hx hxl => by
          have h8 := HS8.out
          rw [hW' x (by omega) (by rw [hsz]; exact hxl), hoth x (by omega)]), hb⟩

set_option maxHeartbeats 4000000 in
set_option maxRecDepth 8000 in
theorem all_bad (b t : Int) (w : World) (hM : codeM b t ≠ 0) : Calls Try.prog 4 #[.int .i64 b, .int .i64 t] w (PairR w 0 0 [] [] (codeM b t)) := by
  have HB0 := hide ((Below.refl w.heap.size w).alloc (Nat.le_refl _) (.cells #[.int .i64 0, .int .i64 0, .slice none 0 0, .slice none 0 0] 25))
  have HX1 := hide (heap_alloc_last w (.cells #[.int .i64 0, .int .i64 0, .slice none 0 0, .slice none 0 0] 25))
  generalize hwb : w.alloc (.cells #[.int .i64 0, .int .i64 0, .slice none 0 0, .slice none 0 0] 25) = wb at HB0 HX1
  have HMC := hide (many_u b t wb)
  unfold PairR
  rw [errV_no hM] at HMC ⊢
  clear hM
  generalize codeM b t = c at HMC ⊢
  generalize manyU b t = mu at HMC
  obtain ⟨⟨p0, p1, p2, p3⟩, pf⟩ := box_cells HX1.out
  go_enter Try.func4, Try.ntmps4
  go_wp2_with fail
  clear hwb
  refine HMC.out.mono ?_
  rintro e w' ⟨rfl, hw⟩
  rw [hw]
  clear hw w'
  go_wp2
  obtain ⟨⟨hset, -, -⟩, hbel⟩ := box_set0 HX1.out rfl
  obtain ⟨⟨z0, z1, z2, z3⟩, -⟩ := box_cells hset
  exact bodyPost_ret (v := .tuple #[.agg #[.int .i64 0, .int .i64 0, .slice none 0 0, .slice none 0 0], .iface 44 (.int .i64 c)]) (by simp [results, Try.results4, go_sem, z0, z1, z2, z3]) rfl ⟨none, 0, none, 0, rfl, autoNew_nil _ _, hbel _ _ HB0.out (by omega)⟩
/-- What right.All answers. -/
theorem all_says : AllSays := fun b t w => by
  by_cases hM : codeM b t = 0
  · obtain ⟨m, hm⟩ : ∃ m : Nat, manyU b t = (m : Int) := ⟨(manyU b t).toNat, by have := manyU_bd hM; omega⟩
    have h := all_ok b t m w hM hm
    have hl := da_least hM
    rw [hm, Int.toNat_natCast] at hl
    unfold LeastU at h
    rw [hl.1, hl.2] at h
    unfold PairR okI
    rw [if_pos hM, if_pos hM, errV_yes hM]
    exact h
  · have h := all_bad b t w hM
    have e1 : alN b t = [] := by unfold alN; rw [if_neg hM]
    have e2 : alE b t = [] := by unfold alE; rw [if_neg hM]
    unfold okI
    rw [if_neg hM, if_neg hM, e1, e2]
    exact h
end Go.Proofs.Ytebbjmcjgjecmaa
