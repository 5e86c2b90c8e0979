/- The reference's righted: contract. -/
import Derived.Deep.DeepCutAuto
import Derived.Deep.RegionHeldLaw
import Derived.Test.YtgbmemkoggogdaaDoorCi
import Derived.Test.YtgbmemkoggogdaaDoorZDb
import Derived.Test.YtgbmemkoggogdaaDoorZKc
namespace Go.Proofs.YtgbmemkoggogdaaDoor
open Go.RowKit

/-- The least one, or none, where it is too large. -/
def RgR (w : World) (b t : Int) (K : Nat) (L : List (List Int)) (LE : List Bool) (e : Ending) (w' : World) : Prop := (K ≤ 80 ∧ BothR w b t L LE 0 e w') ∨ (80 < K ∧ BothR w 0 0 [] [] 3 e w')

set_option maxHeartbeats 16000000 in
set_option maxRecDepth 8000 in
theorem righted_any (b : Int) (tr : Nat) (a : Option Addr) (n cap : Nat) (a' : Option Addr) (cap' m : Nat) (N : List (List Int)) (E : List Bool) (w : World)
    (hs : Sl2 w a n N) (he : SlB w a' n E) (hG : GoodN m n N) (hM : codeM b (tr : Int) = 0) (hm : (manyU b (tr : Int)).toNat = m) (hnn : n * (alN b (tr : Int)).length ≤ 4000000) :
    Calls Tryd.prog 15 #[.int .i64 b, .int .i64 (tr : Int), .slice a n cap, .slice a' n cap'] w (RgR w b (tr : Int) (leastK (prodN N (alN b (tr : Int)) m) (prodE 8 n (alN b (tr : Int)).length E (alE b (tr : Int))) m) (leastN (prodN N (alN b (tr : Int)) m) (prodE 8 n (alN b (tr : Int)).length E (alE b (tr : Int))) m) (leastE (prodN N (alN b (tr : Int)) m) (prodE 8 n (alN b (tr : Int)).length E (alE b (tr : Int))) m)) := by
  obtain ⟨i0, hi0, hz0, hz1, hz2⟩ := info_parts info3
  obtain ⟨j0, hj0, hy0, hy1, hy2⟩ := info_parts infoS2
  obtain ⟨l0, hl0, hv0, hv1, hv2⟩ := info_parts infoBo
  have hL := al_well hM
  rw [hm] at hL
  have hG2 := hL.good
  have HB0 := hide ((Below.refl w.heap.size w).alloc (Nat.le_refl _) (.cells #[.int .i64 0, .int .i64 0, .slice none 0 0, .slice none 0 0] 30))
  have HX1 := hide (heap_alloc_last w (.cells #[.int .i64 0, .int .i64 0, .slice none 0 0, .slice none 0 0] 30))
  have HSZ0 : Hid ((w.alloc (.cells #[.int .i64 0, .int .i64 0, .slice none 0 0, .slice none 0 0] 30)).heap.size = w.heap.size + 1) := by show _ = _; simp
  generalize hwb : w.alloc (.cells #[.int .i64 0, .int .i64 0, .slice none 0 0, .slice none 0 0] 30) = w0 at HB0 HX1 HSZ0
  have HAL := hide (allOf_any b tr w0 hM)
  unfold GivesAuto at HAL
  generalize alN b (tr : Int) = N2 at HAL hG2 hnn ⊢
  generalize alE b (tr : Int) = E2 at HAL ⊢
  obtain ⟨n2, hn2⟩ : ∃ n2, N2.length = n2 := ⟨_, rfl⟩
  rw [hn2] at HAL hG2 hnn ⊢
  have HS0 := hide (sl2_below hs HB0.out)
  have HE0 := hide (slB_below he HB0.out)
  have HG := hide hG
  have HG2 := hide hG2
  have hn1 := hG.2.1
  have hn64 := hG.2.2.1
  have hm36 := hG.2.2.2.1
  have hn21 := hG2.2.1
  have hn264 := hG2.2.2.1
  have HPG := hide (fun s h => @prodN_get N N2 m s h)
  have HPE := hide (fun s h => @prodE_get 8 n n2 E E2 s h)
  have HPC := hide (fun s l h1 h2 => @prod_cell m n n2 N N2 hG hG2 s l h1 h2)
  have HLN : Hid ((prodN N N2 m).length = n * n2) := by show _ = _; simp [prodN, hG.1, hG2.1]
  have HLE : Hid ((prodE 8 n n2 E E2).length = n * n2) := by show _ = _; simp [prodE]
  have HGP := hide (prod_good hG hG2 hnn)
  have HSH := hide (fun ap cp ap' cp' W h1 h2 => shrunk_u b (tr : Int) ap (n * n2) cp m (prodN N N2 m) ap' cp' (prodE 8 n n2 E E2) W h1 HGP.out h2)
  unfold ShrR ShrU at HSH
  unfold RgR BothR
  clear hs he hG hG2 hL hM hm hn2
  generalize hPN : prodN N N2 m = PN at HPG HPC HLN HGP HSH ⊢
  generalize hPE : prodE 8 n n2 E E2 = PE at HPE HLE HSH ⊢
  clear hPN hPE
  generalize leastN PN PE m = L at HSH ⊢
  generalize leastE PN PE m = LE at HSH ⊢
  generalize leastK PN PE m = K at HSH ⊢
  go_enter Tryd.func15, Tryd.ntmps15
  go_wp2_with fail
  clear hwb
  refine HAL.out.mono ?_
  rintro e w1 ⟨a2, cap2, a2', cap2', rfl, hnew, hb1⟩
  obtain ⟨hs2, he2⟩ := hnew.here
  have hba := (Below.refl w1.heap.size w1).alloc (Nat.le_refl _) (.cells #[.int .i64 b, .int .i64 (tr : Int), .slice a2 n2 cap2, .slice a2' n2 cap2'] 30)
  have HS := hide (sl2_below HS0.out (below_step hb1 hba))
  have HE := hide (slB_below HE0.out (below_step hb1 hba))
  have HS2 := hide (sl2_below hs2 hba)
  have HE2 := hide (slB_below he2 hba)
  have HXA := hide (heap_alloc_last w1 (.cells #[.int .i64 b, .int .i64 (tr : Int), .slice a2 n2 cap2, .slice a2' n2 cap2'] 30))
  have HB := hide (below_step HB0.out (below_step hb1 hba))
  have HXR : Hid ((w1.alloc (.cells #[.int .i64 b, .int .i64 (tr : Int), .slice a2 n2 cap2, .slice a2' n2 cap2'] 30)).heap[w.heap.size]? = some (.cells #[.int .i64 0, .int .i64 0, .slice none 0 0, .slice none 0 0] 30 (0, 0))) := ((below_step hb1 hba).block _ (by rw [HSZ0.out]; omega)).trans HX1.out
  have HSZ : Hid (w.heap.size + 1 ≤ (w1.alloc (.cells #[.int .i64 b, .int .i64 (tr : Int), .slice a2 n2 cap2, .slice a2' n2 cap2'] 30)).heap.size) := by have h1 := (below_step hb1 hba).size; have h2 := HSZ0.out; show _ ≤ _; omega
  obtain ⟨⟨q0, q1, q2, q3⟩, -⟩ := box_cells HXA.out
  clear hnew hb1 hba hs2 he2 HAL HS0 HE0 HX1 HB0
  go_wp2
  clear q0 q1 q2 q3
  generalize w1.alloc (.cells #[.int .i64 b, .int .i64 (tr : Int), .slice a2 n2 cap2, .slice a2' n2 cap2'] 30) = wb at HS HE HS2 HE2 HXA HB HXR HSZ ⊢
  have HBX : Hid (∀ W, Below wb.heap.size wb W → W.cell? ⟨w1.heap.size, 0, none⟩ = some (.int .i64 b) ∧ W.cell? ⟨w1.heap.size, 1, none⟩ = some (.int .i64 (tr : Int)) ∧ W.cell? ⟨w1.heap.size, 2, none⟩ = some (.slice a2 n2 cap2) ∧ W.cell? ⟨w1.heap.size, 3, none⟩ = some (.slice a2' n2 cap2')) := fun W hW => (box_cells ((hW.block _ (Array.getElem?_eq_some_iff.1 HXA.out).1).trans HXA.out)).1
  have HP0 := hide (prAt_start wb (fun s => PN.getD s []) (fun s => PE.getD s false))
  go_loopw [14, 12, 13] (fun xv vN vE wx => ∃ x : Nat, x ≤ n ∧ xv = .int .i64 x ∧ PrAt wb (fun s => PN.getD s []) (fun s => PE.getD s false) (x * n2) (x * n2) vN vE wx) (fun xv _ _ _ => n - (intOf xv).toNat)
  case atStart => exact ⟨0, by omega, rfl, by rw [Nat.zero_mul]; exact HP0.out⟩
  case round =>
    obtain ⟨x, hx, rfl, hpr⟩ := hrel
    have HPR := hide hpr
    have HBW : Hid (Below wb.heap.size wb wr) := by obtain ⟨_, _, _, _, h⟩ := hpr; exact h
    clear hpr
    by_cases hxl : x < n
    · have hxi : (x : Int) < (n : Int) := by omega
      have hxs := Nat.mul_le_mul_right n2 (show x + 1 ≤ n from hxl)
      rw [Nat.add_mul, Nat.one_mul] at hxs
      go_wp2
      clear HBW
      go_loopw [15, 12, 13] (fun yv vN vE wx => ∃ y : Nat, y ≤ n2 ∧ yv = .int .i64 y ∧ PrAt wb (fun s => PN.getD s []) (fun s => PE.getD s false) (x * n2 + y) (x * n2 + y) vN vE wx) (fun yv _ _ _ => n2 - (intOf yv).toNat)
      case atStart => exact ⟨0, by omega, rfl, HPR.out⟩
      case round =>
        obtain ⟨y, hy, rfl, hpr⟩ := hrel
        have HPR2 := hide hpr
        have HBW : Hid (Below wb.heap.size wb wr) := by obtain ⟨_, _, _, _, h⟩ := hpr; exact h
        clear hpr
        by_cases hyl : y < n2
        · have hyi : (y : Int) < (n2 : Int) := by omega
          have hsl : x * n2 + y < n * n2 := by omega
          have hparts := pair_parts hxl hyl
          have HPE1 := hide (HPE.out _ hsl)
          rw [hparts.1, hparts.2] at HPE1
          have HPC1 : Hid (∀ l, l < m → (PN.getD (x * n2 + y) []).getD l 0 = ((nxt N x l * n2 + nxt N2 y l : Nat) : Int)) := fun l hl => by
            have := HPC.out _ l hsl hl
            rwa [hparts.1, hparts.2] at this
          have HRL : Hid ((PN.getD (x * n2 + y) []).length = m) := (HGP.out.2.2.2.2.2 _ hsl).1
          obtain ⟨bn, on, an, cn, rfl, hcn, hsn⟩ := sl2_cell HS.out x hxl
          rw [(HG.out.2.2.2.2.2 x hxl).1] at hcn hsn
          obtain ⟨bn2, on2, an2, cn2, rfl, hcn2, hsn2⟩ := sl2_cell HS2.out y hyl
          rw [(HG2.out.2.2.2.2.2 y hyl).1] at hcn2 hsn2
          have HCN := hide hcn
          have HCN2 := hide hcn2
          have HSN := hide hsn
          have HSN2 := hide hsn2
          clear hparts hcn hcn2 hsn hsn2
          generalize hsq : x * n2 + y = sq at HPE1 HPC1 HRL HPR2 hsl
          have HSQ := hide hsq
          clear hsq
          obtain ⟨row, hrow⟩ : ∃ row, row = PN.getD sq [] := ⟨_, rfl⟩
          rw [← hrow] at HPC1 HRL
          have HROW := hide hrow
          clear hrow
          have HG0 : Hid (GrowR wr (row.take 0) (.slice none 0 0) wr) := ⟨World.ownsRow_nil _ _ _ _, Below.refl _ _⟩
          go_wp2
          obtain ⟨wq, hwq⟩ : ∃ wq : World, wq = wr := ⟨_, rfl⟩
          rw [← hwq] at HPR2 HBW HG0 ⊢
          clear hwq wr
          go_loopw [16, 17] (fun v lv wx => ∃ l : Nat, l ≤ m ∧ lv = .int .i64 l ∧ GrowR wq (row.take l) v wx) (fun _ lv _ => m - (intOf lv).toNat)
          case atStart => exact ⟨0, by omega, rfl, HG0.out⟩
          case round =>
            obtain ⟨l, hl, rfl, hgr⟩ := hrel
            have HGR := hide hgr
            have HBL := hide (HBW.out.trans (hgr.2.mono HBW.out.size))
            obtain ⟨q0, q1, q2, q3⟩ := HBX.out wr HBL.out
            have hcn : wr.cell? ⟨bn, on + x, none⟩ = some (.slice an m cn) := (HBL.out.cell (p := ⟨bn, on + x, none⟩) (World.block_lt_of_cell? _ _ HCN.out)).trans HCN.out
            have hcn2 : wr.cell? ⟨bn2, on2 + y, none⟩ = some (.slice an2 m cn2) := (HBL.out.cell (p := ⟨bn2, on2 + y, none⟩) (World.block_lt_of_cell? _ _ HCN2.out)).trans HCN2.out
            clear hgr q0 q1 q3
            by_cases hlm : l < m
            · have hlmi : (l : Int) < (m : Int) := by omega
              obtain ⟨b1, o1, rfl, hcx⟩ := sl_cell (sl_below HSN.out HBL.out) l hlm
              obtain ⟨b3, o3, rfl, hcy⟩ := sl_cell (sl_below HSN2.out HBL.out) l hlm
              have hnx := nxt_cell HG.out hxl hlm
              have hny := nxt_cell HG2.out hyl hlm
              rw [hnx.2] at hcx
              rw [hny.2] at hcy
              have hz := HPC1.out l hlm
              have hbd := pair_lt hnx.1 hny.1
              have HTS : Hid (row.take (l + 1) = row.take l ++ [row.getD l 0]) := by show _ = _; rw [List.take_succ_eq_append_getElem (by have := HRL.out; omega), getD_at _ l (by have := HRL.out; omega)]
              rw [hz, show ((nxt N x l * n2 + nxt N2 y l : Nat) : Int) = (nxt N x l : Int) * (n2 : Int) + (nxt N2 y l : Int) by simp] at HTS
              have HTL : Hid ((row.take l).length = l) := by show _ = _; rw [List.length_take]; have := HRL.out; omega
              have HOWN := hide HGR.out.1
              rw [HTL.out] at HOWN
              have HSZ := hide HGR.out.2.size
              have hul := hnx.1
              have hvl := hny.1
              clear hz hnx hny
              generalize nxt N x l = u at hcx HTS hbd hul
              generalize nxt N2 y l = v at hcy HTS hbd hvl
              obtain ⟨pr, hpr⟩ : ∃ pr : Nat, (u : Int) * (n2 : Int) = (pr : Int) := ⟨u * n2, by simp⟩
              have hpb : pr + v < 4000000 := by
                have h1 : ((u * n2 : Nat) : Int) = (pr : Int) := by rw [← hpr]; simp
                omega
              rw [hpr] at HTS
              have hwp : IntKind.i64.wrap (pr : Int) = (pr : Int) := wrap_small (by omega) (by omega)
              have hws : IntKind.i64.wrap ((pr : Int) + (v : Int)) = (pr : Int) + (v : Int) := wrap_small (by omega) (by omega)
              clear hbd
              have HKEEP : Hid (∀ (w3 : World) (o : Obj) (vr : Value), wr.ownsRow wq.heap.size 3 1 vr l ((row.take l).map (Value.int .i64)) → (wr.alloc o).drew.grownBy w3 vr.ownBlock → w3.cell? ⟨w1.heap.size, 2, none⟩ = some (.slice (some ⟨bn2, on2, none⟩) n2 cap2) ∧ w3.cell? ⟨bn, on + x, none⟩ = some (.slice (some ⟨b1, o1, none⟩) m cn) ∧ w3.cell? ⟨bn2, on2 + y, none⟩ = some (.slice (some ⟨b3, o3, none⟩) m cn2) ∧ w3.cell? ⟨b1, o1 + l, none⟩ = some (.int .i64 (u : Int)) ∧ w3.cell? ⟨b3, o3 + l, none⟩ = some (.int .i64 (v : Int))) := by
                intro w3 o vr hr hg
                have hB3 : Below wq.heap.size wq w3 := Below.grown ((HGR.out.2.alloc HSZ.out o).drew) hg (by have := HSZ.out; simp; omega) (fun k hk => (hr.lt k hk).1)
                have hBb := HBW.out.trans (hB3.mono HBW.out.size)
                obtain ⟨-, -, f2, -⟩ := HBX.out w3 hBb
                refine ⟨f2, (hBb.cell (p := ⟨bn, on + x, none⟩) (World.block_lt_of_cell? _ _ HCN.out)).trans HCN.out, (hBb.cell (p := ⟨bn2, on2 + y, none⟩) (World.block_lt_of_cell? _ _ HCN2.out)).trans HCN2.out, ?_, ?_⟩
                · obtain ⟨b1', o1', e, hc⟩ := sl_cell (sl_below HSN.out hBb) l hlm
                  obtain ⟨b1'', o1'', e', hc'⟩ := sl_cell (sl_below HSN.out HBL.out) l hlm
                  cases e
                  cases e'
                  rw [hc, ← hc', hcx]
                · obtain ⟨b1', o1', e, hc⟩ := sl_cell (sl_below HSN2.out hBb) l hlm
                  obtain ⟨b1'', o1'', e', hc'⟩ := sl_cell (sl_below HSN2.out HBL.out) l hlm
                  cases e
                  cases e'
                  rw [hc, ← hc', hcy]
              go_wp2
              go_region_held_law (fun W => W.cell? ⟨w1.heap.size, 2, none⟩ = some (.slice (some ⟨bn2, on2, none⟩) n2 cap2) ∧ W.cell? ⟨bn, on + x, none⟩ = some (.slice (some ⟨b1, o1, none⟩) m cn) ∧ W.cell? ⟨bn2, on2 + y, none⟩ = some (.slice (some ⟨b3, o3, none⟩) m cn2) ∧ W.cell? ⟨b1, o1 + l, none⟩ = some (.int .i64 (u : Int)) ∧ W.cell? ⟨b3, o3 + l, none⟩ = some (.int .i64 (v : Int))) (first | go_keep | exact HKEEP.out _ _ _ HOWN.out hgrow5)
                (first | (refine step_append_lies _ rfl (.tmp 46) (.tmp 65) 23 rfl wq.heap.size 3 i0 (.int .i64 0) 1 8 Tryd.underlying23 hi0 hz0 hz1 hz2 rfl (by decide) _ l _ rfl (World.ownsRow.alloc (w := wr) HOWN.out _) ⟨wr.heap.size, 0, none⟩ 1 1 [.int .i64 ((pr : Int) + (v : Int))] (by simp [Act.eval]) rfl (one_new wr _ _) (fun u hu => by simp at hu; subst hu; rfl) (by omega) (by unfold maxLen; omega) (by omega) (by have := HSZ.out; simp; omega) (wr.heap.size + 1) (by simp) ?_; intro g5 cg5 w6 hown5 hgrow5 hat5 hlt5; have HO5 := hide hown5; have HG5 := hide hgrow5))
              all_goals
                go_wp2
                go_roundw
                case rel =>
                  refine ⟨l + 1, by omega, by go_num, ?_⟩
                  rw [HTS.out]
                  exact growR_push (o := .cells #[.int .i64 ((pr : Int) + (v : Int))] 3) HGR.out (by rw [HTL.out]; exact HO5.out) ⟨HG5.out.os, HG5.out.tape, HG5.out.output, HG5.out.size, HG5.out.block⟩
                case measure => simp [intOf]; omega
            · have hlmi : ¬ ((l : Int) < (m : Int)) := by omega
              obtain rfl : m = l := by omega
              have HFULL : Hid (row.take m = row) := List.take_of_length_le (by have := HRL.out; omega)
              rw [HFULL.out] at HGR
              have hwf : ∀ z ∈ row, (Lit.int .i64 z).wf = true := fun z hz => by
                obtain ⟨i, hi, rfl⟩ := List.getElem_of_mem hz
                have hi2 : i < m := by have := HRL.out; omega
                have h1 := HPC1.out i hi2
                rw [getD_at _ i hi] at h1
                rw [h1]
                have h2 := pair_lt (nxt_cell HG.out hxl hi2).1 (nxt_cell HG2.out hyl hi2).1
                exact WalkArith.wf_i64 (by omega)
              obtain ⟨ar, cr, rfl, hsr⟩ := sl_of_owns rfl (by unfold maxLen; have := HRL.out; omega) hwf HGR.out.1
              have HON := hide (@prAt_N wb (fun s => PN.getD s []) (fun s => PE.getD s false) sq sq _ _ wq wr ar cr HPR2.out HGR.out.2 (by simp only [← HROW.out]; exact hsr))
              simp only [← HROW.out] at HON
              rw [HRL.out] at HON
              obtain ⟨vals, hoN, hszN, hnx⟩ := HON.out
              have HNX := hide hnx
              have HOWN := hide hoN
              have HSZ := hide hszN
              obtain ⟨be, oe, rfl, hce⟩ := slB_cell HE.out x hxl
              obtain ⟨be2, oe2, rfl, hce2⟩ := slB_cell HE2.out y hyl
              obtain ⟨-, -, -, q3⟩ := HBX.out wr HBL.out
              have hrlm := HRL.out
              clear hnx hoN hszN HON hsr hwf
              rw [HRL.out]
              have HPX := hide (fun (w3 : World) v3 (h : PrAt wb (fun s => PN.getD s []) (fun s => PE.getD s false) (sq + 1) sq v3 u13 w3) => prAt_E h)
              simp only [HPE1.out] at HPX
              generalize E.getD x false = ex at hce HPE1 HPX
              generalize E2.getD y false = ey at hce2 HPE1 HPX
              have HCE := hide hce
              have HCE2 := hide hce2
              rcases ex with _ | _ <;> rcases ey with _ | _
              all_goals
                simp only [howB] at HPX
                go_upto_region 17 with (at_builtin; refine wpList_append_lies _ rfl _ _ 22 rfl wb.heap.size 23 j0 (.slice none 0 0) 1 24 Tryd.underlying22 hj0 hy0 hy1 hy2 rfl (by decide) u12 sq vals rfl (HOWN.out.alloc _) ⟨wr.heap.size, 0, none⟩ 1 1 [.slice ar m cr] rfl rfl (one_new _ _ _) (fun u hu => by simp at hu; subst hu; rfl) (by omega) (by unfold maxLen; omega) (by omega) (by have := HSZ.out; simp; omega) (wr.heap.size + 1) (by simp) ?_; intro g' cg w3 hown3 hgrow3 hat3 hlt3; have HN3 := hide (HNX.out w3 _ g' cg hown3 hgrow3 hat3); obtain ⟨hoE, hszE, hnxE⟩ := HPX.out w3 _ HN3.out; have HOE := hide hoE; have HSE := hide hszE; have HNE := hide hnxE; clear hown3 hgrow3 hat3 hlt3 hoE hszE hnxE)
                have HBW3 : Hid (Below wb.heap.size wb w3) := by obtain ⟨_, _, _, _, h⟩ := HN3.out; exact h
                have hce3 : w3.cell? ⟨be, oe + x, none⟩ = some (.bool _) := (HBW3.out.cell (p := ⟨be, oe + x, none⟩) (World.block_lt_of_cell? _ _ HCE.out)).trans HCE.out
                have hce23 : w3.cell? ⟨be2, oe2 + y, none⟩ = some (.bool _) := (HBW3.out.cell (p := ⟨be2, oe2 + y, none⟩) (World.block_lt_of_cell? _ _ HCE2.out)).trans HCE2.out
                obtain ⟨-, -, -, q33⟩ := HBX.out w3 HBW3.out
                clear hce hce2 q3
                go_wp2_with (at_builtin; refine wpList_append_lies _ rfl _ _ 28 rfl wb.heap.size 4 l0 (.bool false) 1 1 Tryd.underlying28 hl0 hv0 hv1 hv2 rfl (by decide) u13 sq _ rfl (HOE.out.alloc _) ⟨w3.heap.size, 0, none⟩ 1 1 [_] rfl rfl (one_new _ _ _) (fun u hu => by simp at hu; subst hu; rfl) (by omega) (by unfold maxLen; omega) (by omega) (by have := HSE.out; simp; omega) (w3.heap.size + 1) (by simp) ?_; intro g5 cg5 w6 hown5 hgrow5 hat5 hlt5; have HM3 := hide (HNE.out w6 _ g5 cg5 hown5 hgrow5 hat5); clear hown5 hgrow5 hat5 hlt5)
                go_roundw
                case rel => exact ⟨y + 1, by omega, by go_num, by rw [← Nat.add_assoc, HSQ.out]; exact HM3.out⟩
                case measure => simp [intOf]; omega
        · have hyi : ¬ ((y : Int) < (n2 : Int)) := by omega
          obtain rfl : y = n2 := by omega
          go_wp2
          go_roundw
          case rel => exact ⟨x + 1, by omega, by go_num, by rw [Nat.add_mul, Nat.one_mul]; exact HPR2.out⟩
          case measure => simp [intOf]; omega
    · have hxi : ¬ ((x : Int) < (n : Int)) := by omega
      obtain rfl : x = n := by omega
      obtain ⟨ap, cp, ap', cp', rfl, rfl, hf1, hf2, hf3⟩ := prAt_end HPR.out (by unfold maxLen; omega) PN HLN.out (fun _ _ => rfl) PE HLE.out (fun _ _ => rfl)
      have HF3 := hide hf3
      have HC := hide (HSH.out ap cp ap' cp' wr hf1 hf2)
      clear hf1 hf2 hf3
      go_wp2_with fail
      refine HC.out.mono ?_
      rintro e w3 (⟨hK, ax, cx, ax', cx', rfl, hnew, hb3⟩ | ⟨hK, rfl, hb3⟩)
      · have HK := hide hK
        have HNEW := hide hnew
        have HB3 := hide (below_step HF3.out hb3)
        have HSW : Hid (w.heap.size + 1 ≤ wr.heap.size) := by have := HF3.out.size; have := HSZ.out; show _ ≤ _; omega
        clear hK hnew hb3 HC
        have hba := HB3.out.alloc HB3.out.size (.cells #[.int .i64 b, .int .i64 (tr : Int), .slice ax L.length cx, .slice ax' L.length cx'] 30)
        have hr := (hba.block _ (by have := HSZ.out; omega)).trans HXR.out
        obtain ⟨⟨r0, r1, r2, r3⟩, rf⟩ := box_cells hr
        have HR := hide hr
        have HBA := hide (below_step HB.out hba)
        clear hr hba
        go_wp2
        obtain ⟨⟨hset, hsz, hoth⟩, hbel⟩ := box_set (v0 := .int .i64 b) (v1 := .int .i64 (tr : Int)) (v2 := .slice ax L.length cx) (v3 := .slice ax' L.length cx') HR.out rfl
        obtain ⟨⟨z0, z1, z2, z3⟩, -⟩ := box_cells hset
        exact bodyPost_ret (v := .tuple #[.agg #[.int .i64 b, .int .i64 (tr : Int), .slice ax L.length cx, .slice ax' L.length cx'], .int .i64 0]) (by simp [results, Tryd.results15, go_sem, z0, z1, z2, z3]) rfl (.inl ⟨HK.out, ax, cx, ax', cx', rfl, fun W' hW' => (HNEW.out.below ((Below.refl w3.heap.size w3).alloc (Nat.le_refl _) (.cells #[.int .i64 b, .int .i64 (tr : Int), .slice ax L.length cx, .slice ax' L.length cx'] 30))) W' fun x hx hxl => by
          have h8 := HSW.out
          rw [hW' x (by omega) (by rw [hsz]; exact hxl), hoth x (by omega)], hbel _ _ HBA.out (by omega)⟩)
      · have HK := hide hK
        have HB3 := hide (below_step HF3.out hb3)
        clear hK hb3 HC
        have hba := HB3.out.alloc HB3.out.size (.cells #[.int .i64 0, .int .i64 0, .slice none 0 0, .slice none 0 0] 30)
        have hr := (hba.block _ (by have := HSZ.out; omega)).trans HXR.out
        obtain ⟨⟨r0, r1, r2, r3⟩, rf⟩ := box_cells hr
        have HR := hide hr
        have HBA := hide (below_step HB.out hba)
        clear hr hba
        go_wp2
        obtain ⟨⟨hset, hsz, hoth⟩, hbel⟩ := box_set (v0 := .int .i64 0) (v1 := .int .i64 0) (v2 := .slice none 0 0) (v3 := .slice none 0 0) HR.out rfl
        obtain ⟨⟨z0, z1, z2, z3⟩, -⟩ := box_cells hset
        exact bodyPost_ret (v := .tuple #[.agg #[.int .i64 0, .int .i64 0, .slice none 0 0, .slice none 0 0], .int .i64 3]) (by simp [results, Tryd.results15, go_sem, z0, z1, z2, z3]) rfl (.inr ⟨HK.out, none, 0, none, 0, rfl, autoNew_nil _ _, hbel _ _ HBA.out (by omega)⟩)
end Go.Proofs.YtgbmemkoggogdaaDoor
