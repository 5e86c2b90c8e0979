/- count.Long at whatever it is given; the reference's LongOf: contracts. -/
import Derived.BigQuiet
import Derived.Deep.DeepCutAuto
import Derived.Test.YtlgjadnkokmjoaaDoorCtn
import Derived.Test.YtlgjadnkokmjoaaDoorZCtc
import Derived.Test.YtlgjadnkokmjoaaDoorZNr
namespace Go.Proofs.YtlgjadnkokmjoaaDoor
open Go.RowKit

/-- Of each state, how many words of so many letters are taken from there on. -/
def bwL (N : List (List Int)) (E : List Bool) (m n k : Nat) : List Int := (List.range n).map fun s => capI (wayL N E (List.replicate k (rngL m)) s)
theorem bwL_len (N : List (List Int)) (E : List Bool) (m n k : Nat) : (bwL N E m n k).length = n := by simp [bwL]
theorem bwL_get {N : List (List Int)} {E : List Bool} {m n k s : Nat} (h : s < n) : (bwL N E m n k).getD s 0 = capI (wayL N E (List.replicate k (rngL m)) s) := by simp [bwL, List.getD, h]
theorem bwL_bd (N : List (List Int)) (E : List Bool) (m n k : Nat) : bdL n (bwL N E m n k) := ⟨bwL_len _ _ _ _ _, fun i hi => by rw [bwL_get hi]; exact capI_bd (wayL_nn _ _ _ _)⟩
theorem bwL_step {N : List (List Int)} {E : List Bool} {m n k s : Nat} (hG : GoodN m n N) (hs : s < n) : (bwL N E m n (k + 1)).getD s 0 = ccap (fun j => (bwL N E m n k).getD (nxA N s (j : Int)) 0) m := by
  have hx : ∀ j, j < m → nxA N s (j : Int) < n := fun j hj => by
    have := okLs_lt (okLs_rng hG) hs (j := j) (by rw [rngL_len]; exact hj)
    rwa [rngL_get hj] at this
  rw [bwL_get hs, ccap_eq (fun j hj => by rw [bwL_get (hx j hj)]; exact (capI_bd (wayL_nn _ _ _ _)).1)]
  show capI (csum (fun j => wayL N E (List.replicate k (rngL m)) (nxA N s ((rngL m).getD j 0))) (rngL m).length) = _
  rw [rngL_len]
  refine csum_cap (fun j hj => wayL_nn _ _ _ _) (fun j hj => ?_) (fun j hj => ?_)
  · rw [bwL_get (hx j hj)]; exact (capI_bd (wayL_nn _ _ _ _)).1
  · rw [bwL_get (hx j hj), rngL_get hj]
    generalize wayL N E (List.replicate k (rngL m)) (nxA N s (j : Int)) = z
    unfold capI
    repeat' split
    all_goals omega
theorem fillAt_skip {w : World} {T : List Int} {m k : Nat} {wx : World} (h : FillAt w T m k wx) (e : T.getD k 0 = 0) : FillAt w T m (k + 1) wx :=
  ⟨h.1.congr fun i _ => by
    by_cases h1 : i < k
    · rw [if_pos h1, if_pos (by omega)]
    · rw [if_neg h1]
      by_cases h2 : i = k
      · subst h2; rw [if_pos (by omega), e]
      · rw [if_neg (by omega)], h.2⟩
set_option maxHeartbeats 4000000 in
set_option maxRecDepth 4000 in
theorem long_any (b t : Int) (a : Option Addr) (n cap : Nat) (a' : Option Addr) (k' cap' : Nat) (N : List (List Int)) (E : List Bool) (x : Int) (w : World) (hs : Sl2 w a n N) (he : SlB w a' k' E) :
    Calls Tryd.prog 8 #[.agg #[.int .i64 b, .int .i64 t, .slice a n cap, .slice a' k' cap'], .int .i64 x] w (EvlR w (longV b t N E k' x) (longC b t N E k' x)) := by
  by_cases hA : autoC b t N k' = 0
  · by_cases hx : 0 ≤ x ∧ x ≤ 400
    · obtain ⟨k, rfl⟩ : ∃ k : Nat, x = k := ⟨x.toNat, by omega⟩
      have hkn : k' = n := by rw [(autoC_zero hA).2.1, hs.1]
      subst hkn
      have hc : longC b t N E k' (k : Int) = if lgV N E (manyU b t).toNat k ≤ 1152921504606846976 then 0 else 3 := by unfold longC; rw [if_pos hA, if_pos hx, Int.toNat_natCast]
      have hv : longV b t N E k' (k : Int) = if lgV N E (manyU b t).toNat k ≤ 1152921504606846976 then lgV N E (manyU b t).toNat k else 0 := by
        unfold longV
        rw [hc, Int.toNat_natCast]
        by_cases h : lgV N E (manyU b t).toNat k ≤ 1152921504606846976
        · rw [if_pos h, if_pos rfl, if_pos h]
        · rw [if_neg h, if_neg (by decide), if_neg h]
      rw [hc, hv]
      exact long_ok b t a k' cap a' cap' N E k w hs he hA (by omega)
    · have hc : longC b t N E k' x = 1 := by unfold longC; rw [if_pos hA, if_neg hx]
      have hv : longV b t N E k' x = 0 := by unfold longV; rw [hc, if_neg (by decide)]
      rw [hc, hv]
      unfold EvlR
      rw [errV_no (show (1 : Int) ≠ 0 by decide)]
      have hB0 : Below w.heap.size w (w.alloc (.cells #[.int .i64 b, .int .i64 t, .slice a n cap, .slice a' k' cap'] 25)) := (Below.refl _ _).alloc (Nat.le_refl _) _
      have HB0 := hide hB0
      have HCK := hide (check_u b t a a' n cap k' cap' N _ (sl2_below hs hB0) he.2.1)
      rw [hA, errV_zero] at HCK
      have hcase : x < 0 ∨ (¬ x < 0 ∧ 400 < x) := by omega
      clear hs he hA hx hc hv hB0
      rcases hcase with h | ⟨h, h'⟩
      all_goals
        go_enter Tryd.func8, Tryd.ntmps8
        go_wp2_with (go_at_call 20; refine HCK.out.mono ?_; rintro e w1 ⟨rfl, hb1⟩; have HB1 := hide (below_step HB0.out hb1); clear hb1)
        go_ret2
        exact ⟨rfl, HB1.out⟩
  · have hc : longC b t N E k' x = autoC b t N k' := by unfold longC; rw [if_neg hA]
    have hv : longV b t N E k' x = 0 := by unfold longV; rw [hc, if_neg hA]
    rw [hc, hv]
    unfold EvlR
    rw [errV_no hA]
    have hB0 : Below w.heap.size w (w.alloc (.cells #[.int .i64 b, .int .i64 t, .slice a n cap, .slice a' k' cap'] 25)) := (Below.refl _ _).alloc (Nat.le_refl _) _
    have HB0 := hide hB0
    have HCK := hide (check_u b t a a' n cap k' cap' N _ (sl2_below hs hB0) he.2.1)
    rw [errV_no hA] at HCK
    generalize autoC b t N k' = c at HCK ⊢
    clear hs he hA hc hv hB0
    go_enter Tryd.func8, Tryd.ntmps8
    go_wp2_with (go_at_call 20; refine HCK.out.mono ?_; rintro e w1 ⟨rfl, hb1⟩; have HB1 := hide (below_step HB0.out hb1); clear hb1)
    go_ret2
    exact ⟨rfl, HB1.out⟩
def lgS (i : Nat) : Nat := ([54, 55, 56, 57, 58, 59, 60, 61, 62, 63, 64, 65, 66, 67, 68, 69, 70, 71, 72] : List Nat).getD i 0
theorem lgS_inj : ∀ i : Fin 19, ∀ j : Fin 19, lgS i.val = lgS j.val → i = j := by decide +kernel
theorem lgS_lt : ∀ i : Fin 19, lgS i.val < 89 := by decide +kernel
set_option maxHeartbeats 32000000 in
set_option maxRecDepth 8000 in
theorem longOf_any (b t : Int) (a : Option Addr) (n cap : Nat) (a' : Option Addr) (cap' : Nat) (N : List (List Int)) (E : List Bool) (m q : Nat) (w : World) (hs : Sl2 w a n N) (he : SlB w a' n E) (hG : GoodN m n N) (hn80 : n ≤ 80) (hq : q ≤ 400) :
    Calls Tryd.prog 7 #[.agg #[.int .i64 b, .int .i64 t, .slice a n cap, .slice a' n cap'], .int .i64 (q : Int)] w fun e w' => e = .returned (.tuple #[.int .i64 (lgV N E m q), .bool (decide (lgV N E m q ≤ 1152921504606846976))]) ∧ Below w.heap.size w w' := by
  have hm36 := hG.2.2.2.1
  have hn1 := hG.2.1
  have hNl := hG.1
  have hmk := make_ints n (by omega)
  have hB0 : Below w.heap.size w (w.alloc (.cells #[.int .i64 b, .int .i64 t, .slice a n cap, .slice a' n cap'] 25)) := (Below.refl _ _).alloc (Nat.le_refl _) _
  have HB0 := hide hB0
  have HAT := hide (fun w' => @box4 w w' (.int .i64 b) (.int .i64 t) (.slice a n cap) (.slice a' n cap') 25)
  have HS := hide (sl2_below hs hB0)
  have HE := hide (slB_below he hB0)
  have HG := hide hG
  have HBS := hide (fun k s (h : s < n) => bwL_step (E := E) (k := k) hG h)
  have HBB := hide (fun k => bwL_bd N E m n k)
  have HB00 : Hid (∀ s, s < n → (bwL N E m n 0).getD s 0 = if E.getD s false then 1 else 0) := fun s hs => by
    rw [bwL_get hs]
    show capI (if E.getD s false then 1 else 0) = _
    unfold capI
    cases E.getD s false <;> decide
  have HVV : Hid ((bwL N E m n q).getD 0 0 = lgV N E m q) := bwL_get hn1
  generalize lgV N E m q = V at HVV ⊢
  generalize bwL N E m n = BW at HBS HBB HB00 HVV
  clear hs he hG hNl hB0
  generalize hwb : w.alloc (.cells #[.int .i64 b, .int .i64 t, .slice a n cap, .slice a' n cap'] 25) = wb at HB0 HAT HS HE
  obtain ⟨p0, p1, p2, p3⟩ := HAT.out wb (Below.refl _ _)
  have H0 := hide (fillAt_start wb (BW 0) n)
  go_enter Tryd.func7, Tryd.ntmps7
  go_wp2
  clear hwb p0 p1 p2 p3
  generalize wb.alloc (.cells (madeCells #[.int .i64 0] n) 3) = W1 at H0 ⊢
  go_loopw [7] (fun sv wx => ∃ s : Nat, s ≤ n ∧ sv = .int .i64 s ∧ FillAt wb (BW 0) n s wx) (fun sv _ => n - (intOf sv).toNat)
  case atStart => exact ⟨0, by omega, rfl, H0.out⟩
  case round =>
    obtain ⟨s, hsn, rfl, hfl⟩ := hrel
    have HFL := hide hfl
    by_cases hlt : s < n
    · have hlti : (s : Int) < (n : Int) := by omega
      obtain ⟨p0, p1, p2, p3⟩ := HAT.out wr hfl.2
      obtain ⟨be, oe, rfl, hce⟩ := slB_cell (slB_below HE.out hfl.2) s hlt
      have h00 := HB00.out s hlt
      have hcell := hfl.1.cell hlt
      have hfz := hfl.1.frozen s
      rw [if_neg (Nat.lt_irrefl _)] at hcell
      have HNX := hide (fillAt_step hfl)
      have HSK := hide (fillAt_skip hfl)
      clear hfl
      cases hq : E.getD s false with
      | true =>
        rw [hq] at hce h00
        rw [if_pos rfl] at h00
        rw [h00] at HNX
        clear hq h00
        go_wp2
        go_roundw
        case rel => exact ⟨s + 1, by omega, by go_num, HNX.out⟩
        case measure => simp [intOf]; omega
      | false =>
        rw [hq] at hce h00
        rw [if_neg (by decide)] at h00
        have HN2 := hide (HSK.out h00)
        clear hq h00
        go_wp2
        go_roundw
        case rel => exact ⟨s + 1, by omega, by go_num, HN2.out⟩
        case measure => simp [intOf]; omega
    · have hlti : ¬ (s : Int) < (n : Int) := by omega
      obtain rfl : s = n := by omega
      have HR0 := hide (fillAt_end hfl (HBB.out 0).1 (by unfold maxLen; omega) (bdL_wf (HBB.out 0)))
      have HBR := hide hfl.2
      clear hfl HFL
      go_wp2
      obtain ⟨wz, hwz⟩ : ∃ wz : World, wz = wr := ⟨_, rfl⟩
      have HRZ : Hid (Below wz.heap.size wz wr) := by show Below _ _ _; rw [hwz]; exact Below.refl _ _
      rw [← hwz] at HR0 HBR
      clear hwz
      go_loopw [6, 8] (fun u kv wx => ∃ k : Nat, k ≤ q ∧ kv = .int .i64 k ∧ ∃ g, u = .slice (some ⟨g, 0, none⟩) s s ∧ Sl wx (some ⟨g, 0, none⟩) s (BW k) ∧ Below wb.heap.size wb wx) (fun _ kv _ => q - (intOf kv).toNat)
      case atStart => exact ⟨0, by omega, rfl, _, rfl, sl_below HR0.out HRZ.out, below_step HBR.out HRZ.out⟩
      case round =>
        obtain ⟨k, hk, rfl, g, rfl, hrow, hbw⟩ := hrel
        have HROW := hide hrow
        have HBW := hide hbw
        clear hrow hbw
        by_cases hkq : k < q
        · have hkqi : (k : Int) < (q : Int) := by omega
          have HBK := hide (HBB.out k)
          have HBK1 := hide (HBB.out (k + 1))
          have HST := hide (HBS.out k)
          generalize BW k = row at HROW HBK HST
          obtain ⟨row', hrw⟩ : ∃ r, BW (k + 1) = r := ⟨_, rfl⟩
          have HRW := hide hrw
          rw [hrw] at HBK1 HST
          clear hrw
          have H1 := hide (fillAt_start wr row' s)
          go_upto_region 11 with fail
          generalize wr.alloc (.cells (madeCells #[.int .i64 0] s) 3) = W2 at H1 ⊢
          obtain ⟨wq, hwq⟩ : ∃ wq : World, wq = wr := ⟨_, rfl⟩
          rw [← hwq] at HROW HBW H1 ⊢
          clear hwq wr
          go_wp2
          go_loopw [10] (fun tv wx => ∃ i : Nat, i ≤ s ∧ tv = .int .i64 i ∧ FillAt wq row' s i wx) (fun tv _ => s - (intOf tv).toNat)
          case atStart => exact ⟨0, by omega, rfl, H1.out⟩
          case round =>
            obtain ⟨z0, hi, rfl, hfl⟩ := hrel
            have HFL := hide hfl
            clear hfl
            by_cases his : z0 < s
            · have hisi : (z0 : Int) < (s : Int) := by omega
              have HGN := hide (HST.out z0 his)
              obtain ⟨bn, on, a4, c4, rfl, hc4, hs4⟩ := sl2_cell HS.out z0 his
              obtain ⟨e4, hx4⟩ := HG.out.2.2.2.2.2 z0 his
              rw [e4] at hc4 hs4
              have HC4 := hide hc4
              have HS4 := hide hs4
              have HX4 := hide hx4
              have HNA : Hid (∀ x : Nat, nxA N z0 (x : Int) = ((N.getD z0 []).getD x 0).toNat) := fun x => rfl
              have HGB : Hid (∀ j, j ≤ m → 0 ≤ ccap (fun j => row.getD (nxA N z0 (j : Int)) 0) j ∧ ccap (fun j => row.getD (nxA N z0 (j : Int)) 0) j ≤ 1152921504606846977) := fun j hj => by
                have hnn : ∀ z, z < m → 0 ≤ row.getD (nxA N z0 (z : Int)) 0 := fun z hz => (HBK.out.2 _ (by rw [HNA.out]; have := hx4 z hz; omega)).1
                rw [ccap_eq fun z hz => hnn z (by omega)]
                exact capI_bd (csum_nn fun z hz => hnn z (by omega))
              have HGS : Hid (∀ j, ccap (fun j => row.getD (nxA N z0 (j : Int)) 0) (j + 1) = capI (ccap (fun j => row.getD (nxA N z0 (j : Int)) 0) j + row.getD (nxA N z0 (j : Int)) 0)) := fun j => rfl
              have HGZ : Hid (ccap (fun j => row.getD (nxA N z0 (j : Int)) 0) 0 = 0) := rfl
              generalize ccap (fun j => row.getD (nxA N z0 (j : Int)) 0) = G at HGN HGB HGS HGZ
              generalize N.getD z0 [] = r4 at HS4 HX4 HNA
              obtain ⟨b4, o4, rfl, -⟩ := sl_cell hs4 0 HG.out.2.2.2.2.1
              clear hc4 hs4 hx4 e4
              have HP0 := hide (partAt_start HFL.out)
              go_wp2
              go_loopw [11] (fun lv wx => ∃ l : Nat, l ≤ m ∧ lv = .int .i64 l ∧ PartAt wq row' s z0 (G l) wx) (fun lv _ => m - (intOf lv).toNat)
              case atStart => exact ⟨0, by omega, rfl, by rw [HGZ.out]; exact HP0.out⟩
              case round =>
                obtain ⟨l, hl, rfl, hpt⟩ := hrel
                have HPT := hide hpt
                have hbq := below_step HBW.out hpt.2
                obtain ⟨p0, p1, p2, p3⟩ := HAT.out wr hbq
                have hc4' := (hbq.cell (p := ⟨bn, on + z0, none⟩) (World.block_lt_of_cell? wb _ HC4.out)).trans HC4.out
                by_cases hlm : l < m
                · have hlmi : (l : Int) < (m : Int) := by omega
                  obtain ⟨_, _, e6, hc6⟩ := sl_cell (sl_below HS4.out hbq) l hlm
                  cases e6
                  have hx4 := HX4.out l hlm
                  have hna := HNA.out l
                  obtain ⟨x, hx⟩ : ∃ x : Nat, r4.getD l 0 = (x : Int) := ⟨(r4.getD l 0).toNat, by omega⟩
                  rw [hx] at hc6 hx4 hna
                  rw [Int.toNat_natCast] at hna
                  have hxs : x < s := by omega
                  have hxsi : (x : Int) < (s : Int) := hx4.2
                  obtain ⟨_, _, e7, hc7⟩ := sl_cell (sl_below HROW.out hpt.2) x hxs
                  cases e7
                  have hgs := HGS.out l
                  rw [hna] at hgs
                  have hyb := HBK.out.2 x hxs
                  have hvb := HGB.out l hl
                  have hcN := rowIs_eq hpt.1 his (congrArg (Value.int .i64) ((if_neg (Nat.lt_irrefl z0)).trans (if_pos rfl)))
                  have HFX : Hid (∀ W, Below wr.heap.size wr W → W.cell? ⟨wq.heap.size, z0, none⟩ = some (.int .i64 (G l)) ∧ W.frozen? ⟨wq.heap.size, z0, none⟩ = false ∧ W.cell? ⟨w.heap.size, 2, none⟩ = some (.slice (some ⟨bn, on, none⟩) s cap) ∧ W.cell? ⟨bn, on + z0, none⟩ = some (.slice (some ⟨b4, o4, none⟩) m c4) ∧ W.cell? ⟨b4, o4 + l, none⟩ = some (.int .i64 (x : Int)) ∧ W.cell? ⟨g, x, none⟩ = some (.int .i64 (row.getD x 0))) := fun W hW => by
                    have kk : ∀ (p : Addr) (u : Value), wr.cell? p = some u → W.cell? p = some u := fun p u h => (hW.cell (World.block_lt_of_cell? wr _ h)).trans h
                    exact ⟨kk _ _ hcN, (partAt_below HPT.out hW).1.frozen z0, kk _ _ p2, kk _ _ hc4', kk _ _ hc6, kk _ _ (by rw [Nat.zero_add] at hc7; exact hc7)⟩
                  generalize row.getD x 0 = y1 at HFX hgs hyb
                  generalize hv : G l = v at HPT HFX hgs hvb
                  generalize hv1 : G (l + 1) = v1 at hgs
                  have HGV : Hid (G (l + 1) = v1) := hv1
                  have HGS1 := hide hgs
                  have hws : IntKind.i64.wrap (v + y1) = v + y1 := by rw [IntKind.wrap_i64]; omega
                  clear hv hv1 hcN hc6 hc7 hx hna hgs hpt
                  go_upto_region 17 with fail
                  clear p0 p1 p2 p3 hc4'
                  refine region_last (by kernel_rfl) (rvOn_spec (by decide +kernel)) 19 rfl lgS (fun i => ([.slice (some ⟨wq.heap.size, 0, none⟩) s s, .int .i64 (z0 : Int), .slice (some ⟨wq.heap.size, 0, none⟩) s s, .int .i64 (z0 : Int), .pointer (some ⟨wq.heap.size, z0, none⟩), .int .i64 (v), .slice (some ⟨g, 0, none⟩) s s, .pointer (some ⟨w.heap.size, 2, none⟩), .slice (some ⟨bn, on, none⟩) s cap, .int .i64 (z0 : Int), .pointer (some ⟨bn, on + z0, none⟩), .slice (some ⟨b4, o4, none⟩) m c4, .int .i64 (l : Int), .pointer (some ⟨b4, o4 + l, none⟩), .int .i64 (x : Int), .pointer (some ⟨g, x, none⟩), .int .i64 (y1), .int .i64 (v + y1), .pointer (some ⟨wq.heap.size, z0, none⟩)] : List Value).getD i undef) (fun i j hi hj e => by have := lgS_inj ⟨i, hi⟩ ⟨j, hj⟩ e; injection this) (fun i hi => lgS_lt ⟨i, hi⟩) (by decide +kernel) ?_ ?_
                  · intro T W i o hi ho hsz hdep hst hb
                    have e2 : T[2]? = some (.pointer (some ⟨w.heap.size, 0, none⟩)) := hst 2 (by decide +kernel)
                    have e6 : T[6]? = some (.slice (some ⟨g, 0, none⟩) s s) := hst 6 (by decide +kernel)
                    have e9 : T[9]? = some (.slice (some ⟨wq.heap.size, 0, none⟩) s s) := hst 9 (by decide +kernel)
                    have e10 : T[10]? = some (.int .i64 (z0 : Int)) := hst 10 (by decide +kernel)
                    have e11 : T[11]? = some (.int .i64 (l : Int)) := hst 11 (by decide +kernel)
                    obtain ⟨kN, kF, kB, kS, kQ, kY⟩ := HFX.out W hb
                    have HBW := hide hb
                    clear hsz hst hb
                    rcases (by omega : i = 0 ∨ i = 1 ∨ i = 2 ∨ i = 3 ∨ i = 4 ∨ i = 5 ∨ i = 6 ∨ i = 7 ∨ i = 8 ∨ i = 9 ∨ i = 10 ∨ i = 11 ∨ i = 12 ∨ i = 13 ∨ i = 14 ∨ i = 15 ∨ i = 16 ∨ i = 17 ∨ i = 18) with rfl | rfl | rfl | rfl | rfl | rfl | rfl | rfl | rfl | rfl | rfl | rfl | rfl | rfl | rfl | rfl | rfl | rfl | rfl
                    · injection ho with ho
                      subst ho
                      clear hdep
                      refine wpOp_step (o := _) rfl fun K2 hK => ?_
                      rw [if_pos (by rfl)]
                      have HK := hide hK
                      clear hK
                      go_simp
                      exact HK.out _ _ ⟨rfl, HBW.out⟩
                    · injection ho with ho
                      subst ho
                      clear hdep
                      refine wpOp_step (o := _) rfl fun K2 hK => ?_
                      rw [if_pos (by rfl)]
                      have HK := hide hK
                      clear hK
                      go_simp
                      exact HK.out _ _ ⟨rfl, HBW.out⟩
                    · injection ho with ho
                      subst ho
                      clear hdep
                      refine wpOp_step (o := _) rfl fun K2 hK => ?_
                      rw [if_pos (by rfl)]
                      have HK := hide hK
                      clear hK
                      go_simp
                      exact HK.out _ _ ⟨rfl, HBW.out⟩
                    · injection ho with ho
                      subst ho
                      clear hdep
                      refine wpOp_step (o := _) rfl fun K2 hK => ?_
                      rw [if_pos (by rfl)]
                      have HK := hide hK
                      clear hK
                      go_simp
                      exact HK.out _ _ ⟨rfl, HBW.out⟩
                    · injection ho with ho
                      subst ho
                      have d2 : T[56]? = some (.slice (some ⟨wq.heap.size, 0, none⟩) s s) := hdep { on := 2, ground := .data } (by simp) rfl
                      have d3 : T[57]? = some (.int .i64 (z0 : Int)) := hdep { on := 3, ground := .data } (by simp) rfl
                      clear hdep
                      refine wpOp_step (o := _) rfl fun K2 hK => ?_
                      rw [if_pos (by rfl)]
                      have HK := hide hK
                      clear hK
                      go_simp
                      exact HK.out _ _ ⟨rfl, HBW.out⟩
                    · injection ho with ho
                      subst ho
                      have d4 : T[58]? = some (.pointer (some ⟨wq.heap.size, z0, none⟩)) := hdep { on := 4, ground := .data } (by simp) rfl
                      clear hdep
                      refine wpOp_step (o := _) rfl fun K2 hK => ?_
                      rw [if_pos (by rfl)]
                      have HK := hide hK
                      clear hK
                      go_simp
                      exact HK.out _ _ ⟨rfl, HBW.out⟩
                    · injection ho with ho
                      subst ho
                      clear hdep
                      refine wpOp_step (o := _) rfl fun K2 hK => ?_
                      rw [if_pos (by rfl)]
                      have HK := hide hK
                      clear hK
                      go_simp
                      exact HK.out _ _ ⟨rfl, HBW.out⟩
                    · injection ho with ho
                      subst ho
                      clear hdep
                      refine wpOp_step (o := _) rfl fun K2 hK => ?_
                      rw [if_pos (by rfl)]
                      have HK := hide hK
                      clear hK
                      go_simp
                      exact HK.out _ _ ⟨rfl, HBW.out⟩
                    · injection ho with ho
                      subst ho
                      have d7 : T[61]? = some (.pointer (some ⟨w.heap.size, 2, none⟩)) := hdep { on := 7, ground := .data } (by simp) rfl
                      clear hdep
                      refine wpOp_step (o := _) rfl fun K2 hK => ?_
                      rw [if_pos (by rfl)]
                      have HK := hide hK
                      clear hK
                      go_simp
                      exact HK.out _ _ ⟨rfl, HBW.out⟩
                    · injection ho with ho
                      subst ho
                      clear hdep
                      refine wpOp_step (o := _) rfl fun K2 hK => ?_
                      rw [if_pos (by rfl)]
                      have HK := hide hK
                      clear hK
                      go_simp
                      exact HK.out _ _ ⟨rfl, HBW.out⟩
                    · injection ho with ho
                      subst ho
                      have d8 : T[62]? = some (.slice (some ⟨bn, on, none⟩) s cap) := hdep { on := 8, ground := .data } (by simp) rfl
                      have d9 : T[63]? = some (.int .i64 (z0 : Int)) := hdep { on := 9, ground := .data } (by simp) rfl
                      clear hdep
                      refine wpOp_step (o := _) rfl fun K2 hK => ?_
                      rw [if_pos (by rfl)]
                      have HK := hide hK
                      clear hK
                      go_simp
                      exact HK.out _ _ ⟨rfl, HBW.out⟩
                    · injection ho with ho
                      subst ho
                      have d10 : T[64]? = some (.pointer (some ⟨bn, on + z0, none⟩)) := hdep { on := 10, ground := .data } (by simp) rfl
                      clear hdep
                      refine wpOp_step (o := _) rfl fun K2 hK => ?_
                      rw [if_pos (by rfl)]
                      have HK := hide hK
                      clear hK
                      go_simp
                      exact HK.out _ _ ⟨rfl, HBW.out⟩
                    · injection ho with ho
                      subst ho
                      clear hdep
                      refine wpOp_step (o := _) rfl fun K2 hK => ?_
                      rw [if_pos (by rfl)]
                      have HK := hide hK
                      clear hK
                      go_simp
                      exact HK.out _ _ ⟨rfl, HBW.out⟩
                    · injection ho with ho
                      subst ho
                      have d11 : T[65]? = some (.slice (some ⟨b4, o4, none⟩) m c4) := hdep { on := 11, ground := .data } (by simp) rfl
                      have d12 : T[66]? = some (.int .i64 (l : Int)) := hdep { on := 12, ground := .data } (by simp) rfl
                      clear hdep
                      refine wpOp_step (o := _) rfl fun K2 hK => ?_
                      rw [if_pos (by rfl)]
                      have HK := hide hK
                      clear hK
                      go_simp
                      exact HK.out _ _ ⟨rfl, HBW.out⟩
                    · injection ho with ho
                      subst ho
                      have d13 : T[67]? = some (.pointer (some ⟨b4, o4 + l, none⟩)) := hdep { on := 13, ground := .data } (by simp) rfl
                      clear hdep
                      refine wpOp_step (o := _) rfl fun K2 hK => ?_
                      rw [if_pos (by rfl)]
                      have HK := hide hK
                      clear hK
                      go_simp
                      exact HK.out _ _ ⟨rfl, HBW.out⟩
                    · injection ho with ho
                      subst ho
                      have d6 : T[60]? = some (.slice (some ⟨g, 0, none⟩) s s) := hdep { on := 6, ground := .data } (by simp) rfl
                      have d14 : T[68]? = some (.int .i64 (x : Int)) := hdep { on := 14, ground := .data } (by simp) rfl
                      clear hdep
                      refine wpOp_step (o := _) rfl fun K2 hK => ?_
                      rw [if_pos (by rfl)]
                      have HK := hide hK
                      clear hK
                      go_simp
                      exact HK.out _ _ ⟨rfl, HBW.out⟩
                    · injection ho with ho
                      subst ho
                      have d15 : T[69]? = some (.pointer (some ⟨g, x, none⟩)) := hdep { on := 15, ground := .data } (by simp) rfl
                      clear hdep
                      refine wpOp_step (o := _) rfl fun K2 hK => ?_
                      rw [if_pos (by rfl)]
                      have HK := hide hK
                      clear hK
                      go_simp
                      exact HK.out _ _ ⟨rfl, HBW.out⟩
                    · injection ho with ho
                      subst ho
                      have d5 : T[59]? = some (.int .i64 (v)) := hdep { on := 5, ground := .data } (by simp) rfl
                      have d16 : T[70]? = some (.int .i64 (y1)) := hdep { on := 16, ground := .data } (by simp) rfl
                      clear hdep
                      refine wpOp_step (o := _) rfl fun K2 hK => ?_
                      rw [if_pos (by rfl)]
                      have HK := hide hK
                      clear hK
                      go_simp
                      exact HK.out _ _ ⟨rfl, HBW.out⟩
                    · injection ho with ho
                      subst ho
                      have d0 : T[54]? = some (.slice (some ⟨wq.heap.size, 0, none⟩) s s) := hdep { on := 0, ground := .data } (by simp) rfl
                      have d1 : T[55]? = some (.int .i64 (z0 : Int)) := hdep { on := 1, ground := .data } (by simp) rfl
                      clear hdep
                      refine wpOp_step (o := _) rfl fun K2 hK => ?_
                      rw [if_pos (by rfl)]
                      have HK := hide hK
                      clear hK
                      go_simp
                      exact HK.out _ _ ⟨rfl, HBW.out⟩
                  · intro T W o ho hsz hval hst hb
                    have e2 : T[2]? = some (.pointer (some ⟨w.heap.size, 0, none⟩)) := hst 2 (by decide +kernel)
                    have e6 : T[6]? = some (.slice (some ⟨g, 0, none⟩) s s) := hst 6 (by decide +kernel)
                    have e9 : T[9]? = some (.slice (some ⟨wq.heap.size, 0, none⟩) s s) := hst 9 (by decide +kernel)
                    have e10 : T[10]? = some (.int .i64 (z0 : Int)) := hst 10 (by decide +kernel)
                    have e11 : T[11]? = some (.int .i64 (l : Int)) := hst 11 (by decide +kernel)
                    obtain ⟨kN, kF, kB, kS, kQ, kY⟩ := HFX.out W hb
                    injection ho with ho
                    subst ho
                    have d17 : T[71]? = some (.int .i64 (v + y1)) := hval 17 (by decide +kernel)
                    have d18 : T[72]? = some (.pointer (some ⟨wq.heap.size, z0, none⟩)) := hval 18 (by decide +kernel)
                    have HBW := hide hb
                    have HST := hide hst
                    have HVA := hide hval
                    have HSZ := hide hsz
                    clear hval hst hb hsz
                    refine wpOp_step (o := _) rfl fun K2 hK => ?_
                    rw [if_pos (by rfl)]
                    have HK := hide hK
                    clear hK
                    go_simp
                    refine HK.out _ _ ?_
                    have hT := rv_list (fun i hi => lgS_lt ⟨i, hi⟩) HSZ.out HVA.out HST.out [18, 17, 16, 15, 14, 13, 12, 11, 10, 9, 8, 7, 6, 5, 4, 3, 2, 1, 0] rfl
                    simp only [rvSet, lgS, List.getD_cons_zero, List.getD_cons_succ, List.setIfInBounds_toArray, List.set_cons_zero, List.set_cons_succ] at hT
                    rw [hT]
                    clear hT HK HVA HST HSZ e2 e6 e9 e10 e11 d17 d18
                    have hpn := partAt_put (partAt_below HPT.out HBW.out) (v + y1)
                    clear HBW kN kF kB kS kQ kY HPT HFX
                    generalize W.setCell ⟨wq.heap.size, z0, none⟩ (.int .i64 (v + y1)) = W2 at hpn ⊢
                    clear W
                    have HPN := hide hpn
                    have kN := rowIs_eq hpn.1 his (congrArg (Value.int .i64) ((if_neg (Nat.lt_irrefl z0)).trans (if_pos rfl)))
                    have kF := hpn.1.frozen z0
                    clear hpn
                    by_cases hov : 1152921504606846976 < v + y1
                    · have hv1 : v1 = 1152921504606846977 := by rw [HGS1.out]; exact if_neg (by omega)
                      have HPM := hide (partAt_put HPN.out 1152921504606846977)
                      rw [hv1] at HGV
                      clear hv1
                      go_wp2
                      go_roundw
                      case rel => exact ⟨l + 1, by omega, by go_num, by rw [HGV.out]; exact HPM.out⟩
                      case measure => simp [intOf]; omega
                    · have hv1 : v1 = v + y1 := by rw [HGS1.out]; exact if_pos (by omega)
                      rw [hv1] at HGV
                      clear hv1
                      go_wp2
                      go_roundw
                      case rel => exact ⟨l + 1, by omega, by go_num, by rw [HGV.out]; exact HPN.out⟩
                      case measure => simp [intOf]; omega
                · have hlmi : ¬ (l : Int) < (m : Int) := by omega
                  obtain rfl : l = m := by omega
                  have HPE : Hid (PartAt wq row' s z0 (row'.getD z0 0) wr) := by show PartAt _ _ _ _ _ _; rw [HGN.out]; exact hpt
                  have HFE := hide (partAt_end HPE.out)
                  clear hpt HPE HPT
                  go_wp2
                  go_roundw
                  case rel => exact ⟨z0 + 1, by omega, by go_num, HFE.out⟩
                  case measure => simp [intOf]; omega
            · have hisi : ¬ (z0 : Int) < (s : Int) := by omega
              obtain rfl : z0 = s := by omega
              have HSN := hide (fillAt_end HFL.out HBK1.out.1 (by unfold maxLen; omega) (bdL_wf HBK1.out))
              have HBN := hide (below_step HBW.out HFL.out.2)
              go_wp2
              go_roundw
              case rel => exact ⟨k + 1, by omega, by go_num, _, rfl, by rw [HRW.out]; exact HSN.out, HBN.out⟩
              case measure => simp [intOf]; omega
        · have hkqi : ¬ (k : Int) < (q : Int) := by omega
          obtain rfl : k = q := by omega
          obtain ⟨_, _, e7, hc7⟩ := sl_cell HROW.out 0 hn1
          cases e7
          rw [HVV.out] at hc7
          have h0i : (0 : Int) < (s : Int) := by omega
          have HBE := hide (below_step HB0.out HBW.out)
          go_upto_region 21 with fail
          go_quiet (fail)
          go_wp2
          go_ret2
          exact ⟨rfl, below_drewN HBE.out _⟩
end Go.Proofs.YtlgjadnkokmjoaaDoor
