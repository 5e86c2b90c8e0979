/- The reference's TurnOf: contract. -/
import Derived.Test.YtokcejakjaimladDoorZGi
import Derived.Test.YtokcejakjaimladDoorZJc
namespace Go.Proofs.YtokcejakjaimladDoor
open Go.RowKit

theorem rowG_congr {d d' : Nat → Nat → Nat} {m : Nat} (h : ∀ x l, l < m → d x l = d' x l) (L : List Nat) (x : Nat) : ∀ l, l ≤ m → rowG d L x l = rowG d' L x l
  | 0, _ => rfl
  | l + 1, hl => by
    show addG (rowG d L x l) (d x l) = addG (rowG d' L x l) (d' x l)
    rw [rowG_congr h L x l (by omega), h x l (by omega)]
theorem outG_congr {d d' : Nat → Nat → Nat} {m : Nat} (h : ∀ x l, l < m → d x l = d' x l) (f : Nat) : ∀ i, outG d m f i = outG d' m f i
  | 0 => rfl
  | i + 1 => by
    unfold outG
    rw [outG_congr h f i, rowG_congr h _ _ m (Nat.le_refl _)]
theorem gN_congr {d d' : Nat → Nat → Nat} {m : Nat} (h : ∀ x l, l < m → d x l = d' x l) (L : List Nat) : gN d m L = gN d' m L := by
  unfold gN
  refine List.map_congr_left fun x _ => List.map_congr_left fun l hl => ?_
  rw [h x l (List.mem_range.1 hl)]
theorem fB_step (n : Nat) (E : List Bool) : fB (n + 1) E = if E.getD n false = true then putM (fB n E) n else fB n E := rfl

set_option maxHeartbeats 4000000 in
set_option maxRecDepth 8000 in
theorem turnOf_bad (b t : Int) (a : Option Addr) (n cap : Nat) (a' : Option Addr) (k cap' : Nat) (N : List (List Int)) (w : World) (hs : Sl2 w a n N) (hk : k ≤ maxLen) (hC : autoC b t N k ≠ 0) :
    Calls Tryd.prog 12 #[.agg #[.int .i64 b, .int .i64 t, .slice a n cap, .slice a' k cap']] w (SomeR w 0 (autoC b t N k) 0 0 [] [] (autoC b t N k)) := by
  have hB0 := below_two w (.cells #[.int .i64 b, .int .i64 t, .slice a n cap, .slice a' k cap'] 25) (.cells #[.int .i64 0, .int .i64 0, .slice none 0 0, .slice none 0 0] 25)
  have HB0 := hide hB0
  have HF := hide (afault_u b t a a' n cap k cap' N _ (sl2_below hs hB0) hk)
  have HBX := hide (fun W (h : Below _ _ W) => (@two_boxes w W (.int .i64 b) (.int .i64 t) (.slice a n cap) (.slice a' k cap') (.int .i64 0) (.int .i64 0) (.slice none 0 0) (.slice none 0 0) 25 h).1)
  have HRX := hide (heap_alloc2_snd w (.cells #[.int .i64 b, .int .i64 t, .slice a n cap, .slice a' k cap'] 25) (.cells #[.int .i64 0, .int .i64 0, .slice none 0 0, .slice none 0 0] 25))
  generalize hW0 : (w.alloc (.cells #[.int .i64 b, .int .i64 t, .slice a n cap, .slice a' k cap'] 25)).alloc (.cells #[.int .i64 0, .int .i64 0, .slice none 0 0, .slice none 0 0] 25) = wb at HB0 HF HBX HRX
  clear hs hk hB0
  generalize autoC b t N k = c at hC HF ⊢
  obtain ⟨p0, p1, p2, p3⟩ := HBX.out wb (Below.refl _ _)
  go_enter Tryd.func12, Tryd.ntmps12
  go_wp2_with fail
  clear hW0 p0 p1 p2 p3
  refine HF.out.mono ?_
  rintro e w1 ⟨rfl, hb1⟩
  have HB1 := hide hb1
  have HR1 := hide ((hb1.block _ (Array.getElem?_eq_some_iff.1 HRX.out).1).trans HRX.out)
  obtain ⟨p0, p1, p2, p3⟩ := HBX.out w1 hb1
  obtain ⟨⟨r0, r1, r2, r3⟩, rf⟩ := box_cells HR1.out
  clear hb1 HF
  have hxi : (c != 0) = true := by simpa using hC
  have hxe : (c == 0) = false := by simpa using hC
  clear hC
  go_wp2
  obtain ⟨⟨hset, -, -⟩, hbel⟩ := box_set (v0 := .int .i64 0) (v1 := .int .i64 0) (v2 := .slice none 0 0) (v3 := .slice none 0 0) HR1.out rfl
  obtain ⟨⟨z0, z1, z2, z3⟩, -⟩ := box_cells hset
  exact bodyPost_ret (v := .tuple #[.int .i64 0, .int .i64 c, .agg #[.int .i64 0, .int .i64 0, .slice none 0 0, .slice none 0 0], .int .i64 c]) (by simp [results, Tryd.results12, go_sem, z0, z1, z2, z3]) rfl ⟨none, 0, none, 0, rfl, autoNew_nil _ _, hbel _ _ (below_step HB0.out HB1.out) (by omega)⟩

set_option maxHeartbeats 32000000 in
set_option maxRecDepth 8000 in
theorem turnOf_ok (b t : Int) (a : Option Addr) (n cap : Nat) (a' : Option Addr) (cap' : Nat) (N : List (List Int)) (E : List Bool) (w : World) (hs : Sl2 w a n N) (he : SlB w a' n E) (hA : autoC b t N n = 0) :
    Calls Tryd.prog 12 #[.agg #[.int .i64 b, .int .i64 t, .slice a n cap, .slice a' n cap']] w (SomeR w (tnM b t N E n) (tnS b t N E n) (okI (tnC b t N E n) b) (okI (tnC b t N E n) t) (tnN b t N E n) (tnE b t N E n) (tnC b t N E n)) := by
  obtain ⟨hM, hk, hG0, hmu⟩ := autoC_zero hA
  have hn80 := autoC_80 hA
  rw [← hk] at hG0 hn80
  have hLG := least_good hG0 E
  have hK80 := leastK_80 hG0 E hn80
  have hm36 := hLG.2.2.2.1
  have hm1 := hLG.2.2.2.2.1
  have HSS : Hid (tnS b t N E n = if 2000 < (tnL b t N E).length then 3 else 0) := by show _ = _; unfold tnS; rw [if_pos hA]
  have HCC : Hid (tnC b t N E n = if tnS b t N E n = 0 then (if 80 < leastK (tnGN b t N E) (tnGE b t N E) (manyU b t).toNat then 3 else 0) else tnS b t N E n) := by show _ = _; rfl
  have HMM : Hid (tnM b t N E n = if tnS b t N E n = 0 then ((tnL b t N E).length : Int) else 0) := by show _ = _; rfl
  have HNN : Hid (tnN b t N E n = if tnC b t N E n = 0 then leastN (tnGN b t N E) (tnGE b t N E) (manyU b t).toNat else []) := by show _ = _; rfl
  have HEE : Hid (tnE b t N E n = if tnC b t N E n = 0 then leastE (tnGN b t N E) (tnGE b t N E) (manyU b t).toNat else []) := by show _ = _; rfl
  have HSG := hide (fun h => tn_good (E := E) hG0 h)
  have HSHR := hide (fun an cn an' cn' W k1 k2 k3 => shrunk_u b t an (tnL b t N E).length cn (manyU b t).toNat (tnGN b t N E) an' cn' (tnGE b t N E) W k1 k2 k3)
  unfold ShrR ShrU at HSHR
  have HB0' := below_two w (.cells #[.int .i64 b, .int .i64 t, .slice a n cap, .slice a' n cap'] 25) (.cells #[.int .i64 0, .int .i64 0, .slice none 0 0, .slice none 0 0] 25)
  have HB0 := hide HB0'
  have HF := hide (afault_u b t a a' n cap n cap' N _ (sl2_below hs HB0') he.2.1)
  rw [hA] at HF
  have HS := hide (sl2_below hs HB0')
  have HE := hide (slB_below he HB0')
  have HLO := hide (fun W k1 k2 => leastOf_any b t a n cap (manyU b t).toNat N a' cap' E W k1 hG0 k2 hK80)
  unfold GivesAuto at HLO
  rw [leastN_len] at HLO
  have hcg : ∀ x l, l < (manyU b t).toNat → dMB (leastN N E (manyU b t).toNat) (leastK N E (manyU b t).toNat) (sglR (manyU b t).toNat) x l = dB (leastN N E (manyU b t).toNat) (leastK N E (manyU b t).toNat) x l := fun x l hl => dMB_sgl hl
  have HGR := hide (fun an cn an' cn' ar cr W k1 k2 => grownB_any b t an (leastK N E (manyU b t).toNat) cn an' (leastK N E (manyU b t).toNat) cn' (manyU b t).toNat (leastN N E (manyU b t).toNat) (fB (leastK N E (manyU b t).toNat) (leastE N E (manyU b t).toNat)) ar (manyU b t).toNat cr (sglR (manyU b t).toNat) W k1 hLG hK80 k2 (sglR_ok _) (fun l hl => by rw [sglR_get hl]; simp) (fB_lt _ _) hm1 hm36)
  rw [outG_congr hcg] at HGR
  have hL : tnL b t N E = outG (dB (leastN N E (manyU b t).toNat) (leastK N E (manyU b t).toNat)) (manyU b t).toNat (fB (leastK N E (manyU b t).toNat) (leastE N E (manyU b t).toNat)) 2000 := rfl
  rw [← hL] at HGR
  unfold GrownR at HGR
  rw [gN_congr hcg] at HGR
  have hGN : tnGN b t N E = gN (dB (leastN N E (manyU b t).toNat) (leastK N E (manyU b t).toNat)) (manyU b t).toNat (tnL b t N E) := rfl
  have hGE : tnGE b t N E = gE (fun M => M.testBit 0) (tnL b t N E) := rfl
  rw [← hGN] at HGR
  have HLB : Hid (∀ x ∈ tnL b t N E, x < 2 ^ 80) := fun x hx => by
    rw [hL] at hx
    obtain ⟨u, _, rfl⟩ := outG_reach hx
    refine Nat.lt_of_lt_of_le (m := 2 ^ leastK N E (manyU b t).toNat) ?_ (Nat.pow_le_pow_right (by decide) hK80)
    induction u using list_snoc_ind with
    | h0 => exact fB_lt _ _
    | h1 u y _ => rw [runG_snoc]; exact dB_lt _ _ _ _
  have HGTK : Hid (∀ i, i < (tnL b t N E).length → (tnGE b t N E).take (i + 1) = (tnGE b t N E).take i ++ [((tnL b t N E).getD i 0).testBit 0]) := fun i hi => by
    rw [hGE, List.take_succ_eq_append_getElem (by rw [gE_len]; exact hi)]
    simp [gE, List.getD, hi]
  have HGL : Hid ((tnGE b t N E).length = (tnL b t N E).length) := by show _ = _; rw [hGE, gE_len]
  have HSI := hide (fun W => single_any (manyU b t).toNat W (by omega))
  unfold GivesRows at HSI
  rw [sglR_len] at HSI
  have HPUT := hide (fun M s W h1 h2 => put_any M s W h1 h2)
  have HIN := hide (fun M W h1 => in_any M 0 W h1 (by decide))
  unfold GivesSet at HPUT
  have HFS := hide (fun i => fB_step i (leastE N E (manyU b t).toNat))
  have HF80 : Hid (∀ i, i ≤ leastK N E (manyU b t).toNat → fB i (leastE N E (manyU b t).toNat) < 2 ^ 80) := fun i hi => maskB_80 (by omega) _
  have HFZ : Hid (fB 0 (leastE N E (manyU b t).toNat) = 0) := rfl
  have HKP : Hid ((leastN N E (manyU b t).toNat).getD 0 [] = (leastN N E (manyU b t).toNat).getD 0 [] ∧ 0 < leastK N E (manyU b t).toNat ∧ ((leastN N E (manyU b t).toNat).getD 0 []).length = (manyU b t).toNat) := ⟨rfl, hLG.2.1, (hLG.2.2.2.2.2 0 hLG.2.1).1⟩
  have HBX := hide (fun W (h : Below _ _ W) => (@two_boxes w W (.int .i64 b) (.int .i64 t) (.slice a n cap) (.slice a' n cap') (.int .i64 0) (.int .i64 0) (.slice none 0 0) (.slice none 0 0) 25 h).1)
  have HRX := hide (heap_alloc2_snd w (.cells #[.int .i64 b, .int .i64 t, .slice a n cap, .slice a' n cap'] 25) (.cells #[.int .i64 0, .int .i64 0, .slice none 0 0, .slice none 0 0] 25))
  clear hs he hA hM hk hG0 hmu hn80 hLG hL hGN hGE HB0' hcg
  generalize tnL b t N E = LS at *
  generalize tnGN b t N E = GN at *
  generalize tnGE b t N E = GE at *
  generalize tnS b t N E n = c1 at *
  generalize tnC b t N E n = c2 at *
  generalize tnM b t N E n = cnt at *
  generalize tnN b t N E n = ZN at *
  generalize tnE b t N E n = ZE at *
  generalize leastN N E (manyU b t).toNat = LN at *
  generalize leastE N E (manyU b t).toNat = LE at *
  generalize leastK N E (manyU b t).toNat = LK at *
  generalize (manyU b t).toNat = m at *
  obtain ⟨fb, hfb⟩ : ∃ fb : Nat → Nat, fb = fun i => fB i LE := ⟨_, rfl⟩
  have HFBE : Hid (∀ i, fB i LE = fb i) := fun i => by rw [hfb]
  clear hfb
  have HFS' : Hid (∀ i, fb (i + 1) = if LE.getD i false = true then putM (fb i) i else fb i) := fun i => by have := HFS.out i; rwa [HFBE.out, HFBE.out] at this
  have HF80' : Hid (∀ i, i ≤ LK → fb i < 2 ^ 80) := fun i hi => by have := HF80.out i hi; rwa [HFBE.out] at this
  rw [HFBE.out] at HFZ HGR
  clear HFS HF80 HFBE
  generalize hW0 : (w.alloc (.cells #[.int .i64 b, .int .i64 t, .slice a n cap, .slice a' n cap'] 25)).alloc (.cells #[.int .i64 0, .int .i64 0, .slice none 0 0, .slice none 0 0] 25) = wb at HB0 HF HS HE HBX HRX
  have HSZ0 : Hid (wb.heap.size = w.heap.size + 2) := by show _ = _; rw [← hW0]; simp
  obtain ⟨l0, hl0, hv0, hv1, hv2⟩ := info_parts infoBo
  obtain ⟨p0, p1, p2, p3⟩ := HBX.out wb (Below.refl _ _)
  go_enter Tryd.func12, Tryd.ntmps12
  go_wp2_with fail
  clear hW0 p0 p1 p2 p3
  refine HF.out.mono ?_
  rintro e w1 ⟨rfl, hb1⟩
  have HB1 := hide hb1
  obtain ⟨p0, p1, p2, p3⟩ := HBX.out w1 hb1
  have HC := hide (HLO.out w1 (sl2_below HS.out hb1) (slB_below HE.out hb1))
  clear hb1 HF HLO
  go_wp2_with fail
  clear p0 p1 p2 p3
  refine HC.out.mono ?_
  rintro e w2 ⟨am, cm, am', cm', rfl, hnew, hb2'⟩
  have hbz := below_two w2 (.cells #[.int .i64 b, .int .i64 t, .slice am LK cm, .slice am' LK cm'] 25) (.cells #[.int .i64 0, .int .i64 0] 49)
  have HB3 := hide (below_step HB1.out (below_step hb2' hbz))
  have HMB := hide (heap_alloc2_fst w2 (.cells #[.int .i64 b, .int .i64 t, .slice am LK cm, .slice am' LK cm'] 25) (.cells #[.int .i64 0, .int .i64 0] 49))
  have HFX := hide (heap_alloc2_snd w2 (.cells #[.int .i64 b, .int .i64 t, .slice am LK cm, .slice am' LK cm'] 25) (.cells #[.int .i64 0, .int .i64 0] 49))
  have HNEWm := hide hnew
  have HS2 := hide hb2'.size
  have HBZ := hide hbz
  clear hnew hb2' hbz HC
  go_wp2
  generalize hw3 : (w2.alloc (.cells #[.int .i64 b, .int .i64 t, .slice am LK cm, .slice am' LK cm'] 25)).alloc (.cells #[.int .i64 0, .int .i64 0] 49) = w3 at HB3 HMB HFX HBZ ⊢
  have HSZ3 : Hid (w3.heap.size = w2.heap.size + 2) := by show _ = _; rw [← hw3]; simp
  clear hw3
  have HMNB : Hid (∀ W, Below (w2.heap.size + 1) w3 W → (Sl2 W am LK LN ∧ SlB W am' LK LE) ∧ W.heap[w2.heap.size]? = some (.cells #[.int .i64 b, .int .i64 t, .slice am LK cm, .slice am' LK cm'] 25 (0, 0))) := fun W hW => ⟨HNEWm.out W (fun x h1 h2 => (hW.block x (by omega)).trans (HBZ.out.block x h2)), (hW.block _ (by omega)).trans HMB.out⟩
  clear HNEWm
  go_loopw [9] (fun iv wx => ∃ i : Nat, i ≤ LK ∧ iv = .int .i64 i ∧ wx.heap[w2.heap.size + 1]? = some (.cells #[.int .i64 (loS (fb i)), .int .i64 (hiS (fb i))] 49 (0, 0)) ∧ Below (w2.heap.size + 1) w3 wx) (fun iv _ => LK - (intOf iv).toNat)
  case atStart => exact ⟨0, by omega, rfl, by rw [HFZ.out]; exact HFX.out, Below.refl _ _⟩
  case round =>
    obtain ⟨i, hi, rfl, hx, hb⟩ := hrel
    have HX := hide hx
    have HB := hide hb
    clear hx hb
    obtain ⟨⟨m0, m1, m2, m3⟩, -⟩ := box_cells (HMNB.out wr HB.out).2
    by_cases hlt : i < LK
    · have hlti : (i : Int) < (LK : Int) := by omega
      obtain ⟨be, oe, rfl, hce⟩ := slB_cell (HMNB.out wr HB.out).1.2 i hlt
      have HS1 := hide (HFS'.out i)
      cases hpi : LE.getD i false with
      | true =>
        rw [hpi] at hce
        rw [hpi, if_pos rfl] at HS1
        have HC := hide (fun W => HPUT.out (fb i) i W (HF80'.out i hi) (by omega))
        rw [← HS1.out] at HC
        obtain ⟨⟨q0, q1⟩, qf⟩ := box2_cells HX.out
        clear hpi
        go_wp2_with (go_at_call 28; refine (HC.out wr).mono ?_; rintro e w4 ⟨rfl, hb4⟩; have hx1 := (hb4.block _ (Array.getElem?_eq_some_iff.1 HX.out).1).trans HX.out; have HX1' := hide hx1; have HB4 := hide (HB.out.trans (hb4.mono (by have := (Array.getElem?_eq_some_iff.1 HX.out).1; omega))); obtain ⟨⟨r0, r1⟩, rf⟩ := box2_cells hx1; clear hb4 hx1)
        obtain ⟨⟨hset, -, -⟩, hbel⟩ := box2_set (v0 := .int .i64 (loS (fb (i + 1)))) (v1 := .int .i64 (hiS (fb (i + 1)))) HX1'.out rfl
        have HST := hide hset
        have HBE := hide (hbel _ _ HB4.out (by omega))
        clear hset hbel
        go_roundw
        case rel => exact ⟨i + 1, by omega, by go_num, HST.out, HBE.out⟩
        case measure => simp [intOf]; omega
      | false =>
        rw [hpi] at hce
        rw [hpi, if_neg (by simp)] at HS1
        clear hpi
        go_wp2
        go_roundw
        case rel => exact ⟨i + 1, by omega, by go_num, by rw [HS1.out]; exact HX.out, HB.out⟩
        case measure => simp [intOf]; omega
    · have hlti : ¬ (i : Int) < (LK : Int) := by omega
      obtain rfl : i = LK := by omega
      obtain ⟨⟨q0, q1⟩, -⟩ := box2_cells HX.out
      obtain ⟨br, or, a0, c0, rfl, hc0, -⟩ := sl2_cell (HMNB.out wr HB.out).1.1 0 HKP.out.2.1
      rw [HKP.out.2.2, Nat.add_zero] at hc0
      have hLKi : (0 : Int) < (i : Int) := by have := HKP.out.2.1; omega
      have HC6 : Hid (∀ W, Below wr.heap.size wr W → W.cell? ⟨w2.heap.size, 0, none⟩ = some (.int .i64 b) ∧ W.cell? ⟨w2.heap.size, 1, none⟩ = some (.int .i64 t) ∧ W.cell? ⟨w2.heap.size, 2, none⟩ = some (.slice (some ⟨br, or, none⟩) i cm) ∧ W.cell? ⟨w2.heap.size, 3, none⟩ = some (.slice am' i cm') ∧ W.cell? ⟨br, or, none⟩ = some (.slice a0 m c0) ∧ W.cell? ⟨w2.heap.size + 1, 0, none⟩ = some (.int .i64 (loS (fb i))) ∧ W.cell? ⟨w2.heap.size + 1, 1, none⟩ = some (.int .i64 (hiS (fb i)))) := fun W hW => by
        have k := fun (p : Addr) v (h : wr.cell? p = some v) => (hW.cell (p := p) (World.block_lt_of_cell? _ _ h)).trans h
        exact ⟨k _ _ m0, k _ _ m1, k _ _ m2, k _ _ m3, k _ _ hc0, k _ _ q0, k _ _ q1⟩
      have HBR := hide (Below.refl wr.heap.size wr)
      have HMNr : Hid (Sl2 wr (some ⟨br, or, none⟩) i LN) := (HMNB.out wr HB.out).1.1
      have HBW : Hid (Below wb.heap.size wb wr) := HB3.out.trans (HB.out.mono (by have := HS2.out; have := HB1.out.size; omega))
      by_cases h20 : LS.length ≤ 2000
      · have H20 := hide h20
        clear h20
        go_wp2
        go_region_held_law (fun W => W.cell? ⟨w2.heap.size, 0, none⟩ = some (.int .i64 b) ∧ W.cell? ⟨w2.heap.size, 1, none⟩ = some (.int .i64 t) ∧ W.cell? ⟨w2.heap.size, 2, none⟩ = some (.slice (some ⟨br, or, none⟩) i cm) ∧ W.cell? ⟨w2.heap.size, 3, none⟩ = some (.slice am' i cm') ∧ W.cell? ⟨br, or, none⟩ = some (.slice a0 m c0) ∧ W.cell? ⟨w2.heap.size + 1, 0, none⟩ = some (.int .i64 (loS (fb i))) ∧ W.cell? ⟨w2.heap.size + 1, 1, none⟩ = some (.int .i64 (hiS (fb i)))) (first | exact HC6.out _ HB6.out | exact HC6.out _ HB5.out | go_keep)
          (first
            | (go_at_call 17; refine (HSI.out _).mono ?_; rintro e w5 ⟨asg, csg, rfl, hsg, hb5⟩; have HB5 := hide (below_step HBR.out.drew hb5); have HSGL := hide hsg; clear hsg hb5)
            | (go_at_call 15; refine (HGR.out (some ⟨br, or, none⟩) cm am' cm' asg csg w5 (sl2_below HMNr.out HB5.out) HSGL.out).mono ?_; rintro e w6 ⟨hyes, -⟩; obtain ⟨bs, cs, an, cn, rfl, hq6, hsn6, hb6⟩ := hyes H20.out; have HQ6 := hide hq6; have HSN6 := hide hsn6; have HB6 := hide (below_step HB5.out hb6); clear hq6 hsn6 hb6))
        all_goals
          have HC1 : Hid (c1 = 0) := by show _ = _; rw [HSS.out, if_neg (by have := H20.out; omega)]
          have HB36 := hide (below_step HBW.out HB6.out)
          clear m0 m1 m2 m3 hc0 q0 q1 HC6 HBR HGR HSI HMNr HBW HB5 HSGL HMNB HX HB
          go_wp2
          go_loopw [13, 14] (fun v iv wx => ∃ i : Nat, i ≤ LS.length ∧ iv = .int .i64 i ∧ GrowB w6 (GE.take i) v wx) (fun _ iv _ => LS.length - (intOf iv).toNat)
          case atStart => exact ⟨0, by omega, rfl, growB_nil w6⟩
          case round =>
            obtain ⟨i, hi, rfl, hgb⟩ := hrel
            have HGB := hide hgb
            clear hgb
            by_cases hlt : i < LS.length
            · have hlti : (i : Int) < (LS.length : Int) := by omega
              have hi2 := H20.out
              have HQr := hide (queG_kept HQ6.out (HGB.out.2.block _ (queG_lt HQ6.out)))
              obtain ⟨q0, q1⟩ := queG_at HQr.out i hlt
              have HEC := hide (fun W => HIN.out (LS.getD i 0) W (HLB.out _ (getN_mem hlt)))
              have HTK := hide (HGTK.out i hlt)
              have HTLi : Hid ((GE.take i).length = i) := by show _ = _; rw [List.length_take, HGL.out]; omega
              generalize LS.getD i 0 = Mi at q0 q1 HEC HTK
              generalize Mi.testBit 0 = ev at HEC HTK
              go_wp2_with (first
                | (go_at_call 29; refine (HEC.out _).mono ?_; rintro e w7 ⟨rfl, hb7⟩; have HG7 := hide (growB_below HGB.out hb7); have HOWN := hide HG7.out.1; rw [HTLi.out] at HOWN; have HSZ := hide HG7.out.2.size; clear hb7)
                | (at_builtin; refine wpList_append_lies _ rfl _ _ 23 rfl w6.heap.size 4 l0 (.bool false) 1 1 Tryd.underlying23 hl0 hv0 hv1 hv2 rfl (by decide) u13 i _ rfl (World.ownsRow.alloc (w := w7) HOWN.out _) ⟨w7.heap.size, 0, none⟩ 1 1 [.bool ev] rfl rfl (one_new w7 _ _) (fun u hu => by simp at hu; subst hu; rfl) (by omega) (by unfold maxLen; omega) (by omega) (by have := HSZ.out; simp; omega) (w7.heap.size + 1) (by simp) ?_; intro g9 cg9 w9 hown9 hgrow9 hat9 hlt9; have HG9 := hide (growB_push HG7.out (by rw [HTLi.out]; exact hown9) hgrow9); clear hown9 hgrow9 hat9 hlt9))
              rw [← HTK.out] at HG9
              go_roundw
              case rel => exact ⟨i + 1, by omega, by go_num, HG9.out⟩
              case measure => simp [intOf]; omega
            · have hlti : ¬ (i : Int) < (LS.length : Int) := by omega
              obtain ⟨len, hlen⟩ : ∃ len, len = LS.length := ⟨_, rfl⟩
              have hie : i = len := by omega
              subst hie
              have HF1 : Hid (GE.take i = GE) := List.take_of_length_le (by have := HGL.out; omega)
              rw [HF1.out] at HGB
              obtain ⟨ae, ce, rfl, hse⟩ := growB_end HGB.out (by unfold maxLen; have := HGL.out; have := H20.out; omega)
              rw [HGL.out] at hse ⊢
              have HBr := hide (below_step HB36.out HGB.out.2)
              obtain ⟨p0, p1, p2, p3⟩ := HBX.out wr HBr.out
              have HR := hide ((HBr.out.block _ (Array.getElem?_eq_some_iff.1 HRX.out).1).trans HRX.out)
              have HSC := hide (HSHR.out an cn ae ce wr (sl2_below HSN6.out HGB.out.2) (HSG.out H20.out) hse)
              rw [HC1.out, if_pos rfl] at HCC HMM
              clear hse HSHR HGB HF1 HGTK HIN HLB HQ6
              by_cases hK : leastK GN GE m ≤ 80
              · have hc2 : c2 = 0 := by rw [HCC.out, if_neg (by omega)]
                have HK := hide hK
                rw [if_pos hc2] at HNN HEE
                have HNN' := hide HNN.out
                have HEE' := hide HEE.out
                subst hc2
                rw [← HNN.out, ← HEE.out] at HSC
                clear hK hlen
                go_wp2_with fail
                clear p0 p1 p2 p3
                refine HSC.out.mono ?_
                rintro e w8 (⟨-, ay, cy, ay', cy', rfl, hnew, hb8⟩ | ⟨hbig, -⟩)
                rotate_left
                · exact absurd HK.out (by omega)
                have hbz := (Below.refl w8.heap.size w8).alloc (Nat.le_refl _) (.cells #[.int .i64 b, .int .i64 t, .slice ay ZN.length cy, .slice ay' ZN.length cy'] 25)
                have hbw8 := below_step hb8 hbz
                have hold := (hbw8.block _ (Array.getElem?_eq_some_iff.1 HR.out).1).trans HR.out
                have hmx := heap_alloc_last w8 (.cells #[.int .i64 b, .int .i64 t, .slice ay ZN.length cy, .slice ay' ZN.length cy'] 25)
                have HHOLD := hide hold
                have HNEW := hide (hnew.below hbz)
                have HBF := hide (below_step HB0.out (below_step HBr.out hbw8))
                have HSW := hide HBr.out.size
                obtain ⟨⟨o0, o1, o2, o3⟩, of⟩ := box_cells hold
                obtain ⟨⟨r0, r1, r2, r3⟩, -⟩ := box_cells hmx
                clear hnew hb8 hbz hbw8 hold hmx HSC
                go_wp2
                generalize w8.alloc (.cells #[.int .i64 b, .int .i64 t, .slice ay ZN.length cy, .slice ay' ZN.length cy'] 25) = w9 at HHOLD HNEW HBF o0 o1 o2 o3 of r0 r1 r2 r3 ⊢
                go_region
                all_goals
                  go_wp2
                  obtain ⟨⟨hset, hsz, hoth⟩, hbel⟩ := box_set (v0 := .int .i64 b) (v1 := .int .i64 t) (v2 := .slice ay ZN.length cy) (v3 := .slice ay' ZN.length cy') HHOLD.out rfl
                  have hb := hbel w w.heap.size HBF.out (by omega)
                  generalize hWZ : (((w9.setCell ⟨w.heap.size + 1, 0, none⟩ (.int .i64 b)).setCell ⟨w.heap.size + 1, 1, none⟩ (.int .i64 t)).setCell ⟨w.heap.size + 1, 2, none⟩ (.slice ay ZN.length cy)).setCell ⟨w.heap.size + 1, 3, none⟩ (.slice ay' ZN.length cy') = wZ at hset hsz hoth hb ⊢
                  have hfin : AutoNew w ay ZN.length ZN ay' ZE wZ.drew := fun W' hW' => HNEW.out W' (fun x hx hxl => by
                    have h1 := HSW.out
                    have h2 := HSZ0.out
                    have h3 : x < wZ.drew.heap.size := by show x < wZ.heap.size; omega
                    rw [hW' x (by omega) h3]
                    exact hoth x (by omega))
                  have hsetD : wZ.drew.heap[w.heap.size + 1]? = some (.cells #[.int .i64 b, .int .i64 t, .slice ay ZN.length cy, .slice ay' ZN.length cy'] 25 (0, 0)) := hset
                  obtain ⟨⟨z0, z1, z2, z3⟩, -⟩ := box_cells hsetD
                  have hcnt : cnt = (LS.length : Int) := HMM.out
                  rw [hcnt, HC1.out]
                  exact bodyPost_ret (v := .tuple #[.int .i64 (LS.length : Int), .int .i64 0, .agg #[.int .i64 b, .int .i64 t, .slice ay ZN.length cy, .slice ay' ZN.length cy'], .int .i64 0]) (by simp [results, Tryd.results12, go_sem, z0, z1, z2, z3]) rfl ⟨ay, cy, ay', cy', rfl, hfin, hb.drew⟩
              · have hc2 : c2 = 3 := by rw [HCC.out, if_pos (by omega)]
                have HK : Hid (80 < leastK GN GE m) := by show _ < _; omega
                have hne : ¬ (c2 = 0) := by rw [hc2]; decide
                rw [if_neg hne] at HNN HEE
                have hz1 := HNN.out
                have hz2 := HEE.out
                subst hz1 hz2 hc2
                clear hK hne hlen
                go_wp2_with fail
                clear p0 p1 p2 p3
                refine HSC.out.mono ?_
                rintro e w8 (⟨hbig, -⟩ | ⟨-, rfl, hb8⟩)
                · exact absurd HK.out (by omega)
                have hbz := (Below.refl w8.heap.size w8).alloc (Nat.le_refl _) (.cells #[.int .i64 0, .int .i64 0, .slice none 0 0, .slice none 0 0] 25)
                have hbw8 := below_step hb8 hbz
                have hold := (hbw8.block _ (Array.getElem?_eq_some_iff.1 HR.out).1).trans HR.out
                have HHOLD := hide hold
                have HBF := hide (below_step HB0.out (below_step HBr.out hbw8))
                obtain ⟨⟨o0, o1, o2, o3⟩, of⟩ := box_cells hold
                clear hb8 hbz hbw8 hold HSC
                go_wp2
                generalize w8.alloc (.cells #[.int .i64 0, .int .i64 0, .slice none 0 0, .slice none 0 0] 25) = w9 at HHOLD HBF o0 o1 o2 o3 of ⊢
                obtain ⟨⟨hset, -, -⟩, hbel⟩ := box_set (v0 := .int .i64 0) (v1 := .int .i64 0) (v2 := .slice none 0 0) (v3 := .slice none 0 0) HHOLD.out rfl
                obtain ⟨⟨z0, z1, z2, z3⟩, -⟩ := box_cells hset
                have hcnt : cnt = (LS.length : Int) := HMM.out
                rw [hcnt, HC1.out]
                exact bodyPost_ret (v := .tuple #[.int .i64 (LS.length : Int), .int .i64 0, .agg #[.int .i64 0, .int .i64 0, .slice none 0 0, .slice none 0 0], .int .i64 3]) (by simp [results, Tryd.results12, go_sem, z0, z1, z2, z3]) rfl ⟨none, 0, none, 0, rfl, autoNew_nil _ _, hbel _ _ HBF.out (by omega)⟩
      · have H20 : Hid (2000 < LS.length) := by show _ < _; omega
        have hc1 : c1 = 3 := by rw [HSS.out, if_pos (by omega)]
        have hne1 : ¬ (c1 = 0) := by rw [hc1]; decide
        rw [if_neg hne1] at HCC HMM
        have hc2 : c2 = 3 := by rw [HCC.out, hc1]
        have hne2 : ¬ (c2 = 0) := by rw [hc2]; decide
        rw [if_neg hne2] at HNN HEE
        have hz1 := HNN.out
        have hz2 := HEE.out
        have hz3 := HMM.out
        have HRw := hide ((HBW.out.block _ (Array.getElem?_eq_some_iff.1 HRX.out).1).trans HRX.out)
        clear h20 hne1 hne2 HCC HMM HNN HEE HSS HSHR HSG
        subst hz1 hz2 hz3 hc1 hc2
        go_wp2
        go_region_held_law (fun W => W.cell? ⟨w2.heap.size, 0, none⟩ = some (.int .i64 b) ∧ W.cell? ⟨w2.heap.size, 1, none⟩ = some (.int .i64 t) ∧ W.cell? ⟨w2.heap.size, 2, none⟩ = some (.slice (some ⟨br, or, none⟩) i cm) ∧ W.cell? ⟨w2.heap.size, 3, none⟩ = some (.slice am' i cm') ∧ W.cell? ⟨br, or, none⟩ = some (.slice a0 m c0) ∧ W.cell? ⟨w2.heap.size + 1, 0, none⟩ = some (.int .i64 (loS (fb i))) ∧ W.cell? ⟨w2.heap.size + 1, 1, none⟩ = some (.int .i64 (hiS (fb i)))) (first | exact HC6.out _ HB6.out | exact HC6.out _ HB5.out | go_keep)
          (first
            | (go_at_call 17; refine (HSI.out _).mono ?_; rintro e w5 ⟨asg, csg, rfl, hsg, hb5⟩; have HB5 := hide (below_step HBR.out.drew hb5); have HSGL := hide hsg; clear hsg hb5)
            | (go_at_call 15; refine (HGR.out (some ⟨br, or, none⟩) cm am' cm' asg csg w5 (sl2_below HMNr.out HB5.out) HSGL.out).mono ?_; rintro e w6 ⟨-, hno⟩; obtain ⟨rfl, hb6⟩ := hno H20.out; have HB6 := hide (below_step HB5.out hb6); clear hb6))
        all_goals
          have hr6 := (HB6.out.block _ (Array.getElem?_eq_some_iff.1 HRw.out).1).trans HRw.out
          have HR6 := hide hr6
          obtain ⟨⟨o0, o1, o2, o3⟩, of⟩ := box_cells hr6
          clear hr6
          go_wp2
          obtain ⟨⟨hset, -, -⟩, hbel⟩ := box_set (v0 := .int .i64 0) (v1 := .int .i64 0) (v2 := .slice none 0 0) (v3 := .slice none 0 0) HR6.out rfl
          obtain ⟨⟨z0, z1, z2, z3⟩, -⟩ := box_cells hset
          exact bodyPost_ret (v := .tuple #[.int .i64 0, .int .i64 3, .agg #[.int .i64 0, .int .i64 0, .slice none 0 0, .slice none 0 0], .int .i64 3]) (by simp [results, Tryd.results12, go_sem, z0, z1, z2, z3]) rfl ⟨none, 0, none, 0, rfl, autoNew_nil _ _, hbel _ _ (below_step HB0.out (below_step HBW.out HB6.out)) (by omega)⟩
theorem turnOf_u (b t : Int) (a : Option Addr) (n cap : Nat) (a' : Option Addr) (k cap' : Nat) (N : List (List Int)) (E : List Bool) (w : World) (hs : Sl2 w a n N) (he : SlB w a' k E) :
    Calls Tryd.prog 12 #[.agg #[.int .i64 b, .int .i64 t, .slice a n cap, .slice a' k cap']] w (SomeR w (tnM b t N E k) (tnS b t N E k) (okI (tnC b t N E k) b) (okI (tnC b t N E k) t) (tnN b t N E k) (tnE b t N E k) (tnC b t N E k)) := by
  by_cases hA : autoC b t N k = 0
  · obtain rfl : k = n := by rw [(autoC_zero hA).2.1, hs.1]
    exact turnOf_ok b t a k cap a' cap' N E w hs he hA
  · have h1 : tnS b t N E k = autoC b t N k := by unfold tnS; rw [if_neg hA]
    have h2 : tnC b t N E k = autoC b t N k := by unfold tnC; rw [h1, if_neg hA]
    unfold tnN tnE tnM okI
    rw [h2, h1, if_neg hA, if_neg hA, if_neg hA, if_neg hA, if_neg hA]
    exact turnOf_bad b t a n cap a' k cap' N w hs he.2.1 hA
end Go.Proofs.YtokcejakjaimladDoor
