/- turn.fromBehind: contract. -/
import Derived.Deep.DeepCutAuto
import Derived.Deep.RegionLaw
import Derived.Test.YtokcejakjaimlaeBx
import Derived.Test.YtokcejakjaimlaeBy
import Derived.Test.YtokcejakjaimlaeJg
namespace Go.Proofs.Ytokcejakjaimlae
open Go.RowKit

/-- What turn.fromBehind answers. -/
def FbU (w : World) (b t : Int) (N : List (List Int)) (E : List Bool) (k : Nat) (e : Ending) (w' : World) : Prop :=
  (tnS b t N E k = 0 → SetsOk w b t (manyU b t).toNat (tnGN b t N E) (tnGE b t N E) e w') ∧ (tnS b t N E k ≠ 0 → e = .returned (.tuple #[.agg #[.int .i64 0, .int .i64 0, .slice none 0 0, .slice none 0 0], errV (tnS b t N E k)]) ∧ Below w.heap.size w w')
theorem outB_lt {N : List (List Int)} {n m f : Nat} (hf : f < 2 ^ n) (i : Nat) : ∀ x ∈ outG (dB N n) m f i, x < 2 ^ n := fun x hx => by
  obtain ⟨u, _, rfl⟩ := outG_reach hx
  induction u using list_snoc_ind with
  | h0 => exact hf
  | h1 u y _ => rw [runG_snoc]; exact dB_lt _ _ _ _

set_option maxHeartbeats 16000000 in
set_option maxRecDepth 20000 in
theorem fromBehind_ok (b t : Int) (a : Option Addr) (n cap : Nat) (a' : Option Addr) (cap' : Nat) (N : List (List Int)) (E : List Bool) (w : World) (hs : Sl2 w a n N) (he : SlB w a' n E) (hA : autoC b t N n = 0) :
    Calls Try.prog 8 #[.agg #[.int .i64 b, .int .i64 t, .slice a n cap, .slice a' n cap']] w (FbU w b t N E n) := by
  obtain ⟨hM, hk, hG0, hmu⟩ := autoC_zero hA
  have hn80 := autoC_80 hA
  have hGL := least_good hG0 E
  have hK80 := leastK_80 hG0 E hn80
  have hm36 := hGL.2.2.2.1
  have hm1 := hGL.2.2.2.2.1
  have HLE := hide (fun W h1 h2 => least_ok b t a n cap N a' cap' E W h1 h2 hA)
  unfold LeastU at HLE
  have HB0 := hide (below_two w (.cells #[.int .i64 b, .int .i64 t, .slice a n cap, .slice a' n cap'] 25) (.cells #[.int .i64 0, .int .i64 0, .slice none 0 0, .slice none 0 0] 25))
  have HX1 := hide (heap_alloc2_fst w (.cells #[.int .i64 b, .int .i64 t, .slice a n cap, .slice a' n cap'] 25) (.cells #[.int .i64 0, .int .i64 0, .slice none 0 0, .slice none 0 0] 25))
  have HX2 := hide (heap_alloc2_snd w (.cells #[.int .i64 b, .int .i64 t, .slice a n cap, .slice a' n cap'] 25) (.cells #[.int .i64 0, .int .i64 0, .slice none 0 0, .slice none 0 0] 25))
  generalize hwb : (w.alloc (.cells #[.int .i64 b, .int .i64 t, .slice a n cap, .slice a' n cap'] 25)).alloc (.cells #[.int .i64 0, .int .i64 0, .slice none 0 0, .slice none 0 0] 25) = wb at HB0 HX1 HX2
  have HSZ : Hid (wb.heap.size = w.heap.size + 1 + 1) := by show _ = _; rw [← hwb]; simp
  have HC1 := hide (HLE.out wb (sl2_below hs HB0.out) (slB_below he HB0.out))
  -- what is found in the end
  have hLL : (leastN N E (manyU b t).toNat).length = leastK N E (manyU b t).toNat := leastN_len _ _ _
  have HFE : Hid (∀ (i : Nat) (w' : World) (e : Ending), i ≤ 2000 → (outG (dB (leastN N E (manyU b t).toNat) (leastK N E (manyU b t).toNat)) (manyU b t).toNat (fB (leastK N E (manyU b t).toNat) (leastE N E (manyU b t).toNat)) i).length = i → SetsOk w b t (manyU b t).toNat (gN (dB (leastN N E (manyU b t).toNat) (leastK N E (manyU b t).toNat)) (manyU b t).toNat (outG (dB (leastN N E (manyU b t).toNat) (leastK N E (manyU b t).toNat)) (manyU b t).toNat (fB (leastK N E (manyU b t).toNat) (leastE N E (manyU b t).toNat)) i)) (gE (fun M => M.testBit 0) (outG (dB (leastN N E (manyU b t).toNat) (leastK N E (manyU b t).toNat)) (manyU b t).toNat (fB (leastK N E (manyU b t).toNat) (leastE N E (manyU b t).toNat)) i)) e w' → FbU w b t N E n e w') := fun i w' e h1 h2 h3 => by
    have h4 := outG_stay (Nat.le_of_eq h2) (2000 - i)
    rw [show i + (2000 - i) = 2000 by omega] at h4
    have h5 : tnL b t N E = outG (dB (leastN N E (manyU b t).toNat) (leastK N E (manyU b t).toNat)) (manyU b t).toNat (fB (leastK N E (manyU b t).toNat) (leastE N E (manyU b t).toNat)) i := h4
    have h6 : tnS b t N E n = 0 := by unfold tnS; rw [if_pos hA, h5, if_neg (by omega)]
    refine ⟨fun _ => ?_, fun h => absurd h6 h⟩
    rw [← h5] at h3
    exact h3
  have HFN : Hid (∀ (i : Nat) (w' : World) (e : Ending), i ≤ 2000 → 2000 < (outG (dB (leastN N E (manyU b t).toNat) (leastK N E (manyU b t).toNat)) (manyU b t).toNat (fB (leastK N E (manyU b t).toNat) (leastE N E (manyU b t).toNat)) i).length → (e = .returned (.tuple #[.agg #[.int .i64 0, .int .i64 0, .slice none 0 0, .slice none 0 0], errV 3]) ∧ Below w.heap.size w w') → FbU w b t N E n e w') := fun i w' e h1 h2 h3 => by
    have h4 := (outG_le (d := dB (leastN N E (manyU b t).toNat) (leastK N E (manyU b t).toNat)) (m := (manyU b t).toNat) (f := fB (leastK N E (manyU b t).toNat) (leastE N E (manyU b t).toNat)) h1).length_le
    have h5 : 2000 < (tnL b t N E).length := Nat.lt_of_lt_of_le h2 h4
    have h6 : tnS b t N E n = 3 := by unfold tnS; rw [if_pos hA, if_pos h5]
    exact ⟨fun h => absurd (h6.symm.trans h) (by decide), fun _ => by rw [h6]; exact h3⟩
  generalize leastN N E (manyU b t).toNat = LN at *
  generalize leastE N E (manyU b t).toNat = LE at *
  generalize leastK N E (manyU b t).toNat = K at *
  generalize (manyU b t).toNat = m at *
  subst hLL
  have HG := hide hGL
  have HLT : Hid (∀ i, ∀ x ∈ outG (dB LN LN.length) m (fB LN.length LE) i, x < 2 ^ LN.length) := fun i => outB_lt (fB_lt _ _) i
  have HFLT : Hid (fB LN.length LE < 2 ^ LN.length) := fB_lt _ _
  have HDLT : Hid (∀ M l, dB LN LN.length M l < 2 ^ LN.length) := fun M l => dB_lt _ _ _ _
  have HP80 : Hid (∀ M, M < 2 ^ LN.length → M < 2 ^ 80) := fun M h => Nat.lt_of_lt_of_le h (Nat.pow_le_pow_right (by decide) hK80)
  clear hs he hA hM hk hG0 hmu hn80 HLE hGL
  have hmk := make_ints m (by omega)
  have hmm := @run_makeMap Try.prog
  obtain ⟨⟨p0, p1, p2, p3⟩, -⟩ := box_cells HX1.out
  go_enter Try.func8, Try.ntmps8
  go_wp2_with fail
  clear hwb p0 p1 p2 p3
  refine HC1.out.mono ?_
  rintro e w1 ⟨a1, c1, a2, c2, rfl, hnew, hb1⟩
  have HN1 := hide hnew
  have HB1 := hide hb1
  have HBF := hide ((Below.refl w1.heap.size w1).alloc (Nat.le_refl _) (.cells #[.int .i64 b, .int .i64 t, .slice a1 LN.length c1, .slice a2 LN.length c2] 25))
  have HXF := hide (heap_alloc_last w1 (.cells #[.int .i64 b, .int .i64 t, .slice a1 LN.length c1, .slice a2 LN.length c2] 25))
  clear hnew hb1 HC1
  generalize hwf : w1.alloc (.cells #[.int .i64 b, .int .i64 t, .slice a1 LN.length c1, .slice a2 LN.length c2] 25) = wf at HBF HXF
  have HSF : Hid (wf.heap.size = w1.heap.size + 1) := by show _ = _; rw [← hwf]; simp
  have HXM := hide (heap_alloc_last wf (.cells #[.int .i64 b, .int .i64 t, .slice none 0 0, .slice none 0 0] 25))
  have HBM := hide ((Below.refl wf.heap.size wf).alloc (Nat.le_refl _) (.cells #[.int .i64 b, .int .i64 t, .slice none 0 0, .slice none 0 0] 25))
  obtain ⟨⟨q0, q1, q2, q3⟩, -⟩ := box_cells HXF.out
  obtain ⟨⟨r0, r1, r2, r3⟩, -⟩ := box_cells ((HBM.out.block _ (Array.getElem?_eq_some_iff.1 HXF.out).1).trans HXF.out)
  go_wp2_with fail
  clear hwf q0 q1 q2 q3 r0 r1 r2 r3
  generalize hwm : wf.alloc (.cells #[.int .i64 b, .int .i64 t, .slice none 0 0, .slice none 0 0] 25) = wm at HXM HBM
  have HSM : Hid (wm.heap.size = wf.heap.size + 1) := by show _ = _; rw [← hwm]; simp
  clear hwm
  have HBW1M : Hid (Below w1.heap.size w1 wm) := below_step HBF.out HBM.out
  have HNM : Hid (∀ W, Below wm.heap.size wm W → Sl2 W a1 LN.length LN ∧ SlB W a2 LN.length LE) := fun W hW => (HN1.out.below (HBW1M.out.trans (hW.mono HBW1M.out.size))).here
  refine (doors_any b t a1 LN.length c1 (.slice a2 LN.length c2) m LN wm (HNM.out wm (Below.refl _ _)).1 HG.out hK80).mono ?_
  rintro e w2 ⟨dm, cnt, rfl, hdm, hdo, hb2⟩
  have HDO := hide hdo
  have HDM := hide hdm
  have HB2 := hide hb2
  clear hdm hdo hb2
  obtain ⟨⟨q0, q1, q2, q3⟩, -⟩ := box_cells ((HB2.out.block _ (by rw [HSM.out, HSF.out]; omega)).trans ((HBM.out.block _ (Array.getElem?_eq_some_iff.1 HXF.out).1).trans HXF.out))
  go_wp2_with fail
  clear q0 q1 q2 q3
  refine (atEnd_any b t (.slice a1 LN.length c1) a2 LN.length c2 LE w2 (HNM.out w2 HB2.out).2 hK80).mono ?_
  rintro e w3 ⟨rfl, hb3⟩
  have HB3 := hide hb3
  clear hb3
  generalize hf0 : fB LN.length LE = f at HFE HFN HLT HFLT

  clear hf0
  have HF80 := hide (HP80.out f HFLT.out)
  have HXC := hide (heap_alloc_last w3 (.cells #[.int .u64 (loT f), .int .u64 (hiT f)] 45))
  have HBC := hide ((Below.refl w3.heap.size w3).alloc (Nat.le_refl _) (.cells #[.int .u64 (loT f), .int .u64 (hiT f)] 45))
  obtain ⟨kl0, hkl0⟩ := setT_key HF80.out
  generalize hwv : w3.alloc (.cells #[.int .u64 (loT f), .int .u64 (hiT f)] 45) = wv at HXC HBC
  have hm0 := mapAt_made wv Try.prog 45
  obtain ⟨wp, hins, hmp, htn⟩ := hm0.put setT_law Try.underlying47 (val := .int .i64 0) (by decide) hkl0 (by simp)
  have HMP := hide hmp
  have HTN := hide htn
  have hxw : (wv.alloc (.map #[] 0)).heap[w3.heap.size]? = some (.cells #[.int .u64 (loT f), .int .u64 (hiT f)] 45 (0, 0)) := (Below.heap_alloc _ _ _ (Array.getElem?_eq_some_iff.1 HXC.out).1).trans HXC.out
  have hxp : wp.heap[w3.heap.size]? = some (.cells #[.int .u64 (loT f), .int .u64 (hiT f)] 45 (0, 0)) := (htn.grown.block w3.heap.size (Nat.lt_trans (Array.getElem?_eq_some_iff.1 HXC.out).1 (by simp)) (fun e => by have h1 := Option.some.inj e; have h2 := (Array.getElem?_eq_some_iff.1 HXC.out).1; omega)).trans hxw
  obtain ⟨⟨q0, q1⟩, -⟩ := box2_cells hxw
  obtain ⟨⟨r0, r1⟩, -⟩ := box2_cells hxp
  unfold setT at hins
  have hls := (Array.getElem?_eq_some_iff.1 HXC.out).1
  clear hmp htn hm0 hxw hxp
  unfold setT
  go_wp2
  clear q0 q1 r0 r1 hins hkl0
  -- what stays as it was
  have hx1 : w1.heap.size < wv.heap.size := by
    have h1 := HSF.out; have h2 := HSM.out; have h3 := HB2.out.size; have h4 := HB3.out.size; omega
  have HCH : Hid (Below wm.heap.size wm wv) := below_step (below_step HB2.out HB3.out) HBC.out
  have HKEEP : Hid (∀ W, Tch (fun x => x = wf.heap.size) wv W → (∀ x, x < wv.heap.size → x ≠ wf.heap.size → W.heap[x]? = wv.heap[x]?) ∧ Below w.heap.size w W) := fun W hW => by
    refine ⟨fun x hx hn => hW.block x hx hn, ?_⟩
    have h0 : Below w.heap.size w wv := (HB0.out.trans ((below_step (below_step HB1.out HBW1M.out) HCH.out).mono HB0.out.size))
    exact below_tch h0 hW (fun x hx => by have := HB1.out.size; have := HSZ.out; have := HSF.out; omega) h0.size
  have HNW : Hid (∀ W, Tch (fun x => x = wf.heap.size) wv W → Sl2 W a1 LN.length LN) := fun W hW => (HN1.out W (fun x h1 h2 => by
    have e1 := hW.block x (by omega) (by have := HSF.out; omega)
    have e2 := HCH.out.block x (by have := HSM.out; have := HSF.out; omega)
    have e3 := HBW1M.out.block x h2
    rw [e1, e2, e3])).1
  have HDW : Hid (∀ W, Tch (fun x => x = wf.heap.size) wv W → DoorAt W dm m LN.length cnt (doorF LN LN.length 0)) := fun W hW => by
    have l2 := doorAt_lt HDO.out
    have h1 := HDM.out
    have h2 := HSM.out
    have h3 := HB3.out.size
    have e1 := hW.block dm (by omega) (by omega)
    have e2 := (below_step HB3.out HBC.out).block dm l2
    exact doorAt_block HDO.out (e1.trans e2)
  have HFW : Hid (∀ W, Tch (fun x => x = wf.heap.size) wv W → W.heap[w1.heap.size]? = some (.cells #[.int .i64 b, .int .i64 t, .slice a1 LN.length c1, .slice a2 LN.length c2] 25 (0, 0))) := fun W hW => by
    have h1 := HSF.out
    have h2 := HSM.out
    rw [hW.block w1.heap.size hx1 (by omega), HCH.out.block _ (by omega), HBM.out.block _ (by omega)]
    exact HXF.out
  have HRW0 : Hid (∀ W, Tch (fun x => x = wf.heap.size) wv W → W.heap[w.heap.size + 1]? = some (.cells #[.int .i64 0, .int .i64 0, .slice none 0 0, .slice none 0 0] 25 (0, 0))) := fun W hW => by
    have h0 := HSZ.out
    have h1 := HSF.out
    have h2 := HSM.out
    have h3 := HB1.out.size
    rw [hW.block _ (by omega) (by omega), HCH.out.block _ (by omega), HBW1M.out.block _ (by omega), HB1.out.block _ (by omega)]
    exact HX2.out
  have HLEAD : Hid (∀ (W : World) (M l : Nat), Tch (fun x => x = wf.heap.size) wv W → l < m → M < 2 ^ 80 → Calls Try.prog 16 #[setT M, .int .i64 (l : Int), .int .i64 (LN.length : Int), .map (some dm)] W (GivesT W (dB LN LN.length M l))) := fun W M l hW hl hM80 => by
    have h := leadInto_any M l LN.length dm m cnt (doorF LN LN.length 0) W (HDW.out W hW) hl hK80 hm36 hM80 (fun s => by
      unfold doorF
      rw [if_neg (by omega)]
      exact maskB_80 hK80 _)
    rwa [lead_is HG.out hl] at h
  unfold GivesT setT at HLEAD
  have HHAS := hide (fun M W h => has_any M 0 W h (by decide))
  unfold setT at HHAS
  have hbxw : wv.heap[wf.heap.size]? = some (.cells #[.int .i64 b, .int .i64 t, .slice none 0 0, .slice none 0 0] 25 (0, 0)) := (HCH.out.block _ (by rw [HSM.out]; omega)).trans HXM.out
  have HTU := hide (fun rows es => @tuAt_start wv wf.heap.size m b t rows es wp f hbxw HMP.out HTN.out)
  have HBXL : Hid (wf.heap.size < wv.heap.size) := (Array.getElem?_eq_some_iff.1 hbxw).1
  clear hbxw HMP HTN hwv hls
  generalize dB LN LN.length = d at HFE HFN HLT HDLT HLEAD
  obtain ⟨RW, hRW⟩ : ∃ RW, RW = foundR d m f := ⟨_, rfl⟩
  obtain ⟨ES, hES⟩ : ∃ ES, ES = fun j => ((outG d m f j).getD j 0).testBit 0 := ⟨_, rfl⟩
  have HTU0 := hide (HTU.out RW ES)
  have HRW : Hid (foundR d m f = RW) := hRW.symm
  have HES : Hid ((fun j => ((outG d m f j).getD j 0).testBit 0) = ES) := hES.symm
  clear hRW hES HTU
  generalize wp.alloc (.cells #[.int .u64 (loT f), .int .u64 (hiT f)] 45) = w0 at HTU0 ⊢
  have HO0 : Hid (outG d m f 0 = [f]) := rfl
  obtain ⟨bx, hbx⟩ : ∃ bx, bx = wf.heap.size := ⟨_, rfl⟩
  rw [← hbx] at HKEEP HNW HDW HFW HRW0 HLEAD HTU0 HBXL ⊢
  obtain ⟨mb, hmb⟩ : ∃ mb, mb = wv.heap.size := ⟨_, rfl⟩
  have HMBE := hide hmb
  have HTU1 : Hid (TuAt wv mb bx m b t RW ES 0 [f] wp.heap.size 1 w0) := by show TuAt _ _ _ _ _ _ _ _ _ _ _ _ _; rw [hmb]; exact HTU0.out
  rw [← hmb]
  have HBXF : Hid (w.heap.size + 1 < bx) := by show _ < _; rw [hbx]; have := HB1.out.size; have := HSZ.out; have := HSF.out; omega
  clear hbx hmb HTU0 HB0 HX1 HX2 HSZ HN1 HB1 HBF HXF HSF HXM HBM HSM HBW1M HNM HDO HDM HB2 HB3 HXC HBC HCH HF80 HFLT wb
  go_loopg [10, 11] 2001 (fun g v u wx => ∃ i bq cq : Nat, g = 2001 - i ∧ u = .int .i64 i ∧ v = .slice (some ⟨bq, 0, none⟩) (outG d m f i).length cq ∧ i ≤ (outG d m f i).length ∧ (outG d m f i).length ≤ 2000 ∧ TuAt wv mb bx m b t RW ES i (outG d m f i) bq cq wx)
  case atStart => exact ⟨0, wp.heap.size, 1, rfl, rfl, rfl, Nat.zero_le _, by rw [HO0.out]; simp, HTU1.out⟩
  case round =>
    obtain ⟨i, bq, cq, hgi, rfl, rfl, hil, hlen, htu⟩ := hrel
    have HGI := hide hgi
    have HT := hide htu
    have HTC : Hid (Tch (fun x => x = bx) wv wr) := by obtain ⟨_, _, _, _, _, _, _, h⟩ := htu; exact h
    clear hgi htu HTU1
    by_cases hlt : i < (outG d m f i).length
    · have hlti : (i : Int) < ((outG d m f i).length : Int) := by omega
      obtain ⟨⟨q0, q1, q2, q3⟩, -⟩ := box_cells (HFW.out wr HTC.out)
      obtain ⟨bn, on, an, cn, rfl, hcn, -⟩ := sl2_cell (HNW.out wr HTC.out) 0 (by have := HG.out.2.1; omega)
      rw [(HG.out.2.2.2.2.2 0 HG.out.2.1).1, Nat.add_zero] at hcn
      have hKpos : (0 : Int) < (LN.length : Int) := by have := HG.out.2.1; omega
      have HSUC := hide (outG_nextH hlt)
      have HIDX := hide (fun l hl => found_idx (d := d) (m := m) (f := f) (i := i) (l := l) hlt hl)
      have HRWG : Hid (∀ l, l < m → (RW i).getD l 0 = (((outG d m f (i + 1)).idxOf (d ((outG d m f i).getD i 0) l) : Nat) : Int)) := fun l hl => by
        rw [← HRW.out]; exact foundR_get hl
      have HPG : Hid (∀ l, i < (rowG d (outG d m f i) ((outG d m f i).getD i 0) l).length ∧ (rowG d (outG d m f i) ((outG d m f i).getD i 0) l).getD i 0 = (outG d m f i).getD i 0 ∧ (∀ x ∈ rowG d (outG d m f i) ((outG d m f i).getD i 0) l, x < 2 ^ LN.length) ∧ (rowG d (outG d m f i) ((outG d m f i).getD i 0) l).length ≤ 2000 + l) := fun l => by
        have h1 := rowG_from d (outG d m f i) ((outG d m f i).getD i 0) l
        refine ⟨Nat.lt_of_lt_of_le hlt h1.length_le, pre_getN h1 hlt, fun x hx => ?_, by have := rowG_lenH d (outG d m f i) ((outG d m f i).getD i 0) l; omega⟩
        rcases rowG_mem.1 hx with h | ⟨j, _, rfl⟩
        · exact HLT.out i x h
        · exact HDLT.out _ _
      have HRS := hide (fun l => rowG_succ d (outG d m f i) ((outG d m f i).getD i 0) l)
      have HSI := hide (txAt_start (RW i) HT.out)
      go_wp2
      obtain ⟨wq, hwq⟩ : ∃ wq : World, wq = wr := ⟨_, rfl⟩
      rw [← hwq] at HSI ⊢
      clear hwq hcn q0 q1 q2 q3 HT HTC wr
      generalize wq.alloc (.cells (madeCells #[.int .i64 0] m) 3) = wz at HSI ⊢
      have HSI0 : Hid (TxAt wv mb bx m b t RW ES i wq.heap.size (RW i) 0 (rowG d (outG d m f i) ((outG d m f i).getD i 0) 0) bq cq wz) := HSI.out
      have HR0 : Hid (rowG d (outG d m f i) ((outG d m f i).getD i 0) 0 = outG d m f i) := rfl
      clear HSI
      obtain ⟨OI, hOI⟩ : ∃ OI, OI = outG d m f i := ⟨_, rfl⟩
      rw [← hOI] at HSI0 HPG HRS HIDX HRWG HSUC HR0 hlen hil hlt
      have HOI := hide hOI
      clear hOI
      obtain ⟨sI, hsI⟩ : ∃ sI, sI = OI.getD i 0 := ⟨_, rfl⟩
      rw [← hsI] at HSI0 HPG HRS HIDX HRWG HSUC HR0
      have HSII := hide hsI
      have HS80 : Hid (sI < 2 ^ 80) := HP80.out _ (by rw [hsI]; have h1 := (HPG.out 0).2.2.1; rw [HR0.out] at h1; exact h1 _ (getN_mem hlt))
      clear hsI
      go_loopw [10, 54] (fun v u wx => ∃ l bq' cq' : Nat, l ≤ m ∧ u = .int .i64 l ∧ v = .slice (some ⟨bq', 0, none⟩) (rowG d OI sI l).length cq' ∧ TxAt wv mb bx m b t RW ES i wq.heap.size (RW i) l (rowG d OI sI l) bq' cq' wx) (fun _ u _ => m - (intOf u).toNat)
      case atStart => exact ⟨0, bq, cq, by omega, rfl, by rw [HR0.out, HOI.out], HSI0.out⟩
      case round =>
        obtain ⟨l, bq', cq', hl, rfl, rfl, htx⟩ := hrel
        have HX := hide htx
        obtain ⟨G, hq, hm, hau, hgn, hgw, hne, htc, hrw⟩ := htx
        have HQ := hide hq
        have HM := hide hm
        have HTC := hide htc
        obtain ⟨hp1, hp2, hp3, hp4⟩ := HPG.out l
        obtain ⟨s0, s1⟩ := queT_at hq i hp1
        rw [hp2] at s0 s1
        have HP3 := hide hp3
        clear hq hm hau hgn hgw hne htc hrw hp3 hp2 HSI0
        by_cases hlm : l < m
        · have hlmi : (l : Int) < (m : Int) := by omega
          have hp1i : (i : Int) < ((rowG d OI sI l).length : Int) := by omega
          obtain ⟨⟨q0, q1, q2, q3⟩, -⟩ := box_cells (HFW.out wr HTC.out)
          have HC1 := hide (fun W hW => HLEAD.out W sI l hW hlm HS80.out)
          have HM2 : Hid (d sI l < 2 ^ 80) := HP80.out _ (HDLT.out _ _)
          have HRSl := hide (HRS.out l)
          have HIDl := hide (HIDX.out l hlm)
          have HRWl := hide (HRWG.out l hlm)
          obtain ⟨M2, hM2⟩ : ∃ M2, M2 = d sI l := ⟨_, rfl⟩
          rw [← hM2] at HC1 HM2 HRSl HIDl HRWl
          clear hM2
          go_wp2
          go_cut [14, 54] from 54 to 88 (fun s14 s54 wx => s54 = .int .i64 (l : Int) ∧ ∃ P, s14 = .pointer (some ⟨P, 0, none⟩) ∧ wx.heap[P]? = some (.cells #[.int .u64 (loT M2), .int .u64 (hiT M2)] 45 (0, 0)) ∧ Below wr.heap.size wr wx)
          case first =>
            have hq2a : (wr.alloc (.cells #[.int .u64 0, .int .u64 0] 45)).cell? ⟨w1.heap.size, 2, none⟩ = some (.slice (some ⟨bn, on, none⟩) LN.length c1) := (World.cell?_of_block (a := ⟨w1.heap.size, 2, none⟩) (Below.heap_alloc _ _ _ (World.block_lt_of_cell? wr _ q2))).trans q2
            have hs0a : (wr.alloc (.cells #[.int .u64 0, .int .u64 0] 45)).cell? ⟨bq', i * 2, none⟩ = some (.int .u64 (loT sI)) := (World.cell?_of_block (a := ⟨bq', i * 2, none⟩) (Below.heap_alloc _ _ _ (World.block_lt_of_cell? wr _ s0))).trans s0
            have hs1a : (wr.alloc (.cells #[.int .u64 0, .int .u64 0] 45)).cell? ⟨bq', i * 2 + 1, none⟩ = some (.int .u64 (hiT sI)) := (World.cell?_of_block (a := ⟨bq', i * 2 + 1, none⟩) (Below.heap_alloc _ _ _ (World.block_lt_of_cell? wr _ s1))).trans s1
            go_region_with (first
              | (go_at_call 16; refine (HC1.out _ (by first | exact tch_trans HTC.out (tch_below (F := fun x => x = bx) (Below.refl wr.heap.size wr).drew) (fun _ _ hx => hx) | exact tch_trans HTC.out (tch_below (F := fun x => x = bx) ((Below.refl wr.heap.size wr).drew.alloc (Nat.le_refl _) _)) (fun _ _ hx => hx))).mono ?_; rintro e w5 ⟨rfl, hb5⟩; (first | (have HZ := hide ((hb5.block wr.heap.size (by simp)).trans (heap_alloc_last wr.drew (.cells #[.int .u64 0, .int .u64 0] 45))); obtain ⟨⟨z0, z1⟩, zf⟩ := box2_cells HZ.out) | skip); have HB5 : Hid (Below wr.heap.size wr w5) := (by first | exact (Below.refl wr.heap.size wr).drew.trans hb5 | exact ((Below.refl wr.heap.size wr).drew.alloc (Nat.le_refl _) _).trans (hb5.mono (by simp))); clear hb5))
            all_goals
              go_wp2_with fail
              go_meet
              first
                | exact ⟨rfl, _, rfl, heap_alloc_last _ _, HB5.out.alloc HB5.out.size _⟩
                | exact ⟨rfl, _, rfl, (box2_set HZ.out rfl).1.1, (box2_set HZ.out rfl).2 _ _ HB5.out (Nat.le_refl _)⟩
          case rest =>
            obtain ⟨rfl, P, rfl, hxp, hbp⟩ := hcut
            have HXP := hide hxp
            have HXW := hide (txAt_below HX.out hbp)
            have HMW := hide (HM.out.below hbp)
            have HQW := hide (queT_kept HQ.out (hbp.block _ (queT_lt HQ.out)))
            obtain ⟨kl, hkl⟩ := setT_key HM2.out
            have HKL := hide hkl
            obtain ⟨⟨x0, x1⟩, -⟩ := box2_cells hxp
            clear hxp hbp hkl HM HQ HX HTC HC1 q0 q1 q2 q3 s0 s1
            by_cases hin : M2 ∈ rowG d OI sI l
            · have HMEM := hide (numT_mem hin)
              have HAD : Hid (rowG d OI sI (l + 1) = rowG d OI sI l) := by show _ = _; rw [HRSl.out]; exact addG_old hin
              have HNUM : Hid ((((rowG d OI sI l).idxOf M2 : Nat) : Int) = (RW i).getD l 0) := by
                show _ = _
                rw [HRWl.out, ← HIDl.out, addG_old hin]
              rw [HNUM.out] at HMEM
              obtain ⟨hcz, hfz⟩ := txAt_cell HXW.out hlm
              have HSET := hide (fun z hz => @txAt_set _ _ _ _ _ _ _ _ _ _ _ _ _ _ _ _ z HXW.out hz)
              obtain ⟨z, hz⟩ : ∃ z, z = (RW i).getD l 0 := ⟨_, rfl⟩
              rw [← hz] at HMEM
              have HZ := hide hz.symm
              clear hin hz HNUM
              unfold setT at HMEM HKL
              generalize loT M2 = y0 at *
              generalize hiT M2 = y1 at *
              go_wp2_with (at_lookup; refine wpList_look_yes _ rfl _ _ 47 rfl 45 3 setT_law Try.underlying47 (zeroI_any _) mb _ rfl HMW.out _ _ rfl HKL.out _ HMEM.out ?_)
              have HFIN := hide (HSET.out z HZ.out)
              go_roundw
              case rel => exact ⟨l + 1, bq', cq', by omega, by go_num, by rw [HAD.out], by rw [HAD.out]; exact HFIN.out⟩
              case measure => simp [intOf]; omega
            · have HNM := hide (numT_not hin)
              have HAD : Hid (rowG d OI sI (l + 1) = rowG d OI sI l ++ [M2]) := by show _ = _; rw [HRSl.out]; exact addG_new hin
              have HNUM : Hid (((rowG d OI sI l).length : Int) = (RW i).getD l 0) := by
                show _ = _
                rw [HRWl.out, ← HIDl.out, addG_new hin]
                have : (rowG d OI sI l ++ [M2]).idxOf M2 = (rowG d OI sI l).length := by rw [List.idxOf_append, if_neg hin]; simp
                rw [this]
              have HNEW := hide (fun w5 w6 o b' cap' k1 k2 k3 k4 k5 => @txAt_new wv mb bx m b t RW ES i wq.heap.size (RW i) l (rowG d OI sI l) bq' cq' wc M2 w5 w6 o b' cap' HXW.out k1 k2 k3 k4 k5)
              have HPL : Hid (P < wc.heap.size) := (Array.getElem?_eq_some_iff.1 HXP.out).1
              have HPM : Hid (P ≠ mb) := fun e => by
                obtain ⟨es, clock, h⟩ := HMW.out.isMap
                rw [← e, HXP.out] at h
                cases h
              have HQM : Hid (mb ≠ bq') := by obtain ⟨_, _, _, _, _, _, h, _⟩ := HXW.out; exact h.1
              have HQX : Hid (∀ W, W.heap[bq']? = wc.heap[bq']? → QueT W bq' (rowG d OI sI l).length cq' (rowG d OI sI l)) := fun W h => queT_kept HQW.out h
              have HBQL := hide (queT_lt HQW.out)
              clear hin
              unfold setT at HNM HKL HNEW
              go_wp2_with (first
                | (at_lookup; refine wpList_look_no _ rfl _ _ 47 rfl 45 3 setT_law Try.underlying47 (zeroI_any _) mb _ rfl HMW.out _ _ rfl HKL.out HNM.out ?_)
                | (at_mapUpdate; refine wpList_put_at _ rfl _ _ _ 47 rfl 45 3 setT_law Try.underlying47 mb _ rfl HMW.out (by rw [numT_len]; unfold maxLen; omega) (Value.agg #[.int .u64 (loT M2), .int .u64 (hiT M2)]) (.int .i64 ((rowG d OI sI l).length : Int)) _ rfl rfl HKL.out HNM.out ?_; intro w5 hmp htn; have HMP5 := hide hmp; have HTN5 := hide htn; have hxp5 := (htn.grown.block P HPL.out (fun e => HPM.out (by cases e; rfl))).trans HXP.out; obtain ⟨⟨y0, y1⟩, -⟩ := box2_cells hxp5; clear hmp htn hxp5)
                | (at_builtin; refine wpList_append_queT _ rfl _ _ rfl bq' (rowG d OI sI l).length cq' (rowG d OI sI l) rfl (HQX.out _ ((Below.heap_alloc _ _ _ (Nat.lt_of_lt_of_le HBQL.out HTN5.out.grown.size)).trans (HTN5.out.grown.block bq' HBQL.out (fun e => HQM.out (by cases e; rfl))))) ⟨w5.heap.size, 0, none⟩ M2 (loT M2) (hiT M2) rfl rfl rfl (two_new _ _ _ _) (by omega) ?_; intro b6 cap6 w6 hq6 hg6 hb6; have HX6 := hide (HNEW.out w5 w6 _ b6 cap6 HMP5.out HTN5.out hq6 hg6 hb6); obtain ⟨hcz, hfz⟩ := txAt_cell HX6.out hlm; clear hq6 hg6 hb6))
              have HFIN := hide (txAt_set HX6.out HNUM.out.symm)
              go_roundw
              case rel => exact ⟨l + 1, b6, cap6, by omega, by go_num, by rw [HAD.out, List.length_append, List.length_singleton], by rw [HAD.out]; exact HFIN.out⟩
              case measure => simp [intOf]; omega
        · have hlmi : ¬ (l : Int) < (m : Int) := by omega
          obtain rfl : l = m := by omega
          obtain ⟨G, -, -, hau, hgn, hgw, hne, -, hrw⟩ := HX.out
          have HAU := hide hau
          have HGN := hide hgn
          have HGW := hide hgw
          have HNE := hide hne
          have HRWI := hide hrw
          clear hau hgn hgw hne hrw s0 s1 hp1
          rw [← HSUC.out] at HQ HM hp4 ⊢
          have HPO : Hid (i < (outG d l f (i + 1)).length ∧ (outG d l f (i + 1)).getD i 0 = sI) := by
            obtain ⟨h1, h2, -⟩ := HPG.out l
            rw [← HSUC.out] at h1 h2
            exact ⟨h1, h2⟩
          obtain ⟨OS, hOS⟩ : ∃ OS, OS = outG d l f (i + 1) := ⟨_, rfl⟩
          rw [← hOS] at HQ HM hp4 HPO ⊢
          have HOS : Hid (outG d l f (i + 1) = OS) := hOS.symm
          clear hOS
          by_cases hbig : 2000 < OS.length
          · have hbigi : ((OS.length : Nat) : Int) > 2000 := by omega
            have hr := HRW0.out wr HTC.out
            obtain ⟨⟨r0, r1, r2, r3⟩, rf⟩ := box_cells hr
            have HR := hide hr
            have HB3 : Hid (Below w.heap.size w wr) := (HKEEP.out wr HTC.out).2
            clear hr
            go_wp2
            obtain ⟨⟨hset, -, -⟩, hbel⟩ := box_set (v0 := .int .i64 0) (v1 := .int .i64 0) (v2 := .slice none 0 0) (v3 := .slice none 0 0) HR.out rfl
            have hb := hbel w w.heap.size HB3.out (by omega)
            obtain ⟨⟨z0, z1, z2, z3⟩, -⟩ := box_cells hset
            exact bodyPost_ret (v := .tuple #[.agg #[.int .i64 0, .int .i64 0, .slice none 0 0, .slice none 0 0], .iface 51 (.int .i64 3)]) (by simp [results, Try.results8, go_sem, z0, z1, z2, z3]) rfl (HFN.out (i + 1) _ _ (by omega) (by rw [HOS.out]; exact hbig) ⟨rfl, hb⟩)
          · have hbigi : ¬ ((OS.length : Nat) : Int) > 2000 := by omega
            obtain ⟨vN, vE, vals, hA⟩ := HAU.out
            have hcN : wr.cell? ⟨bx, 2, none⟩ = some vN := (box_cells hA.box).1.2.2.1
            have HA := hide hA
            have HNN := hide (fun w3 o g' cap' k1 k2 k3 => @autI_N bx bx l b t RW ES i i G wr w3 vN vE vals wq.heap.size o g' cap' hA (HRWI.out.congr fun q hq => by rw [if_pos hq]) ⟨HGN.out.2.2, by have := HNE.out.2.2.2.2.2; have := HBXL.out; omega⟩ k1 k2 k3)
            have HOWN := hide hA.ownN
            have HLB : Hid (bx ≤ wr.heap.size) := hA.hb
            obtain ⟨j0, hj0, hy0, hy1, hy2⟩ := info_parts infoS2
            clear hA
            go_wp2_with (at_builtin; refine wpList_append_lies _ rfl _ _ 22 rfl bx 26 j0 (.slice none 0 0) 1 24 Try.underlying22 hj0 hy0 hy1 hy2 rfl (by decide) vN i vals rfl (HOWN.out.alloc _) ⟨wr.heap.size, 0, none⟩ 1 1 [.slice (some ⟨wq.heap.size, 0, none⟩) l l] rfl rfl (one_new _ _ _) (fun u hu => by simp at hu; subst hu; rfl) (by omega) (by unfold maxLen; omega) (by omega) (by have := HLB.out; simp; omega) (wr.heap.size + 1) (by simp) ?_; intro g' cg w5 hown5 hgrow5 hat5 hlt5; obtain ⟨⟨hn1', hn2'⟩, hn3', hn4'⟩ := HNN.out w5 _ g' cg hown5 hgrow5 (by rw [World.size_alloc]; exact hat5); have HN3 := hide hn3'; have HN4 := hide hn4'; have HS5 := hide hgrow5.size; clear hown5 hgrow5 hat5 hn3' hn4')
            have HF4 : Hid (Tch G wr (w5.setCell ⟨bx, 2, none⟩ (.slice (some ⟨g', 0, none⟩) (i + 1) cg))) := HN4.out
            have HS5' : Hid (wr.heap.size + 1 ≤ w5.heap.size) := by have := HS5.out; rw [World.size_alloc] at this; exact this
            generalize w5.setCell ⟨bx, 2, none⟩ (.slice (some ⟨g', 0, none⟩) (i + 1) cg) = w6 at HN3 HF4 ⊢
            have HTC6 : Hid (Tch (fun x => x = bx) wv w6) := tch_trans HTC.out HF4.out (fun x hx hg => by
              rcases HGW.out x hg with e | e
              · exact e
              · omega)
            have HQ6 := hide (queT_kept HQ.out (HF4.out.block bq' (queT_lt HQ.out) HGN.out.2.1))
            have HM6 := hide (HM.out.of_block (HF4.out.block mb HM.out.lt HGN.out.1))
            have HD6 : Hid (¬ autF G wq.heap.size wr.heap.size w5.heap.size mb ∧ ¬ autF G wq.heap.size wr.heap.size w5.heap.size bq') := by
              have l1 := queT_lt HQ.out
              have l2 := HM.out.lt
              have h6 := HNE.out
              refine ⟨fun h => ?_, fun h => ?_⟩
              · rcases h with h | h | h
                · exact HGN.out.1 h
                · omega
                · omega
              · rcases h with h | h | h
                · exact HGN.out.2.1 h
                · omega
                · omega
            have HGW6 : Hid (∀ x, autF G wq.heap.size wr.heap.size w5.heap.size x → x = bx ∨ wv.heap.size ≤ x) := fun x h => by
              have h6 := HNE.out
              have h7 := HTC.out.size
              rcases h with h | h | h
              · exact HGW.out x h
              · exact .inr (by omega)
              · exact .inr (by omega)
            have HNE3 : Hid (mb ≠ bq' ∧ wv.heap.size ≤ mb ∧ wv.heap.size ≤ bq') := ⟨HNE.out.1, HNE.out.2.1, HNE.out.2.2.1⟩
            obtain ⟨hiO, hgO⟩ := HPO.out
            have hiOi : (i : Int) < (OS.length : Int) := by omega
            obtain ⟨e0, e1⟩ := queT_at HQ6.out i hiO
            rw [hgO] at e0 e1
            have hcE : w6.cell? ⟨bx, 3, none⟩ = some vE := (box_cells HN3.out.box).1.2.2.2
            have HESI : Hid (sI.testBit 0 = ES i) := by
              show _ = _
              rw [← HES.out]
              show sI.testBit 0 = ((outG d l f i).getD i 0).testBit 0
              rw [← HOI.out, ← HSII.out]
            have HCE := hide (HHAS.out sI w6.drew HS80.out)
            rw [HESI.out] at HCE
            have HNE6 := hide (fun w7 w8 o g2 cap2 (hb : Below w6.heap.size w6 w7) k1 k2 k3 => @autI_E bx bx l b t RW ES (i + 1) i _ w7 w8 _ vE _ o g2 cap2 (autI_keep HN3.out (fun x hx => hb.block x (HN3.out.lt x hx).2) hb.size) k1 k2 k3)
            have HE7 : Hid (∀ w7, Below w6.heap.size w6 w7 → w7.cell? ⟨bx, 3, none⟩ = some vE) := fun w7 hb => (hb.cell (p := ⟨bx, 3, none⟩) (World.block_lt_of_cell? w6 _ hcE)).trans hcE
            have HO7 : Hid (∀ w7, Below w6.heap.size w6 w7 → w7.ownsRow bx 4 1 vE i ((List.range i).map fun j => Value.bool (ES j))) := fun w7 hb => ownsRow_of_block HN3.out.ownE (fun x hx => hb.block x (HN3.out.ownE.lt x hx).2)
            have HS6 : Hid (bx ≤ w6.heap.size) := HN3.out.hb
            obtain ⟨l0, hl0, hv0, hv1, hv2⟩ := info_parts infoBo
            clear hgO hn1' hn2' hcN hlt5
            go_region_law (first
              | (refine step_append_lies _ rfl (.tmp 101) (.tmp 107) 23 rfl bx 4 l0 (.bool false) 1 1 Try.underlying23 hl0 hv0 hv1 hv2 rfl (by decide) vE i _ (by simp [Act.eval]) ((HO7.out w7 HB7.out).alloc _) ⟨w7.heap.size, 0, none⟩ 1 1 [.bool (ES i)] (by simp [Act.eval]) rfl (one_new _ _ _) (fun u hu => by simp at hu; subst hu; rfl) (by omega) (by unfold maxLen; omega) (by omega) (by have := HS6.out; have := HB7.out.size; simp; omega) (w7.heap.size + 1) (by simp) ?_; intro g2 cap2 w8 hown8 hgrow8 hat8 hlt8; obtain ⟨⟨m1, m2⟩, m3, m4⟩ := HNE6.out w7 w8 _ g2 cap2 HB7.out hown8 hgrow8 (by rw [World.size_alloc]; exact hat8); have HM3 := hide m3; have HM4 := hide m4; clear m3 m4 hown8 hgrow8 hat8 hlt8)
              | (go_simp; go_at_call 17; refine HCE.out.mono ?_; rintro e w7 ⟨rfl, hb7⟩; have HB7 := hide ((Below.refl w6.heap.size w6).drew.trans hb7); have hcE7 := HE7.out w7 HB7.out; have hcE8 := HE7.out (w7.alloc (.cells #[.bool (ES i)] 4)) (HB7.out.trans (((Below.refl w7.heap.size w7).alloc (Nat.le_refl _) _).mono HB7.out.size)); clear hb7))
            all_goals
              have HNXT := hide (tuAt_next (i := i) HQ6.out HM6.out HB7.out HM3.out HM4.out HD6.out HN3.out.gb HGW6.out HNE3.out HTC6.out)
              go_wp2
              go_roundg (2001 - (i + 1))
              case measure => have := HGI.out; omega
              case rel => exact ⟨i + 1, bq', cq', rfl, by go_num, by rw [HOS.out], by rw [HOS.out]; omega, by rw [HOS.out]; omega, by rw [HOS.out]; exact HNXT.out⟩
    · have hlti : ¬ (i : Int) < ((outG d m f i).length : Int) := by omega
      have HEQ : Hid ((outG d m f i).length = i) := by show _ = _; omega
      obtain ⟨G, -, -, ⟨vN, vE, vals, hA⟩, -, -, -, htc⟩ := HT.out
      obtain ⟨aN, cN, rfl⟩ := owns_sl hA.ownN
      obtain ⟨aE, cE, rfl⟩ := owns_sl hA.ownE
      obtain ⟨⟨x0, x1, x2, x3⟩, -⟩ := box_cells hA.box
      have hr := HRW0.out wr htc
      obtain ⟨⟨r0, r1, r2, r3⟩, rf⟩ := box_cells hr
      have HR := hide hr
      have HB3 : Hid (Below w.heap.size w wr) := (HKEEP.out wr htc).2
      have HA := hide hA
      clear hr hA htc
      go_wp2
      obtain ⟨⟨hset, hsz, hoth⟩, hbel⟩ := box_set (v0 := .int .i64 b) (v1 := .int .i64 t) (v2 := .slice aN i cN) (v3 := .slice aE i cE) HR.out rfl
      have hb := hbel w w.heap.size HB3.out (by omega)
      obtain ⟨⟨z0, z1, z2, z3⟩, -⟩ := box_cells hset
      have hfin := autI_keep HA.out (fun x hx => hoth x (by have := (HA.out.lt x hx).1; have := HBXF.out; omega)) (Nat.le_of_eq hsz.symm)
      have hfin2 := autI_congr (rows' := fun j => (gN d m (outG d m f i)).getD j []) (es' := fun j => (gE (fun M => M.testBit 0) (outG d m f i)).getD j false) (autI_mono hfin (show w.heap.size ≤ bx by have := HBXF.out; omega)) (fun j hj => by rw [← HRW.out]; exact (found_end (Nat.le_of_eq HEQ.out) (by omega) j hj).symm) (fun j hj => by rw [← HES.out]; exact (found_ends (fun M => M.testBit 0) (Nat.le_of_eq HEQ.out) (by omega) j hj).symm)
      exact bodyPost_ret (v := .tuple #[.agg #[.int .i64 b, .int .i64 t, .slice aN i cN, .slice aE i cE], .nilIface]) (by simp [results, Try.results8, go_sem, z0, z1, z2, z3]) rfl (HFE.out i _ _ (by omega) HEQ.out ⟨_, _, _, vals, G, rfl, by rw [gN_len, HEQ.out]; exact hfin2, hb⟩)
end Go.Proofs.Ytokcejakjaimlae
