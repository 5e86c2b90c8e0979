/- The reference's Shrunk: its rounds. -/
import Derived.Deep.LoopGhost
import Derived.Deep.RegionLaw
import Derived.Test.YtleebojibobgaaaGreatDoorZNx
namespace Go.Proofs.YtleebojibobgaaaGreatDoor
open Go.RowKit

/-- Behind p of the states that are met: of each class the first, and which one each is in. -/
def ShAt (R : Nat → Nat → Bool) (mt : List Int) (n : Nat) (wr : World) (p : Nat) (v : Value) (wx : World) : Prop :=
  wx.ownsRow (wr.heap.size + 1) 3 1 v (repsL R (mt.take p)).length ((repsL R (mt.take p)).map (Value.int .i64)) ∧ (wx.rowIs wr.heap.size 3 n fun q => .int .i64 (freshF R mt p q)) ∧ Below wr.heap.size wr wx ∧ wr.heap.size + 1 ≤ wx.heap.size
theorem shAt_start (R : Nat → Nat → Bool) (mt : List Int) (n : Nat) (wr : World) : ShAt R mt n wr 0 (.slice none 0 0) (wr.alloc (.cells (madeCells #[.int .i64 0] n) 3)) :=
  ⟨by simpa [repsL] using World.ownsRow_nil _ _ _ _, (World.rowIs_made wr (.int .i64 0) n 3).congr fun q _ => by rw [freshF_zero], (Below.refl _ _).alloc (Nat.le_refl _) _, by simp⟩
theorem shAt_store {R : Nat → Nat → Bool} {mt : List Int} {n : Nat} {wr : World} {p : Nat} {v : Value} {wx : World} {acc : List Int} (h1 : wx.ownsRow (wr.heap.size + 1) 3 1 v acc.length (acc.map (Value.int .i64))) (h2 : wx.rowIs wr.heap.size 3 n fun q => .int .i64 (freshF R mt p q)) (h3 : Below wr.heap.size wr wx) (h4 : wr.heap.size + 1 ≤ wx.heap.size)
    (hp : p < mt.length) (h0 : 0 ≤ mt.getD p 0) {j : Nat} (hj : clsL R (repsL R mt) (mt.getD p 0) = j) (hacc : repsL R (mt.take (p + 1)) = acc) : ShAt R mt n wr (p + 1) v (wx.setCell ⟨wr.heap.size, (mt.getD p 0).toNat, none⟩ (.int .i64 (j : Int))) := by
  have hne : v.ownBlock ≠ some wr.heap.size := fun e => by have := (h1.lt _ e).1; omega
  refine ⟨by rw [hacc]; exact ownsRow_setCell_other h1 hne _, (h2.set _ _).congr fun q hq => ?_, h3.setCell (Nat.le_refl _) _, by simp [World.setCell]; exact h4⟩
  rw [freshF_step hp h0, hj]
  split <;> rfl
theorem shAt_push {R : Nat → Nat → Bool} {mt : List Int} {n : Nat} {wr : World} {p : Nat} {v v' : Value} {wx w3 : World} {ob : Obj} {acc : List Int} {x : Int} (h1 : wx.ownsRow (wr.heap.size + 1) 3 1 v acc.length (acc.map (Value.int .i64))) (h2 : wx.rowIs wr.heap.size 3 n fun q => .int .i64 (freshF R mt p q)) (h3 : Below wr.heap.size wr wx) (h4 : wr.heap.size + 1 ≤ wx.heap.size)
    (hown : w3.ownsRow (wr.heap.size + 1) 3 1 v' (acc.length + 1) (acc.map (Value.int .i64) ++ [.int .i64 x])) (hgrow : (wx.alloc ob).grownBy w3 v.ownBlock) :
    w3.ownsRow (wr.heap.size + 1) 3 1 v' (acc ++ [x]).length ((acc ++ [x]).map (Value.int .i64)) ∧ (w3.rowIs wr.heap.size 3 n fun q => .int .i64 (freshF R mt p q)) ∧ Below wr.heap.size wr w3 ∧ wr.heap.size + 1 ≤ w3.heap.size := by
  have hne : v.ownBlock ≠ some wr.heap.size := fun e => by have := (h1.lt _ e).1; omega
  have hs := hgrow.size
  rw [World.size_alloc] at hs
  refine ⟨by rw [List.length_append, List.map_append]; exact hown, (h2.alloc ob).of_block (hgrow.block _ (by simp; omega) (fun e => hne e.symm)), Below.grown (h3.alloc h3.size ob) hgrow (by have := h3.size; simp; omega) (fun k hk => by have := (h1.lt k hk).1; omega), by omega⟩
/-- A row that grows. -/
def GrowR (w : World) (xs : List Int) (v : Value) (wr : World) : Prop := wr.ownsRow w.heap.size 3 1 v xs.length (xs.map (Value.int .i64)) ∧ Below w.heap.size w wr
theorem growR_push {w wr w3 : World} {xs : List Int} {v v' : Value} {x : Int} {o : Obj} (h : GrowR w xs v wr) (hown : w3.ownsRow w.heap.size 3 1 v' (xs.length + 1) (xs.map (Value.int .i64) ++ [.int .i64 x])) (hgrow : (wr.alloc o).grownBy w3 v.ownBlock) : GrowR w (xs ++ [x]) v' w3 := by
  refine ⟨by rw [List.length_append, List.map_append]; exact hown, ?_⟩
  exact Below.grown (h.2.alloc h.2.size o) hgrow (by have := h.2.size; simp; omega) (fun k hk => (h.1.lt k hk).1)
theorem infoS2 : (Tryz.prog.info? 42).map (fun i => (i.zero, i.size, i.bytes)) = some (some (.slice none 0 0), 1, 24) := by kernel_rfl
theorem infoBo : (Tryz.prog.info? 4).map (fun i => (i.zero, i.size, i.bytes)) = some (some (.bool false), 1, 1) := by kernel_rfl
def ShrU (w : World) (b t : Int) (N' : List (List Int)) (E' : List Bool) (e : Ending) (w' : World) : Prop :=
  ∃ a c a' c', e = .returned (.tuple #[.agg #[.int .i64 b, .int .i64 t, .slice a N'.length c, .slice a' N'.length c'], .bool true]) ∧ AutoNew w a N'.length N' a' E' w' ∧ Below w.heap.size w w'

/-- Either way: the least one, or none, where it is too large. -/
def ShrR (w : World) (b t : Int) (N' : List (List Int)) (E' : List Bool) (K : Nat) (e : Ending) (w' : World) : Prop :=
  (K ≤ 80 ∧ ShrU w b t N' E' e w') ∨ (80 < K ∧ e = .returned (.tuple #[.agg #[.int .i64 0, .int .i64 0, .slice none 0 0, .slice none 0 0], .bool false]) ∧ Below w.heap.size w w')

set_option maxHeartbeats 8000000 in
set_option maxRecDepth 8000 in
theorem shrunk_u (b t : Int) (a : Option Addr) (n cap m : Nat) (N : List (List Int)) (a' : Option Addr) (cap' : Nat) (E : List Bool) (w : World) (hs : Sl2 w a n N) (hG : GoodN m n N) (he : SlB w a' n E) :
    Calls Tryz.prog 16 #[.int .i64 b, .int .i64 t, .slice a n cap, .slice a' n cap'] w (ShrR w b t (leastN N E m) (leastE N E m) (leastK N E m)) := by
  obtain ⟨i0, hi0, hz0, hz1, hz2⟩ := info_parts info3
  have hn1 := hG.2.1
  have hn64 := hG.2.2.1
  have hm36 := hG.2.2.2.1
  have hmk := make_ints n (by omega)
  have HS := hide hs
  have HE := hide he
  have HG := hide hG
  have HME := hide (fun W h => met_any a n cap m N W h hG)
  unfold GivesRow at HME
  have HLK := hide (fun ac cc C s t W h h' k => likes_any a n cap m N a' cap' E ac cc C s t W h hG h' k)
  have HLS := hide (fun k C (h : CAt N E m n k C) s t => @like_sim m n N hG E k C h s t)
  have HMO := hide (met_ok hG)
  have hml := met_len hG
  have HBD := hide (fun k => reps_bound hG E k)
  have HCF := hide (fun k => cAt_fresh hG E k)
  have HC0 := hide (cAt_zero hG E)
  have HST := hide (fun k p => @cls_step (simB N E m k) (simB_eqv N E m k) (metL N) p)
  have HMG := hide (met_get hG)
  have HRM := hide (fun k h => @round_more m n N hG E k h)
  have HRZ := hide (fun k => (reps_zero (R := simB N E m k) hG).1)
  have HRS := hide (fun k h => @round_stab m n N hG E k h)
  have HQN := hide (fun k q h => @quoN_get N (simB N E m k) q h)
  have HQE := hide (fun k q h => @quoE_get N E (simB N E m k) q h)
  have HMC := hide (fun s (hs : s ∈ metL N) x hx => met_closed hG s hs x hx)
  have HROW : Hid (∀ s, s < n → (N.getD s []).length = m ∧ ∀ j, j < m → 0 ≤ (N.getD s []).getD j 0 ∧ (N.getD s []).getD j 0 < (n : Int)) := hG.2.2.2.2.2
  have HLL := hide (leastN_len N E m)
  have HLE := hide (leastE_len N E m)
  clear hs he hG
  generalize hmt : metL N = mt at HME HLS HMO hml HBD HST HMG HRM HRZ HRS HQN HQE HMC
  have HMT := hide hmt
  clear hmt
  go_enter Tryz.func16, Tryz.ntmps16
  go_wp2_with fail
  have hB0 : Below w.heap.size w (w.alloc (.cells #[.int .i64 0, .int .i64 0, .slice none 0 0, .slice none 0 0] 25)) := (Below.refl _ _).alloc (Nat.le_refl _) _
  refine (HME.out _ (sl2_below HS.out hB0)).mono ?_
  rintro e w1 ⟨am, cm, rfl, ⟨hsm, -⟩, hb1⟩
  have HB1 := hide (below_step hB0 hb1)
  have HSM := hide hsm
  have HS1 := hide (sl2_below HS.out HB1.out)
  have HE1 := hide (slB_below HE.out HB1.out)
  have HOLD : Hid (∀ W, Below w1.heap.size w1 W → W.heap[w.heap.size]? = some (.cells #[.int .i64 0, .int .i64 0, .slice none 0 0, .slice none 0 0] 25 (0, 0))) := by
    intro W hW
    have h0 := heap_alloc_last w (.cells #[.int .i64 0, .int .i64 0, .slice none 0 0, .slice none 0 0] 25)
    have h1 := (hb1.block w.heap.size (by simp)).trans h0
    exact (hW.block w.heap.size (Array.getElem?_eq_some_iff.1 h1).1).trans h1
  clear hb1 hsm hB0 HME HS HE
  have HZ : Hid (Sl (w1.alloc (.cells (madeCells #[.int .i64 0] n) 3)) (some ⟨w1.heap.size, 0, none⟩) n (List.replicate n 0)) := by
    refine sl_of_rowIs (by simp) (by unfold maxLen; omega) (fun x hx => ?_) ((World.rowIs_made w1 (.int .i64 0) n 3).congr fun q hq => ?_)
    · obtain ⟨_, rfl⟩ := List.mem_replicate.1 hx; decide
    · simp [List.getD, hq]
  go_wp2
  generalize hW2 : w1.alloc (.cells (madeCells #[.int .i64 0] n) 3) = w2 at HZ ⊢
  have HB2 : Hid (Below w1.heap.size w1 w2) := by show Below _ _ _; rw [← hW2]; exact (Below.refl _ _).alloc (Nat.le_refl _) _
  clear hW2
  go_loopg [11, 12] (n + 1) (fun g c mv wx => ∃ (k : Nat) (C : List Int) (many bc : Nat), g = n + 1 - many ∧ many = (if k = 0 then 0 else (repsL (simB N E m k) mt).length) ∧ CAt N E m n k C ∧ c = .slice (some ⟨bc, 0, none⟩) n n ∧ mv = .int .i64 many ∧ Sl wx (some ⟨bc, 0, none⟩) n C ∧ Below w1.heap.size w1 wx)
  case atStart => exact ⟨0, _, 0, w1.heap.size, rfl, rfl, HC0.out, rfl, rfl, HZ.out, HB2.out⟩
  case round =>
    obtain ⟨k, C, many, bc, hgk, hmany, hC, rfl, rfl, hsc, hbw⟩ := hrel
    have HGK := hide hgk
    have HMN := hide hmany
    have HC := hide hC
    have HSC := hide hsc
    have HBW := hide hbw
    have hmb : many ≤ n := by
      rw [hmany]
      split
      · omega
      · have := reps_count (simB N E m k) mt; omega
    clear hgk hmany hC hsc hbw HZ HB2 HC0
    have HSH := hide (shAt_start (simB N E m (k + 1)) mt n wr)
    have HLKk := hide (HLS.out k C HC.out)
    have HSTk := hide (HST.out (k + 1))
    have HBDk := HBD.out (k + 1)
    go_wp2
    obtain ⟨wo, hwo⟩ : ∃ wo : World, wo = wr := ⟨_, rfl⟩
    rw [← hwo] at HSC HBW HSH ⊢
    clear hwo wr
    generalize wo.alloc (.cells (madeCells #[.int .i64 0] n) 3) = wF at HSH ⊢
    go_loopw [13, 15] (fun v i wx => ∃ p : Nat, p ≤ mt.length ∧ i = .int .i64 p ∧ (repsL (simB N E m (k + 1)) (mt.take p)).length ≤ 80 ∧ ShAt (simB N E m (k + 1)) mt n wo p v wx) (fun _ i _ => mt.length - (intOf i).toNat)
    case atStart => exact ⟨0, by omega, rfl, by simp [repsL], HSH.out⟩
    case round =>
      obtain ⟨p, hp, rfl, h8, h1, h2, h3, h4⟩ := hrel
      have H80 := hide h8
      clear h8
      have H1 := hide h1
      have H2 := hide h2
      have H3 := hide h3
      have H4 := hide h4
      clear h1 h2 h3 h4
      by_cases hlt : p < mt.length
      · have hlti : (p : Int) < (mt.length : Int) := by omega
        have HBX1 := hide (HBW.out.trans (H3.out.mono HBW.out.size))
        obtain ⟨bm, om, rfl, hcm⟩ := sl_cell (sl_below HSM.out HBX1.out) p hlt
        have hsm : mt.getD p 0 ∈ mt := by rw [getD_at _ p hlt]; exact List.getElem_mem _
        have hsr := HMO.out.2 _ hsm
        obtain ⟨s, hs⟩ : ∃ s : Nat, mt.getD p 0 = s := ⟨(mt.getD p 0).toNat, by omega⟩
        obtain ⟨hst1, hst2⟩ := HSTk.out p hlt
        rw [hs] at hcm hsm hsr hst1 hst2
        have HST1 := hide hst1
        have HST2 := hide hst2
        have HSI := hide hs
        have HSMEM := hide hsm
        have hsn : s < n := by omega
        have hsni : (s : Int) < (n : Int) := by omega
        have hokacc : ∀ r ∈ repsL (simB N E m (k + 1)) (mt.take p), r ∈ mt := fun r hr => List.mem_of_mem_take (reps_mem _ _ r hr)
        have HACC := hide hokacc
        have hal : (repsL (simB N E m (k + 1)) (mt.take p)).length ≤ n := by
          have := reps_count (simB N E m (k + 1)) (mt.take p)
          rw [List.length_take] at this
          omega
        obtain ⟨af, cf, rfl, hsf⟩ := sl_of_owns rfl (by unfold maxLen; omega) (fun x hx => okO_wf hn64 HMO.out x (hokacc x hx)) H1.out
        have HSF := hide hsf.1
        clear hst1 hst2 hs hsm hsr hokacc hsf
        generalize hacc : repsL (simB N E m (k + 1)) (mt.take p) = acc at H1 HST1 HST2 HACC hal HSF H80 ⊢
        clear hacc
        go_wp2
        obtain ⟨wp, hwp⟩ : ∃ wp : World, wp = wr := ⟨_, rfl⟩
        rw [← hwp] at H1 H2 H3 H4 HBX1 HSF ⊢
        clear hwp hcm wr
        go_loopw [17] (fun i wx => ∃ j q : Nat, j ≤ acc.length ∧ i = .int .i64 j ∧ wx = wp.drewN q ∧ ∀ r, r < j → simB N E m (k + 1) s (acc.getD r 0).toNat = false) (fun i _ => acc.length - (intOf i).toNat)
        case atStart => exact ⟨0, 0, by omega, rfl, rfl, by omega⟩
        case round =>
          obtain ⟨j, q, hj, rfl, hwx, hd⟩ := hrel
          have HWX := hide hwx
          have HD := hide hd
          clear hwx hd
          by_cases hjt : j < acc.length
          · have hjti : (j : Int) < (acc.length : Int) := by omega
            obtain ⟨bf, of, rfl, hcf0⟩ := sl_cell HSF.out j hjt
            have hrm : acc.getD j 0 ∈ mt := HACC.out _ (by rw [getD_at _ j hjt]; exact List.getElem_mem _)
            have hrr := HMO.out.2 _ hrm
            obtain ⟨x, hx⟩ : ∃ x : Nat, acc.getD j 0 = x := ⟨(acc.getD j 0).toNat, by omega⟩
            rw [hx] at hcf0 hrm hrr
            have hxn : x < n := by omega
            have hcf : wr.cell? ⟨bf, of + j, none⟩ = some (.int .i64 x) := by rw [HWX.out]; exact hcf0
            have HBWR : Hid (Below w1.heap.size w1 wr) := by show Below _ _ _; rw [HWX.out]; exact below_drewN HBX1.out q
            have HBCR : Hid (Below wo.heap.size wo wr) := by show Below _ _ _; rw [HWX.out]; exact below_drewN H3.out q
            have HLC := hide (HLK.out (some ⟨bc, 0, none⟩) n C s x wr (sl2_below HS1.out HBWR.out) (slB_below HE1.out HBWR.out) (sl_below HSC.out HBCR.out) hsn hxn)
            have hls := HLKk.out (s : Int) (x : Int) HSMEM.out hrm
            rw [Int.toNat_natCast, Int.toNat_natCast] at hls
            rw [hls] at HLC
            have HXJ : Hid ((acc.getD j 0).toNat = x) := by show _ = _; rw [hx, Int.toNat_natCast]
            clear hcf0 hrr hrm hls hx
            cases hR : simB N E m (k + 1) s x with
            | false =>
              rw [hR] at HLC
              have HRF := hide hR
              clear hR
              go_wp2_with (go_at_call 28; refine HLC.out.mono ?_; rintro e w4 ⟨rfl, k4, hw4⟩; have HW4 := hide hw4; clear hw4)
              go_roundw
              case rel =>
                refine ⟨j + 1, q + k4, by omega, by go_num, by rw [HW4.out, HWX.out, World.drewN_drewN], fun r hr => ?_⟩
                by_cases e : r = j
                · subst e; rw [HXJ.out]; exact HRF.out
                · exact HD.out r (by omega)
              case measure => simp [intOf]; omega
            | true =>
              rw [hR] at HLC
              have HCJ : Hid (clsL (simB N E m (k + 1)) acc (s : Int) = j) := cls_at (by omega) (by rw [Int.toNat_natCast]; exact HD.out) (fun _ => by rw [Int.toNat_natCast, HXJ.out]; exact hR)
              clear hR
              have hne : ((j : Int) == (acc.length : Int)) = false := by simp; omega
              have HRI := hide H2.out
              go_wp2_with (go_at_call 28; refine HLC.out.mono ?_; rintro e w4 ⟨rfl, k4, hw4⟩; have HW4 : Hid (w4 = wp.drewN (q + k4)) := (by show _ = _; rw [hw4, HWX.out, World.drewN_drewN]); have hcs : w4.cell? ⟨wo.heap.size, s, none⟩ = some (.int .i64 (freshF (simB N E m (k + 1)) mt p s)) := (by rw [HW4.out]; exact H2.out.cell hsn); have hfs : w4.frozen? ⟨wo.heap.size, s, none⟩ = false := (by rw [HW4.out]; exact H2.out.frozen s); clear hw4)
              go_roundw
              case rel =>
                refine ⟨p + 1, by omega, by go_num, by rw [HST2.out, HCJ.out, if_pos hjt]; exact H80.out, ?_⟩
                have hfin := @shAt_store (simB N E m (k + 1)) mt n wo p _ w4 acc (by rw [HW4.out]; exact H1.out) (by rw [HW4.out]; exact H2.out) (by rw [HW4.out]; exact below_drewN H3.out _) (by rw [HW4.out]; exact H4.out) hlt (by rw [HSI.out]; omega) (j := j) (by rw [HSI.out, HST1.out, HCJ.out]) (by rw [HST2.out, HCJ.out, if_pos hjt])
                rw [HSI.out, Int.toNat_natCast] at hfin
                exact hfin
              case measure => simp [intOf]; omega
          · have hjti : ¬ (j : Int) < (acc.length : Int) := by omega
            obtain rfl : j = acc.length := by omega
            have HCJ : Hid (clsL (simB N E m (k + 1)) acc (s : Int) = acc.length) := cls_at (Nat.le_refl _) (by rw [Int.toNat_natCast]; exact HD.out) (fun h => by omega)
            have HA1 : Hid (repsL (simB N E m (k + 1)) (mt.take (p + 1)) = acc ++ [(s : Int)]) := by show _ = _; rw [HST2.out, HCJ.out, if_neg (by omega)]
            have hpre := (reps_prefix (R := simB N E m (k + 1)) (List.take_prefix (p + 1) mt)).length_le
            rw [HA1.out, List.length_append, List.length_singleton] at hpre
            have hee : ((acc.length : Int) == (acc.length : Int)) = true := by simp
            by_cases hfull : acc.length = 80
            · have HKL : Hid (80 < leastK N E m) := by show _ < _; omega
              have HBF : Hid (Below w.heap.size w wr) := by
                show Below _ _ _
                rw [HWX.out]
                exact below_drewN (below_step HB1.out HBX1.out) q
              have hold : wr.heap[w.heap.size]? = some (.cells #[.int .i64 0, .int .i64 0, .slice none 0 0, .slice none 0 0] 25 (0, 0)) := by rw [HWX.out]; exact HOLD.out wp HBX1.out
              have ho0 : wr.cell? ⟨w.heap.size, 0, none⟩ = some (.int .i64 0) := by simp [World.cell?, hold]
              have ho1 : wr.cell? ⟨w.heap.size, 1, none⟩ = some (.int .i64 0) := by simp [World.cell?, hold]
              have ho2 : wr.cell? ⟨w.heap.size, 2, none⟩ = some (.slice none 0 0) := by simp [World.cell?, hold]
              have ho3 : wr.cell? ⟨w.heap.size, 3, none⟩ = some (.slice none 0 0) := by simp [World.cell?, hold]
              have hf : ∀ i, wr.frozen? ⟨w.heap.size, i, none⟩ = false := fun i => by simp [World.frozen?, hold]
              have HHOLD := hide hold
              have h80' : ((acc.length : Int) == 80) = true := by simp; omega
              clear hold hfull hpre
              go_wp2
              have hset := set_all (v0 := .int .i64 0) (v1 := .int .i64 0) (v2 := .slice none 0 0) (v3 := .slice none 0 0) HHOLD.out
              have hbel : Below w.heap.size w ((((wr.setCell ⟨w.heap.size, 0, none⟩ (.int .i64 0)).setCell ⟨w.heap.size, 1, none⟩ (.int .i64 0)).setCell ⟨w.heap.size, 2, none⟩ (.slice none 0 0)).setCell ⟨w.heap.size, 3, none⟩ (.slice none 0 0)) := (((HBF.out.setCell (Nat.le_refl _) _).setCell (Nat.le_refl _) _).setCell (Nat.le_refl _) _).setCell (Nat.le_refl _) _
              generalize (((wr.setCell ⟨w.heap.size, 0, none⟩ (.int .i64 0)).setCell ⟨w.heap.size, 1, none⟩ (.int .i64 0)).setCell ⟨w.heap.size, 2, none⟩ (.slice none 0 0)).setCell ⟨w.heap.size, 3, none⟩ (.slice none 0 0) = wZ at hset hbel ⊢
              have z0 : wZ.cell? ⟨w.heap.size, 0, none⟩ = some (.int .i64 0) := by simp [World.cell?, hset]
              have z1 : wZ.cell? ⟨w.heap.size, 1, none⟩ = some (.int .i64 0) := by simp [World.cell?, hset]
              have z2 : wZ.cell? ⟨w.heap.size, 2, none⟩ = some (.slice none 0 0) := by simp [World.cell?, hset]
              have z3 : wZ.cell? ⟨w.heap.size, 3, none⟩ = some (.slice none 0 0) := by simp [World.cell?, hset]
              exact bodyPost_ret (v := .tuple #[.agg #[.int .i64 0, .int .i64 0, .slice none 0 0, .slice none 0 0], .bool false]) (by simp [results, Tryz.results16, go_sem, z0, z1, z2, z3]) rfl (Or.inr ⟨HKL.out, rfl, hbel⟩)
            have h80 : acc.length + 1 ≤ 80 := by have := H80.out; omega
            clear hfull hpre
            have h80' : ((acc.length : Int) == 80) = false := by simp; omega
            have HSP := hide (fun w3 v' ob h h' => @shAt_push (simB N E m (k + 1)) mt n wo p _ v' wr w3 ob acc (s : Int) (by rw [HWX.out]; exact H1.out) (by rw [HWX.out]; exact H2.out) (by rw [HWX.out]; exact below_drewN H3.out _) (by rw [HWX.out]; exact H4.out) h h')
            have HOW : Hid (wr.ownsRow (wo.heap.size + 1) 3 1 (.slice af acc.length cf) acc.length (acc.map (Value.int .i64))) := by show World.ownsRow _ _ _ _ _ _ _; rw [HWX.out]; exact H1.out
            have HSZ : Hid (wo.heap.size + 1 ≤ wr.heap.size) := by show _ ≤ _; rw [HWX.out]; exact H4.out
            go_wp2_with (at_builtin; refine wpList_append_own _ rfl _ _ 42 rfl (wo.heap.size + 1) 3 i0 (.int .i64 0) 1 8 Tryz.underlying42 hi0 hz0 hz1 hz2 rfl (by decide) _ acc.length (acc.map (Value.int .i64)) rfl (HOW.out.alloc _) ⟨wr.heap.size, 0, none⟩ 1 1 [.int .i64 s] rfl rfl (one_new _ _ _) (fun u hu => by simp at hu; subst hu; rfl) (by unfold maxLen; omega) (by omega) (by have := HSZ.out; simp; omega) ?_; intro v' w3 hown hgrow hnil; obtain ⟨hp1, hp2, hp3, hp4⟩ := HSP.out w3 v' _ hown hgrow; have hcs := hp2.cell hsn; have hfs := hp2.frozen s; have HP1 := hide hp1; have HP2 := hide hp2; have HP3 := hide hp3; have HP4 := hide hp4; clear hp1 hp2 hp3 hp4 hown hgrow hnil)
            go_roundw
            case rel =>
              refine ⟨p + 1, by omega, by go_num, by rw [HA1.out, List.length_append, List.length_singleton]; exact h80, ?_⟩
              have hfin := @shAt_store (simB N E m (k + 1)) mt n wo p _ w3 (acc ++ [(s : Int)]) HP1.out HP2.out HP3.out HP4.out hlt (by rw [HSI.out]; omega) (j := acc.length) (by rw [HSI.out, HST1.out, HCJ.out]) HA1.out
              rw [HSI.out, Int.toNat_natCast] at hfin
              exact hfin
            case measure => simp [intOf]; omega
      · have hlti : ¬ (p : Int) < (mt.length : Int) := by omega
        obtain rfl : p = mt.length := by omega
        rw [List.take_length] at H1 H80
        have hokr : ∀ r ∈ repsL (simB N E m (k + 1)) mt, r ∈ mt := fun r hr => reps_mem _ _ r hr
        have hal : (repsL (simB N E m (k + 1)) mt).length ≤ n := by
          have := reps_count (simB N E m (k + 1)) mt
          omega
        obtain ⟨af, cf, rfl, hsf⟩ := sl_of_owns rfl (by unfold maxLen; omega) (fun x hx => okO_wf hn64 HMO.out x (hokr x hx)) H1.out
        have HSF := hide hsf.1
        have HBX1 := hide (HBW.out.trans (H3.out.mono HBW.out.size))
        have HCK := hide (HCF.out (k + 1))
        have HSK : Hid (Sl wr (some ⟨wo.heap.size, 0, none⟩) n ((List.range n).map (freshF (simB N E m (k + 1)) mt mt.length))) := by
          refine sl_of_rowIs (by simp) (by unfold maxLen; omega) (fun x hx => ?_) (H2.out.congr fun q hq => ?_)
          · obtain ⟨q, _, rfl⟩ := List.mem_map.1 hx
            refine Go.WalkArith.wf_i64 ?_
            unfold freshF
            split
            · rename_i hq
              have := cls_of (simB_eqv N E m (k + 1)) (List.mem_of_mem_take hq)
              omega
            · omega
          · simp [List.getD, hq]
        rw [HMT.out] at HCK
        clear hsf hokr
        by_cases hst : (repsL (simB N E m (k + 1)) mt).length = many
        · have hk0 : k ≠ 0 := fun h0 => by
            have hm := HMN.out
            rw [if_pos h0] at hm
            have := HRZ.out (k + 1)
            omega
          have hm := HMN.out
          rw [if_neg hk0] at hm
          obtain ⟨-, hqn, hqe, hql⟩ := HRS.out k (by omega)
          have HQNk := hide (HQN.out (k + 1))
          have HQEk := hide (HQE.out (k + 1))
          rw [hqn] at HQNk
          rw [hqe] at HQEk
          have hKm : leastK N E m = many := by omega
          have HK80 : Hid (leastK N E m ≤ 80) := by show _ ≤ _; rw [hKm, ← hst]; exact H80.out
          have HLN : Hid ((leastN N E m).length = many) := by show _ = _; rw [HLL.out, hKm]
          have HLEn : Hid ((leastE N E m).length = many) := by show _ = _; rw [HLE.out, hKm]
          have hst' : ((many : Int) == (many : Int)) = true := by simp
          rw [hst] at HQNk HQEk HSF
          rw [hst]
          have HRME : Hid (∀ r ∈ repsL (simB N E m (k + 1)) mt, r ∈ mt) := fun r hr => reps_mem _ _ r hr
          have HRLN := hide hst
          have HOS := hide (outAt_start wr b t (fun q => (leastN N E m).getD q []) (fun q => (leastE N E m).getD q false))
          have hcls : Hid (∀ x ∈ mt, ((List.range n).map (freshF (simB N E m (k + 1)) mt mt.length)).getD x.toNat 0 = ((clsL (simB N E m (k + 1)) (repsL (simB N E m (k + 1)) mt) x : Nat) : Int)) := by
            have := HCK.out.2
            rw [HMT.out] at this
            exact this
          clear hk0 hm hqn hqe hql hst HRS HQN HQE HMN HGK H80
          generalize repsL (simB N E m (k + 1)) mt = reps at HQNk HQEk HSF HRME HRLN hcls hal H1 HBDk
          generalize (List.range n).map (freshF (simB N E m (k + 1)) mt mt.length) = C' at HSK hcls HCK
          obtain ⟨j0, hj0, hy0, hy1, hy2⟩ := info_parts infoS2
          obtain ⟨l0, hl0, hv0, hv1, hv2⟩ := info_parts infoBo
          go_wp2
          obtain ⟨wb, hwb⟩ : ∃ wb : World, wb = wr := ⟨_, rfl⟩
          rw [← hwb] at H1 H2 H3 H4 HSF HBX1 HSK HOS ⊢
          clear hwb wr
          generalize wb.alloc (.cells #[.int .i64 b, .int .i64 t, .slice none 0 0, .slice none 0 0] 25) = wB at HOS ⊢
          go_loopw [19] (fun i wx => ∃ q : Nat, q ≤ many ∧ i = .int .i64 q ∧ OutAt wb b t (fun q => (leastN N E m).getD q []) (fun q => (leastE N E m).getD q false) q q wx) (fun i _ => many - (intOf i).toNat)
          case atStart => exact ⟨0, by omega, rfl, HOS.out⟩
          case round =>
            obtain ⟨q, hq, rfl, hout⟩ := hrel
            have HOUT := hide hout
            have HBB : Hid (Below wb.heap.size wb wr) := by obtain ⟨_, _, _, _, _, _, _, h⟩ := hout; exact h
            clear hout
            by_cases hqt : q < many
            · have hqti : (q : Int) < (many : Int) := by omega
              have hrm : reps.getD q 0 ∈ mt := HRME.out _ (by rw [getD_at _ q (by have := HRLN.out; omega)]; exact List.getElem_mem _)
              have hrr := HMO.out.2 _ hrm
              have HR1 := hide (HQNk.out q hqt)
              have HE1' := hide (HQEk.out q hqt)
              obtain ⟨x, hx⟩ : ∃ x : Nat, reps.getD q 0 = x := ⟨(reps.getD q 0).toNat, by omega⟩
              rw [hx] at HR1 HE1' hrm hrr
              rw [Int.toNat_natCast] at HR1 HE1'
              have hxn : x < n := by omega
              have hxni : (x : Int) < (n : Int) := by omega
              obtain ⟨hrl, hrv⟩ := HROW.out x hxn
              obtain ⟨bf, of, rfl, hcf0⟩ := sl_cell HSF.out q hqt
              rw [hx] at hcf0
              have HCF0 := hide hcf0
              have HRM1 := hide hrm
              have HRLX := hide hrl
              have HRVX := hide hrv
              have HX := hide hx
              obtain ⟨bn, on, an, cn, rfl, hcn0, hsn0⟩ := sl2_cell (sl2_below HS1.out HBX1.out) x hxn
              rw [hrl] at hcn0 hsn0
              have HCN0 := hide hcn0
              have HSN0 := hide hsn0
              clear hrm hrr hx hrl hrv hcf0 hcn0 hsn0
              have HRLEN : Hid (((leastN N E m).getD q []).length = m) := by show _ = _; rw [HR1.out, List.length_map, HRLX.out]
              have HRG : Hid (∀ l, l < m → ∃ y : Nat, (N.getD x []).getD l 0 = y ∧ y < n ∧ C'.getD y 0 = ((leastN N E m).getD q []).getD l 0) := by
                intro l hl
                have hv := HRVX.out l hl
                refine ⟨((N.getD x []).getD l 0).toNat, by omega, by omega, ?_⟩
                have hm1 : (N.getD x []).getD l 0 ∈ mt := HMC.out (x : Int) HRM1.out _ (by rw [Int.toNat_natCast, getD_at _ l (by have := HRLX.out; omega)]; exact List.getElem_mem _)
                rw [hcls.out _ hm1, HR1.out, getD_at (List.map _ _) l (by rw [List.length_map]; have := HRLX.out; omega), List.getElem_map, getD_at _ l (by have := HRLX.out; omega)]
              generalize hrow : (leastN N E m).getD q [] = row at HRLEN HRG
              have HROWQ := hide hrow
              clear hrow HR1
              have HG0 : Hid (GrowR wr (row.take 0) (.slice none 0 0) wr) := ⟨World.ownsRow_nil _ _ _ _, Below.refl _ _⟩
              go_wp2
              obtain ⟨wq, hwq⟩ : ∃ wq : World, wq = wr := ⟨_, rfl⟩
              rw [← hwq] at HOUT HBB HG0 ⊢
              clear hwq wr
              go_loopw [20, 21] (fun v i wx => ∃ l : Nat, l ≤ m ∧ i = .int .i64 l ∧ GrowR wq (row.take l) v wx) (fun _ i _ => m - (intOf i).toNat)
              case atStart => exact ⟨0, by omega, rfl, HG0.out⟩
              case round =>
                obtain ⟨l, hl, rfl, hgr⟩ := hrel
                have HGR := hide hgr
                have HBL := hide (HBB.out.trans (hgr.2.mono HBB.out.size))
                have hcf : wr.cell? ⟨bf, of + q, none⟩ = some (.int .i64 (x : Int)) := (HBL.out.cell (p := ⟨bf, of + q, none⟩) (World.block_lt_of_cell? _ _ HCF0.out)).trans HCF0.out
                have hcn : wr.cell? ⟨bn, on + x, none⟩ = some (.slice an m cn) := (HBL.out.cell (p := ⟨bn, on + x, none⟩) (World.block_lt_of_cell? _ _ HCN0.out)).trans HCN0.out
                clear hgr
                by_cases hlt2 : l < m
                · have hlti2 : (l : Int) < (m : Int) := by omega
                  obtain ⟨y, hy1, hyn, hy3⟩ := HRG.out l hlt2
                  obtain ⟨by', oy', rfl, hcy⟩ := sl_cell (sl_below HSN0.out HBL.out) l hlt2
                  rw [hy1] at hcy
                  obtain ⟨_, _, ec, hcc⟩ := sl_cell (sl_below HSK.out HBL.out) y hyn
                  cases ec
                  rw [hy3] at hcc
                  have hyi : (y : Int) < (n : Int) := by omega
                  have HTS : Hid (row.take (l + 1) = row.take l ++ [row.getD l 0]) := by show _ = _; rw [List.take_succ_eq_append_getElem (by have := HRLEN.out; omega), getD_at _ l (by have := HRLEN.out; omega)]
                  have HTL : Hid ((row.take l).length = l) := by show _ = _; rw [List.length_take]; have := HRLEN.out; omega
                  have HOWN := hide HGR.out.1
                  rw [HTL.out] at HOWN
                  have HSZ := hide HGR.out.2.size
                  rw [Nat.zero_add] at hcc
                  clear hy1 hy3
                  generalize row.getD l 0 = z at hcc HTS
                  go_wp2_with (at_builtin; refine wpList_append_own _ rfl _ _ 42 rfl wq.heap.size 3 i0 (.int .i64 0) 1 8 Tryz.underlying42 hi0 hz0 hz1 hz2 rfl (by decide) _ l ((row.take l).map (Value.int .i64)) rfl (HOWN.out.alloc _) ⟨wr.heap.size, 0, none⟩ 1 1 [.int .i64 z] rfl rfl (one_new _ _ _) (fun u hu => by simp at hu; subst hu; rfl) (by unfold maxLen; omega) (by omega) (by have := HSZ.out; simp; omega) ?_; intro v' w3 hown hgrow hnil)
                  go_roundw
                  case rel =>
                    refine ⟨l + 1, by omega, by go_num, ?_⟩
                    rw [HTS.out]
                    exact growR_push HGR.out (by rw [HTL.out]; exact hown) hgrow
                  case measure => simp [intOf]; omega
                · have hlti2 : ¬ (l : Int) < (m : Int) := by omega
                  obtain rfl : m = l := by omega
                  have HFULL : Hid (row.take m = row) := List.take_of_length_le (by have := HRLEN.out; omega)
                  rw [HFULL.out] at HGR
                  have hwf : ∀ z ∈ row, (Lit.int .i64 z).wf = true := fun z hz => by
                    obtain ⟨i, hi, rfl⟩ := List.getElem_of_mem hz
                    obtain ⟨y, _, hyn, hy3⟩ := HRG.out i (by have := HRLEN.out; omega)
                    rw [getD_at _ i hi] at hy3
                    rw [← hy3]
                    exact HSK.out.2.2.1 _ (by rw [getD_at _ y (by rw [HSK.out.1]; exact hyn)]; exact List.getElem_mem _)
                  obtain ⟨ar, cr, rfl, hsr⟩ := sl_of_owns rfl (by unfold maxLen; have := HRLEN.out; omega) hwf HGR.out.1
                  have HON : Hid (∃ (vN : Value) (vals : List Value), _ ∧ _) := @outAt_N wb b t (fun q => (leastN N E m).getD q []) (fun q => (leastE N E m).getD q false) q q wq wr ar cr HOUT.out HGR.out.2 (by simp only [HROWQ.out]; exact hsr)
                  simp only [HROWQ.out] at HON
                  rw [HRLEN.out] at HON
                  obtain ⟨vN, vals, hcN, hoN, hszN, hnx⟩ := HON.out
                  have HNX := hide hnx
                  have HOWN := hide hoN
                  have HSZ := hide hszN
                  have hrlm := HRLEN.out
                  clear hnx hoN hszN HON hsr hwf
                  rw [HRLEN.out]
                  go_wp2_with (at_builtin; refine wpList_append_lies _ rfl _ _ 22 rfl (wb.heap.size + 1) 42 j0 (.slice none 0 0) 1 24 Tryz.underlying22 hj0 hy0 hy1 hy2 rfl (by decide) vN q vals rfl (HOWN.out.alloc _) ⟨wr.heap.size, 0, none⟩ 1 1 [.slice ar m cr] rfl rfl (one_new _ _ _) (fun u hu => by simp at hu; subst hu; rfl) (by omega) (by unfold maxLen; omega) (by omega) (by have := HSZ.out; simp; omega) (wr.heap.size + 1) (by simp) ?_; intro g' cg w3 hown3 hgrow3 hat3 hlt3; obtain ⟨⟨hn1', hn2'⟩, hn3'⟩ := HNX.out w3 _ g' cg hown3 hgrow3 hat3; have HN3 := hide hn3'; clear hown3 hgrow3 hat3 hn3')
                  generalize w3.setCell ⟨wb.heap.size, 2, none⟩ (.slice (some ⟨g', 0, none⟩) (q + 1) cg) = w5 at HN3 ⊢
                  have HB5 : Hid (Below wb.heap.size wb w5) := by obtain ⟨_, _, _, _, _, _, _, h⟩ := HN3.out; exact h
                  clear hn1' hn2' hcN hcf hcn HNX HOWN HSZ HGR HBL hlt3
                  obtain ⟨vE, hcE, hoE, hszE, hnx⟩ := outAt_E HN3.out
                  obtain ⟨be, oe, rfl, hce⟩ := slB_cell (slB_below HE1.out (HBX1.out.trans (HB5.out.mono HBX1.out.size))) x hxn
                  have hcf : w5.cell? ⟨bf, of + q, none⟩ = some (.int .i64 (x : Int)) := (HB5.out.cell (p := ⟨bf, of + q, none⟩) (World.block_lt_of_cell? _ _ HCF0.out)).trans HCF0.out
                  rw [← HE1'.out] at hce
                  have HNX := hide hnx
                  have HOWN := hide hoE
                  have HSZ := hide hszE
                  clear hnx hoE hszE
                  generalize (leastE N E m).getD q false = ev at hce HNX
                  have hcE2 : (w5.alloc (.cells #[.bool ev] 4)).cell? ⟨wb.heap.size, 3, none⟩ = some vE := (((Below.refl w5.heap.size w5).alloc (Nat.le_refl _) _).cell (p := ⟨wb.heap.size, 3, none⟩) (World.block_lt_of_cell? w5 _ hcE)).trans hcE
                  go_region_law (first | (refine step_append_lies _ rfl (.tmp 121) (.tmp 129) 23 rfl (wb.heap.size + 1) 4 l0 (.bool false) 1 1 Tryz.underlying23 hl0 hv0 hv1 hv2 rfl (by decide) vE q _ (by simp [Act.eval]) (World.ownsRow.alloc (w := w5.drew) HOWN.out _) ⟨w5.heap.size, 0, none⟩ 1 1 [.bool ev] (by simp [Act.eval]) rfl (one_new_at _ _ _ _ (by simp)) (fun u hu => by simp at hu; subst hu; rfl) (by omega) (by unfold maxLen; omega) (by omega) (by have := HSZ.out; simp; omega) (w5.heap.size + 1) (by simp) ?_; intro g5 cg5 w6 hown5 hgrow5 hat5 hlt5; obtain ⟨⟨hm1, hm2⟩, hm3⟩ := HNX.out w6 _ g5 cg5 hown5 ⟨hgrow5.os, hgrow5.tape, hgrow5.output, hgrow5.size, hgrow5.block⟩ hat5; have HM3 := hide hm3; clear hm3 hown5 hgrow5 hat5 hlt5))
                  all_goals
                    go_wp2
                    go_roundw
                    case rel => exact ⟨q + 1, by omega, by go_num, HM3.out⟩
                    case measure => simp [intOf]; omega
            · have hqti : ¬ (q : Int) < (many : Int) := by omega
              obtain rfl : many = q := by omega
              have HEND := hide (@outAt_end wb b t (fun q => (leastN N E m).getD q []) (fun q => (leastE N E m).getD q false) many wr HOUT.out (by unfold maxLen; omega) (leastN N E m) HLN.out (fun _ _ => rfl) (leastE N E m) HLEn.out (fun _ _ => rfl))
              obtain ⟨ax, cx, ax', cx', hbox, hbE, hsN⟩ := HEND.out
              have HSN := hide hsN
              have HWB : Hid (w.heap.size < wb.heap.size) := by
                have h1 := hbE.size
                have h2 := HBX1.out.size
                have h3 := (Array.getElem?_eq_some_iff.1 (HOLD.out w1 (Below.refl _ _))).1
                show _ < _
                omega
              have HBE := hide (HBX1.out.trans (hbE.mono HBX1.out.size))
              have hx0 : wr.cell? ⟨wb.heap.size, 0, none⟩ = some (.int .i64 b) := by simp [World.cell?, hbox]
              have hx1 : wr.cell? ⟨wb.heap.size, 1, none⟩ = some (.int .i64 t) := by simp [World.cell?, hbox]
              have hx2 : wr.cell? ⟨wb.heap.size, 2, none⟩ = some (.slice ax many cx) := by simp [World.cell?, hbox]
              have hx3 : wr.cell? ⟨wb.heap.size, 3, none⟩ = some (.slice ax' many cx') := by simp [World.cell?, hbox]
              have hold : wr.heap[w.heap.size]? = some (.cells #[.int .i64 0, .int .i64 0, .slice none 0 0, .slice none 0 0] 25 (0, 0)) := HOLD.out wr HBE.out
              have ho0 : wr.cell? ⟨w.heap.size, 0, none⟩ = some (.int .i64 0) := by simp [World.cell?, hold]
              have ho1 : wr.cell? ⟨w.heap.size, 1, none⟩ = some (.int .i64 0) := by simp [World.cell?, hold]
              have ho2 : wr.cell? ⟨w.heap.size, 2, none⟩ = some (.slice none 0 0) := by simp [World.cell?, hold]
              have ho3 : wr.cell? ⟨w.heap.size, 3, none⟩ = some (.slice none 0 0) := by simp [World.cell?, hold]
              have hf : ∀ i, wr.frozen? ⟨w.heap.size, i, none⟩ = false := fun i => by simp [World.frozen?, hold]
              have HHOLD := hide hold
              clear hbox hsN hbE HEND hold
              go_wp2
              have hset := set_all (v0 := .int .i64 b) (v1 := .int .i64 t) (v2 := .slice ax many cx) (v3 := .slice ax' many cx') HHOLD.out
              have hbel : Below w.heap.size w ((((wr.setCell ⟨w.heap.size, 0, none⟩ (.int .i64 b)).setCell ⟨w.heap.size, 1, none⟩ (.int .i64 t)).setCell ⟨w.heap.size, 2, none⟩ (.slice ax many cx)).setCell ⟨w.heap.size, 3, none⟩ (.slice ax' many cx')) := ((((below_step HB1.out HBE.out).setCell (Nat.le_refl _) _).setCell (Nat.le_refl _) _).setCell (Nat.le_refl _) _).setCell (Nat.le_refl _) _
              have hfin : AutoNew w ax many (leastN N E m) ax' (leastE N E m) ((((wr.setCell ⟨w.heap.size, 0, none⟩ (.int .i64 b)).setCell ⟨w.heap.size, 1, none⟩ (.int .i64 t)).setCell ⟨w.heap.size, 2, none⟩ (.slice ax many cx)).setCell ⟨w.heap.size, 3, none⟩ (.slice ax' many cx')) := fun W' hW' => HSN.out W' (fun x hx hxl => by
                have hne : x ≠ w.heap.size := by have := HWB.out; omega
                rw [hW' x (by have := HWB.out; omega) (by simp [World.setCell]; exact hxl), Below.heap_setCell _ _ _ _ hne, Below.heap_setCell _ _ _ _ hne, Below.heap_setCell _ _ _ _ hne, Below.heap_setCell _ _ _ _ hne])
              generalize (((wr.setCell ⟨w.heap.size, 0, none⟩ (.int .i64 b)).setCell ⟨w.heap.size, 1, none⟩ (.int .i64 t)).setCell ⟨w.heap.size, 2, none⟩ (.slice ax many cx)).setCell ⟨w.heap.size, 3, none⟩ (.slice ax' many cx') = wZ at hset hbel hfin ⊢
              have z0 : wZ.cell? ⟨w.heap.size, 0, none⟩ = some (.int .i64 b) := by simp [World.cell?, hset]
              have z1 : wZ.cell? ⟨w.heap.size, 1, none⟩ = some (.int .i64 t) := by simp [World.cell?, hset]
              have z2 : wZ.cell? ⟨w.heap.size, 2, none⟩ = some (.slice ax many cx) := by simp [World.cell?, hset]
              have z3 : wZ.cell? ⟨w.heap.size, 3, none⟩ = some (.slice ax' many cx') := by simp [World.cell?, hset]
              refine bodyPost_ret (v := .tuple #[.agg #[.int .i64 b, .int .i64 t, .slice ax many cx, .slice ax' many cx'], .bool true]) (by simp [results, Tryz.results16, go_sem, z0, z1, z2, z3]) rfl ?_
              refine Or.inl ⟨(by have := HK80.out; omega), ?_⟩
              unfold ShrU
              rw [HLN.out]
              exact ⟨ax, cx, ax', cx', rfl, hfin, hbel⟩
        · have hst' : (((repsL (simB N E m (k + 1)) mt).length : Int) == (many : Int)) = false := by simp; omega
          have HLT : Hid (many < (repsL (simB N E m (k + 1)) mt).length) := by
            show _ < _
            have hm := HMN.out
            by_cases h0 : k = 0
            · rw [if_pos h0] at hm
              have := HRZ.out (k + 1)
              omega
            · rw [if_neg h0] at hm
              have := HRM.out k (by omega)
              omega
          generalize hrl : (repsL (simB N E m (k + 1)) mt).length = rl at hst hst' hal HLT ⊢
          have HRL := hide hrl
          clear hrl
          go_wp2
          go_roundg (n + 1 - rl)
          case rel => exact ⟨k + 1, _, rl, wo.heap.size, rfl, by rw [if_neg (by omega), HRL.out], HCK.out, rfl, rfl, HSK.out, HBX1.out⟩
          case measure => have h1 := HGK.out; have h2 := HLT.out; omega
theorem shrunk_any (b t : Int) (a : Option Addr) (n cap m : Nat) (N : List (List Int)) (a' : Option Addr) (cap' : Nat) (E : List Bool) (w : World) (hs : Sl2 w a n N) (hG : GoodN m n N) (he : SlB w a' n E) (hK : leastK N E m ≤ 80) :
    Calls Tryz.prog 16 #[.int .i64 b, .int .i64 t, .slice a n cap, .slice a' n cap'] w (ShrU w b t (leastN N E m) (leastE N E m)) := by
  refine (shrunk_u b t a n cap m N a' cap' E w hs hG he).mono ?_
  rintro e w' (⟨_, h⟩ | ⟨h, _⟩)
  · exact h
  · omega
end Go.Proofs.YtleebojibobgaaaGreatDoor
