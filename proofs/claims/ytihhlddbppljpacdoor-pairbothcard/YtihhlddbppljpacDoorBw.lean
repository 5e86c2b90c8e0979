/- least.classes: contract. -/
import Derived.Test.YtihhlddbppljpacDoorBv
namespace Go.Proofs.YtihhlddbppljpacDoor
open Go.RowKit

/-- Which of the first p states are ends. -/
def endF (E : List Bool) (mt : List Int) (p q : Nat) : Int := if (q : Int) ∈ mt.take p ∧ E.getD q false = true then 1 else 0
theorem endF_zero (E : List Bool) (mt : List Int) (q : Nat) : endF E mt 0 q = 0 := by simp [endF]
theorem endF_step {E : List Bool} {mt : List Int} {p : Nat} (hp : p < mt.length) {s : Nat} (hs : mt.getD p 0 = (s : Int)) (q : Nat) : endF E mt (p + 1) q = if q = s ∧ E.getD s false = true then 1 else endF E mt p q := by
  have htake : mt.take (p + 1) = mt.take p ++ [mt.getD p 0] := by rw [List.take_succ_eq_append_getElem hp, getD_at _ p hp]
  unfold endF
  rw [htake, hs]
  by_cases e : q = s
  · subst e
    by_cases h : E.getD q false = true
    · rw [if_pos ⟨by simp, h⟩, if_pos ⟨rfl, h⟩]
    · rw [if_neg (fun h' => h h'.2), if_neg (fun h' => h h'.2), if_neg (fun h' => h h'.2)]
  · rw [if_neg (fun h : q = s ∧ _ => e h.1)]
    have : ((q : Int) ∈ mt.take p ++ [(s : Int)]) ↔ ((q : Int) ∈ mt.take p) := by
      rw [List.mem_append, List.mem_singleton]
      constructor
      · rintro (h | h)
        · exact h
        · exact absurd (by omega) e
      · exact Or.inl
    simp only [this]
theorem lvAt_ends {m n : Nat} {N : List (List Int)} (hG : GoodN m n N) (E : List Bool) : LvAt N E m n 1 ((List.range n).map (endF E (metL N) (metL N).length)) := by
  refine lvAt_one (by simp) fun s hs => ?_
  have hn := met_lt hG hs
  have h0 := ((met_ok hG).2 s hs).1
  have e : ((List.range n).map (endF E (metL N) (metL N).length)).getD s.toNat 0 = endF E (metL N) (metL N).length s.toNat := by simp [List.getD, hn]
  rw [e]
  unfold endF
  rw [List.take_length, show ((s.toNat : Nat) : Int) = s by omega]
  simp only [hs, true_and]

def ClsU (w : World) (N : List (List Int)) (E : List Bool) (m n : Nat) (e : Ending) (w' : World) : Prop :=
  ∃ K bf, (repsL (simB N E m K) (metL N)).length = (repsL (simB N E m (K + 1)) (metL N)).length ∧ e = .returned (.tuple #[.slice (some ⟨bf, 0, none⟩) n n, .nilIface]) ∧ w.heap.size ≤ bf ∧
    Sl w' (some ⟨bf, 0, none⟩) n ((List.range n).map (freshF (simB N E m (K + 1)) (metL N) (metL N).length)) ∧ Below w.heap.size w w'

/-- .. or they are too many. -/
def ClsW (w : World) (N : List (List Int)) (E : List Bool) (m n : Nat) (e : Ending) (w' : World) : Prop :=
  (leastK N E m ≤ 80 → ClsU w N E m n e w') ∧ (80 < leastK N E m → e = .returned (.tuple #[.slice none 0 0, .iface 26 (.int .i64 3)]) ∧ Below w.heap.size w w')
theorem round_least {m n : Nat} {N : List (List Int)} (hG : GoodN m n N) (E : List Bool) {k : Nat} (hl : (repsL (simB N E m k) (metL N)).length = (repsL (simB N E m (k + 1)) (metL N)).length) : (repsL (simB N E m (k + 1)) (metL N)).length = leastK N E m := by
  obtain ⟨-, e1, -, -⟩ := round_stab hG E hl
  rw [← quoN_length (N := N), e1, leastN_len]

set_option maxHeartbeats 8000000 in
set_option maxRecDepth 8000 in
theorem classes_any (b t : Int) (a : Option Addr) (n cap m : Nat) (N : List (List Int)) (a' : Option Addr) (cap' : Nat) (E : List Bool) (ast : Option Addr) (cs : Nat) (w : World) (hs : Sl2 w a n N) (hG : GoodN m n N) (he : SlB w a' n E) (hst : Sl w ast (metL N).length (metL N)) :
    Calls Tryd.prog 33 #[.agg #[.int .i64 b, .int .i64 t, .slice a n cap, .slice a' n cap'], .slice ast (metL N).length cs] w (ClsW w N E m n) := by
  have hn1 := hG.2.1
  have hn64 := hG.2.2.1
  have hmk := make_ints n (by omega)
  have hB0 : Below w.heap.size w (w.alloc (.cells #[.int .i64 b, .int .i64 t, .slice a n cap, .slice a' n cap'] 25)) := (Below.refl _ _).alloc (Nat.le_refl _) _
  have HB0 := hide hB0
  have HS := hide (sl2_below hs hB0)
  have HE := hide (slB_below he hB0)
  have HST := hide (sl_below hst hB0)
  have HBX := hide (fun W => @box4 w W (.int .i64 b) (.int .i64 t) (.slice a n cap) (.slice a' n cap') 25)
  have HMO := hide (met_ok hG)
  have HSPL := hide (fun ac cc k C W h1 h2 h3 hk hC => lsplit_any b t a n cap m N (.slice a' n cap') E ast cs ac cc k C W h1 hG h2 h3 hk hC)
  have HLV := hide (lvAt_ends hG E)
  have HCF := hide (fun k => lvAt_of (cAt_fresh hG E k))
  have HRM := hide (fun k h => @round_more m n N hG E k h)
  have HRZ := hide (fun k => (reps_zero (R := simB N E m k) hG).1)
  have HRB := hide (fun k => reps_bound hG E k)
  have HRL := hide (fun k h => @round_least m n N hG E k h)
  have hml := met_len hG
  clear hs hst he hG hB0
  have HML : Hid (∀ k, (repsL (simB N E m k) (metL N)).length ≤ n) := fun k => Nat.le_trans (reps_count _ _) hml
  unfold ClsW ClsU
  generalize hmt : metL N = mt at HST HMO HSPL HLV HCF HRM HRZ HRB HRL hml HML ⊢
  generalize leastK N E m = LK at HRB HRL ⊢
  have HMT := hide hmt
  clear hmt
  generalize hW0 : w.alloc (.cells #[.int .i64 b, .int .i64 t, .slice a n cap, .slice a' n cap'] 25) = W0 at HB0 HS HST HE HBX
  have HSZ0 : Hid (W0.heap.size = w.heap.size + 1) := by show _ = _; rw [← hW0]; simp
  have hbx := HBX.out W0 (Below.refl _ _)
  obtain ⟨hx0, hx1, hx2, hx3⟩ := hbx
  have HP0 : Hid (((W0.alloc (.cells (madeCells #[.int .i64 0] n) 3)).rowIs W0.heap.size 3 n fun q => .int .i64 (endF E mt 0 q)) ∧ Below W0.heap.size W0 (W0.alloc (.cells (madeCells #[.int .i64 0] n) 3))) :=
    ⟨(World.rowIs_made W0 (.int .i64 0) n 3).congr fun q _ => by rw [endF_zero], (Below.refl _ _).alloc (Nat.le_refl _) _⟩
  go_enter Tryd.func33, Tryd.ntmps33
  go_wp2
  clear hW0 hx0 hx1 hx2 hx3
  generalize W0.alloc (.cells (madeCells #[.int .i64 0] n) 3) = W1 at HP0 ⊢
  go_loopw [18] (fun i wx => ∃ p : Nat, p ≤ mt.length ∧ i = .int .i64 p ∧ (wx.rowIs W0.heap.size 3 n fun q => .int .i64 (endF E mt p q)) ∧ Below W0.heap.size W0 wx) (fun i _ => mt.length - (intOf i).toNat)
  case atStart => exact ⟨0, by omega, rfl, HP0.out⟩
  case round =>
    obtain ⟨p, hp, rfl, hrw, hbw⟩ := hrel
    have HRW := hide hrw
    have HBW := hide hbw
    clear hrw hbw
    by_cases hlt : p < mt.length
    · have hlti : (p : Int) < (mt.length : Int) := by omega
      obtain ⟨bs, os, rfl, hcm⟩ := sl_cell (sl_below HST.out HBW.out) p hlt
      have hsm : mt.getD p 0 ∈ mt := by rw [getD_at _ p hlt]; exact List.getElem_mem _
      have hsr := HMO.out.2 _ hsm
      obtain ⟨s, hs⟩ : ∃ s : Nat, mt.getD p 0 = s := ⟨(mt.getD p 0).toNat, by omega⟩
      rw [hs] at hcm hsr
      have hsn : s < n := by omega
      have hsni : (s : Int) < (n : Int) := by omega
      have HST1 := hide (fun q => endF_step (E := E) hlt hs q)
      obtain ⟨be, oe, rfl, hce⟩ := slB_cell (slB_below HE.out HBW.out) s hsn
      obtain ⟨hx0, hx1, hx2, hx3⟩ := HBX.out wr HBW.out
      have hcs := HRW.out.cell (i := s) hsn
      have hfs := HRW.out.frozen s
      clear hs hsm hsr hx0 hx1 hx2
      generalize E.getD s false = ev at hce HST1
      rcases ev with _ | _
      · go_wp2
        go_roundw
        case rel => exact ⟨p + 1, by omega, by go_num, HRW.out.congr fun q hq => by rw [HST1.out q, if_neg (by simp)], HBW.out⟩
        case measure => simp [intOf]; omega
      · go_wp2
        go_roundw
        case rel => exact ⟨p + 1, by omega, by go_num, (HRW.out.set _ _).congr fun q hq => by rw [HST1.out q]; simp only [and_true]; split <;> rfl, HBW.out.setCell (Nat.le_refl _) _⟩
        case measure => simp [intOf]; omega
    · have hlti : ¬ ((p : Int) < (mt.length : Int)) := by omega
      obtain rfl : p = mt.length := by omega
      have HS0 : Hid (Sl wr (some ⟨W0.heap.size, 0, none⟩) n ((List.range n).map (endF E mt mt.length))) := by
        refine sl_of_rowIs (by simp) (by unfold maxLen; omega) (fun x hx => ?_) (HRW.out.congr fun q hq => ?_)
        · obtain ⟨q, -, rfl⟩ := List.mem_map.1 hx
          unfold endF
          split <;> decide
        · simp [List.getD, hq]
      have HBW0 := hide HBW.out
      clear HRW HBW HP0
      go_wp2
      go_loopg [6, 9] (n + 1) (fun g c bv wx => ∃ (k : Nat) (C : List Int) (before bc : Nat), g = n + 1 - before ∧ 1 ≤ k ∧ before = (if k = 1 then 0 else (repsL (simB N E m k) mt).length) ∧ LvAt N E m n k C ∧ c = .slice (some ⟨bc, 0, none⟩) n n ∧ bv = .int .i64 before ∧ Sl wx (some ⟨bc, 0, none⟩) n C ∧ Below W0.heap.size W0 wx)
      case atStart => exact ⟨1, _, 0, W0.heap.size, rfl, by omega, rfl, HLV.out, rfl, rfl, HS0.out, HBW0.out⟩
      case round =>
        obtain ⟨k, C, before, bc, hgk, hk1, hbef, hC, rfl, rfl, hsc, hbw⟩ := hrel
        have HGK := hide hgk
        have HBF := hide hbef
        have HC := hide hC
        have HBW := hide hbw
        have hbb : before ≤ n := by
          rw [hbef]
          split
          · omega
          · exact HML.out k
        obtain ⟨hx0, hx1, hx2, hx3⟩ := HBX.out _ hbw
        have HCALL := hide (HSPL.out (some ⟨bc, 0, none⟩) n k C _ (sl2_below HS.out hbw) (sl_below HST.out hbw) hsc hk1 hC)
        unfold SplW SplU at HCALL
        rw [List.length_map, List.length_range] at HCALL
        have hml1 := HML.out (k + 1)
        have HRBk := hide (HRB.out (k + 1))
        clear hgk hbef hC hsc hbw HS0 HBW0 HLV
        by_cases h80 : 80 < (repsL (simB N E m (k + 1)) mt).length
        · have HFULL : Hid (80 < LK) := Nat.lt_of_lt_of_le h80 HRBk.out
          go_wp2_with (go_at_call 42; refine HCALL.out.mono ?_; rintro e w4 ⟨-, hh⟩; obtain ⟨bf, j, hj80, rfl, hb4⟩ := hh h80; have HB4 := hide hb4; have hj80i : (80 : Int) < (j : Int) := (by omega); clear hh hb4)
          go_ret2
          refine ⟨fun h => ?_, fun _ => ⟨by simp, below_step HB0.out (below_step HBW.out HB4.out)⟩⟩
          have := HFULL.out
          omega
        have h80i : ¬ (80 : Int) < ((repsL (simB N E m (k + 1)) mt).length : Int) := by omega
        have H80 := hide (Nat.le_of_not_lt h80)
        by_cases hst : (repsL (simB N E m (k + 1)) mt).length = before
        · have hst' : (((repsL (simB N E m (k + 1)) mt).length : Int) == (before : Int)) = true := by simp; omega
          have HEQ : Hid ((repsL (simB N E m k) mt).length = (repsL (simB N E m (k + 1)) mt).length) := by
            have h := HBF.out
            by_cases h1 : k = 1
            · rw [if_pos h1] at h
              have := HRZ.out (k + 1)
              show _ = _
              omega
            · rw [if_neg h1] at h
              show _ = _
              omega
          go_wp2_with (go_at_call 42; refine HCALL.out.mono ?_; rintro e w4 ⟨hh, -⟩; obtain ⟨bf, rfl, hbf, hsl, hb4⟩ := hh H80.out; clear hh; have HSL := hide hsl; have HB4 := hide hb4; have HBFl := hide hbf; clear hsl hb4 hbf)
          go_ret2
          refine ⟨fun _ => ⟨k, bf, HEQ.out, by simp, ?_, HSL.out, below_step HB0.out (below_step HBW.out HB4.out)⟩, fun h => ?_⟩
          rotate_left
          · have h1 := HRL.out k HEQ.out
            have h2 := H80.out
            omega
          have h1 := HBFl.out
          have h2 := HBW.out.size
          have h3 := HSZ0.out
          omega
        · have hst' : (((repsL (simB N E m (k + 1)) mt).length : Int) == (before : Int)) = false := by simp; omega
          have HLT : Hid (before < (repsL (simB N E m (k + 1)) mt).length) := by
            have h := HBF.out
            show _ < _
            by_cases h1 : k = 1
            · rw [if_pos h1] at h
              have := HRZ.out (k + 1)
              omega
            · rw [if_neg h1] at h
              have := HRM.out k (by omega)
              omega
          generalize hrl : (repsL (simB N E m (k + 1)) mt).length = rl at hst hst' HLT HCALL hml1 h80 h80i H80 HRBk
          have HRL := hide hrl
          clear hrl
          go_wp2_with (go_at_call 42; refine HCALL.out.mono ?_; rintro e w4 ⟨hh, -⟩; obtain ⟨bf, rfl, hbf, hsl, hb4⟩ := hh H80.out; clear hh; have HSL := hide hsl; have HB4 := hide hb4; have HBFl := hide hbf; clear hsl hb4 hbf)
          go_roundg (n + 1 - rl)
          case rel => exact ⟨k + 1, _, rl, bf, rfl, by omega, by rw [if_neg (by omega), HRL.out], HCF.out (k + 1), rfl, rfl, HSL.out, below_step HBW.out HB4.out⟩
          case measure => have h1 := HGK.out; have h2 := HLT.out; omega
end Go.Proofs.YtihhlddbppljpacDoor
