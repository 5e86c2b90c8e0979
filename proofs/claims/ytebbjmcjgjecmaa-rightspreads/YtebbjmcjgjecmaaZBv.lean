/- 2 texts in one. -/
import Derived.Test.YtebbjmcjgjecmaaBk
import Derived.Test.YtebbjmcjgjecmaaBt
/- least.split: contract. -/
namespace Go.Proofs.Ytebbjmcjgjecmaa
open Go.RowKit

/-- Behind p of the states: the numbers of marks, and which one each has. -/
def SplAt (R : Nat → Nat → Bool) (mv : Int → Value) (mt : List Int) (n : Nat) (W0 : World) (p : Nat) (wx : World) : Prop :=
  MapAt Try.prog 91 wx W0.heap.size (numF mv (repsL R (mt.take p))) ∧ (wx.rowIs (W0.heap.size + 1) 3 n fun q => .int .i64 (freshF R mt p q)) ∧ Below W0.heap.size W0 wx ∧ W0.heap.size + 2 ≤ wx.heap.size
theorem splAt_start (R : Nat → Nat → Bool) (mv : Int → Value) (mt : List Int) (n : Nat) (W0 : World) : SplAt R mv mt n W0 0 ((W0.alloc (.map #[] 0)).alloc (.cells (madeCells #[.int .i64 0] n) 3)) := by
  refine ⟨(mapAt_made W0 _ _).alloc _, ?_, ((Below.refl _ _).alloc (Nat.le_refl _) _).alloc (by simp) _, by simp⟩
  have := (World.rowIs_made (W0.alloc (.map #[] 0)) (.int .i64 0) n 3).congr (g := fun q => .int .i64 (freshF R mt 0 q)) fun q _ => by rw [freshF_zero]
  rwa [World.size_alloc] at this
theorem splAt_below {R : Nat → Nat → Bool} {mv : Int → Value} {mt : List Int} {n : Nat} {W0 : World} {p : Nat} {wx W : World} (h : SplAt R mv mt n W0 p wx) (hb : Below wx.heap.size wx W) : SplAt R mv mt n W0 p W := by
  obtain ⟨h1, h2, h3, h4⟩ := h
  exact ⟨h1.below hb, h2.of_block (hb.block _ h2.lt), h3.trans (hb.mono h3.size), Nat.le_trans h4 hb.size⟩
/-- The number is stored. -/
theorem splAt_store {R : Nat → Nat → Bool} {mv : Int → Value} {mt : List Int} {n : Nat} {W0 : World} {p : Nat} {wx : World} {acc : List Int} (h1 : MapAt Try.prog 91 wx W0.heap.size (numF mv acc)) (h2 : wx.rowIs (W0.heap.size + 1) 3 n fun q => .int .i64 (freshF R mt p q)) (h3 : Below W0.heap.size W0 wx) (h4 : W0.heap.size + 2 ≤ wx.heap.size)
    (hp : p < mt.length) (h0 : 0 ≤ mt.getD p 0) {j : Nat} (hj : clsL R (repsL R mt) (mt.getD p 0) = j) (hacc : repsL R (mt.take (p + 1)) = acc) : SplAt R mv mt n W0 (p + 1) (wx.setCell ⟨W0.heap.size + 1, (mt.getD p 0).toNat, none⟩ (.int .i64 (j : Int))) := by
  refine ⟨by rw [hacc]; exact h1.setCell (by simp) _, (h2.set _ _).congr fun q hq => ?_, h3.setCell (by simp) _, by simp [World.setCell]; exact h4⟩
  rw [freshF_step hp h0, hj]
  split <;> rfl
theorem markF_zero (N : List (List Int)) (C : List Int) (s q : Nat) : markF N C 0 s q = if q = 0 then C.getD s 0 else 0 := by
  unfold markF
  split
  · rfl
  · rw [if_neg (by omega)]
theorem markF_step (N : List (List Int)) (C : List Int) (s j q : Nat) : markF N C (j + 1) s q = if q = 1 + j then C.getD (nxt N s j) 0 else markF N C j s q := by
  unfold markF
  by_cases h0 : q = 0
  · rw [if_pos h0, if_neg (by omega), if_pos h0]
  · rw [if_neg h0]
    by_cases h1 : q = 1 + j
    · rw [if_pos (by omega), if_pos h1, show q - 1 = j by omega]
    · rw [if_neg h1, if_neg h0]
      by_cases h2 : q ≤ j
      · rw [if_pos (by omega), if_pos h2]
      · rw [if_neg (by omega), if_neg h2]
theorem info_mark : (Try.prog.info? 91).map (·.size) = some 37 := by kernel_rfl
theorem wpList_build_mark (w : World) {ops : Array Oper} {rest : List Oper} {o : Oper} {a : Act} {Q : Exit → Act → World → Prop} (hg : o.guard = none) (x : Operand) (hop : o.op = Op.build 91 #[(0, x)]) (c : Int) (hx : a.eval x = .int .i64 c)
    (arr : Array Value) (harr : ∀ W : World, (Instr.build 91 #[(0, .int .i64 c)]).run Try.prog W = .ok (.agg arr) W) (hK : wpList Try.prog ops Q rest (a.put o.dst (.agg arr)) w) : wpList Try.prog ops Q (o :: rest) a w := by
  refine wpList_plain hg fun K' hK' => ?_
  unfold Oper.wp execOp
  simp only [hop, List.map_toArray, List.map_cons, List.map_nil, hx, Sem.run_bind, harr w, Result.andThen_ok]
  exact hK' _ _ hK
theorem zero_int (w : World) : (zeroValue 3).run Try.prog w = .ok (.int .i64 0) w := by kernel_rfl
def SplU (w : World) (C : List Int) (k : Nat) (e : Ending) (w' : World) : Prop := ∃ bf, e = .returned (.tuple #[.slice (some ⟨bf, 0, none⟩) C.length C.length, .int .i64 (k : Int)]) ∧ w.heap.size ≤ bf ∧ Sl w' (some ⟨bf, 0, none⟩) C.length C ∧ Below w.heap.size w w'

/-- .. or too many: then no more than that is told. -/
def SplW (w : World) (C : List Int) (k : Nat) (e : Ending) (w' : World) : Prop :=
  (k ≤ 80 → SplU w C k e w') ∧ (80 < k → ∃ bf j : Nat, 80 < j ∧ e = .returned (.tuple #[.slice (some ⟨bf, 0, none⟩) C.length C.length, .int .i64 (j : Int)]) ∧ Below w.heap.size w w')

set_option maxHeartbeats 8000000 in
set_option maxRecDepth 8000 in
theorem lsplit_any (b t : Int) (a : Option Addr) (n cap m : Nat) (N : List (List Int)) (va : Value) (E : List Bool) (ast : Option Addr) (cs : Nat) (ac : Option Addr) (cc k : Nat) (C : List Int) (w : World) (hs : Sl2 w a n N) (hG : GoodN m n N) (hst : Sl w ast (metL N).length (metL N)) (hc : Sl w ac n C) (hk : 1 ≤ k) (hC : LvAt N E m n k C) :
    Calls Try.prog 45 #[.agg #[.int .i64 b, .int .i64 t, .slice a n cap, va], .slice ast (metL N).length cs, .slice ac n cc] w (SplW w ((List.range n).map (freshF (simB N E m (k + 1)) (metL N) (metL N).length)) (repsL (simB N E m (k + 1)) (metL N)).length) := by
  have hn1 := hG.2.1
  have hn64 := hG.2.2.1
  have hm36 := hG.2.2.2.1
  have hmk := make_ints n (by omega)
  have hmm := @run_makeMap Try.prog
  have hB0 : Below w.heap.size w (w.alloc (.cells #[.int .i64 b, .int .i64 t, .slice a n cap, va] 25)) := (Below.refl _ _).alloc (Nat.le_refl _) _
  have HB0 := hide hB0
  have HS := hide (sl2_below hs hB0)
  have HST := hide (sl_below hst hB0)
  have HC := hide (sl_below hc hB0)
  have HBX := hide (fun W => @box4 w W (.int .i64 b) (.int .i64 t) (.slice a n cap) va 25)
  have HMO := hide (met_ok hG)
  have HGN := hide hG
  have HMI := hide (fun s t hs ht => @mark_iff m n N hG E k C hk hC s t hs ht)
  have HCS := hide (fun p => @cls_step (simB N E m (k + 1)) (simB_eqv N E m (k + 1)) (metL N) p)
  have hml := met_len hG
  have HCL : Hid (C.length = n) := hC.1
  clear hs hst hc hG hC hB0
  generalize hmt : metL N = mt at HST HMO HMI HCS hml ⊢
  have HMT := hide hmt
  clear hmt
  generalize hW0 : w.alloc (.cells #[.int .i64 b, .int .i64 t, .slice a n cap, va] 25) = W0 at HB0 HS HST HC HBX
  have HSZ0 : Hid (W0.heap.size = w.heap.size + 1) := by show _ = _; rw [← hW0]; simp
  have HP0 := hide (splAt_start (simB N E m (k + 1)) (markV N C m) mt n W0)
  go_enter Try.func45, Try.ntmps45
  go_wp2
  clear hW0
  generalize (W0.alloc (.map #[] 0)).alloc (.cells (madeCells #[.int .i64 0] n) 3) = W2 at HP0 ⊢
  go_loopw [23] (fun i wx => ∃ p : Nat, p ≤ mt.length ∧ i = .int .i64 p ∧ (repsL (simB N E m (k + 1)) (mt.take p)).length ≤ 80 ∧ SplAt (simB N E m (k + 1)) (markV N C m) mt n W0 p wx) (fun i _ => mt.length - (intOf i).toNat)
  case atStart => exact ⟨0, by omega, rfl, by simp [repsL], HP0.out⟩
  case round =>
    obtain ⟨p, hp, rfl, hal80, hsp⟩ := hrel
    have HSP := hide hsp
    obtain ⟨h1, h2, h3, h4⟩ := hsp
    have H1 := hide h1
    have H2 := hide h2
    have H3 := hide h3
    have H4 := hide h4
    clear h1 h2 h3 h4
    by_cases hlt : p < mt.length
    · have hlti : (p : Int) < (mt.length : Int) := by omega
      obtain ⟨bs, os, rfl, hcm⟩ := sl_cell (sl_below HST.out H3.out) p hlt
      have hsm : mt.getD p 0 ∈ mt := by rw [getD_at _ p hlt]; exact List.getElem_mem _
      have hsr := HMO.out.2 _ hsm
      obtain ⟨s, hs⟩ : ∃ s : Nat, mt.getD p 0 = s := ⟨(mt.getD p 0).toNat, by omega⟩
      obtain ⟨hst1, hst2⟩ := HCS.out p hlt
      rw [hs] at hcm hsm hsr hst1 hst2
      have HST1 := hide hst1
      have HST2 := hide hst2
      have HSI := hide hs
      have HSMEM := hide hsm
      have hsn : s < n := by omega
      have hsni : (s : Int) < (n : Int) := by omega
      obtain ⟨bc, oc, rfl, hcc⟩ := sl_cell (sl_below HC.out H3.out) s hsn
      obtain ⟨bn, on, an, cn, rfl, hcn, hsn0⟩ := sl2_cell (sl2_below HS.out H3.out) s hsn
      have hrow := HGN.out.2.2.2.2.2 s hsn
      rw [hrow.1] at hcn hsn0
      have HSN0 := hide hsn0
      have HRV := hide hrow.2
      obtain ⟨hx0, hx1, hx2, hx3⟩ := HBX.out wr H3.out
      have HX2 := hide hx2
      have HCN := hide hcn
      clear hs hsm hsr hst1 hst2 hsn0 hrow hx0 hx1 hx2 hx3 hcn
      obtain ⟨arr, harr⟩ : ∃ arr, arr = (Array.range 37).map fun q => Value.int .i64 (if q = 0 then C.getD s 0 else 0) := ⟨_, rfl⟩
      have hbm : ∀ W : World, (Instr.build 91 #[(0, .int .i64 (C.getD s 0))]).run Try.prog W = .ok (.agg arr) W := fun W => by rw [harr]; exact run_build_mark _ W
      have HASZ : Hid (arr.size = 37) := by show _ = _; rw [harr]; simp
      have HAI : Hid ((Try.prog.info? 91).map (·.size) = some arr.size) := by show _ = _; rw [HASZ.out]; exact info_mark
      have HAO : Hid (arr.all (·.oneCell') = true) := by show _ = _; rw [harr, Array.all_eq_true_iff_forall_mem]; intro v hv; obtain ⟨q, -, rfl⟩ := Array.mem_map.1 hv; rfl
      have HA0 : Hid ((wr.alloc (.cells arr 91)).rowIs wr.heap.size 91 37 fun q => .int .i64 (markF N C 0 s q)) := by
        have h0 := World.rowIs_alloc wr arr 91 (fun q => .int .i64 (markF N C 0 s q)) (fun q hq => by rw [harr] at hq ⊢; simp at hq; simp [hq, markF_zero])
        show World.rowIs _ _ _ _ _
        rwa [HASZ.out] at h0
      have HBA := hide ((Below.refl wr.heap.size wr).alloc (Nat.le_refl _) (.cells arr 91))
      have hx2 : (wr.alloc (.cells arr 91)).cell? ⟨w.heap.size, 2, none⟩ = some (.slice (some ⟨bn, on, none⟩) n cap) := (HBA.out.cell (p := ⟨w.heap.size, 2, none⟩) (World.block_lt_of_cell? wr _ HX2.out)).trans HX2.out
      have hcn : (wr.alloc (.cells arr 91)).cell? ⟨bn, on + s, none⟩ = some (.slice an m cn) := (HBA.out.cell (p := ⟨bn, on + s, none⟩) (World.block_lt_of_cell? wr _ HCN.out)).trans HCN.out
      clear harr
      generalize C.getD s 0 = c0 at hcc hbm
      have HBM := hide hbm
      clear hbm
      go_wp2_with (first
        | (refine wpList_build_mark _ rfl _ rfl _ rfl arr HBM.out ?_)
        | (refine wpList_store_row rfl 91 _ _ rfl _ _ _ rfl rfl _ (heap_alloc_last _ _) HAI.out (by rw [HASZ.out]; rfl) HAO.out ?_; rw [World.setRow_alloc_new]))
      obtain ⟨wo, hwo⟩ : ∃ wo : World, wo = wr := ⟨_, rfl⟩
      rw [← hwo] at HSP H1 H2 H3 H4 HA0 HBA HSN0 ⊢
      clear hwo hx2 hcn hcc hcm HBM HAI HAO HASZ HCN HX2 wr
      generalize wo.alloc (.cells arr 91) = wA at HA0 HBA ⊢
      go_loopw [38] (fun i wx => ∃ j : Nat, j ≤ m ∧ i = .int .i64 j ∧ (wx.rowIs wo.heap.size 91 37 fun q => .int .i64 (markF N C j s q)) ∧ Below wo.heap.size wo wx) (fun i _ => m - (intOf i).toNat)
      case atStart => exact ⟨0, by omega, rfl, HA0.out, HBA.out⟩
      case round =>
        obtain ⟨j, hj, rfl, hrw, hbw⟩ := hrel
        have HRW := hide hrw
        have HBW := hide hbw
        clear hrw hbw
        by_cases hjt : j < m
        · have hjti : (j : Int) < (m : Int) := by omega
          obtain ⟨b1, o1, rfl, hcx⟩ := sl_cell (sl_below HSN0.out HBW.out) j hjt
          have hnx := nxt_cell HGN.out hsn hjt
          rw [hnx.2] at hcx
          obtain ⟨_, _, e1, hcy⟩ := sl_cell (sl_below HC.out (H3.out.trans (HBW.out.mono H3.out.size))) _ hnx.1
          cases e1
          have hnxi : ((nxt N s j : Nat) : Int) < (n : Int) := by have := hnx.1; omega
          have hcz := HRW.out.cell (i := 1 + j) (by omega)
          have hfz := HRW.out.frozen (1 + j)
          have HMS := hide (fun q => markF_step N C s j q)
          generalize C.getD (nxt N s j) 0 = c1 at hcy HMS
          generalize nxt N s j = x1 at hcx hcy hnxi
          clear hnx
          go_wp2
          go_roundw
          case rel => exact ⟨j + 1, by omega, by go_num, (HRW.out.set _ _).congr fun q hq => by rw [HMS.out q]; split <;> rfl, HBW.out.setCell (Nat.le_refl _) _⟩
          case measure => simp [intOf]; omega
        · have hjti : ¬ ((j : Int) < (m : Int)) := by omega
          obtain rfl : m = j := by omega
          have hwfC : ∀ q, (Lit.int .i64 (C.getD q 0)).wf = true := fun q => by
            by_cases hq : q < C.length
            · exact HC.out.2.2.1 _ (by rw [getD_at _ q hq]; exact List.getElem_mem hq)
            · rw [show C.getD q 0 = 0 by simp [List.getD, Nat.le_of_not_lt hq]]; decide
          obtain ⟨kl, hkl⟩ := markV_key (N := N) (C := C) (m := m) (s : Int) (fun q => by
            unfold markF
            split
            · exact hwfC _
            · split
              · exact hwfC _
              · decide)
          obtain ⟨ar2, har2, hblk⟩ : ∃ ar2, Value.agg ar2 = markV N C m (s : Int) ∧ wr.heap[wo.heap.size]? = some (.cells ar2 91 (0, 0)) := ⟨_, rfl, rowIs_cells HRW.out⟩
          have HAI2 : Hid ((Try.prog.info? 91).map (·.size) = some ar2.size) := by
            unfold markV at har2
            injection har2 with har2
            show _ = _
            rw [har2]; simp [info_mark]
          have HKL := hide (har2 ▸ hkl)
          have HBLK := hide hblk
          have HAR2 := hide har2
          have HSP2 := hide (splAt_below HSP.out HBW.out)
          have HZ := hide (fun W : World => zero_int W)
          have HBLT : Hid (wo.heap.size ≠ W0.heap.size ∧ wo.heap.size ≠ W0.heap.size + 1) := by have := H4.out; constructor <;> omega
          have HACC : Hid (∀ r ∈ repsL (simB N E m (k + 1)) (mt.take p), r ∈ mt) := fun r hr => List.mem_of_mem_take (reps_mem _ _ r hr)
          have hal : (repsL (simB N E m (k + 1)) (mt.take p)).length ≤ n := by
            have := reps_count (simB N E m (k + 1)) (mt.take p)
            rw [List.length_take] at this
            omega
          have HMS : Hid (∀ r ∈ repsL (simB N E m (k + 1)) (mt.take p), (markV N C m r = markV N C m (s : Int) ↔ simB N E m (k + 1) s r.toNat = true)) := fun r hr => by
            have h := HMI.out r (s : Int) (HACC.out r hr) HSMEM.out
            rw [Int.toNat_natCast] at h
            exact h.trans ⟨(simB_eqv N E m (k + 1)).symm _ _, (simB_eqv N E m (k + 1)).symm _ _⟩
          obtain ⟨g1, g2, g3, g4⟩ := HSP2.out
          have G1 := hide g1
          have G2 := hide g2
          have G3 := hide g3
          have G4 := hide g4
          clear g1 g2 g3 g4 hkl hwfC har2 hblk HSN0 HA0 HBA HRV
          by_cases hr : ∃ r ∈ repsL (simB N E m (k + 1)) (mt.take p), simB N E m (k + 1) s r.toNat = true
          · have hcl := cls_lt (s := (s : Int)) hr
            have HMEM := hide (numF_some (mv := markV N C m) (s := (s : Int)) HMS.out hr)
            rw [← HAR2.out] at HMEM
            have HAC2 : Hid (repsL (simB N E m (k + 1)) (mt.take (p + 1)) = repsL (simB N E m (k + 1)) (mt.take p)) := by show _ = _; rw [HST2.out, if_pos hcl]
            have hcs := G2.out.cell (i := s) hsn
            have hfs := G2.out.frozen s
            clear hr HST2
            generalize hacc : repsL (simB N E m (k + 1)) (mt.take p) = acc at HST1 HMEM HAC2 G1 hal hal80
            have HLN : Hid ((numF (markV N C m) acc).length = acc.length) := numF_len _ _
            have hal80i : ¬ (80 : Int) < (acc.length : Int) := by omega
            generalize hcv : clsL (simB N E m (k + 1)) acc (s : Int) = cv at HST1 HMEM
            have HCV := hide hcv
            clear hacc hcv hcl HMS HACC HSP HSP2 H1 H2
            go_wp2_with (first
              | (refine wpList_load_all rfl 91 _ rfl _ rfl _ _ _ _ HBLK.out Try.underlying91 rfl HAI2.out ?_)
              | (at_lookup; refine wpList_look_yes _ rfl _ _ 88 rfl 91 3 mark_law Try.underlying88 (HZ.out _) W0.heap.size _ rfl G1.out _ kl rfl HKL.out _ HMEM.out ?_)
              | (at_len; refine wpList_len_at _ rfl _ 88 rfl 91 3 Try.underlying88 W0.heap.size _ rfl (G1.out.setCell (by simp) _) ?_; rw [HLN.out]))
            go_roundw
            case rel =>
              refine ⟨p + 1, by omega, by go_num, by rw [HAC2.out]; exact hal80, ?_⟩
              have hfin := @splAt_store (simB N E m (k + 1)) (markV N C m) mt n W0 p wr acc G1.out G2.out G3.out G4.out hlt (by rw [HSI.out]; omega) cv (by rw [HSI.out]; exact HST1.out) HAC2.out
              rwa [HSI.out, Int.toNat_natCast] at hfin
            case measure => simp [intOf]; omega
          · have hncl : ¬ clsL (simB N E m (k + 1)) (repsL (simB N E m (k + 1)) (mt.take p)) (s : Int) < (repsL (simB N E m (k + 1)) (mt.take p)).length := fun h => hr ⟨(repsL (simB N E m (k + 1)) (mt.take p)).getD (clsL (simB N E m (k + 1)) (repsL (simB N E m (k + 1)) (mt.take p)) (s : Int)) 0, by rw [getD_at _ _ h]; exact List.getElem_mem h, by have := cls_R h; rwa [Int.toNat_natCast] at this⟩
            have HNM := hide (numF_none (mv := markV N C m) (reps := repsL (simB N E m (k + 1)) (mt.take p)) (s := (s : Int)) (fun r hrm e => hr ⟨r, hrm, (HMS.out r hrm).1 e⟩))
            rw [← HAR2.out] at HNM
            have HAC2 : Hid (repsL (simB N E m (k + 1)) (mt.take (p + 1)) = repsL (simB N E m (k + 1)) (mt.take p) ++ [(s : Int)]) := by show _ = _; rw [HST2.out, if_neg hncl]
            have HCVE : Hid (clsL (simB N E m (k + 1)) (repsL (simB N E m (k + 1)) (mt.take p)) (s : Int) = (repsL (simB N E m (k + 1)) (mt.take p)).length) := by
              have h1 : clsL (simB N E m (k + 1)) (repsL (simB N E m (k + 1)) (mt.take p)) (s : Int) ≤ (repsL (simB N E m (k + 1)) (mt.take p)).length := List.findIdx_le_length
              show _ = _
              omega
            rw [HCVE.out] at HST1
            clear hr HST2 hncl HCVE
            generalize hacc : repsL (simB N E m (k + 1)) (mt.take p) = acc at HST1 HNM HAC2 G1 hal hal80
            have HLN : Hid ((numF (markV N C m) acc).length = acc.length) := numF_len _ _
            have HPUT : Hid (numF (markV N C m) acc ++ [(Value.agg ar2, .int .i64 (acc.length : Int))] = numF (markV N C m) (acc ++ [(s : Int)])) := by show _ = _; rw [HAR2.out]; exact numF_put _ _ _
            generalize hnl : numF (markV N C m) acc = nl at G1 HNM HLN HPUT
            obtain ⟨L, hL⟩ : ∃ L, acc.length + 1 = L := ⟨_, rfl⟩
            have HLN2 : Hid ((nl ++ [(Value.agg ar2, Value.int .i64 (acc.length : Int))]).length = L) := by show _ = _; rw [List.length_append, HLN.out]; exact hL
            have HTOT : Hid (L ≤ (repsL (simB N E m (k + 1)) mt).length) := by
              have h := (reps_prefix (R := simB N E m (k + 1)) (List.take_prefix (p + 1) mt)).length_le
              rw [HAC2.out, List.length_append, List.length_singleton, hL] at h
              exact h
            clear hacc hnl HMS HACC HSP HSP2 H1 H2
            by_cases h80 : 80 < L
            · have h80i : (80 : Int) < (L : Int) := by omega
              go_wp2_with (first
                | (refine wpList_load_all rfl 91 _ rfl _ rfl _ _ _ _ HBLK.out Try.underlying91 rfl HAI2.out ?_)
                | (at_lookup; refine wpList_look_no _ rfl _ _ 88 rfl 91 3 mark_law Try.underlying88 (HZ.out _) W0.heap.size _ rfl G1.out _ kl rfl HKL.out HNM.out ?_)
                | (at_len; refine wpList_len_at _ rfl _ 88 rfl 91 3 Try.underlying88 W0.heap.size _ rfl G1.out ?_; rw [HLN.out])
                | (at_mapUpdate; refine wpList_put_at _ rfl _ _ _ 88 rfl 91 3 mark_law Try.underlying88 W0.heap.size _ rfl G1.out (by rw [HLN.out]; unfold maxLen; omega) (.agg ar2) (.int .i64 (acc.length : Int)) kl rfl rfl HKL.out HNM.out ?_; intro w3 hmp htn; have HMP := hide hmp; have HTN := hide htn; have hr3 := G2.out.of_block (htn.grown.block _ G2.out.lt (by simp)); have HR3 := hide hr3; have hcs := hr3.cell (i := s) hsn; have hfs := hr3.frozen s; clear hmp htn hr3)
                | (at_len; refine wpList_len_at _ rfl _ 88 rfl 91 3 Try.underlying88 W0.heap.size _ rfl (HMP.out.setCell (by simp) _) ?_; rw [HLN2.out]))
              go_ret2
              refine ⟨fun h => ?_, fun _ => ⟨W0.heap.size + 1, L, h80, by rw [List.length_map, List.length_range]; rfl, ?_⟩⟩
              · have := HTOT.out
                omega
              · exact below_step HB0.out ((below_turned G3.out HTN.out (Nat.le_refl _) G3.out.size).setCell (by simp) _)
            · have h80i : ¬ (80 : Int) < (L : Int) := by omega
              go_wp2_with (first
                | (refine wpList_load_all rfl 91 _ rfl _ rfl _ _ _ _ HBLK.out Try.underlying91 rfl HAI2.out ?_)
                | (at_lookup; refine wpList_look_no _ rfl _ _ 88 rfl 91 3 mark_law Try.underlying88 (HZ.out _) W0.heap.size _ rfl G1.out _ kl rfl HKL.out HNM.out ?_)
                | (at_len; refine wpList_len_at _ rfl _ 88 rfl 91 3 Try.underlying88 W0.heap.size _ rfl G1.out ?_; rw [HLN.out])
                | (at_mapUpdate; refine wpList_put_at _ rfl _ _ _ 88 rfl 91 3 mark_law Try.underlying88 W0.heap.size _ rfl G1.out (by rw [HLN.out]; unfold maxLen; omega) (.agg ar2) (.int .i64 (acc.length : Int)) kl rfl rfl HKL.out HNM.out ?_; intro w3 hmp htn; have HMP := hide hmp; have HTN := hide htn; have hr3 := G2.out.of_block (htn.grown.block _ G2.out.lt (by simp)); have HR3 := hide hr3; have hcs := hr3.cell (i := s) hsn; have hfs := hr3.frozen s; clear hmp htn hr3)
                | (at_len; refine wpList_len_at _ rfl _ 88 rfl 91 3 Try.underlying88 W0.heap.size _ rfl (HMP.out.setCell (by simp) _) ?_; rw [HLN2.out]))
              go_roundw
              case rel =>
                refine ⟨p + 1, by omega, by go_num, by rw [HAC2.out, List.length_append, List.length_singleton]; omega, ?_⟩
                have hmp := HMP.out
                rw [HPUT.out] at hmp
                have hfin := @splAt_store (simB N E m (k + 1)) (markV N C m) mt n W0 p w3 (acc ++ [(s : Int)]) hmp HR3.out (below_turned G3.out HTN.out (Nat.le_refl _) G3.out.size) (Nat.le_trans G4.out HTN.out.grown.size) hlt (by rw [HSI.out]; omega) acc.length (by rw [HSI.out]; exact HST1.out) HAC2.out
                rwa [HSI.out, Int.toNat_natCast] at hfin
              case measure => simp [intOf]; omega
    · have hlti : ¬ ((p : Int) < (mt.length : Int)) := by omega
      obtain rfl : p = mt.length := by omega
      rw [List.take_length] at H1 hal80
      have HLN : Hid ((numF (markV N C m) (repsL (simB N E m (k + 1)) mt)).length = (repsL (simB N E m (k + 1)) mt).length) := numF_len _ _
      have HFIN : Hid (Sl wr (some ⟨W0.heap.size + 1, 0, none⟩) n ((List.range n).map (freshF (simB N E m (k + 1)) mt mt.length))) := by
        refine sl_of_rowIs (by simp) (by unfold maxLen; omega) (fun x hx => ?_) (H2.out.congr fun q hq => ?_)
        · obtain ⟨q, -, rfl⟩ := List.mem_map.1 hx
          unfold freshF
          split
          · rename_i hq
            have h1 := cls_of (simB_eqv N E m (k + 1)) (s := (q : Int)) (List.mem_of_mem_take hq)
            have h2 := reps_count (simB N E m (k + 1)) mt
            exact WalkArith.wf_i64 (by omega)
          · decide
        · simp [List.getD, hq]
      have HBE := hide (below_step HB0.out H3.out)
      generalize hnl : numF (markV N C m) (repsL (simB N E m (k + 1)) mt) = nl at H1 HLN
      clear hnl
      go_wp2_with (at_len; refine wpList_len_at _ rfl _ 88 rfl 91 3 Try.underlying88 W0.heap.size _ rfl H1.out ?_; rw [HLN.out])
      go_ret2
      refine ⟨fun _ => ?_, fun h => by omega⟩
      unfold SplU
      rw [List.length_map, List.length_range]
      exact ⟨W0.heap.size + 1, rfl, by have := HSZ0.out; omega, HFIN.out, HBE.out⟩
end Go.Proofs.Ytebbjmcjgjecmaa

/- least.classes: contract. -/
namespace Go.Proofs.Ytebbjmcjgjecmaa
open Go.RowKit

/-- Which of the first p states are ends. -/
def endF (E : List Bool) (mt : List Int) (p q : Nat) : Int := if (q : Int) ∈ mt.take p ∧ E.getD q false = true then 1 else 0
theorem endF_zero (E : List Bool) (mt : List Int) (q : Nat) : endF E mt 0 q = 0 := by simp [endF]
theorem endF_step {E : List Bool} {mt : List Int} {p : Nat} (hp : p < mt.length) {s : Nat} (hs : mt.getD p 0 = (s : Int)) (q : Nat) : endF E mt (p + 1) q = if q = s ∧ E.getD s false = true then 1 else endF E mt p q := by
  have htake : mt.take (p + 1) = mt.take p ++ [mt.getD p 0] := by rw [List.take_succ_eq_append_getElem hp, getD_at _ p hp]
  unfold endF
  rw [htake, hs]
  by_cases e : q = s
  · subst e
    by_cases h : E.getD q false = true
    · rw [if_pos ⟨by simp, h⟩, if_pos ⟨rfl, h⟩]
    · rw [if_neg (fun h' => h h'.2), if_neg (fun h' => h h'.2), if_neg (fun h' => h h'.2)]
  · rw [if_neg (fun h : q = s ∧ _ => e h.1)]
    have : ((q : Int) ∈ mt.take p ++ [(s : Int)]) ↔ ((q : Int) ∈ mt.take p) := by
      rw [List.mem_append, List.mem_singleton]
      constructor
      · rintro (h | h)
        · exact h
        · exact absurd (by omega) e
      · exact Or.inl
    simp only [this]
theorem lvAt_ends {m n : Nat} {N : List (List Int)} (hG : GoodN m n N) (E : List Bool) : LvAt N E m n 1 ((List.range n).map (endF E (metL N) (metL N).length)) := by
  refine lvAt_one (by simp) fun s hs => ?_
  have hn := met_lt hG hs
  have h0 := ((met_ok hG).2 s hs).1
  have e : ((List.range n).map (endF E (metL N) (metL N).length)).getD s.toNat 0 = endF E (metL N) (metL N).length s.toNat := by simp [List.getD, hn]
  rw [e]
  unfold endF
  rw [List.take_length, show ((s.toNat : Nat) : Int) = s by omega]
  simp only [hs, true_and]

def ClsU (w : World) (N : List (List Int)) (E : List Bool) (m n : Nat) (e : Ending) (w' : World) : Prop :=
  ∃ K bf, (repsL (simB N E m K) (metL N)).length = (repsL (simB N E m (K + 1)) (metL N)).length ∧ e = .returned (.tuple #[.slice (some ⟨bf, 0, none⟩) n n, .nilIface]) ∧ w.heap.size ≤ bf ∧
    Sl w' (some ⟨bf, 0, none⟩) n ((List.range n).map (freshF (simB N E m (K + 1)) (metL N) (metL N).length)) ∧ Below w.heap.size w w'

/-- .. or they are too many. -/
def ClsW (w : World) (N : List (List Int)) (E : List Bool) (m n : Nat) (e : Ending) (w' : World) : Prop :=
  (leastK N E m ≤ 80 → ClsU w N E m n e w') ∧ (80 < leastK N E m → e = .returned (.tuple #[.slice none 0 0, .iface 44 (.int .i64 3)]) ∧ Below w.heap.size w w')
theorem round_least {m n : Nat} {N : List (List Int)} (hG : GoodN m n N) (E : List Bool) {k : Nat} (hl : (repsL (simB N E m k) (metL N)).length = (repsL (simB N E m (k + 1)) (metL N)).length) : (repsL (simB N E m (k + 1)) (metL N)).length = leastK N E m := by
  obtain ⟨-, e1, -, -⟩ := round_stab hG E hl
  rw [← quoN_length (N := N), e1, leastN_len]

set_option maxHeartbeats 8000000 in
set_option maxRecDepth 8000 in
theorem classes_any (b t : Int) (a : Option Addr) (n cap m : Nat) (N : List (List Int)) (a' : Option Addr) (cap' : Nat) (E : List Bool) (ast : Option Addr) (cs : Nat) (w : World) (hs : Sl2 w a n N) (hG : GoodN m n N) (he : SlB w a' n E) (hst : Sl w ast (metL N).length (metL N)) :
    Calls Try.prog 33 #[.agg #[.int .i64 b, .int .i64 t, .slice a n cap, .slice a' n cap'], .slice ast (metL N).length cs] w (ClsW w N E m n) := by
  have hn1 := hG.2.1
  have hn64 := hG.2.2.1
  have hmk := make_ints n (by omega)
  have hB0 : Below w.heap.size w (w.alloc (.cells #[.int .i64 b, .int .i64 t, .slice a n cap, .slice a' n cap'] 25)) := (Below.refl _ _).alloc (Nat.le_refl _) _
  have HB0 := hide hB0
  have HS := hide (sl2_below hs hB0)
  have HE := hide (slB_below he hB0)
  have HST := hide (sl_below hst hB0)
  have HBX := hide (fun W => @box4 w W (.int .i64 b) (.int .i64 t) (.slice a n cap) (.slice a' n cap') 25)
  have HMO := hide (met_ok hG)
  have HSPL := hide (fun ac cc k C W h1 h2 h3 hk hC => lsplit_any b t a n cap m N (.slice a' n cap') E ast cs ac cc k C W h1 hG h2 h3 hk hC)
  have HLV := hide (lvAt_ends hG E)
  have HCF := hide (fun k => lvAt_of (cAt_fresh hG E k))
  have HRM := hide (fun k h => @round_more m n N hG E k h)
  have HRZ := hide (fun k => (reps_zero (R := simB N E m k) hG).1)
  have HRB := hide (fun k => reps_bound hG E k)
  have HRL := hide (fun k h => @round_least m n N hG E k h)
  have hml := met_len hG
  clear hs hst he hG hB0
  have HML : Hid (∀ k, (repsL (simB N E m k) (metL N)).length ≤ n) := fun k => Nat.le_trans (reps_count _ _) hml
  unfold ClsW ClsU
  generalize hmt : metL N = mt at HST HMO HSPL HLV HCF HRM HRZ HRB HRL hml HML ⊢
  generalize leastK N E m = LK at HRB HRL ⊢
  have HMT := hide hmt
  clear hmt
  generalize hW0 : w.alloc (.cells #[.int .i64 b, .int .i64 t, .slice a n cap, .slice a' n cap'] 25) = W0 at HB0 HS HST HE HBX
  have HSZ0 : Hid (W0.heap.size = w.heap.size + 1) := by show _ = _; rw [← hW0]; simp
  have hbx := HBX.out W0 (Below.refl _ _)
  obtain ⟨hx0, hx1, hx2, hx3⟩ := hbx
  have HP0 : Hid (((W0.alloc (.cells (madeCells #[.int .i64 0] n) 3)).rowIs W0.heap.size 3 n fun q => .int .i64 (endF E mt 0 q)) ∧ Below W0.heap.size W0 (W0.alloc (.cells (madeCells #[.int .i64 0] n) 3))) :=
    ⟨(World.rowIs_made W0 (.int .i64 0) n 3).congr fun q _ => by rw [endF_zero], (Below.refl _ _).alloc (Nat.le_refl _) _⟩
  go_enter Try.func33, Try.ntmps33
  go_wp2
  clear hW0 hx0 hx1 hx2 hx3
  generalize W0.alloc (.cells (madeCells #[.int .i64 0] n) 3) = W1 at HP0 ⊢
  go_loopw [18] (fun i wx => ∃ p : Nat, p ≤ mt.length ∧ i = .int .i64 p ∧ (wx.rowIs W0.heap.size 3 n fun q => .int .i64 (endF E mt p q)) ∧ Below W0.heap.size W0 wx) (fun i _ => mt.length - (intOf i).toNat)
  case atStart => exact ⟨0, by omega, rfl, HP0.out⟩
  case round =>
    obtain ⟨p, hp, rfl, hrw, hbw⟩ := hrel
    have HRW := hide hrw
    have HBW := hide hbw
    clear hrw hbw
    by_cases hlt : p < mt.length
    · have hlti : (p : Int) < (mt.length : Int) := by omega
      obtain ⟨bs, os, rfl, hcm⟩ := sl_cell (sl_below HST.out HBW.out) p hlt
      have hsm : mt.getD p 0 ∈ mt := by rw [getD_at _ p hlt]; exact List.getElem_mem _
      have hsr := HMO.out.2 _ hsm
      obtain ⟨s, hs⟩ : ∃ s : Nat, mt.getD p 0 = s := ⟨(mt.getD p 0).toNat, by omega⟩
      rw [hs] at hcm hsr
      have hsn : s < n := by omega
      have hsni : (s : Int) < (n : Int) := by omega
      have HST1 := hide (fun q => endF_step (E := E) hlt hs q)
      obtain ⟨be, oe, rfl, hce⟩ := slB_cell (slB_below HE.out HBW.out) s hsn
      obtain ⟨hx0, hx1, hx2, hx3⟩ := HBX.out wr HBW.out
      have hcs := HRW.out.cell (i := s) hsn
      have hfs := HRW.out.frozen s
      clear hs hsm hsr hx0 hx1 hx2
      generalize E.getD s false = ev at hce HST1
      rcases ev with _ | _
      · go_wp2
        go_roundw
        case rel => exact ⟨p + 1, by omega, by go_num, HRW.out.congr fun q hq => by rw [HST1.out q, if_neg (by simp)], HBW.out⟩
        case measure => simp [intOf]; omega
      · go_wp2
        go_roundw
        case rel => exact ⟨p + 1, by omega, by go_num, (HRW.out.set _ _).congr fun q hq => by rw [HST1.out q]; simp only [and_true]; split <;> rfl, HBW.out.setCell (Nat.le_refl _) _⟩
        case measure => simp [intOf]; omega
    · have hlti : ¬ ((p : Int) < (mt.length : Int)) := by omega
      obtain rfl : p = mt.length := by omega
      have HS0 : Hid (Sl wr (some ⟨W0.heap.size, 0, none⟩) n ((List.range n).map (endF E mt mt.length))) := by
        refine sl_of_rowIs (by simp) (by unfold maxLen; omega) (fun x hx => ?_) (HRW.out.congr fun q hq => ?_)
        · obtain ⟨q, -, rfl⟩ := List.mem_map.1 hx
          unfold endF
          split <;> decide
        · simp [List.getD, hq]
      have HBW0 := hide HBW.out
      clear HRW HBW HP0
      go_wp2
      go_loopg [6, 9] (n + 1) (fun g c bv wx => ∃ (k : Nat) (C : List Int) (before bc : Nat), g = n + 1 - before ∧ 1 ≤ k ∧ before = (if k = 1 then 0 else (repsL (simB N E m k) mt).length) ∧ LvAt N E m n k C ∧ c = .slice (some ⟨bc, 0, none⟩) n n ∧ bv = .int .i64 before ∧ Sl wx (some ⟨bc, 0, none⟩) n C ∧ Below W0.heap.size W0 wx)
      case atStart => exact ⟨1, _, 0, W0.heap.size, rfl, by omega, rfl, HLV.out, rfl, rfl, HS0.out, HBW0.out⟩
      case round =>
        obtain ⟨k, C, before, bc, hgk, hk1, hbef, hC, rfl, rfl, hsc, hbw⟩ := hrel
        have HGK := hide hgk
        have HBF := hide hbef
        have HC := hide hC
        have HBW := hide hbw
        have hbb : before ≤ n := by
          rw [hbef]
          split
          · omega
          · exact HML.out k
        obtain ⟨hx0, hx1, hx2, hx3⟩ := HBX.out _ hbw
        have HCALL := hide (HSPL.out (some ⟨bc, 0, none⟩) n k C _ (sl2_below HS.out hbw) (sl_below HST.out hbw) hsc hk1 hC)
        unfold SplW SplU at HCALL
        rw [List.length_map, List.length_range] at HCALL
        have hml1 := HML.out (k + 1)
        have HRBk := hide (HRB.out (k + 1))
        clear hgk hbef hC hsc hbw HS0 HBW0 HLV
        by_cases h80 : 80 < (repsL (simB N E m (k + 1)) mt).length
        · have HFULL : Hid (80 < LK) := Nat.lt_of_lt_of_le h80 HRBk.out
          go_wp2_with (go_at_call 45; refine HCALL.out.mono ?_; rintro e w4 ⟨-, hh⟩; obtain ⟨bf, j, hj80, rfl, hb4⟩ := hh h80; have HB4 := hide hb4; have hj80i : (80 : Int) < (j : Int) := (by omega); clear hh hb4)
          go_ret2
          refine ⟨fun h => ?_, fun _ => ⟨by simp, below_step HB0.out (below_step HBW.out HB4.out)⟩⟩
          have := HFULL.out
          omega
        have h80i : ¬ (80 : Int) < ((repsL (simB N E m (k + 1)) mt).length : Int) := by omega
        have H80 := hide (Nat.le_of_not_lt h80)
        by_cases hst : (repsL (simB N E m (k + 1)) mt).length = before
        · have hst' : (((repsL (simB N E m (k + 1)) mt).length : Int) == (before : Int)) = true := by simp; omega
          have HEQ : Hid ((repsL (simB N E m k) mt).length = (repsL (simB N E m (k + 1)) mt).length) := by
            have h := HBF.out
            by_cases h1 : k = 1
            · rw [if_pos h1] at h
              have := HRZ.out (k + 1)
              show _ = _
              omega
            · rw [if_neg h1] at h
              show _ = _
              omega
          go_wp2_with (go_at_call 45; refine HCALL.out.mono ?_; rintro e w4 ⟨hh, -⟩; obtain ⟨bf, rfl, hbf, hsl, hb4⟩ := hh H80.out; clear hh; have HSL := hide hsl; have HB4 := hide hb4; have HBFl := hide hbf; clear hsl hb4 hbf)
          go_ret2
          refine ⟨fun _ => ⟨k, bf, HEQ.out, by simp, ?_, HSL.out, below_step HB0.out (below_step HBW.out HB4.out)⟩, fun h => ?_⟩
          rotate_left
          · have h1 := HRL.out k HEQ.out
            have h2 := H80.out
            omega
          have h1 := HBFl.out
          have h2 := HBW.out.size
          have h3 := HSZ0.out
          omega
        · have hst' : (((repsL (simB N E m (k + 1)) mt).length : Int) == (before : Int)) = false := by simp; omega
          have HLT : Hid (before < (repsL (simB N E m (k + 1)) mt).length) := by
            have h := HBF.out
            show _ < _
            by_cases h1 : k = 1
            · rw [if_pos h1] at h
              have := HRZ.out (k + 1)
              omega
            · rw [if_neg h1] at h
              have := HRM.out k (by omega)
              omega
          generalize hrl : (repsL (simB N E m (k + 1)) mt).length = rl at hst hst' HLT HCALL hml1 h80 h80i H80 HRBk
          have HRL := hide hrl
          clear hrl
          go_wp2_with (go_at_call 45; refine HCALL.out.mono ?_; rintro e w4 ⟨hh, -⟩; obtain ⟨bf, rfl, hbf, hsl, hb4⟩ := hh H80.out; clear hh; have HSL := hide hsl; have HB4 := hide hb4; have HBFl := hide hbf; clear hsl hb4 hbf)
          go_roundg (n + 1 - rl)
          case rel => exact ⟨k + 1, _, rl, bf, rfl, by omega, by rw [if_neg (by omega), HRL.out], HCF.out (k + 1), rfl, rfl, HSL.out, below_step HBW.out HB4.out⟩
          case measure => have h1 := HGK.out; have h2 := HLT.out; omega
end Go.Proofs.Ytebbjmcjgjecmaa
