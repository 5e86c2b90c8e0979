/- The reference's Earliest: the walk. -/
import Derived.Test.YtihhlddbppljpabDoorCj
namespace Go.Proofs.YtihhlddbppljpabDoor
open Go.RowKit

theorem owns_lit (w : World) (x : Int) : (w.alloc (.cells #[.int .i64 x] 3)).ownsRow w.heap.size 3 1 (.slice (some ⟨w.heap.size, 0, none⟩) 1 1) [x].length ([x].map (Value.int .i64)) :=
  ⟨rfl, Or.inr ⟨w.heap.size, 1, #[.int .i64 x], rfl, Nat.le_refl _, heap_alloc_last _ _, Nat.le_refl _, by decide, rfl, rfl⟩⟩
theorem owns_lower {w : World} {base base' : Nat} {e : TypeId} {v : Value} {n : Nat} {xs : List Value} (h : w.ownsRow base e 1 v n xs) (hb : base' ≤ base) : w.ownsRow base' e 1 v n xs := by
  obtain ⟨h1, h2⟩ := h
  refine ⟨h1, ?_⟩
  rcases h2 with h2 | ⟨g, cap, cur, rfl, hg, r⟩
  · exact Or.inl h2
  · exact Or.inr ⟨g, cap, cur, rfl, Nat.le_trans hb hg, r⟩
theorem owns_none {w : World} {base : Nat} {e : TypeId} {n : Nat} {xs : List Value} {a : Option Addr} {len cap : Nat} (h : w.ownsRow base e 1 (.slice a len cap) n xs) : a = none → cap = 0 := by
  intro ha
  subst ha
  rcases h.2 with ⟨h1, _⟩ | ⟨_, _, _, h1, _⟩
  · cases h1; rfl
  · cases h1

set_option maxHeartbeats 8000000 in
set_option maxRecDepth 8000 in
theorem earliest_any (a : Option Addr) (n cap m : Nat) (N : List (List Int)) (a' : Option Addr) (cap' : Nat) (E : List Bool) (w : World) (hs : Sl2 w a n N) (hG : GoodN m n N) (he : SlB w a' n E) :
    Calls Tryd.prog 21 #[.slice a n cap, .slice a' n cap'] w (FirstU w (firstP N E)) := by
  have hn1 := hG.2.1
  have hn64 := hG.2.2.1
  have hm36 := hG.2.2.2.1
  have hmk := make_ints n (by omega)
  have HS := hide hs
  have HE := hide he
  have HG := hide hG
  have HME := hide (fun W h => met_any a n cap m N W h hG)
  unfold GivesRow at HME
  have hml := met_len hG
  have HMO := hide (met_ok hG)
  have HMP := hide (met_metP hG)
  have HMU := hide (fun i h => @met_outsP m n N hG i h)
  have HST : Hid (OkP N m (metP N)) := by have := (stP hG n).1; unfold metP; rw [hG.1]; exact this
  have HBP : Hid (BackP (metP N)) := backP_outs N _
  have HLP : Hid (LenP (metP N)) := lenP_outs N _
  have H0 : Hid (((w.alloc (.cells (madeCells #[.int .i64 0] n) 3)).alloc (.cells (madeCells #[.int .i64 0] n) 3)).rowIs w.heap.size 3 n (fun q => .int .i64 (if q < 0 then -1 else 0)) ∧ ((w.alloc (.cells (madeCells #[.int .i64 0] n) 3)).alloc (.cells (madeCells #[.int .i64 0] n) 3)).rowIs (w.heap.size + 1) 3 n (fun _ => .int .i64 0) ∧ Below w.heap.size w ((w.alloc (.cells (madeCells #[.int .i64 0] n) 3)).alloc (.cells (madeCells #[.int .i64 0] n) 3)) ∧ w.heap.size + 2 ≤ ((w.alloc (.cells (madeCells #[.int .i64 0] n) 3)).alloc (.cells (madeCells #[.int .i64 0] n) 3)).heap.size) := by
    refine ⟨((World.rowIs_made w (.int .i64 0) n 3).alloc _).congr fun q _ => by simp, ?_, ((Below.refl _ _).alloc (Nat.le_refl _) _).alloc (by simp) _, by simp⟩
    have := World.rowIs_made (w.alloc (.cells (madeCells #[.int .i64 0] n) 3)) (.int .i64 0) n 3
    rwa [World.size_alloc] at this
  clear hs he hG
  go_enter Tryd.func21, Tryd.ntmps21
  go_wp2
  generalize (w.alloc (.cells (madeCells #[.int .i64 0] n) 3)).alloc (.cells (madeCells #[.int .i64 0] n) 3) = w0 at H0 ⊢
  go_loopw [8] (fun i wx => ∃ k : Nat, k ≤ n ∧ i = .int .i64 k ∧ (wx.rowIs w.heap.size 3 n fun q => .int .i64 (if q < k then -1 else 0)) ∧ (wx.rowIs (w.heap.size + 1) 3 n fun _ => .int .i64 0) ∧ Below w.heap.size w wx ∧ w.heap.size + 2 ≤ wx.heap.size) (fun i _ => n - (intOf i).toNat)
  case atStart => exact ⟨0, by omega, rfl, H0.out⟩
  case round =>
    obtain ⟨k, hk, rfl, h1, h2, h3, h4⟩ := hrel
    have H1 := hide h1
    have H2 := hide h2
    have H3 := hide h3
    have H4 := hide h4
    clear h1 h2 h3 h4
    by_cases hlt : k < n
    · have hlti : (k : Int) < (n : Int) := by omega
      have hc := H1.out.cell (i := k) hlt
      have hf := H1.out.frozen k
      rw [if_neg (Nat.lt_irrefl _)] at hc
      go_wp2
      go_roundw
      case rel =>
        refine ⟨k + 1, by omega, by go_num, (H1.out.set _ _).congr fun q hq => ?_, H2.out.of_block (Below.heap_setCell _ _ _ _ (by simp)), H3.out.setCell (Nat.le_refl _) _, by simp [World.setCell]; exact H4.out⟩
        by_cases e : q = k
        · rw [if_pos e, if_pos (by omega)]
        · rw [if_neg e]
          congr 1
          by_cases e2 : q < k
          · rw [if_pos e2, if_pos (by omega)]
          · rw [if_neg e2, if_neg (by omega)]
      case measure => simp [intOf]; omega
    · have hlti : ¬ ((k : Int) < (n : Int)) := by omega
      obtain rfl : k = n := by omega
      have HCALL := hide (HME.out wr (sl2_below HS.out H3.out))
      clear H0 HME
      go_wp2_with fail
      refine HCALL.out.mono ?_
      rintro e w2 ⟨am, cm, rfl, hsm, hb2⟩
      have HSM := hide hsm
      have HEA : Hid (EaAt N k w w2 (outsP N 0) w2) := by
        refine ⟨(H1.out.of_block (hb2.block _ H1.out.lt)).congr fun q hq => ?_, (H2.out.of_block (hb2.block _ H2.out.lt)).congr fun q hq => ?_, H3.out.trans (hb2.mono H3.out.size), fun _ _ _ _ => rfl, Nat.le_refl _⟩
        · rw [if_pos hq]
          simp only [fromF, outsP, entP, List.find?_cons, List.find?_nil]
          by_cases e : (0 : Int) == (q : Int)
          · simp [e]
          · simp [e]
        · simp only [howF, outsP, entP, List.find?_cons, List.find?_nil]
          by_cases e : (0 : Int) == (q : Int)
          · simp [e]
          · simp [e]
      obtain ⟨wb, hwb⟩ : ∃ wb : World, wb = wr := ⟨_, rfl⟩
      rw [← hwb] at HSM H4
      clear hsm hb2 H1 H2 H3 HCALL hwb
      generalize hmt : metL N = mt at HSM HMO HMP HMU hml
      clear hmt
      go_wp2
      clear wr
      go_loopw [10] (fun iv wx => ∃ i : Nat, i ≤ mt.length ∧ iv = .int .i64 i ∧ EaAt N k w w2 (outsP N i) wx) (fun iv _ => mt.length - (intOf iv).toNat)
      case atStart => exact ⟨0, by omega, rfl, HEA.out⟩
      case round =>
        obtain ⟨i, hi, rfl, hea⟩ := hrel
        have HE1 := hide hea
        clear hea
        by_cases hlt2 : i < mt.length
        · have hlti2 : (i : Int) < (mt.length : Int) := by omega
          obtain ⟨hil, hmi⟩ := HMU.out i hlt2
          have HIL := hide hil
          obtain ⟨bm, om, rfl, hcm⟩ := sl_cell (eaAt_sl HE1.out HSM.out H4.out) i hlt2
          have hsr := HMO.out.2 (mt.getD i 0) (by rw [getD_at _ i hlt2]; exact List.getElem_mem _)
          obtain ⟨s, hs⟩ : ∃ s : Nat, mt.getD i 0 = s := ⟨(mt.getD i 0).toNat, by omega⟩
          rw [hs] at hcm hsr hmi
          have hsn : s < k := by omega
          have hsni : (s : Int) < (k : Int) := by omega
          have HSM1 := hide hmi
          have HRUN : Hid (runL N ((outsP N i).getD i (0, [])).2 = s) := by
            have := ((stP HG.out i).1.run _ (getD_memP hil)).2.2
            rw [← hmi, Int.toNat_natCast] at this
            exact this
          have HHS := hide hs
          have hrowg := HG.out.2.2.2.2.2 s hsn
          obtain ⟨bn, on, an, cn, rfl, hcn, hsn0⟩ := sl2_cell (sl2_below HS.out HE1.out.2.2.1) s hsn
          obtain ⟨bn', on', an', cn', e1, hcn', hsnW⟩ := sl2_cell HS.out s hsn
          have ean : an' = an ∧ cn' = cn := by
            cases e1
            have h1 := HE1.out.2.2.1.cell (p := ⟨bn, on + s, none⟩) (World.block_lt_of_cell? w _ hcn')
            rw [hcn, hcn'] at h1
            injection h1 with h1
            injection h1 with h1 h2 h3
            exact ⟨h1.symm, h3.symm⟩
          obtain ⟨rfl, rfl⟩ := ean
          cases e1
          rw [hrowg.1] at hcn hsn0 hsnW
          have HSNW := hide hsnW
          have HRL : Hid ((N.getD ((outsP N i).getD i (0, [])).1.toNat []).length = m) := by show _ = _; rw [← hmi, Int.toNat_natCast]; exact hrowg.1
          have HRG : Hid (∀ l, l < m → (N.getD ((outsP N i).getD i (0, [])).1.toNat []).getD l 0 = (N.getD s []).getD l 0) := fun l _ => by rw [← hmi, Int.toNat_natCast]
          have HEZ : Hid (EaAt N k w w2 (rowP N i 0) wr) := by show EaAt _ _ _ _ _ _; rw [rowP_zero]; exact HE1.out
          clear hs hsr hmi hil hrowg hcn' hsn0 hsnW
          go_wp2
          clear hcm hcn HE1
          go_loopw [12] (fun lv wx => ∃ l : Nat, l ≤ m ∧ lv = .int .i64 l ∧ EaAt N k w w2 (rowP N i l) wx) (fun lv _ => m - (intOf lv).toNat)
          case atStart => exact ⟨0, by omega, rfl, HEZ.out⟩
          case round =>
            obtain ⟨l, hl, rfl, hea⟩ := hrel
            have HE2 := hide hea
            clear hea
            by_cases hlm : l < m
            · have hlmi : (l : Int) < (m : Int) := by omega
              obtain ⟨b1, o1, rfl, hcx⟩ := sl_cell (sl_below HSNW.out HE2.out.2.2.1) l hlm
              have hnx := nxt_cell HG.out hsn hlm
              rw [hnx.2] at hcx
              have HXV : Hid ((N.getD ((outsP N i).getD i (0, [])).1.toNat []).getD l 0 = ((nxt N s l : Nat) : Int)) := by show _ = _; rw [HRG.out l hlm]; exact hnx.2
              have hxk := hnx.1
              have hxki : ((nxt N s l : Nat) : Int) < (k : Int) := by omega
              obtain ⟨bm', om', em, hcm⟩ := sl_cell (eaAt_sl HE2.out HSM.out H4.out) i hlt2
              cases em
              rw [HHS.out] at hcm
              clear hnx
              generalize nxt N s l = x at hcx HXV hxk hxki
              have hcf := HE2.out.1.cell (i := x) hxk
              have hff := HE2.out.1.frozen x
              have hch := HE2.out.2.1.cell (i := x) hxk
              have hfh := HE2.out.2.1.frozen x
              have HOP := hide (rowP_okP HG.out (l := l) HIL.out (by omega))
              have HBK := hide (rowP_back (N := N) (l := l) HIL.out)
              by_cases hmet : (x : Int) ∈ (rowP N i l).map Prod.fst
              · have HSAME : Hid (rowP N i (l + 1) = rowP N i l) := rowP_met (by have := HRL.out; omega) HXV.out hmet
                by_cases hx0 : x = 0
                · subst hx0
                  clear hcf hff hch hfh
                  go_wp2
                  go_roundw
                  case rel => exact ⟨l + 1, by omega, by go_num, by rw [HSAME.out]; exact HE2.out⟩
                  case measure => simp [intOf]; omega
                · have hx0' : ((x : Int) != 0) = true := by simp; omega
                  have hge := fromF_yes HOP.out HBK.out hmet hx0
                  generalize fromF N (rowP N i l) x = fv at hcf hge
                  have hfv : ¬ fv < 0 := by omega
                  clear hch hfh hff hge hmet
                  go_wp2
                  go_roundw
                  case rel => exact ⟨l + 1, by omega, by go_num, by rw [HSAME.out]; exact HE2.out⟩
                  case measure => simp [intOf]; omega
              · have HNEW := hide (rowP_new (by have := HRL.out; omega) HXV.out hmet)
                have hx0 : x ≠ 0 := fun e => hmet (by rw [e]; exact List.mem_map.2 ⟨_, HBK.out.2.2, rfl⟩)
                have hx0' : ((x : Int) != 0) = true := by simp; omega
                rw [fromF_no hmet] at hcf
                have HPUT := hide (fun wx h => @eaAt_put N k w w2 (rowP N i l) wx x l s ((outsP N i).getD i (0, [])).2 h hmet HRUN.out)
                generalize howF (rowP N i l) x = hv at hch
                have hb1 : b1 ≠ w.heap.size := by
                  have h1 : b1 < w.heap.size := by
                    obtain ⟨_, _, e, hc⟩ := sl_cell HSNW.out l hlm
                    cases e
                    exact World.block_lt_of_cell? w _ hc
                  omega
                have hcx2 : (wr.setCell ⟨w.heap.size, x, none⟩ (.int .i64 (s : Int))).drew.cell? ⟨b1, o1 + l, none⟩ = some (.int .i64 (x : Int)) := by
                  show (wr.setCell ⟨w.heap.size, x, none⟩ (.int .i64 (s : Int))).cell? ⟨b1, o1 + l, none⟩ = _
                  rw [World.cell?_of_block (w := wr) (a := ⟨b1, o1 + l, none⟩) (Below.heap_setCell _ _ _ _ hb1)]
                  exact hcx
                have hch2 : (wr.setCell ⟨w.heap.size, x, none⟩ (.int .i64 (s : Int))).drew.cell? ⟨w.heap.size + 1, x, none⟩ = some (.int .i64 hv) := by
                  show (wr.setCell ⟨w.heap.size, x, none⟩ (.int .i64 (s : Int))).cell? ⟨w.heap.size + 1, x, none⟩ = _
                  rw [World.cell?_of_block (w := wr) (a := ⟨w.heap.size + 1, x, none⟩) (Below.heap_setCell _ _ _ _ (by simp))]
                  exact hch
                have hfh2 : (wr.setCell ⟨w.heap.size, x, none⟩ (.int .i64 (s : Int))).drew.frozen? ⟨w.heap.size + 1, x, none⟩ = false := by
                  show (wr.setCell ⟨w.heap.size, x, none⟩ (.int .i64 (s : Int))).frozen? ⟨w.heap.size + 1, x, none⟩ = _
                  rw [World.frozen?_of_block (w := wr) (a := ⟨w.heap.size + 1, x, none⟩) (Below.heap_setCell _ _ _ _ (by simp))]
                  exact hfh
                have HFIN : Hid (EaAt N k w w2 (rowP N i (l + 1)) (((wr.setCell ⟨w.heap.size, x, none⟩ (.int .i64 (s : Int))).drew).setCell ⟨w.heap.size + 1, x, none⟩ (.int .i64 (l : Int)))) := by
                  show EaAt _ _ _ _ _ _
                  rw [HNEW.out]
                  exact HPUT.out wr.drew (eaAt_drew HE2.out 1)
                have HCX2 := hide hcx2
                have HCH2 := hide hch2
                have HFH2 := hide hfh2
                clear hmet hcx2 hch2 hfh2 HPUT hch hfh
                go_wp2
                go_region
                all_goals
                  have hcx2 := HCX2.out
                  have hch2 := HCH2.out
                  have hfh2 := HFH2.out
                  generalize (wr.setCell ⟨w.heap.size, x, none⟩ (.int .i64 (s : Int))).drew = wR at hcx2 hch2 hfh2 HFIN ⊢
                  clear hcx hcf hff hcm
                  go_wp2
                  go_roundw
                  case rel => exact ⟨l + 1, by omega, by go_num, HFIN.out⟩
                  case measure => simp [intOf]; omega
            · have hlmi : ¬ ((l : Int) < (m : Int)) := by omega
              obtain rfl : m = l := by omega
              have HNX : Hid (EaAt N k w w2 (outsP N (i + 1)) wr) := by
                have e := rowP_end HIL.out
                rw [HRL.out] at e
                show EaAt _ _ _ _ _ _
                rw [← e]
                exact HE2.out
              go_wp2
              go_roundw
              case rel => exact ⟨i + 1, by omega, by go_num, HNX.out⟩
              case measure => simp [intOf]; omega
        · have hlti2 : ¬ ((i : Int) < (mt.length : Int)) := by omega
          obtain rfl : i = mt.length := by omega
          rw [HMP.out.1] at HE1
          have HLN : Hid ((metP N).length = mt.length) := by show _ = _; rw [← HMP.out.2, List.length_map]
          have HFST : Hid (∀ j, ((metP N).getD j (0, [])).1 = mt.getD j 0) := fun j => by rw [fst_get, HMP.out.2]
          clear HEA
          go_wp2
          obtain ⟨wE, hwE⟩ : ∃ wE : World, wE = wr := ⟨_, rfl⟩
          rw [← hwE] at HE1 ⊢
          clear hwE wr
          go_loop [13] (fun iv => ∃ i : Nat, i ≤ mt.length ∧ iv = .int .i64 i ∧ ∀ j, j < i → E.getD ((metP N).getD j (0, [])).1.toNat false = false) (fun iv => mt.length - (intOf iv).toNat)
          case atStart => exact ⟨0, by omega, rfl, by omega⟩
          case round =>
            obtain ⟨i, hi3, rfl, hno⟩ := hrel
            have HNO := hide hno
            clear hno
            by_cases hlt3 : i < mt.length
            · have hlti3 : (i : Int) < (mt.length : Int) := by omega
              obtain ⟨bm, om, rfl, hcm⟩ := sl_cell (eaAt_sl HE1.out HSM.out H4.out) i hlt3
              have hsr := HMO.out.2 (mt.getD i 0) (by rw [getD_at _ i hlt3]; exact List.getElem_mem _)
              obtain ⟨s, hs⟩ : ∃ s : Nat, mt.getD i 0 = s := ⟨(mt.getD i 0).toNat, by omega⟩
              rw [hs] at hcm hsr
              have hsn : s < k := by omega
              have hsni : (s : Int) < (k : Int) := by omega
              obtain ⟨be, oe, rfl, hce⟩ := slB_cell (slB_below HE.out HE1.out.2.2.1) s hsn
              have HPS : Hid (((metP N).getD i (0, [])).1 = (s : Int)) := by show _ = _; rw [HFST.out, hs]
              clear hs hsr
              cases hev : E.getD s false with
              | false =>
                rw [hev] at hce
                have HEV : Hid (∀ j, j < i + 1 → E.getD ((metP N).getD j (0, [])).1.toNat false = false) := fun j hj => by
                  by_cases e : j = i
                  · subst e; rw [HPS.out, Int.toNat_natCast]; exact hev
                  · exact HNO.out j (by omega)
                clear hev
                go_wp2
                go_round
                case rel => exact ⟨i + 1, by omega, by go_num, HEV.out⟩
                case measure => simp [intOf]; omega
              | true =>
                rw [hev] at hce
                have hil : i < (metP N).length := by have := HLN.out; omega
                have HFP := hide (find_at hil HNO.out (by rw [HPS.out, Int.toNat_natCast]; exact hev))
                have hmem := getD_memP hil
                have hr := (HST.out.run _ hmem)
                have HWF : Hid (∀ z ∈ ((metP N).getD i (0, [])).2, (Lit.int .i64 z).wf = true) := fun z hz => WalkArith.wf_i64 (by have := hr.1 z hz; omega)
                have HUL : Hid (((metP N).getD i (0, [])).2.length ≤ 6400) := by have h1 := lenP_mem HLP.out hmem; have h2 := HLN.out; show _ ≤ _; omega
                have HBF := hide (fun j hj => @back_from N m (metP N) HST.out HBP.out _ hmem j hj)
                have HWZ := hide (fun j hj h => @way_zero N m (metP N) HST.out HBP.out _ hmem j hj h)
                have HLT : Hid (∀ j, j ≤ ((metP N).getD i (0, [])).2.length → runL N (((metP N).getD i (0, [])).2.take j) < k) := fun j hj => by
                  have h1 := way_at HST.out HBP.out hmem hj
                  have h2 := HMO.out.2 _ (by rw [← HMP.out.2]; exact List.mem_map_of_mem h1)
                  show _ < _
                  omega
                have HRS : Hid (runL N ((metP N).getD i (0, [])).2 = s) := by have := hr.2.2; rw [HPS.out, Int.toNat_natCast] at this; exact this
                clear hev hmem hr hil HPS
                generalize (metP N).getD i (0, []) = pp at HFP HWF HUL HBF HWZ HLT HRS
                generalize hu : pp.2 = u at HWF HUL HBF HWZ HLT HRS
                have HU := hide hu
                clear hu
                go_wp2
                obtain ⟨wq, hwq⟩ : ∃ wq : World, wq = wE := ⟨_, rfl⟩
                go_loopg [14, 15] u.length (fun g v sv wx => ∃ j : Nat, g = j ∧ j ≤ u.length ∧ sv = .int .i64 (runL N (u.take j) : Int) ∧ wx.ownsRow wE.heap.size 3 1 v (u.drop j).length ((u.drop j).map (Value.int .i64)) ∧ Below wE.heap.size wE wx)
                case atStart => exact ⟨u.length, rfl, Nat.le_refl _, by rw [List.take_length, HRS.out], by simpa using World.ownsRow_nil _ _ _ _, Below.refl _ _⟩
                case round =>
                  obtain ⟨j, hgj, hj, rfl, hown, hbw⟩ := hrel
                  have HGJ := hide hgj
                  have HOWN := hide hown
                  have HBW := hide hbw
                  clear hgj hown hbw
                  by_cases hj0 : j = 0
                  · subst hj0
                    obtain ⟨aw, cw, rfl, hsw⟩ := sl_of_owns rfl (by unfold maxLen; have := HUL.out; simp; omega) (by rw [List.drop_zero]; exact HWF.out) HOWN.out
                    have HSW := hide hsw
                    have hr0 : runL N (u.take 0) = 0 := by simp [runL]
                    rw [hr0]
                    rw [List.drop_zero] at HSW ⊢
                    clear hsw
                    go_wp2
                    go_ret2
                    rw [HFP.out]
                    refine ⟨aw, cw, by simp [wordO, HU.out], ?_, HE1.out.2.2.1.trans (HBW.out.mono HE1.out.2.2.1.size)⟩
                    show SlN _ _ _ (wordO (some pp)).length (wordO (some pp))
                    unfold wordO
                    simp only [HU.out]
                    exact HSW.out.mono HE1.out.2.2.1.size
                  · obtain ⟨j', hj'⟩ : ∃ j', j = j' + 1 := ⟨j - 1, by omega⟩
                    rw [hj'] at hj HOWN ⊢
                    have HJ := hide hj'
                    obtain ⟨hb1, hb2⟩ := HBF.out j' hj
                    have hsl := HLT.out (j' + 1) hj
                    have hne : ((runL N (u.take (j' + 1)) : Int) != 0) = true := by
                      simp
                      intro e
                      have := HWZ.out (j' + 1) hj (by omega)
                      omega
                    have hsli : ((runL N (u.take (j' + 1)) : Nat) : Int) < (k : Int) := by omega
                    have hcF := (HE1.out.1.of_block (HBW.out.block _ HE1.out.1.lt)).cell (i := runL N (u.take (j' + 1))) hsl
                    have hcH := (HE1.out.2.1.of_block (HBW.out.block _ HE1.out.2.1.lt)).cell (i := runL N (u.take (j' + 1))) hsl
                    rw [hb1] at hcF
                    rw [hb2] at hcH
                    have HDR : Hid (u.drop j' = u.getD j' 0 :: u.drop (j' + 1)) := by show _ = _; rw [List.drop_eq_getElem_cons hj, getD_at _ j' hj]
                    obtain ⟨aw, cw, rfl, hsw⟩ := sl_of_owns rfl (by unfold maxLen; have := HUL.out; simp; omega) (fun z hz => HWF.out z (List.mem_of_mem_drop hz)) HOWN.out
                    have HSW := hide hsw.1
                    have HNN := hide (owns_none HOWN.out)
                    have hdl : (u.drop (j' + 1)).length ≤ 6400 := by have := HUL.out; simp; omega
                    have HLF := hide HE1.out.1.lt
                    have hBx := HBW.out.size
                    clear hj' hj0 hb1 hb2 hsl hsw
                    generalize hsx : runL N (u.take (j' + 1)) = sx at hne hsli hcF hcH
                    generalize hsy : runL N (u.take j') = sy at hcF
                    have HSY := hide hsy
                    clear hsx hsy
                    generalize u.getD j' 0 = z at hcH HDR
                    have hcF2 : ∀ o : Obj, (wr.alloc o).cell? ⟨w.heap.size, sx, none⟩ = some (.int .i64 (sy : Int)) := fun o => (((Below.refl wr.heap.size wr).alloc (Nat.le_refl _) o).cell (p := ⟨w.heap.size, sx, none⟩) (World.block_lt_of_cell? wr _ hcF)).trans hcF
                    have HCF2 := hide hcF2
                    generalize hdd : u.drop (j' + 1) = dd at HOWN HSW HNN hdl HDR
                    clear hdd hcF2
                    go_wp2_with (at_builtin; refine wpList_append_sl rfl _ _ rfl wr.heap.size _ [z] rfl (owns_lit wr z) aw dd.length cw dd rfl (sl_below HSW.out ((Below.refl wr.heap.size wr).alloc (Nat.le_refl _) _)) HNN.out (by simp) (by omega) (by simp) ?_; intro v' w3 hown3 hgrow3; have HO3 := hide hown3; have HG3 := hide hgrow3; have hB3 := Below.grown ((Below.refl wr.heap.size wr).alloc (Nat.le_refl _) (.cells #[.int .i64 z] 3)) hgrow3 (by simp) (fun y hy => by cases hy; exact Nat.le_refl _); have HB3 := hide hB3; have hcF3 := (hB3.cell (p := ⟨w.heap.size, sx, none⟩) (World.block_lt_of_cell? wr _ hcF)).trans hcF; clear hown3 hgrow3 hB3)
                    go_roundg j'
                    case rel => exact ⟨j', rfl, by omega, by rw [HSY.out], by rw [HDR.out]; exact owns_lower HO3.out hBx, HBW.out.trans (HB3.out.mono hBx)⟩
                    case measure => have h1 := HGJ.out; have h2 := HJ.out; omega
            · have hlti3 : ¬ ((i : Int) < (mt.length : Int)) := by omega
              obtain rfl : i = mt.length := by omega
              have HFP : Hid (firstP N E = none) := find_no (fun j hj => HNO.out j (by have := HLN.out; omega))
              have HBE := hide HE1.out.2.2.1
              go_wp2
              go_ret2
              rw [HFP.out]
              exact ⟨none, 0, by simp [wordO], ⟨sl_nil _, fun _ h => by cases h⟩, HBE.out⟩
end Go.Proofs.YtihhlddbppljpabDoor
