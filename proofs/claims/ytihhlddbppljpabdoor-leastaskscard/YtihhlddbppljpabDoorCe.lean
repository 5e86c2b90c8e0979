/- least.firstWord: contract, whatever closures are handed in. -/
import Derived.Test.YtihhlddbppljpabDoorCc
import Derived.Test.YtihhlddbppljpabDoorCd
namespace Go.Proofs.YtihhlddbppljpabDoor
open Go.RowKit

def wordO (r : Option (Int × List Int)) : List Int := match r with | some p => p.2 | none => []
def FirstU (w : World) (r : Option (Int × List Int)) (e : Ending) (w' : World) : Prop := ∃ a cap, e = .returned (.tuple #[.slice a (wordO r).length cap, .bool r.isSome]) ∧ SlN w.heap.size w' a (wordO r).length (wordO r) ∧ Below w.heap.size w w'

/-- Those that wait. -/
def waitO (N : List (List Int)) (i : Nat) : List Int := ((outsP N i).drop i).map Prod.fst
def waitL (N : List (List Int)) (i l : Nat) : List Int := ((rowP N i l).drop (i + 1)).map Prod.fst
theorem waitO_len (N : List (List Int)) (i : Nat) : (waitO N i).length = (outsP N i).length - i := by simp [waitO]
theorem waitL_len (N : List (List Int)) (i l : Nat) : (waitL N i l).length = (rowP N i l).length - (i + 1) := by simp [waitL]
theorem waitO_zero (N : List (List Int)) : waitO N 0 = [0] := by simp [waitO, outsP]
/-- Behind i of the spots: those that wait, and how all were met. -/
def FwAt (N : List (List Int)) (E : List Bool) (M : Nat) (w : World) (i : Nat) (v : Value) (wx : World) : Prop :=
  ∃ b off cap, v = .slice (some ⟨b, off, none⟩) (waitO N i).length cap ∧ QueS M wx b off (waitO N i).length cap (waitO N i) ∧
    MapAt Tryd.prog 67 wx (w.heap.size + 1) (stF N M (outsP N i)) ∧ Below w.heap.size w wx ∧ w.heap.size + 2 ≤ b ∧ i ≤ (outsP N i).length ∧ NoneYet N E i
/-- .. and behind l letters of the next one. -/
def FrAt (N : List (List Int)) (M : Nat) (w : World) (ab i l : Nat) (x0 x1 : Int) (v : Value) (wx : World) : Prop :=
  ∃ b off cap, v = .slice (some ⟨b, off, none⟩) (waitL N i l).length cap ∧ QueS M wx b off (waitL N i l).length cap (waitL N i l) ∧
    MapAt Tryd.prog 67 wx (w.heap.size + 1) (stF N M (rowP N i l)) ∧ Below w.heap.size w wx ∧ w.heap.size + 2 ≤ b ∧ b ≠ ab ∧ wx.heap[ab]? = some (.cells #[.int .i64 x0, .int .i64 x1] 67 (0, 0)) ∧ w.heap.size + 2 ≤ ab
theorem frAt_below {N : List (List Int)} {M : Nat} {w : World} {ab i l : Nat} {x0 x1 : Int} {v : Value} {wx W : World} (h : FrAt N M w ab i l x0 x1 v wx) (hb : Below wx.heap.size wx W) : FrAt N M w ab i l x0 x1 v W := by
  obtain ⟨b, off, cap, h1, h2, h3, h4, h5, h6, h7, h8⟩ := h
  exact ⟨b, off, cap, h1, queS_kept h2 (hb.block _ (queS_lt h2)), h3.below hb, h4.trans (hb.mono h4.size), h5, h6, (hb.block _ (Array.getElem?_eq_some_iff.1 h7).1).trans h7, h8⟩
theorem rowP_met {N : List (List Int)} {i l : Nat} {x : Int} (hl : l < (N.getD ((outsP N i).getD i (0, [])).1.toNat []).length) (hx : (N.getD ((outsP N i).getD i (0, [])).1.toNat []).getD l 0 = x) (h : x ∈ (rowP N i l).map Prod.fst) : rowP N i (l + 1) = rowP N i l := by
  rw [rowP_succ hl, hx]; unfold addP; rw [if_pos h]
theorem rowP_new {N : List (List Int)} {i l : Nat} {x : Int} (hl : l < (N.getD ((outsP N i).getD i (0, [])).1.toNat []).length) (hx : (N.getD ((outsP N i).getD i (0, [])).1.toNat []).getD l 0 = x) (h : ¬ x ∈ (rowP N i l).map Prod.fst) : rowP N i (l + 1) = rowP N i l ++ [(x, ((outsP N i).getD i (0, [])).2 ++ [(l : Int)])] := by
  rw [rowP_succ hl, hx]; unfold addP; rw [if_neg h]

theorem two_new (w : World) (x y : Value) (t : TypeId) : ∀ j u, [x, y][j]? = some u → (w.alloc (.cells #[x, y] t)).cell? ((⟨w.heap.size, 0, none⟩ : Addr).add j) = some u := by
  intro j u h
  rw [Addr.add_lit, cell_of_row _ _ _ _ t (0, 0) (heap_alloc_last w _), Nat.zero_add]
  simpa using h
theorem frAt_start {N : List (List Int)} {M : Nat} {w : World} {i : Nat} {wr w1 : World} {x0 x1 : Int} {b off cap k : Nat} (hk : k = (outsP N i).length - i - 1)
    (hq : QueS M wr b off k cap ((waitO N i).drop 1)) (hm : MapAt Tryd.prog 67 wr (w.heap.size + 1) (stF N M (outsP N i))) (hb : Below w.heap.size w wr) (hbb : w.heap.size + 2 ≤ b)
    (h1 : Below (wr.alloc (.cells #[.int .i64 x0, .int .i64 x1] 67)).heap.size (wr.alloc (.cells #[.int .i64 x0, .int .i64 x1] 67)) w1) : FrAt N M w wr.heap.size i 0 x0 x1 (.slice (some ⟨b, off, none⟩) k cap) w1 := by
  have hB : Below wr.heap.size wr w1 := below_step ((Below.refl wr.heap.size wr).alloc (Nat.le_refl _) _) h1
  have hl := queS_lt hq
  have e : (waitO N i).drop 1 = waitL N i 0 := by unfold waitO waitL; rw [rowP_zero, ← List.map_drop, List.drop_drop]
  have el : (waitL N i 0).length = k := by rw [waitL_len, rowP_zero]; omega
  rw [e] at hq
  refine ⟨b, off, cap, by rw [el], by rw [el]; exact queS_kept hq (hB.block _ hl), by rw [rowP_zero]; exact hm.below hB, hb.trans (hB.mono hb.size), hbb, by omega, ?_, by omega⟩
  exact (h1.block _ (by simp)).trans (heap_alloc_last _ _)
theorem frAt_push {N : List (List Int)} {M : Nat} {w : World} {ab i l : Nat} {x0 x1 : Int} {wx wU w5 w6 : World} {o : Obj} {x : Int} {b off cap b' off' cap' : Nat} {wd : List Int} {s : Nat}
    (hq : QueS M wx b off (waitL N i l).length cap (waitL N i l)) (hbw : Below w.heap.size w wx) (hbb : w.heap.size + 2 ≤ b) (hba : b ≠ ab) (hat : wx.heap[ab]? = some (.cells #[.int .i64 x0, .int .i64 x1] 67 (0, 0))) (hab : w.heap.size + 2 ≤ ab) (hi : i < (outsP N i).length)
    (hU : Below wx.heap.size wx wU) (hm : MapAt Tryd.prog 67 w5 (w.heap.size + 1) (stF N M (rowP N i l) ++ [(spotV M x, stepV M s (l : Int))])) (ht : wU.mapTurned w5 (w.heap.size + 1)) (hnew : rowP N i (l + 1) = rowP N i l ++ [(x, wd ++ [(l : Int)])]) (hs : runL N wd = s)
    (hq6 : QueS M w6 b' off' ((waitL N i l).length + 1) cap' ((waitL N i l) ++ [x])) (hg : (w5.alloc o).grownBy w6 (some b)) (hb' : b' = b ∨ (w5.alloc o).heap.size ≤ b') :
    FrAt N M w ab i (l + 1) x0 x1 (.slice (some ⟨b', off', none⟩) ((waitL N i l).length + 1) cap') w6 := by
  have hlq := queS_lt hq
  have hla := (Array.getElem?_eq_some_iff.1 hat).1
  have hsU := hU.size
  have hs5 := ht.grown.size
  have e : waitL N i (l + 1) = waitL N i l ++ [x] := by
    unfold waitL
    rw [hnew, List.drop_append_of_le_length (by have := (rowP_sub (N := N) (i := i) (l := l)).length_le; omega)]; simp
  have h0 : Below w.heap.size w wU := hbw.trans (hU.mono hbw.size)
  have h1 : Below w.heap.size w w5 := below_turned h0 ht (by omega) h0.size
  have h2 : Below w.heap.size w w6 := Below.grown (h1.alloc h1.size o) hg (by have := h1.size; simp; omega) (fun k hk => by cases hk; omega)
  have hk : ∀ y, y < wx.heap.size → y ≠ b → y ≠ w.heap.size + 1 → w6.heap[y]? = wx.heap[y]? := fun y hy hne hne' => by
    rw [hg.block y (by simp; omega) (fun e => hne (by cases e; rfl)), Below.heap_alloc _ _ _ (by omega), ht.grown.block y (by omega) (fun e => hne' (by cases e; rfl)), hU.block y hy]
  refine ⟨b', off', cap', by rw [e]; simp, by rw [e, List.length_append]; exact hq6, ?_, h2, ?_, ?_, ?_, hab⟩
  · rw [hnew, ← stF_put, hs]
    exact (hm.alloc o).grown hg (fun e => by cases e; omega)
  · rcases hb' with rfl | h
    · exact hbb
    · simp at h; omega
  · rcases hb' with rfl | h
    · exact hba
    · simp at h; omega
  · exact (hk ab hla (fun e => hba e.symm) (by omega)).trans hat

set_option maxHeartbeats 8000000 in
set_option maxRecDepth 8000 in
theorem firstWord_any (f1 f2 : FuncId) (c1 c2 : Array Value) (m n M : Nat) (N : List (List Int)) (E : List Bool) (w : World) (hG : GoodN m n N)
    (he1 : ∀ (args : Array Value) (W : World), (callFunc f1 args).run Tryd.prog W = .ok (.enter f1 args) W) (he2 : ∀ (args : Array Value) (W : World), (callFunc f2 args).run Tryd.prog W = .ok (.enter f2 args) W)
    (hN : ∀ (W : World) (s l : Nat), Below w.heap.size w W → s < n → l < m → Calls Tryd.prog f1 (#[.agg #[.int .i64 (hiI M (s)), .int .i64 (loI M (s))], .int .i64 (l : Int)] ++ c1) W fun e W' => e = .returned (.agg #[.int .i64 (hiI M (nxt N s l)), .int .i64 (loI M (nxt N s l))]) ∧ Below W.heap.size W W')
    (hW : ∀ (W : World) (s : Nat), Below w.heap.size w W → s < n → Calls Tryd.prog f2 (#[.agg #[.int .i64 (hiI M (s)), .int .i64 (loI M (s))]] ++ c2) W fun e W' => e = .returned (.bool (E.getD s false)) ∧ Below W.heap.size W W') :
    Calls Tryd.prog 33 #[.int .i64 (m : Int), .func (.func f1) #[] c1, .func (.func f2) #[] c2] w (FirstU w (firstP N E)) := by
  have hn1 := hG.2.1
  have hn64 := hG.2.2.1
  have hm36 := hG.2.2.2.1
  have HN := hide hN
  have HW := hide hW
  have HG := hide hG
  have hmm := @run_makeMap Tryd.prog
  clear hN hW hG
  unfold FirstU
  obtain ⟨kl0, hkl0⟩ := spotV_key M 0 (by decide)
  have h00 : hiI M 0 = 0 ∧ loI M 0 = 0 := by simp [hiI, loI]
  have hkz : keyOf Tryd.prog 67 (Value.agg #[.int .i64 0, .int .i64 0]) = some kl0 := by
    have : spotV M 0 = Value.agg #[.int .i64 0, .int .i64 0] := by unfold spotV; rw [show (0 : Int).toNat = 0 from rfl, h00.1, h00.2]
    rw [← this]; exact hkl0
  have hm0 := mapAt_made (w.alloc (.cells #[.int .i64 0, .int .i64 0] 67)) Tryd.prog 67
  rw [World.size_alloc] at hm0
  obtain ⟨wm, hins, hmp, htn⟩ := hm0.put spot_law Tryd.underlying85 (val := .agg #[.int .i64 0, .int .i64 0, .int .i64 0]) (by decide) hkz (by simp)
  have hbm : Below w.heap.size w wm := below_turned (((Below.refl w.heap.size w).alloc (Nat.le_refl _) (.cells #[.int .i64 0, .int .i64 0] 67)).alloc (by simp) (.map #[] 0)) htn (by omega) (by simp; omega)
  have hszm : w.heap.size + 2 ≤ wm.heap.size := by have := htn.grown.size; simp at this; omega
  have H0 : Hid (FwAt N E M w 0 (.slice (some ⟨wm.heap.size, 0, none⟩) 1 1) (wm.alloc (.cells #[.int .i64 0, .int .i64 0] 67))) := by
    refine ⟨wm.heap.size, 0, 1, by rw [waitO_zero]; rfl, ⟨rfl, by rw [waitO_zero]; decide, by decide, #[.int .i64 0, .int .i64 0], heap_alloc_last _ _, by simp, fun q hq => ?_⟩, ?_, hbm.alloc hbm.size _, hszm, by simp [outsP], fun k hk => by omega⟩
    · rw [waitO_zero] at hq ⊢
      simp at hq
      rcases (show q = 0 ∨ q = 1 by omega) with rfl | rfl
      · simp [spotC, List.getD, h00.1]
      · simp [spotC, List.getD, h00.2]
    · have e : stF N M (outsP N 0) = [] ++ [(Value.agg #[.int .i64 0, .int .i64 0], Value.agg #[.int .i64 0, .int .i64 0, .int .i64 0])] := by
        simp [stF, outsP, spotV, stepV, runL, h00.1, h00.2]
      rw [e]
      exact hmp.alloc _
  have hblk : wm.heap[w.heap.size]? = some (.cells #[.int .i64 0, .int .i64 0] 67 (0, 0)) := (htn.grown.block w.heap.size (by simp; omega) (by simp)).trans (heap_alloc2_fst _ _ _)
  have hst0 : wm.cell? ⟨w.heap.size, 0, none⟩ = some (.int .i64 0) := by simp [World.cell?, hblk]
  have hst1 : wm.cell? ⟨w.heap.size, 1, none⟩ = some (.int .i64 0) := by simp [World.cell?, hblk]
  have HSZM := hide hszm
  clear hm0 hmp htn hbm hkl0 hkz h00 hszm hblk
  go_enter Tryd.func33, Tryd.ntmps33
  go_wp2
  clear hins hst0 hst1
  generalize wm.alloc (.cells #[.int .i64 0, .int .i64 0] 67) = w0 at H0 ⊢
  go_loopg [10] (n + 1) (fun g v wx => ∃ i : Nat, g = n + 1 - i ∧ FwAt N E M w i v wx)
  case atStart => exact ⟨0, rfl, H0.out⟩
  case round =>
    obtain ⟨i, hgi, hfw⟩ := hrel
    have HGI := hide hgi
    have HFW := hide hfw
    obtain ⟨b, off, cap, rfl, hq, hmp, hbw, hbb, hil, hny⟩ := hfw
    have HQ := hide hq
    have HMP := hide hmp
    have HBW := hide hbw
    have HNY := hide hny
    have hole := outsP_le HG.out i
    have HOLE := hide hole
    have hin : i ≤ n := Nat.le_trans hil hole
    clear hgi hq hmp hbw hny hole
    by_cases hlt : i < (outsP N i).length
    · have hlen : (waitO N i).length = ((outsP N i).length - i - 1) + 1 := by rw [waitO_len]; omega
      have hhd : (waitO N i).getD 0 0 = ((outsP N i).getD i (0, [])).1 := by
        unfold waitO
        rw [List.drop_eq_getElem_cons hlt]; simp [List.getD, hlt]
      have hmem := getD_memP hlt
      obtain ⟨hokw, hs0, hrun⟩ := (stP HG.out i).1.run _ hmem
      have hsr := (outsP_ok HG.out i).2 ((outsP N i).getD i (0, [])).1 (List.mem_map_of_mem hmem)
      obtain ⟨s, hs⟩ : ∃ s : Nat, ((outsP N i).getD i (0, [])).1 = (s : Int) := ⟨((outsP N i).getD i (0, [])).1.toNat, by omega⟩
      have hsn : s < n := by omega
      rw [hlen] at HQ ⊢
      obtain ⟨ch0, ch1⟩ := queS_head HQ.out
      rw [hhd, hs, Int.toNat_natCast] at ch0 ch1
      have HQT := hide (queS_tail HQ.out)
      have htl := fun W => run_tailS b off ((outsP N i).length - i - 1) cap W
      generalize (if cap = 1 then off else off + 2) = off2 at HQT htl
      generalize hcp1 : cap - 1 = cap1 at HQT htl
      clear hcp1
      have hBA := (Below.refl wr.heap.size wr).alloc (Nat.le_refl _) (.cells #[.int .i64 (hiI M s), .int .i64 (loI M s)] 67)
      have HBA := hide hBA
      have HA := hide (heap_alloc_last wr (.cells #[.int .i64 (hiI M s), .int .i64 (loI M s)] 67))
      have HC1 := hide (HW.out _ s (HBW.out.trans (hBA.mono HBW.out.size)) hsn)
      have HS := hide hs
      have HRUN : Hid (runL N ((outsP N i).getD i (0, [])).2 = s) := by rw [hs, Int.toNat_natCast] at hrun; exact hrun
      clear hBA hhd hrun hsr hs hs0 hokw
      generalize hx0 : hiI M s = x0 at ch0 HBA HA HC1
      generalize hx1 : loI M s = x1 at ch1 HBA HA HC1
      have HX0 := hide hx0
      have HX1 := hide hx1
      clear hx0 hx1
      go_wp2_with fail
      refine HC1.out.mono ?_
      rintro e w1 ⟨rfl, hb1⟩
      have HB1 := hide (below_step HBA.out hb1)
      have HFS := hide (@frAt_start N M w i wr w1 x0 x1 b off2 cap1 ((outsP N i).length - i - 1) rfl HQT.out HMP.out HBW.out hbb hb1)
      have hat1 := (hb1.block wr.heap.size (by simp)).trans HA.out
      have ca0 : w1.cell? ⟨wr.heap.size, 0, none⟩ = some (.int .i64 x0) := by simp [World.cell?, hat1]
      have ca1 : w1.cell? ⟨wr.heap.size, 1, none⟩ = some (.int .i64 x1) := by simp [World.cell?, hat1]
      have HIL := hide hlt
      have HBW1 := hide (HBW.out.trans (HB1.out.mono HBW.out.size))
      clear hb1 hat1 htl HQT HBA HA HC1 ch0 ch1 hmem
      cases hE : E.getD s false with
      | true =>
        have HFST : Hid (firstP N E = some ((outsP N i).getD i (0, []))) := first_at HG.out HNY.out HIL.out (by rw [HS.out, Int.toNat_natCast]; exact hE)
        have HWT : Hid (Calls Tryd.prog 46 #[.agg #[.int .i64 x0, .int .i64 x1], .map (some (w.heap.size + 1))] w1 (GivesRow w1 ((outsP N i).getD i (0, [])).2)) := by
          have hmem := getD_memP HIL.out
          have h := wordTo_any N m n M (outsP N i) (w.heap.size + 1) ((outsP N i).getD i (0, [])) w1 (stP HG.out i).1 (backP_outs N i) (by have := lenP_mem (lenP_outs N i) hmem; have := HOLE.out; omega) (outsP_ok HG.out i) hn64 hm36 hmem (HMP.out.below HB1.out)
          have e : spotV M ((outsP N i).getD i (0, [])).1 = .agg #[.int .i64 x0, .int .i64 x1] := by unfold spotV; rw [HS.out, Int.toNat_natCast, HX0.out, HX1.out]
          rw [e] at h
          exact h
        unfold GivesRow at HWT
        clear hE HFS HS HRUN HIL
        generalize (outsP N i).getD i (0, []) = pp at HFST HWT
        go_wp2_with (go_at_call 46; refine HWT.out.mono ?_; rintro e w2 ⟨a2, cap2, rfl, hs2, hb2⟩; have HS2 := hide hs2; have HB2 := hide (HBW1.out.trans (hb2.mono HBW1.out.size)); clear hs2 hb2)
        go_ret2
        rw [HFST.out]
        exact ⟨a2, cap2, by simp [wordO], HS2.out.mono HBW1.out.size, HB2.out⟩
      | false =>
        have HNY2 := hide (noneYet_step HNY.out HIL.out (by rw [HS.out, Int.toNat_natCast]; exact hE))
        clear hE ca0 ca1
        go_wp2
        obtain ⟨wo, hwo⟩ : ∃ wo : World, wo = wr := ⟨_, rfl⟩
        rw [← hwo] at HFS ⊢
        clear hwo HFW HQ HMP HBW HB1 HBW1 wr
        have hrl : (N.getD ((outsP N i).getD i (0, [])).1.toNat []).length = m := by rw [HS.out, Int.toNat_natCast]; exact (HG.out.2.2.2.2.2 s hsn).1
        have HRL := hide hrl
        clear hrl
        go_loopw [37, 10] (fun lv v wx => ∃ l : Nat, l ≤ m ∧ lv = .int .i64 l ∧ FrAt N M w wo.heap.size i l x0 x1 v wx) (fun lv _ _ => m - (intOf lv).toNat)
        case atStart => exact ⟨0, by omega, rfl, HFS.out⟩
        case round =>
          obtain ⟨l, hl, rfl, hfr⟩ := hrel
          have HFR := hide hfr
          obtain ⟨b2, of2, cp2, rfl, hq, hmp, hbw, hbb2, hba, hat, hab⟩ := hfr
          have HQ := hide hq
          have HMP := hide hmp
          have HBW := hide hbw
          have HAT := hide hat
          have HBB2 := hide hbb2
          have HBA := hide hba
          have HAB := hide hab
          have ca0 : wr.cell? ⟨wo.heap.size, 0, none⟩ = some (.int .i64 x0) := by simp [World.cell?, hat]
          have ca1 : wr.cell? ⟨wo.heap.size, 1, none⟩ = some (.int .i64 x1) := by simp [World.cell?, hat]
          clear hq hmp hbw hat hbb2 hba hab
          by_cases hlt2 : l < m
          · have hlti2 : (l : Int) < (m : Int) := by omega
            have HC2 := hide (HN.out wr s l HBW.out hsn hlt2)
            rw [HX0.out, HX1.out] at HC2
            have hxn := nxt_cell HG.out hsn hlt2
            have HXV : Hid ((N.getD ((outsP N i).getD i (0, [])).1.toNat []).getD l 0 = ((nxt N s l : Nat) : Int)) := by show _ = _; rw [HS.out, Int.toNat_natCast]; exact hxn.2
            have hxn1 := hxn.1
            clear hxn
            generalize hxx : nxt N s l = x at HC2 HXV hxn1
            clear hxx
            obtain ⟨kl, hkl⟩ := spotV_key M (x : Int) (by rw [Int.toNat_natCast]; omega)
            have hspx : spotV M (x : Int) = .agg #[.int .i64 (hiI M x), .int .i64 (loI M x)] := by unfold spotV; rw [Int.toNat_natCast]
            rw [hspx] at hkl
            have HKL := hide hkl
            have hlen : (waitL N i l).length ≤ 6400 := by
              have := rowP_le HG.out (l := l) HIL.out
              rw [waitL_len]; omega
            have hrlen : (stF N M (rowP N i l)).length ≤ 6400 := by
              have := rowP_le HG.out (l := l) HIL.out
              unfold stF; rw [List.length_map]; omega
            have HNN : Hid (∀ p ∈ rowP N i l, 0 ≤ p.1) := fun p hp => ((rowP_ok HG.out (l := l) HIL.out).2 p.1 (List.mem_map_of_mem hp)).1
            clear hkl
            go_wp2_with fail
            refine HC2.out.mono ?_
            rintro e wN ⟨rfl, hbN⟩
            have HBN := hide hbN
            clear hbN ca0 ca1 HC2
            by_cases hmet : (x : Int) ∈ (rowP N i l).map Prod.fst
            · have HSAME : Hid (rowP N i (l + 1) = rowP N i l) := rowP_met (by have := HRL.out; omega) HXV.out hmet
              obtain ⟨p, hp, hpx⟩ := List.mem_map.1 hmet
              have hent := stF_some (N := N) (M := M) hp
              rw [hpx, hspx] at hent
              unfold stepV at hent
              have HENT := hide hent
              clear hent hmet hp hpx hspx
              generalize hiI M (runL N p.2.dropLast) = z0 at HENT
              generalize loI M (runL N p.2.dropLast) = z1 at HENT
              generalize p.2.getLastD 0 = z2 at HENT
              generalize hiI M x = y0 at HENT HKL
              generalize loI M x = y1 at HENT HKL
              have HBT := hide ((HBN.out.alloc HBN.out.size (.cells #[.int .i64 y0, .int .i64 y1] 67)).alloc (by have := HBN.out.size; simp; omega) (.cells #[.int .i64 z0, .int .i64 z1, .int .i64 z2] 84))
              have HM2 := hide (HMP.out.below (HBN.out.alloc HBN.out.size (.cells #[.int .i64 y0, .int .i64 y1] 67)))
              go_wp2_with (at_lookup; refine wpList_look_yes _ rfl _ _ 85 rfl 67 84 spot_law Tryd.underlying85 (zero_step _) (w.heap.size + 1) _ rfl HM2.out _ kl rfl HKL.out _ HENT.out ?_)
              go_roundw
              case rel =>
                refine ⟨l + 1, by omega, by go_num, ?_⟩
                have h := frAt_below HFR.out HBT.out
                have ew : waitL N i (l + 1) = waitL N i l := by unfold waitL; rw [HSAME.out]
                unfold FrAt at h ⊢
                rw [ew, HSAME.out]
                exact h
              case measure => simp [intOf]; omega
            · have HNEW := hide (rowP_new (by have := HRL.out; omega) HXV.out hmet)
              have HNM := hide (stF_none (N := N) (M := M) (x := (x : Int)) (by omega) HNN.out hmet)
              rw [hspx] at HNM
              have HPUSH := hide (fun wU w5 w6 o b' off' cap' h1 h2 h3 h4 h5 h6 => @frAt_push N M w wo.heap.size i l x0 x1 wr wU w5 w6 o (x : Int) b2 of2 cp2 b' off' cap' ((outsP N i).getD i (0, [])).2 s HQ.out HBW.out HBB2.out HBA.out HAT.out HAB.out HIL.out h1 h2 h3 HNEW.out HRUN.out h4 h5 h6)
              rw [hspx] at HPUSH
              unfold stepV at HPUSH
              rw [HX0.out, HX1.out] at HPUSH
              have HY0 : Hid (hiI M x = hiI M ((x : Int)).toNat) := by show _ = _; rw [Int.toNat_natCast]
              have HY1 : Hid (loI M x = loI M ((x : Int)).toNat) := by show _ = _; rw [Int.toNat_natCast]
              clear hmet hspx
              generalize hiI M x = y0 at HNM HKL HPUSH HY0
              generalize loI M x = y1 at HNM HKL HPUSH HY1
              generalize hst : stF N M (rowP N i l) = st at HMP HNM HPUSH hrlen
              clear hst
              obtain ⟨WT, hWT⟩ : ∃ WT, wN.alloc (.cells #[.int .i64 y0, .int .i64 y1] 67) = WT := ⟨_, rfl⟩
              have hBT0 : Below wN.heap.size wN WT := by rw [← hWT]; exact (Below.refl _ _).alloc (Nat.le_refl _) _
              have hT : WT.heap[wN.heap.size]? = some (.cells #[.int .i64 y0, .int .i64 y1] 67 (0, 0)) := by rw [← hWT]; exact heap_alloc_last _ _
              have ct0 : WT.cell? ⟨wN.heap.size, 0, none⟩ = some (.int .i64 y0) := by simp [World.cell?, hT]
              have ct1 : WT.cell? ⟨wN.heap.size, 1, none⟩ = some (.int .i64 y1) := by simp [World.cell?, hT]
              obtain ⟨WU, hWU⟩ : ∃ WU, WU = WT.alloc (.cells #[.int .i64 0, .int .i64 0, .int .i64 0] 84) := ⟨_, rfl⟩
              have hBU0 : Below WT.heap.size WT WU := by rw [hWU]; exact (Below.refl _ _).alloc (Nat.le_refl _) _
              have hBU := below_step (below_step HBN.out hBT0) hBU0
              have HBU := hide hBU
              have hUt := (hBU0.block _ (Array.getElem?_eq_some_iff.1 hT).1).trans hT
              have hUa := (hBU.block _ (Array.getElem?_eq_some_iff.1 HAT.out).1).trans HAT.out
              have cu0 : WU.cell? ⟨wN.heap.size, 0, none⟩ = some (.int .i64 y0) := by simp [World.cell?, hUt]
              have cu1 : WU.cell? ⟨wN.heap.size, 1, none⟩ = some (.int .i64 y1) := by simp [World.cell?, hUt]
              have cu2 : WU.cell? ⟨wo.heap.size, 0, none⟩ = some (.int .i64 x0) := by simp [World.cell?, hUa]
              have cu3 : WU.cell? ⟨wo.heap.size, 1, none⟩ = some (.int .i64 x1) := by simp [World.cell?, hUa]
              have HMT := hide (HMP.out.below (below_step HBN.out hBT0))
              have HMU := hide (HMP.out.below hBU)
              have HUT := hide hUt
              have HQU := hide (queS_kept HQ.out (hBU.block _ (queS_lt HQ.out)))
              have hmbN : w.heap.size + 1 ≠ wN.heap.size := by
                have h1 := HMP.out.lt
                have h2 := HBN.out.size
                omega
              have HTB := hide hmbN
              clear hT hBT0 hBU0 hBU hUt hUa hmbN
              subst hWU
              go_wp2_with (first
                | (at_lookup; refine wpList_look_no _ rfl _ _ 85 rfl 67 84 spot_law Tryd.underlying85 (zero_step _) (w.heap.size + 1) _ rfl HMT.out _ kl rfl HKL.out HNM.out ?_)
                | (at_mapUpdate; refine wpList_put_at _ rfl _ _ _ 85 rfl 67 84 spot_law Tryd.underlying85 (w.heap.size + 1) _ rfl HMU.out (by unfold maxLen; omega) (.agg #[.int .i64 y0, .int .i64 y1]) (.agg #[.int .i64 x0, .int .i64 x1, .int .i64 (l : Int)]) kl rfl rfl HKL.out HNM.out ?_; intro w5 hmp5 htn5; have HM5 := hide hmp5; have HT5 := hide htn5; have h5t := (htn5.grown.block wN.heap.size (Array.getElem?_eq_some_iff.1 HUT.out).1 (fun e => HTB.out (Option.some.inj e).symm)).trans HUT.out; have cv0 : w5.cell? ⟨wN.heap.size, 0, none⟩ = some (.int .i64 y0) := (by simp [World.cell?, h5t]); have cv1 : w5.cell? ⟨wN.heap.size, 1, none⟩ = some (.int .i64 y1) := (by simp [World.cell?, h5t]); have HQ5 := hide (queS_kept HQU.out (htn5.grown.block b2 (queS_lt HQU.out) (fun e => by have h1 := HBB2.out; have h2 := Option.some.inj e; omega))); clear hmp5 htn5 h5t)
                | (at_builtin; refine wpList_append_queS M _ rfl _ _ rfl b2 of2 (waitL N i l).length cp2 (waitL N i l) rfl (queS_kept HQ5.out (Below.heap_alloc _ _ _ (queS_lt HQ5.out))) ⟨w5.heap.size, 0, none⟩ (x : Int) y0 y1 HY0.out HY1.out rfl (two_new _ _ _ _) (by omega) ?_; intro b6 off6 cap6 w6 hq6 hg6 hb6; have HF6 := hide (HPUSH.out _ w5 w6 _ b6 off6 cap6 HBU.out HM5.out HT5.out hq6 hg6 hb6); clear hq6 hg6 hb6))
              go_roundw
              case rel => exact ⟨l + 1, by omega, by go_num, HF6.out⟩
              case measure => simp [intOf]; omega
          · have hlti2 : ¬ ((l : Int) < (m : Int)) := by omega
            obtain rfl : m = l := by omega
            have HEND : Hid (FwAt N E M w (i + 1) (.slice (some ⟨b2, of2, none⟩) (waitL N i m).length cp2) wr) := by
              have e : rowP N i m = outsP N (i + 1) := by have := rowP_end HIL.out; rwa [HRL.out] at this
              have ew : waitL N i m = waitO N (i + 1) := by unfold waitL waitO; rw [e]
              refine ⟨b2, of2, cp2, by rw [ew], by rw [← ew]; exact HQ.out, by rw [← e]; exact HMP.out, HBW.out, HBB2.out, ?_, HNY2.out⟩
              have := (outsP_pre N i 1).length_le
              have := HIL.out
              omega
            clear ca0 ca1
            go_wp2
            go_roundg (n + 1 - (i + 1))
            case rel => exact ⟨i + 1, rfl, HEND.out⟩
            case measure => have h1 := HGI.out; have h2 := HIL.out; have h3 := HOLE.out; omega
    · have hlen : (waitO N i).length = 0 := by rw [waitO_len]; omega
      have HFST : Hid (firstP N E = none) := first_end HG.out HNY.out (by omega) hin
      rw [hlen]
      go_wp2
      go_ret2
      rw [HFST.out]
      exact ⟨none, 0, rfl, ⟨sl_nil _, fun _ h => by cases h⟩, HBW.out⟩
end Go.Proofs.YtihhlddbppljpabDoor
