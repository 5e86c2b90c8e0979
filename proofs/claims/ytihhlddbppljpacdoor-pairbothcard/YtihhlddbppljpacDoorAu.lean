/- The iterator of auto.met: its walk. -/
import Derived.Test.YtihhlddbppljpacDoorAt
namespace Go.Proofs.YtihhlddbppljpacDoor
open Go.RowKit Go.Shelf
attribute [local go_sem] Oper.semAt_some

theorem drop_pos (l : List Int) (i : Nat) : (l.drop i).getD 0 0 = l.getD i 0 := by simp [List.getD]
theorem take_pre {o o' : List Int} (h : o <+: o') (i : Nat) (hi : i ≤ o.length) : o'.take i = o.take i := by
  obtain ⟨s, rfl⟩ := h
  rw [List.take_append_of_le_length hi]
theorem que_alloc {W : World} {b off len cap : Nat} {l : List Int} (h : Que W b off len cap l) (o : Obj) : Que (W.alloc o) b off len cap l := que_kept h (Below.heap_alloc W o b (que_lt h))
theorem take_snoc {l : List Int} {i : Nat} (h : i < l.length) : l.take (i + 1) = l.take i ++ [l.getD i 0] := by
  rw [List.take_succ_eq_append_getElem h, getD_at _ _ h]

set_option maxHeartbeats 8000000 in
set_option maxRecDepth 8000 in
theorem iter_any (F : Fence) (nn : Nat) (hFf : F.fn 48) (hro : F.round = none) (hnn : 1 ≤ nn) (lp Bn : Nat) (a : Option Addr) (n cap m : Nat) (N : List (List Int)) (w : World) (hs : Sl2 w a n N) (hG : GoodN m n N)
    (J : (Nat → Prop) → List Int → World → Prop) (hF : FreeJ J)
    (hY : ∀ X pre x W1, J X pre W1 → pre.length < n → YieldAt F (nn - 1) Tryd.prog lp #[.int .i64 x] W1 fun e W' => e = .returned (.bool true) ∧ J X (pre ++ [x]) W' ∧ KeptX w.heap.size X W1 W')
    (W : World) (hB : Below w.heap.size w W) (hbx : Boxed W Bn 22 (.slice a n cap)) (h0 : J (fun r => r = Bn) [] W) :
    CallsIn F nn Tryd.prog 48 #[.func (.yield lp) #[] #[], .pointer (some ⟨Bn, 0, none⟩)] W fun e W' => (∃ v, e = .returned v) ∧ ∃ xs X, xs = metL N ∧ J X xs W' := by
  have hmk := make_bools n (by have := hG.2.2.1; omega)
  have hn1 := hG.2.1
  have hn80 := hG.2.2.1
  have hm36 := hG.2.2.2.1
  have h0i : (0 : Int) < (n : Int) := by omega
  have HS := hide hs
  have HY := hide hY
  have HFJ := hide hF
  have HOK := hide (fun i => outs_ok hG i)
  have HLEN := hide (fun i => outs_len hG i)
  have HROW : Hid (∀ s, s < n → (N.getD s []).length = m ∧ ∀ j, j < m → 0 ≤ (N.getD s []).getD j 0 ∧ (N.getD s []).getD j 0 < (n : Int)) := hG.2.2.2.2.2
  have HSUC := hide (fun i => outs_succ N i)
  have HEND := hide (fun i => outs_end hG i)
  have HST := hide (@quAt_start J hF w W n Bn (.slice a n cap) hB hbx h0)
  have HR0 : Hid ((W.alloc (.cells (madeCells #[.bool false] n) 4)).rowIs W.heap.size 4 n fun _ => .bool false) := World.rowIs_made W (.bool false) n 4
  have hcell0 := HR0.out.cell (i := 0) (by omega)
  have hfz0 := HR0.out.frozen 0
  have hbc := hbx.cell
  clear hs hG hY hF h0 hbx hB
  refine callsIn_of_wp Tryd.func48 rfl hFf ?_ hro
  simp only [Tryd.ntmps48, List.size_toArray, List.length_cons, List.length_nil, Nat.reduceAdd, Nat.reduceSub, Array.replicate_succ, Array.replicate_zero, List.push_toArray, List.append_toArray, List.nil_append, List.cons_append]
  gi_wp2
  clear hcell0 hfz0 HR0 hmk hbc
  generalize (W.alloc (.cells ((madeCells #[.bool false] n).setIfInBounds 0 (.bool true)) 4)).alloc (.cells #[.int .i64 0] 3) = W0 at HST ⊢
  gi_loopg [4] n (fun k v wr => ∃ i b off qc : Nat, k = n - i ∧ i ≤ (outs N i).length ∧ v = .slice (some ⟨b, off, none⟩) ((outs N i).drop i).length qc ∧ QuAt J w n Bn W.heap.size (.slice a n cap) ((outs N i).take i) (outs N i) ((outs N i).drop i) b off qc wr)
  case atStart => exact ⟨0, W.heap.size + 1, 0, 1, rfl, by omega, rfl, HST.out⟩
  case round =>
    obtain ⟨i, b, off, qc, hgk, hi, rfl, hqu⟩ := hrel
    have HQ := hide hqu
    have HGK := hide hgk
    have hln := HLEN.out i
    have hdl : ((outs N i).drop i).length = (outs N i).length - i := List.length_drop
    clear hqu hgk
    by_cases hlt : i < (outs N i).length
    · have hlen1 : ((outs N i).drop i).length = ((outs N i).drop (i + 1)).length + 1 := by rw [List.length_drop, List.length_drop]; omega
      have hsr := okO_get (HOK.out i) i hlt
      have HSUC' := hide (HSUC.out i hlt)
      have HTK := hide (take_snoc hlt)
      have HC0 := hide (que_cell HQ.out.1 0 (by omega))
      rw [drop_pos, Nat.add_zero] at HC0
      have HQ1 := hide (quAt_tail HQ.out (by omega))
      rw [List.drop_drop] at HQ1
      obtain ⟨s, hs⟩ : ∃ s : Nat, (outs N i).getD i 0 = s := ⟨((outs N i).getD i 0).toNat, by omega⟩
      rw [hs] at HC0 hsr HSUC' HTK
      rw [Int.toNat_natCast] at HSUC'
      have hc0 := HC0.out
      have hsn : s < n := by omega
      have hsni : (s : Int) < (n : Int) := by omega
      obtain ⟨hrl, hrr⟩ := HROW.out s hsn
      have HRR := hide hrr
      have HRL := hide hrl
      have HOKI := hide (HOK.out i)
      have hsl := run_tail b off ((outs N i).drop (i + 1)).length qc
      rw [hlen1]
      obtain ⟨fn, tmps, assign, body, hy, hR⟩ := HY.out _ _ (s : Int) wr HQ1.out.2.2.2.2.2.2 (by rw [List.length_take]; omega)
      have HR := hide hR
      have HI := hide hi
      clear hrl hrr hsr hs hdl hlen1 HC0 HQ hi hR
      generalize hO : outs N i = O at HQ1 HSUC' HOKI hln hlt HTK HR HI hsl ⊢
      have HO := hide hO
      clear hO
      generalize hkk : (O.drop (i + 1)).length = k at hsl ⊢
      have HKK := hide hkk
      generalize (if qc = 1 then off else off + 1) = off1 at HQ1 hsl
      generalize qc - 1 = qc1 at HQ1 hsl
      clear hkk
      gi_wp2
      refine HR.out.mono ?_
      rintro e W3 ⟨rfl, hJ3, hk3⟩
      have HQ3 := hide (quAt_round HQ1.out hJ3 hk3)
      clear hJ3 hk3 HQ1 HR hy hc0 hsl
      have hbc := HQ3.out.2.2.1.cell
      obtain ⟨bn, on, a1, c1, rfl, hcn, hsl1⟩ := sl2_cell (sl2_below HS.out HQ3.out.2.2.2.1) s hsn
      have hsl0 : Sl w a1 (N.getD s []).length (N.getD s []) := by
        obtain ⟨_, _, a2, c2, e1, h1, h2⟩ := sl2_cell HS.out s hsn
        cases e1
        have h3 := (HQ3.out.2.2.2.1.cell (p := ⟨bn, on + s, none⟩) (World.block_lt_of_cell? w _ h1)).trans h1
        rw [hcn] at h3
        cases h3
        exact h2
      have HSL := hide hsl0
      rw [HRL.out] at hcn HSL
      clear hsl1 hsl0
      generalize hrow : N.getD s [] = row at HSL HRR HSUC' HRL
      clear hrow
      have HPRE := hide (fun q => (rowAdd_pre O (row.take q)).length_le)
      have HOKQ : Hid (∀ q, OkO n (rowAdd O (row.take q))) := fun q => okO_row HOKI.out _ fun x hx => by
        obtain ⟨j, hj, rfl⟩ := List.getElem_of_mem (List.mem_of_mem_take hx)
        have := HRR.out j (by rw [← HRL.out]; exact hj)
        rwa [getD_at _ j hj] at this
      have HTS := hide (fun q => rowAdd_take_succ O row q)
      have HALL : Hid (rowAdd O (row.take m) = rowAdd O row) := by show _ = _; rw [← HRL.out, rowAdd_all]
      have HTP : Hid ((rowAdd O row).take (i + 1) = O.take i ++ [(s : Int)]) := by show _ = _; rw [take_pre (rowAdd_pre O row) (i + 1) (by omega), HTK.out]
      rw [HRL.out] at HTS
      gi_wp2
      obtain ⟨wo, hwo⟩ : ∃ wo : World, wo = W3 := ⟨_, rfl⟩
      rw [← hwo] at HQ3 ⊢
      clear hwo hcn hbc W3
      gi_loopw [4, 31] (fun v u wx => ∃ q b off qc : Nat, q ≤ m ∧ u = .int .i64 q ∧ v = .slice (some ⟨b, off, none⟩) ((rowAdd O (row.take q)).drop (i + 1)).length qc ∧ QuAt J w n Bn W.heap.size (.slice (some ⟨bn, on, none⟩) n cap) (O.take i ++ [(s : Int)]) (rowAdd O (row.take q)) ((rowAdd O (row.take q)).drop (i + 1)) b off qc wx) (fun _ u _ => m - (intOf u).toNat)
      case atStart => exact ⟨0, b, off1, qc1, by omega, rfl, by rw [← HKK.out]; rfl, HQ3.out⟩
      case round =>
        obtain ⟨q, b2, off2, qc2, hq, rfl, rfl, hqu⟩ := hrel
        have HQ := hide hqu
        have hql := HPRE.out q
        clear hqu
        by_cases hqt : q < m
        · have hqti : (q : Int) < (m : Int) := by omega
          obtain ⟨b1, o1, rfl, hcx⟩ := sl_cell (sl_below HSL.out HQ.out.2.2.2.1) q hqt
          have hxr := HRR.out q hqt
          have HTS' := hide (HTS.out q hqt)
          have hqn := nodup_len n _ (HOKQ.out q)
          obtain ⟨x, hx⟩ : ∃ x : Nat, row.getD q 0 = x := ⟨(row.getD q 0).toNat, by omega⟩
          rw [hx] at hcx hxr HTS'
          have hxn : x < n := by omega
          have hxni : (x : Int) < (n : Int) := by omega
          clear hx hxr
          have hcs := HQ.out.2.1.cell hxn
          have hfs := HQ.out.2.1.frozen x
          by_cases hin : (x : Int) ∈ rowAdd O (row.take q)
          · rw [addL_yes hin] at HTS'
            rw [decide_eq_true hin] at hcs
            clear hin
            generalize rowAdd O (row.take q) = Oq at HQ HTS' hql hqn ⊢
            gi_wp2
            go_roundw
            case rel => exact ⟨q + 1, b2, off2, qc2, by omega, by go_num, by rw [HTS'.out], by rw [HTS'.out]; exact HQ.out⟩
            case measure => simp [intOf]; omega
          · rw [addL_no hin] at HTS'
            rw [decide_eq_false hin] at hcs
            clear hin
            generalize rowAdd O (row.take q) = Oq at HQ HTS' hql hqn ⊢
            have HM2 := hide (quAt_seen HFJ.out HQ.out x)
            have HDA : Hid ((Oq ++ [(x : Int)]).drop (i + 1) = Oq.drop (i + 1) ++ [(x : Int)]) := by show _ = _; rw [List.drop_append_of_le_length (by omega)]
            have hdl : (Oq.drop (i + 1)).length ≤ 6400 := by rw [List.length_drop]; omega
            gi_wp2_with (gi_at_builtin; refine wpListIn_append_que _ rfl _ _ rfl b2 off2 _ qc2 _ rfl (que_alloc HM2.out.1 _) ⟨wr.heap.size, 0, none⟩ (x : Int) rfl (one_new_at _ _ _ _ (by simp)) (by omega) ?_; intro b3 off3 qc3 w3 hq3 hg3 hb3)
            go_roundw
            case rel => exact ⟨q + 1, b3, off3, qc3, by omega, by go_num, by rw [HTS'.out, HDA.out, List.length_append, List.length_drop]; rfl, by rw [HTS'.out, HDA.out]; exact quAt_push HFJ.out HM2.out hq3 hg3 hb3⟩
            case measure => simp [intOf]; omega
        · have hqti : ¬ ((q : Int) < (m : Int)) := by omega
          obtain rfl : q = m := by omega
          rw [HALL.out] at HQ hql
          rw [HALL.out]
          gi_wp2
          gi_roundg (n - (i + 1))
          case rel => exact ⟨i + 1, b2, off2, qc2, rfl, by rw [HSUC'.out]; omega, by rw [HSUC'.out, List.length_drop], by rw [HSUC'.out, HTP.out]; exact HQ.out⟩
          case measure => have := HGK.out; omega
    · have hl0 : ((outs N i).drop i).length = 0 := by omega
      have HE := hide (HEND.out i (by omega) (by omega))
      have HJ := hide HQ.out.2.2.2.2.2.2
      rw [List.take_of_length_le (by omega), HE.out] at HJ
      rw [hl0]
      clear HQ hdl hl0
      gi_wp2
      go_end0
      exact ⟨⟨_, rfl⟩, _, _, rfl, HJ.out⟩
end Go.Proofs.YtihhlddbppljpacDoor
