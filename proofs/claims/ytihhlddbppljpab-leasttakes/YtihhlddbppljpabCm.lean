/- filbertlaw1.begun: an automaton that begins at another state: mathematics and contract. -/
import Derived.Test.YtihhlddbppljpabBx
import Derived.Test.YtihhlddbppljpabCa
import Derived.Test.YtihhlddbppljpabCf
namespace Go.Proofs.Ytihhlddbppljpab
open Go.RowKit

/-- State s and the first one exchanged. -/
def swp (s i : Nat) : Nat := if i = 0 then s else if i = s then 0 else i
def swpI (s : Nat) (x : Int) : Int := if x = (s : Int) then 0 else if x = 0 then (s : Int) else x
theorem swp_swp (s i : Nat) : swp s (swp s i) = i := by
  unfold swp
  by_cases h0 : i = 0
  · subst h0
    rw [if_pos rfl]
    by_cases hs : s = 0
    · rw [if_pos hs]; exact hs
    · rw [if_neg hs, if_pos rfl]
  · rw [if_neg h0]
    by_cases hi : i = s
    · rw [if_pos hi, if_pos rfl]; exact hi.symm
    · rw [if_neg hi, if_neg h0, if_neg hi]
theorem swp_lt {s i n : Nat} (hs : s < n) (hi : i < n) : swp s i < n := by
  unfold swp
  split
  · exact hs
  · split
    · omega
    · exact hi
theorem swp_self (s : Nat) : swp s s = 0 := by
  unfold swp
  by_cases h : s = 0
  · rw [if_pos h]; exact h
  · rw [if_neg h, if_pos rfl]
theorem swpI_nat (s x : Nat) : swpI s (x : Int) = (swp s x : Int) := by
  unfold swpI swp
  by_cases h1 : x = s
  · subst h1
    rw [if_pos rfl]
    by_cases h0 : x = 0
    · rw [if_pos h0, h0]; rfl
    · rw [if_neg h0, if_pos rfl]; rfl
  · rw [if_neg (by omega)]
    by_cases h0 : x = 0
    · rw [if_pos (by omega), if_pos h0]
    · rw [if_neg (by omega), if_neg h0, if_neg h1]
def begN (N : List (List Int)) (s : Nat) : List (List Int) := (List.range N.length).map fun i => (N.getD (swp s i) []).map (swpI s)
def begE (E : List Bool) (n s : Nat) : List Bool := (List.range n).map fun i => E.getD (swp s i) false
theorem begN_get {N : List (List Int)} {s i : Nat} (hi : i < N.length) : (begN N s).getD i [] = (N.getD (swp s i) []).map (swpI s) := by simp [begN, List.getD, hi]
theorem begE_get {E : List Bool} {n s i : Nat} (hi : i < n) : (begE E n s).getD i false = E.getD (swp s i) false := by simp [begE, List.getD, hi]
theorem beg_cell {m n : Nat} {N : List (List Int)} (hG : GoodN m n N) {s i j : Nat} (hs : s < n) (hi : i < n) (hj : j < m) : ((begN N s).getD i []).getD j 0 = (swp s (nxt N (swp s i) j) : Int) := by
  have hsi := swp_lt hs hi
  have hl := (hG.2.2.2.2.2 _ hsi).1
  rw [begN_get (by rw [hG.1]; exact hi), getD_at (List.map _ _) j (by rw [List.length_map]; omega), List.getElem_map, ← getD_at _ j (by omega), (nxt_cell hG hsi hj).2, swpI_nat]
theorem beg_nxt {m n : Nat} {N : List (List Int)} (hG : GoodN m n N) {s i j : Nat} (hs : s < n) (hi : i < n) (hj : j < m) : nxt (begN N s) i j = swp s (nxt N (swp s i) j) := by
  have h := beg_cell hG hs hi hj
  have e : nxt (begN N s) i j = (((begN N s).getD i []).getD j 0).toNat := rfl
  rw [e, h, Int.toNat_natCast]
theorem beg_good {m n : Nat} {N : List (List Int)} (hG : GoodN m n N) {s : Nat} (hs : s < n) : GoodN m n (begN N s) := by
  refine ⟨by simp [begN, hG.1], hG.2.1, hG.2.2.1, hG.2.2.2.1, hG.2.2.2.2.1, fun i hi => ⟨?_, fun j hj => ?_⟩⟩
  · rw [begN_get (by rw [hG.1]; exact hi), List.length_map, (hG.2.2.2.2.2 _ (swp_lt hs hi)).1]
  · rw [beg_cell hG hs hi hj]
    have := swp_lt hs (nxt_cell hG (swp_lt hs hi) hj).1
    omega
theorem runF_snoc (N : List (List Int)) (s : Nat) (w : List Int) (x : Int) : runF N s (w ++ [x]) = stepL N (runF N s w) x := by simp [runF, List.foldl_append]
theorem beg_run {m n : Nat} {N : List (List Int)} (hG : GoodN m n N) {s : Nat} (hs : s < n) (v : List Int) (hv : okW m v) : runF N s v < n ∧ runL (begN N s) v = swp s (runF N s v) := by
  induction v using list_snoc_ind with
  | h0 => exact ⟨by simpa [runF] using hs, by simp [runF, runL, swp_self]⟩
  | h1 v x ih =>
    rw [okW_snoc] at hv
    obtain ⟨h1, h2⟩ := ih hv.1
    have hj : x.toNat < m := by omega
    rw [runF_snoc, runL_snoc, h2, step_nxt, step_nxt]
    exact ⟨(nxt_cell hG h1 hj).1, by rw [beg_nxt hG hs (swp_lt hs h1) hj, swp_swp]⟩
theorem beg_end {E : List Bool} {n s q : Nat} (hs : s < n) (hq : q < n) : (begE E n s).getD (swp s q) false = E.getD q false := by rw [begE_get (swp_lt hs hq), swp_swp]
/-- Any two states of the least one part. -/
theorem beg_differ {m n : Nat} {N : List (List Int)} (hG : GoodN m n N) (E : List Bool) {s t : Nat} (hs : s < leastK N E m) (ht : t < leastK N E m) (hne : s ≠ t) (h80 : leastK N E m ≤ 80) :
    (firstP (prodN (begN (leastN N E m) s) (begN (leastN N E m) t) m) (prodE 6 (leastK N E m) (leastK N E m) (begE (leastE N E m) (leastK N E m) s) (begE (leastE N E m) (leastK N E m) t))).isSome = true := by
  have hL := least_good hG E
  cases hf : firstP (prodN (begN (leastN N E m) s) (begN (leastN N E m) t) m) (prodE 6 (leastK N E m) (leastK N E m) (begE (leastE N E m) (leastK N E m) s) (begE (leastE N E m) (leastK N E m) t)) with
  | some p => rfl
  | none =>
    exfalso
    have g1 := beg_good hL hs
    have g2 := beg_good hL ht
    have gp := prod_good g1 g2 (Nat.le_trans (Nat.mul_le_mul h80 h80) (by decide))
    refine hne (least_parts hG E hs ht fun v hv => ?_)
    have h := first_none gp hf v hv
    rw [prod_takes g1 g2 6 _ _ v hv, howB_six] at h
    obtain ⟨a1, a2⟩ := beg_run hL hs v hv
    obtain ⟨b1, b2⟩ := beg_run hL ht v hv
    rw [a2, b2, beg_end hs a1, beg_end ht b1] at h
    simpa using h
theorem autoC_good {b t : Int} {N : List (List Int)} {n : Nat} (hM : codeM b t = 0) (hG : GoodN (manyU b t).toNat n N) (hn : n ≤ 80) : autoC b t N n = 0 := by
  have h1 := hG.1
  have h2 := hG.2.1
  unfold autoC
  rw [if_pos hM, if_neg (by omega), if_neg (by omega), if_pos (by omega)]
  exact rowsC_all fun j hj => by
    have := hG.2.2.2.2.2 j (by omega)
    exact rowC_good this.1 (by rw [h1]; exact this.2)

set_option maxHeartbeats 8000000 in
set_option maxRecDepth 8000 in
theorem begun_any (b t : Int) (a : Option Addr) (n cap m : Nat) (N : List (List Int)) (a' : Option Addr) (cap' : Nat) (E : List Bool) (s : Nat) (w : World) (hs : Sl2 w a n N) (hG : GoodN m n N) (he : SlB w a' n E) (hsn : s < n) :
    Calls Try.prog 12 #[.agg #[.int .i64 b, .int .i64 t, .slice a n cap, .slice a' n cap'], .int .i64 (s : Int)] w (GivesAuto w b t (begN N s) (begE E n s)) := by
  obtain ⟨i0, hi0, hz0, hz1, hz2⟩ := info_parts info3
  obtain ⟨j0, hj0, hy0, hy1, hy2⟩ := info_parts infoS2
  obtain ⟨l0, hl0, hv0, hv1, hv2⟩ := info_parts infoBo
  have hn1 := hG.2.1
  have hn64 := hG.2.2.1
  have hm36 := hG.2.2.2.1
  have hB0 := below_two w (.cells #[.int .i64 b, .int .i64 t, .slice a n cap, .slice a' n cap'] 25) (.cells #[.int .i64 0, .int .i64 0, .slice none 0 0, .slice none 0 0] 25)
  have HB0 := hide hB0
  have HS := hide (sl2_below hs hB0)
  have HE := hide (slB_below he hB0)
  have HBX := hide (fun W (h : Below _ _ W) => (@two_boxes w W (.int .i64 b) (.int .i64 t) (.slice a n cap) (.slice a' n cap') (.int .i64 0) (.int .i64 0) (.slice none 0 0) (.slice none 0 0) 25 h).1)
  have HOLD := hide (heap_alloc_last (w.alloc (.cells #[.int .i64 b, .int .i64 t, .slice a n cap, .slice a' n cap'] 25)) (.cells #[.int .i64 0, .int .i64 0, .slice none 0 0, .slice none 0 0] 25))
  rw [World.size_alloc] at HOLD
  have HG := hide hG
  have HBG := hide (fun i hi => @begN_get N s i hi)
  have HBE := hide (fun i hi => @begE_get E n s i hi)
  have HBC := hide (fun i j hi hj => @beg_cell m n N hG s i j hsn hi hj)
  have HGD := hide (beg_good hG hsn)
  have HLQ : Hid ((begN N s).length = n) := by show _ = _; simp [begN, hG.1]
  have HLE : Hid ((begE E n s).length = n) := by show _ = _; simp [begE]
  clear hs he hG hB0
  generalize hQN : begN N s = QN at HBG HBC HGD HLQ ⊢
  generalize hQE : begE E n s = QE at HBE HLE ⊢
  clear hQN hQE
  generalize hW0 : (w.alloc (.cells #[.int .i64 b, .int .i64 t, .slice a n cap, .slice a' n cap'] 25)).alloc (.cells #[.int .i64 0, .int .i64 0, .slice none 0 0, .slice none 0 0] 25) = wb at HB0 HS HE HBX HOLD
  have HSZ0 : Hid (wb.heap.size = w.heap.size + 2) := by show _ = _; rw [← hW0]; simp
  have HOS := hide (outAt_start wb b t (fun q => QN.getD q []) (fun q => QE.getD q false))
  obtain ⟨hx0, hx1, hx2, hx3⟩ := HBX.out wb (Below.refl _ _)
  go_enter Try.func12, Try.ntmps12
  go_wp2
  clear hW0 hx0 hx1 hx2 hx3
  generalize wb.alloc (.cells #[.int .i64 b, .int .i64 t, .slice none 0 0, .slice none 0 0] 25) = wB at HOS ⊢
  go_loopw [6] (fun iv wx => ∃ i : Nat, i ≤ n ∧ iv = .int .i64 i ∧ OutAt wb b t (fun q => QN.getD q []) (fun q => QE.getD q false) i i wx) (fun iv _ => n - (intOf iv).toNat)
  case atStart => exact ⟨0, by omega, rfl, HOS.out⟩
  case round =>
    obtain ⟨i, hi, rfl, hout⟩ := hrel
    have HOUT := hide hout
    have HBB : Hid (Below wb.heap.size wb wr) := by obtain ⟨_, _, _, _, _, _, _, h⟩ := hout; exact h
    clear hout
    obtain ⟨-, -, hx2, -⟩ := HBX.out wr HBB.out
    by_cases hlt : i < n
    · have hlti : (i : Int) < (n : Int) := by omega
      have hq := swp_lt hsn hlt
      have HEQ := hide (HBE.out i hlt)
      have HRC : Hid (∀ l, l < m → (QN.getD i []).getD l 0 = (swp s (nxt N (swp s i) l) : Int)) := fun l hl => HBC.out i l hlt hl
      have HRL : Hid ((QN.getD i []).length = m) := (HGD.out.2.2.2.2.2 i hlt).1
      have HGD1 : Hid (∀ l, l < m → 0 ≤ (QN.getD i []).getD l 0 ∧ (QN.getD i []).getD l 0 < (n : Int)) := (HGD.out.2.2.2.2.2 i hlt).2
      obtain ⟨row, hrow⟩ : ∃ row, row = QN.getD i [] := ⟨_, rfl⟩
      rw [← hrow] at HRC HRL HGD1
      have HROW := hide hrow.symm
      clear hrow
      obtain ⟨q, hqe⟩ : ∃ q, q = swp s i := ⟨_, rfl⟩
      rw [← hqe] at hq HEQ HRC
      have hqi : (q : Int) < (n : Int) := by omega
      have hcase : (i = 0 ∧ q = s) ∨ (i ≠ 0 ∧ i = s ∧ q = 0) ∨ (i ≠ 0 ∧ i ≠ s ∧ q = i) := by
        rw [hqe]
        unfold swp
        by_cases h0 : i = 0
        · exact .inl ⟨h0, if_pos h0⟩
        · by_cases h1 : i = s
          · exact .inr (.inl ⟨h0, h1, by rw [if_neg h0, if_pos h1]⟩)
          · exact .inr (.inr ⟨h0, h1, by rw [if_neg h0, if_neg h1]⟩)
      clear hqe
      obtain ⟨bn, on, an, cn, rfl, hcn0, hsn0⟩ := sl2_cell HS.out q hq
      rw [(HG.out.2.2.2.2.2 q hq).1] at hcn0 hsn0
      have HCN := hide hcn0
      have HSN := hide hsn0
      clear hcn0 hsn0
      rcases hcase with ⟨h0, h1⟩ | ⟨h0, h1, h2⟩ | ⟨h0, h1, h2⟩
      · obtain rfl : s = q := h1.symm
        have t0 : ((i : Int) == 0) = true := by simp; omega
        clear h0 h1
        have HG0 : Hid (GrowR wr (row.take 0) (.slice none 0 0) wr) := ⟨World.ownsRow_nil _ _ _ _, Below.refl _ _⟩
        go_wp2
        obtain ⟨wq, hwq⟩ : ∃ wq : World, wq = wr := ⟨_, rfl⟩
        rw [← hwq] at HOUT HBB HG0 ⊢
        clear hwq hx2 wr
        go_loopw [8, 9] (fun v lv wx => ∃ l : Nat, l ≤ m ∧ lv = .int .i64 l ∧ GrowR wq (row.take l) v wx) (fun _ lv _ => m - (intOf lv).toNat)
        case atStart => exact ⟨0, by omega, rfl, HG0.out⟩
        case round =>
          obtain ⟨l, hl, rfl, hgr⟩ := hrel
          have HGR := hide hgr
          have HBL := hide (HBB.out.trans (hgr.2.mono HBB.out.size))
          obtain ⟨-, -, hx2, -⟩ := HBX.out wr HBL.out
          have hcn : wr.cell? ⟨bn, on + s, none⟩ = some (.slice an m cn) := (HBL.out.cell (p := ⟨bn, on + s, none⟩) (World.block_lt_of_cell? _ _ HCN.out)).trans HCN.out
          clear hgr
          by_cases hlm : l < m
          · have hlmi : (l : Int) < (m : Int) := by omega
            obtain ⟨b1, o1, rfl, hcx⟩ := sl_cell (sl_below HSN.out HBL.out) l hlm
            have hnx := nxt_cell HG.out hq hlm
            rw [hnx.2] at hcx
            have HTL : Hid ((row.take l).length = l) := by show _ = _; rw [List.length_take]; have := HRL.out; omega
            have HOWN := hide HGR.out.1
            rw [HTL.out] at HOWN
            have HSZ := hide HGR.out.2.size
            have HTS : Hid (row.take (l + 1) = row.take l ++ [row.getD l 0]) := by show _ = _; rw [List.take_succ_eq_append_getElem (by have := HRL.out; omega), getD_at _ l (by have := HRL.out; omega)]
            rw [HRC.out l hlm] at HTS
            have hxl := hnx.1
            clear hnx
            generalize nxt N s l = x at hcx HTS hxl
            have hxc : (x = s ∧ swp s x = 0) ∨ (x ≠ s ∧ x = 0 ∧ swp s x = s) ∨ (x ≠ s ∧ x ≠ 0 ∧ swp s x = x) := by
              by_cases h1 : x = s
              · exact .inl ⟨h1, by rw [h1]; exact swp_self _⟩
              · by_cases h0 : x = 0
                · exact .inr (.inl ⟨h1, h0, by unfold swp; rw [if_pos h0]⟩)
                · exact .inr (.inr ⟨h1, h0, by unfold swp; rw [if_neg h0, if_neg h1]⟩)
            rcases hxc with ⟨h1, h2⟩ | ⟨h1, h0, h2⟩ | ⟨h1, h0, h2⟩
            · rw [h2] at HTS
              have t1 : ((x : Int) == (s : Int)) = true := by simp; omega
              clear h1 h2
              go_wp2_with (at_builtin; refine wpList_append_own _ rfl _ _ 26 rfl wq.heap.size 3 i0 (.int .i64 0) 1 8 Try.underlying26 hi0 hz0 hz1 hz2 rfl (by decide) _ l ((row.take l).map (Value.int .i64)) rfl (HOWN.out.alloc _) ⟨wr.heap.size, 0, none⟩ 1 1 [.int .i64 0] rfl rfl (one_new _ _ _) (fun u hu => by simp at hu; subst hu; rfl) (by unfold maxLen; omega) (by omega) (by have := HSZ.out; simp; omega) ?_; intro v' w3 hown hgrow hnil)
              go_roundw
              case rel =>
                refine ⟨l + 1, by omega, by go_num, ?_⟩
                rw [HTS.out]
                exact growR_push HGR.out (by rw [HTL.out]; exact hown) hgrow
              case measure => simp [intOf]; omega
            · rw [h2] at HTS
              subst h0
              have t1 : ((0 : Int) == (s : Int)) = false := by simp; omega
              have hcx' : wr.cell? ⟨b1, o1 + l, none⟩ = some (.int .i64 0) := hcx
              clear h1 h2 hcx
              go_wp2_with (at_builtin; refine wpList_append_own _ rfl _ _ 26 rfl wq.heap.size 3 i0 (.int .i64 0) 1 8 Try.underlying26 hi0 hz0 hz1 hz2 rfl (by decide) _ l ((row.take l).map (Value.int .i64)) rfl (HOWN.out.alloc _) ⟨wr.heap.size, 0, none⟩ 1 1 [.int .i64 (s : Int)] rfl rfl (one_new _ _ _) (fun u hu => by simp at hu; subst hu; rfl) (by unfold maxLen; omega) (by omega) (by have := HSZ.out; simp; omega) ?_; intro v' w3 hown hgrow hnil)
              go_roundw
              case rel =>
                refine ⟨l + 1, by omega, by go_num, ?_⟩
                rw [HTS.out]
                exact growR_push HGR.out (by rw [HTL.out]; exact hown) hgrow
              case measure => simp [intOf]; omega
            · rw [h2] at HTS
              have t1 : ((x : Int) == (s : Int)) = false := by simp; omega
              have t2 : ((x : Int) == 0) = false := by simp; omega
              clear h1 h2 h0
              go_wp2_with (at_builtin; refine wpList_append_own _ rfl _ _ 26 rfl wq.heap.size 3 i0 (.int .i64 0) 1 8 Try.underlying26 hi0 hz0 hz1 hz2 rfl (by decide) _ l ((row.take l).map (Value.int .i64)) rfl (HOWN.out.alloc _) ⟨wr.heap.size, 0, none⟩ 1 1 [.int .i64 (x : Int)] rfl rfl (one_new _ _ _) (fun u hu => by simp at hu; subst hu; rfl) (by unfold maxLen; omega) (by omega) (by have := HSZ.out; simp; omega) ?_; intro v' w3 hown hgrow hnil)
              go_roundw
              case rel =>
                refine ⟨l + 1, by omega, by go_num, ?_⟩
                rw [HTS.out]
                exact growR_push HGR.out (by rw [HTL.out]; exact hown) hgrow
              case measure => simp [intOf]; omega
          · have hlmi : ¬ ((l : Int) < (m : Int)) := by omega
            obtain rfl : m = l := by omega
            have HFULL : Hid (row.take m = row) := List.take_of_length_le (by have := HRL.out; omega)
            rw [HFULL.out] at HGR
            have hwf : ∀ z ∈ row, (Lit.int .i64 z).wf = true := fun z hz => by
              obtain ⟨j, hj, rfl⟩ := List.getElem_of_mem hz
              have h1 := HGD1.out j (by have := HRL.out; omega)
              rw [getD_at _ j hj] at h1
              exact WalkArith.wf_i64 (by omega)
            obtain ⟨ar, cr, rfl, hsr⟩ := sl_of_owns rfl (by unfold maxLen; have := HRL.out; omega) hwf HGR.out.1
            have HON : Hid (∃ (vN : Value) (vals : List Value), _ ∧ _) := @outAt_N wb b t (fun q => QN.getD q []) (fun q => QE.getD q false) i i wq wr ar cr HOUT.out HGR.out.2 (by simp only [HROW.out]; exact hsr)
            simp only [HROW.out] at HON
            rw [HRL.out] at HON
            obtain ⟨vN, vals, hcN, hoN, hszN, hnx⟩ := HON.out
            have HNX := hide hnx
            have HOWN := hide hoN
            have HSZ := hide hszN
            have hrlm := HRL.out
            clear hnx hoN hszN HON hsr hwf
            rw [HRL.out]
            go_wp2_with (at_builtin; refine wpList_append_lies _ rfl _ _ 22 rfl (wb.heap.size + 1) 26 j0 (.slice none 0 0) 1 24 Try.underlying22 hj0 hy0 hy1 hy2 rfl (by decide) vN i vals rfl (HOWN.out.alloc _) ⟨wr.heap.size, 0, none⟩ 1 1 [.slice ar m cr] rfl rfl (one_new _ _ _) (fun u hu => by simp at hu; subst hu; rfl) (by omega) (by unfold maxLen; omega) (by omega) (by have := HSZ.out; simp; omega) (wr.heap.size + 1) (by simp) ?_; intro g' cg w3 hown3 hgrow3 hat3 hlt3; obtain ⟨⟨hn1', hn2'⟩, hn3'⟩ := HNX.out w3 _ g' cg hown3 hgrow3 hat3; have HN3 := hide hn3'; clear hown3 hgrow3 hat3 hn3')
            generalize w3.setCell ⟨wb.heap.size, 2, none⟩ (.slice (some ⟨g', 0, none⟩) (i + 1) cg) = w5 at HN3 ⊢
            have HB5 : Hid (Below wb.heap.size wb w5) := by obtain ⟨_, _, _, _, _, _, _, h⟩ := HN3.out; exact h
            clear hn1' hn2' hcN hcn hx2 HNX HOWN HSZ HGR HBL hlt3
            obtain ⟨vE, hcE, hoE, hszE, hnx⟩ := outAt_E HN3.out
            obtain ⟨be, oe, rfl, hce⟩ := slB_cell (slB_below HE.out HB5.out) s hq
            obtain ⟨-, -, -, hx3⟩ := HBX.out w5 HB5.out
            rw [← HEQ.out] at hce
            have HNX := hide hnx
            have HOWN := hide hoE
            have HSZ := hide hszE
            clear hnx hoE hszE
            generalize QE.getD i false = ev at hce HNX
            have hce' : w5.cell? ⟨be, oe + s, none⟩ = some (.bool ev) := hce
            clear hce
            have hcE2 : (w5.alloc (.cells #[.bool ev] 4)).cell? ⟨wb.heap.size, 3, none⟩ = some vE := (((Below.refl w5.heap.size w5).alloc (Nat.le_refl _) _).cell (p := ⟨wb.heap.size, 3, none⟩) (World.block_lt_of_cell? w5 _ hcE)).trans hcE
            go_region_law (first | (refine step_append_lies _ rfl (.tmp 65) (.tmp 71) 23 rfl (wb.heap.size + 1) 4 l0 (.bool false) 1 1 Try.underlying23 hl0 hv0 hv1 hv2 rfl (by decide) vE i _ (by simp [Act.eval]) (World.ownsRow.alloc (w := w5.drew) HOWN.out _) ⟨w5.heap.size, 0, none⟩ 1 1 [.bool ev] (by simp [Act.eval]) rfl (one_new_at _ _ _ _ (by simp)) (fun u hu => by simp at hu; subst hu; rfl) (by omega) (by unfold maxLen; omega) (by omega) (by have := HSZ.out; simp; omega) (w5.heap.size + 1) (by simp) ?_; intro g5 cg5 w6 hown5 hgrow5 hat5 hlt5; obtain ⟨⟨hm1, hm2⟩, hm3⟩ := HNX.out w6 _ g5 cg5 hown5 ⟨hgrow5.os, hgrow5.tape, hgrow5.output, hgrow5.size, hgrow5.block⟩ hat5; have HM3 := hide hm3; clear hm3 hown5 hgrow5 hat5 hlt5))
            all_goals
              go_wp2
              go_roundw
              case rel => exact ⟨i + 1, by omega, by go_num, HM3.out⟩
              case measure => simp [intOf]; omega
      · subst h2
        have t0 : ((i : Int) == 0) = false := by simp; omega
        have t1 : ((i : Int) == (s : Int)) = true := by simp; omega
        have hk0 : (0 : Int) < (n : Int) := by omega
        clear h0 h1
        rw [Nat.add_zero] at HCN
        have HG0 : Hid (GrowR wr (row.take 0) (.slice none 0 0) wr) := ⟨World.ownsRow_nil _ _ _ _, Below.refl _ _⟩
        go_wp2
        obtain ⟨wq, hwq⟩ : ∃ wq : World, wq = wr := ⟨_, rfl⟩
        rw [← hwq] at HOUT HBB HG0 ⊢
        clear hwq hx2 wr
        go_loopw [8, 9] (fun v lv wx => ∃ l : Nat, l ≤ m ∧ lv = .int .i64 l ∧ GrowR wq (row.take l) v wx) (fun _ lv _ => m - (intOf lv).toNat)
        case atStart => exact ⟨0, by omega, rfl, HG0.out⟩
        case round =>
          obtain ⟨l, hl, rfl, hgr⟩ := hrel
          have HGR := hide hgr
          have HBL := hide (HBB.out.trans (hgr.2.mono HBB.out.size))
          obtain ⟨-, -, hx2, -⟩ := HBX.out wr HBL.out
          have hcn : wr.cell? ⟨bn, on, none⟩ = some (.slice an m cn) := (HBL.out.cell (p := ⟨bn, on, none⟩) (World.block_lt_of_cell? _ _ HCN.out)).trans HCN.out
          clear hgr
          by_cases hlm : l < m
          · have hlmi : (l : Int) < (m : Int) := by omega
            obtain ⟨b1, o1, rfl, hcx⟩ := sl_cell (sl_below HSN.out HBL.out) l hlm
            have hnx := nxt_cell HG.out hq hlm
            rw [hnx.2] at hcx
            have HTL : Hid ((row.take l).length = l) := by show _ = _; rw [List.length_take]; have := HRL.out; omega
            have HOWN := hide HGR.out.1
            rw [HTL.out] at HOWN
            have HSZ := hide HGR.out.2.size
            have HTS : Hid (row.take (l + 1) = row.take l ++ [row.getD l 0]) := by show _ = _; rw [List.take_succ_eq_append_getElem (by have := HRL.out; omega), getD_at _ l (by have := HRL.out; omega)]
            rw [HRC.out l hlm] at HTS
            have hxl := hnx.1
            clear hnx
            generalize nxt N 0 l = x at hcx HTS hxl
            have hxc : (x = s ∧ swp s x = 0) ∨ (x ≠ s ∧ x = 0 ∧ swp s x = s) ∨ (x ≠ s ∧ x ≠ 0 ∧ swp s x = x) := by
              by_cases h1 : x = s
              · exact .inl ⟨h1, by rw [h1]; exact swp_self _⟩
              · by_cases h0 : x = 0
                · exact .inr (.inl ⟨h1, h0, by unfold swp; rw [if_pos h0]⟩)
                · exact .inr (.inr ⟨h1, h0, by unfold swp; rw [if_neg h0, if_neg h1]⟩)
            rcases hxc with ⟨h1, h2⟩ | ⟨h1, h0, h2⟩ | ⟨h1, h0, h2⟩
            · rw [h2] at HTS
              have t1 : ((x : Int) == (s : Int)) = true := by simp; omega
              clear h1 h2
              go_wp2_with (at_builtin; refine wpList_append_own _ rfl _ _ 26 rfl wq.heap.size 3 i0 (.int .i64 0) 1 8 Try.underlying26 hi0 hz0 hz1 hz2 rfl (by decide) _ l ((row.take l).map (Value.int .i64)) rfl (HOWN.out.alloc _) ⟨wr.heap.size, 0, none⟩ 1 1 [.int .i64 0] rfl rfl (one_new _ _ _) (fun u hu => by simp at hu; subst hu; rfl) (by unfold maxLen; omega) (by omega) (by have := HSZ.out; simp; omega) ?_; intro v' w3 hown hgrow hnil)
              go_roundw
              case rel =>
                refine ⟨l + 1, by omega, by go_num, ?_⟩
                rw [HTS.out]
                exact growR_push HGR.out (by rw [HTL.out]; exact hown) hgrow
              case measure => simp [intOf]; omega
            · rw [h2] at HTS
              subst h0
              have t1 : ((0 : Int) == (s : Int)) = false := by simp; omega
              have hcx' : wr.cell? ⟨b1, o1 + l, none⟩ = some (.int .i64 0) := hcx
              clear h1 h2 hcx
              go_wp2_with (at_builtin; refine wpList_append_own _ rfl _ _ 26 rfl wq.heap.size 3 i0 (.int .i64 0) 1 8 Try.underlying26 hi0 hz0 hz1 hz2 rfl (by decide) _ l ((row.take l).map (Value.int .i64)) rfl (HOWN.out.alloc _) ⟨wr.heap.size, 0, none⟩ 1 1 [.int .i64 (s : Int)] rfl rfl (one_new _ _ _) (fun u hu => by simp at hu; subst hu; rfl) (by unfold maxLen; omega) (by omega) (by have := HSZ.out; simp; omega) ?_; intro v' w3 hown hgrow hnil)
              go_roundw
              case rel =>
                refine ⟨l + 1, by omega, by go_num, ?_⟩
                rw [HTS.out]
                exact growR_push HGR.out (by rw [HTL.out]; exact hown) hgrow
              case measure => simp [intOf]; omega
            · rw [h2] at HTS
              have t1 : ((x : Int) == (s : Int)) = false := by simp; omega
              have t2 : ((x : Int) == 0) = false := by simp; omega
              clear h1 h2 h0
              go_wp2_with (at_builtin; refine wpList_append_own _ rfl _ _ 26 rfl wq.heap.size 3 i0 (.int .i64 0) 1 8 Try.underlying26 hi0 hz0 hz1 hz2 rfl (by decide) _ l ((row.take l).map (Value.int .i64)) rfl (HOWN.out.alloc _) ⟨wr.heap.size, 0, none⟩ 1 1 [.int .i64 (x : Int)] rfl rfl (one_new _ _ _) (fun u hu => by simp at hu; subst hu; rfl) (by unfold maxLen; omega) (by omega) (by have := HSZ.out; simp; omega) ?_; intro v' w3 hown hgrow hnil)
              go_roundw
              case rel =>
                refine ⟨l + 1, by omega, by go_num, ?_⟩
                rw [HTS.out]
                exact growR_push HGR.out (by rw [HTL.out]; exact hown) hgrow
              case measure => simp [intOf]; omega
          · have hlmi : ¬ ((l : Int) < (m : Int)) := by omega
            obtain rfl : m = l := by omega
            have HFULL : Hid (row.take m = row) := List.take_of_length_le (by have := HRL.out; omega)
            rw [HFULL.out] at HGR
            have hwf : ∀ z ∈ row, (Lit.int .i64 z).wf = true := fun z hz => by
              obtain ⟨j, hj, rfl⟩ := List.getElem_of_mem hz
              have h1 := HGD1.out j (by have := HRL.out; omega)
              rw [getD_at _ j hj] at h1
              exact WalkArith.wf_i64 (by omega)
            obtain ⟨ar, cr, rfl, hsr⟩ := sl_of_owns rfl (by unfold maxLen; have := HRL.out; omega) hwf HGR.out.1
            have HON : Hid (∃ (vN : Value) (vals : List Value), _ ∧ _) := @outAt_N wb b t (fun q => QN.getD q []) (fun q => QE.getD q false) i i wq wr ar cr HOUT.out HGR.out.2 (by simp only [HROW.out]; exact hsr)
            simp only [HROW.out] at HON
            rw [HRL.out] at HON
            obtain ⟨vN, vals, hcN, hoN, hszN, hnx⟩ := HON.out
            have HNX := hide hnx
            have HOWN := hide hoN
            have HSZ := hide hszN
            have hrlm := HRL.out
            clear hnx hoN hszN HON hsr hwf
            rw [HRL.out]
            go_wp2_with (at_builtin; refine wpList_append_lies _ rfl _ _ 22 rfl (wb.heap.size + 1) 26 j0 (.slice none 0 0) 1 24 Try.underlying22 hj0 hy0 hy1 hy2 rfl (by decide) vN i vals rfl (HOWN.out.alloc _) ⟨wr.heap.size, 0, none⟩ 1 1 [.slice ar m cr] rfl rfl (one_new _ _ _) (fun u hu => by simp at hu; subst hu; rfl) (by omega) (by unfold maxLen; omega) (by omega) (by have := HSZ.out; simp; omega) (wr.heap.size + 1) (by simp) ?_; intro g' cg w3 hown3 hgrow3 hat3 hlt3; obtain ⟨⟨hn1', hn2'⟩, hn3'⟩ := HNX.out w3 _ g' cg hown3 hgrow3 hat3; have HN3 := hide hn3'; clear hown3 hgrow3 hat3 hn3')
            generalize w3.setCell ⟨wb.heap.size, 2, none⟩ (.slice (some ⟨g', 0, none⟩) (i + 1) cg) = w5 at HN3 ⊢
            have HB5 : Hid (Below wb.heap.size wb w5) := by obtain ⟨_, _, _, _, _, _, _, h⟩ := HN3.out; exact h
            clear hn1' hn2' hcN hcn hx2 HNX HOWN HSZ HGR HBL hlt3
            obtain ⟨vE, hcE, hoE, hszE, hnx⟩ := outAt_E HN3.out
            obtain ⟨be, oe, rfl, hce⟩ := slB_cell (slB_below HE.out HB5.out) 0 hq
            obtain ⟨-, -, -, hx3⟩ := HBX.out w5 HB5.out
            rw [← HEQ.out] at hce
            have HNX := hide hnx
            have HOWN := hide hoE
            have HSZ := hide hszE
            clear hnx hoE hszE
            generalize QE.getD i false = ev at hce HNX
            have hce' : w5.cell? ⟨be, oe, none⟩ = some (.bool ev) := hce
            clear hce
            have hcE2 : (w5.alloc (.cells #[.bool ev] 4)).cell? ⟨wb.heap.size, 3, none⟩ = some vE := (((Below.refl w5.heap.size w5).alloc (Nat.le_refl _) _).cell (p := ⟨wb.heap.size, 3, none⟩) (World.block_lt_of_cell? w5 _ hcE)).trans hcE
            go_region_law (first | (refine step_append_lies _ rfl (.tmp 65) (.tmp 71) 23 rfl (wb.heap.size + 1) 4 l0 (.bool false) 1 1 Try.underlying23 hl0 hv0 hv1 hv2 rfl (by decide) vE i _ (by simp [Act.eval]) (World.ownsRow.alloc (w := w5.drew) HOWN.out _) ⟨w5.heap.size, 0, none⟩ 1 1 [.bool ev] (by simp [Act.eval]) rfl (one_new_at _ _ _ _ (by simp)) (fun u hu => by simp at hu; subst hu; rfl) (by omega) (by unfold maxLen; omega) (by omega) (by have := HSZ.out; simp; omega) (w5.heap.size + 1) (by simp) ?_; intro g5 cg5 w6 hown5 hgrow5 hat5 hlt5; obtain ⟨⟨hm1, hm2⟩, hm3⟩ := HNX.out w6 _ g5 cg5 hown5 ⟨hgrow5.os, hgrow5.tape, hgrow5.output, hgrow5.size, hgrow5.block⟩ hat5; have HM3 := hide hm3; clear hm3 hown5 hgrow5 hat5 hlt5))
            all_goals
              go_wp2
              go_roundw
              case rel => exact ⟨i + 1, by omega, by go_num, HM3.out⟩
              case measure => simp [intOf]; omega
      · obtain rfl : i = q := h2.symm
        have t0 : ((i : Int) == 0) = false := by simp; omega
        have t1 : ((i : Int) == (s : Int)) = false := by simp; omega
        clear h0 h1
        have HG0 : Hid (GrowR wr (row.take 0) (.slice none 0 0) wr) := ⟨World.ownsRow_nil _ _ _ _, Below.refl _ _⟩
        go_wp2
        obtain ⟨wq, hwq⟩ : ∃ wq : World, wq = wr := ⟨_, rfl⟩
        rw [← hwq] at HOUT HBB HG0 ⊢
        clear hwq hx2 wr
        go_loopw [8, 9] (fun v lv wx => ∃ l : Nat, l ≤ m ∧ lv = .int .i64 l ∧ GrowR wq (row.take l) v wx) (fun _ lv _ => m - (intOf lv).toNat)
        case atStart => exact ⟨0, by omega, rfl, HG0.out⟩
        case round =>
          obtain ⟨l, hl, rfl, hgr⟩ := hrel
          have HGR := hide hgr
          have HBL := hide (HBB.out.trans (hgr.2.mono HBB.out.size))
          obtain ⟨-, -, hx2, -⟩ := HBX.out wr HBL.out
          have hcn : wr.cell? ⟨bn, on + i, none⟩ = some (.slice an m cn) := (HBL.out.cell (p := ⟨bn, on + i, none⟩) (World.block_lt_of_cell? _ _ HCN.out)).trans HCN.out
          clear hgr
          by_cases hlm : l < m
          · have hlmi : (l : Int) < (m : Int) := by omega
            obtain ⟨b1, o1, rfl, hcx⟩ := sl_cell (sl_below HSN.out HBL.out) l hlm
            have hnx := nxt_cell HG.out hq hlm
            rw [hnx.2] at hcx
            have HTL : Hid ((row.take l).length = l) := by show _ = _; rw [List.length_take]; have := HRL.out; omega
            have HOWN := hide HGR.out.1
            rw [HTL.out] at HOWN
            have HSZ := hide HGR.out.2.size
            have HTS : Hid (row.take (l + 1) = row.take l ++ [row.getD l 0]) := by show _ = _; rw [List.take_succ_eq_append_getElem (by have := HRL.out; omega), getD_at _ l (by have := HRL.out; omega)]
            rw [HRC.out l hlm] at HTS
            have hxl := hnx.1
            clear hnx
            generalize nxt N i l = x at hcx HTS hxl
            have hxc : (x = s ∧ swp s x = 0) ∨ (x ≠ s ∧ x = 0 ∧ swp s x = s) ∨ (x ≠ s ∧ x ≠ 0 ∧ swp s x = x) := by
              by_cases h1 : x = s
              · exact .inl ⟨h1, by rw [h1]; exact swp_self _⟩
              · by_cases h0 : x = 0
                · exact .inr (.inl ⟨h1, h0, by unfold swp; rw [if_pos h0]⟩)
                · exact .inr (.inr ⟨h1, h0, by unfold swp; rw [if_neg h0, if_neg h1]⟩)
            rcases hxc with ⟨h1, h2⟩ | ⟨h1, h0, h2⟩ | ⟨h1, h0, h2⟩
            · rw [h2] at HTS
              have t1 : ((x : Int) == (s : Int)) = true := by simp; omega
              clear h1 h2
              go_wp2_with (at_builtin; refine wpList_append_own _ rfl _ _ 26 rfl wq.heap.size 3 i0 (.int .i64 0) 1 8 Try.underlying26 hi0 hz0 hz1 hz2 rfl (by decide) _ l ((row.take l).map (Value.int .i64)) rfl (HOWN.out.alloc _) ⟨wr.heap.size, 0, none⟩ 1 1 [.int .i64 0] rfl rfl (one_new _ _ _) (fun u hu => by simp at hu; subst hu; rfl) (by unfold maxLen; omega) (by omega) (by have := HSZ.out; simp; omega) ?_; intro v' w3 hown hgrow hnil)
              go_roundw
              case rel =>
                refine ⟨l + 1, by omega, by go_num, ?_⟩
                rw [HTS.out]
                exact growR_push HGR.out (by rw [HTL.out]; exact hown) hgrow
              case measure => simp [intOf]; omega
            · rw [h2] at HTS
              subst h0
              have t1 : ((0 : Int) == (s : Int)) = false := by simp; omega
              have hcx' : wr.cell? ⟨b1, o1 + l, none⟩ = some (.int .i64 0) := hcx
              clear h1 h2 hcx
              go_wp2_with (at_builtin; refine wpList_append_own _ rfl _ _ 26 rfl wq.heap.size 3 i0 (.int .i64 0) 1 8 Try.underlying26 hi0 hz0 hz1 hz2 rfl (by decide) _ l ((row.take l).map (Value.int .i64)) rfl (HOWN.out.alloc _) ⟨wr.heap.size, 0, none⟩ 1 1 [.int .i64 (s : Int)] rfl rfl (one_new _ _ _) (fun u hu => by simp at hu; subst hu; rfl) (by unfold maxLen; omega) (by omega) (by have := HSZ.out; simp; omega) ?_; intro v' w3 hown hgrow hnil)
              go_roundw
              case rel =>
                refine ⟨l + 1, by omega, by go_num, ?_⟩
                rw [HTS.out]
                exact growR_push HGR.out (by rw [HTL.out]; exact hown) hgrow
              case measure => simp [intOf]; omega
            · rw [h2] at HTS
              have t1 : ((x : Int) == (s : Int)) = false := by simp; omega
              have t2 : ((x : Int) == 0) = false := by simp; omega
              clear h1 h2 h0
              go_wp2_with (at_builtin; refine wpList_append_own _ rfl _ _ 26 rfl wq.heap.size 3 i0 (.int .i64 0) 1 8 Try.underlying26 hi0 hz0 hz1 hz2 rfl (by decide) _ l ((row.take l).map (Value.int .i64)) rfl (HOWN.out.alloc _) ⟨wr.heap.size, 0, none⟩ 1 1 [.int .i64 (x : Int)] rfl rfl (one_new _ _ _) (fun u hu => by simp at hu; subst hu; rfl) (by unfold maxLen; omega) (by omega) (by have := HSZ.out; simp; omega) ?_; intro v' w3 hown hgrow hnil)
              go_roundw
              case rel =>
                refine ⟨l + 1, by omega, by go_num, ?_⟩
                rw [HTS.out]
                exact growR_push HGR.out (by rw [HTL.out]; exact hown) hgrow
              case measure => simp [intOf]; omega
          · have hlmi : ¬ ((l : Int) < (m : Int)) := by omega
            obtain rfl : m = l := by omega
            have HFULL : Hid (row.take m = row) := List.take_of_length_le (by have := HRL.out; omega)
            rw [HFULL.out] at HGR
            have hwf : ∀ z ∈ row, (Lit.int .i64 z).wf = true := fun z hz => by
              obtain ⟨j, hj, rfl⟩ := List.getElem_of_mem hz
              have h1 := HGD1.out j (by have := HRL.out; omega)
              rw [getD_at _ j hj] at h1
              exact WalkArith.wf_i64 (by omega)
            obtain ⟨ar, cr, rfl, hsr⟩ := sl_of_owns rfl (by unfold maxLen; have := HRL.out; omega) hwf HGR.out.1
            have HON : Hid (∃ (vN : Value) (vals : List Value), _ ∧ _) := @outAt_N wb b t (fun q => QN.getD q []) (fun q => QE.getD q false) i i wq wr ar cr HOUT.out HGR.out.2 (by simp only [HROW.out]; exact hsr)
            simp only [HROW.out] at HON
            rw [HRL.out] at HON
            obtain ⟨vN, vals, hcN, hoN, hszN, hnx⟩ := HON.out
            have HNX := hide hnx
            have HOWN := hide hoN
            have HSZ := hide hszN
            have hrlm := HRL.out
            clear hnx hoN hszN HON hsr hwf
            rw [HRL.out]
            go_wp2_with (at_builtin; refine wpList_append_lies _ rfl _ _ 22 rfl (wb.heap.size + 1) 26 j0 (.slice none 0 0) 1 24 Try.underlying22 hj0 hy0 hy1 hy2 rfl (by decide) vN i vals rfl (HOWN.out.alloc _) ⟨wr.heap.size, 0, none⟩ 1 1 [.slice ar m cr] rfl rfl (one_new _ _ _) (fun u hu => by simp at hu; subst hu; rfl) (by omega) (by unfold maxLen; omega) (by omega) (by have := HSZ.out; simp; omega) (wr.heap.size + 1) (by simp) ?_; intro g' cg w3 hown3 hgrow3 hat3 hlt3; obtain ⟨⟨hn1', hn2'⟩, hn3'⟩ := HNX.out w3 _ g' cg hown3 hgrow3 hat3; have HN3 := hide hn3'; clear hown3 hgrow3 hat3 hn3')
            generalize w3.setCell ⟨wb.heap.size, 2, none⟩ (.slice (some ⟨g', 0, none⟩) (i + 1) cg) = w5 at HN3 ⊢
            have HB5 : Hid (Below wb.heap.size wb w5) := by obtain ⟨_, _, _, _, _, _, _, h⟩ := HN3.out; exact h
            clear hn1' hn2' hcN hcn hx2 HNX HOWN HSZ HGR HBL hlt3
            obtain ⟨vE, hcE, hoE, hszE, hnx⟩ := outAt_E HN3.out
            obtain ⟨be, oe, rfl, hce⟩ := slB_cell (slB_below HE.out HB5.out) i hq
            obtain ⟨-, -, -, hx3⟩ := HBX.out w5 HB5.out
            rw [← HEQ.out] at hce
            have HNX := hide hnx
            have HOWN := hide hoE
            have HSZ := hide hszE
            clear hnx hoE hszE
            generalize QE.getD i false = ev at hce HNX
            have hce' : w5.cell? ⟨be, oe + i, none⟩ = some (.bool ev) := hce
            clear hce
            have hcE2 : (w5.alloc (.cells #[.bool ev] 4)).cell? ⟨wb.heap.size, 3, none⟩ = some vE := (((Below.refl w5.heap.size w5).alloc (Nat.le_refl _) _).cell (p := ⟨wb.heap.size, 3, none⟩) (World.block_lt_of_cell? w5 _ hcE)).trans hcE
            go_region_law (first | (refine step_append_lies _ rfl (.tmp 65) (.tmp 71) 23 rfl (wb.heap.size + 1) 4 l0 (.bool false) 1 1 Try.underlying23 hl0 hv0 hv1 hv2 rfl (by decide) vE i _ (by simp [Act.eval]) (World.ownsRow.alloc (w := w5.drew) HOWN.out _) ⟨w5.heap.size, 0, none⟩ 1 1 [.bool ev] (by simp [Act.eval]) rfl (one_new_at _ _ _ _ (by simp)) (fun u hu => by simp at hu; subst hu; rfl) (by omega) (by unfold maxLen; omega) (by omega) (by have := HSZ.out; simp; omega) (w5.heap.size + 1) (by simp) ?_; intro g5 cg5 w6 hown5 hgrow5 hat5 hlt5; obtain ⟨⟨hm1, hm2⟩, hm3⟩ := HNX.out w6 _ g5 cg5 hown5 ⟨hgrow5.os, hgrow5.tape, hgrow5.output, hgrow5.size, hgrow5.block⟩ hat5; have HM3 := hide hm3; clear hm3 hown5 hgrow5 hat5 hlt5))
            all_goals
              go_wp2
              go_roundw
              case rel => exact ⟨i + 1, by omega, by go_num, HM3.out⟩
              case measure => simp [intOf]; omega
    · have hlti : ¬ ((i : Int) < (n : Int)) := by omega
      obtain rfl : i = n := by omega
      have HEND := hide (@outAt_end wb b t (fun q => QN.getD q []) (fun q => QE.getD q false) i wr HOUT.out (by unfold maxLen; omega) QN HLQ.out (fun _ _ => rfl) QE HLE.out (fun _ _ => rfl))
      obtain ⟨ax, cx, ax', cx', hbox, hbE, hsN⟩ := HEND.out
      have HSN := hide hsN
      have hold : wr.heap[w.heap.size + 1]? = some (.cells #[.int .i64 0, .int .i64 0, .slice none 0 0, .slice none 0 0] 25 (0, 0)) := (hbE.block (w.heap.size + 1) (by have := HSZ0.out; omega)).trans HOLD.out
      have HBE2 := hide (below_step HB0.out hbE)
      obtain ⟨⟨y0, y1, y2, y3⟩, -⟩ := box_cells hbox
      obtain ⟨⟨o0, o1, o2, o3⟩, hf⟩ := box_cells hold
      obtain ⟨w4, hw4⟩ : ∃ w4, (((wr.setCell ⟨w.heap.size + 1, 0, none⟩ (.int .i64 b)).setCell ⟨w.heap.size + 1, 1, none⟩ (.int .i64 t)).setCell ⟨w.heap.size + 1, 2, none⟩ (.slice ax i cx)).setCell ⟨w.heap.size + 1, 3, none⟩ (.slice ax' i cx') = w4 := ⟨_, rfl⟩
      obtain ⟨⟨hbx4, hsz4, hkp4⟩, hbl4⟩ := box_set hold hw4.symm
      have HB4 := hide (hbl4 w w.heap.size HBE2.out (by omega))
      have HFIN : Hid (AutoNew w ax i QN ax' QE w4) := fun W' hW' => HSN.out W' (fun x hx hxl => by
        rw [hW' x (by have := HSZ0.out; omega) (by omega), hkp4 x (by have := HSZ0.out; omega)])
      obtain ⟨⟨z0, z1, z2, z3⟩, -⟩ := box_cells hbx4
      have HZ0 := hide z0
      have HZ1 := hide z1
      have HZ2 := hide z2
      have HZ3 := hide z3
      clear hbox hsN hbE HEND hold hbx4 hsz4 hkp4 hbl4 z0 z1 z2 z3
      go_wp2
      have z0 := HZ0.out
      have z1 := HZ1.out
      have z2 := HZ2.out
      have z3 := HZ3.out
      refine bodyPost_ret (v := .agg #[.int .i64 b, .int .i64 t, .slice ax i cx, .slice ax' i cx']) (by simp [results, Try.results12, go_sem, z0, z1, z2, z3]) rfl ?_
      unfold GivesAuto
      rw [HLQ.out]
      exact ⟨ax, cx, ax', cx', rfl, HFIN.out, HB4.out⟩
end Go.Proofs.Ytihhlddbppljpab
