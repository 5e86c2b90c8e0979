/- The walk of the law WordTakes, from what package word answers. -/
import Derived.Test.YtgbmemkoggogdaaZKa
import Derived.Test.YtgbmemkoggogdaaZGc
import Derived.Test.YtgbmemkoggogdaaLq
import Derived.Test.YtgbmemkoggogdaaZLb
import Derived.Test.YtgbmemkoggogdaaZSe
import Derived.Test.YtgbmemkoggogdaaZAx
import Derived.Test.YtgbmemkoggogdaaVh
namespace Go.Proofs.Ytgbmemkoggogdaa
open Go.RowKit

theorem wordC_ok {m : Nat} {l : List Int} (hl : l.length ≤ 400) (h : okW m l) : wordC m l = 0 := wordC_good (by omega) fun _ hk => okW_get h hk
theorem code_one {b x : Int} (h1 : 1 ≤ b) (h2 : b ≤ 6) (hx : 0 ≤ x ∧ x ≤ 1099511627776) : codeWd b [x] = 0 := by
  have e : codeN b x = 0 := by unfold codeN; rw [if_pos ⟨⟨h1, h2⟩, hx⟩]
  have hM : codeM b (([x] : List Int).length : Nat) = 0 := (one_track h1 h2).1
  unfold codeWd
  rw [if_pos hM]
  refine firstC_all _ fun j hj => ?_
  obtain rfl : j = 0 := by simpa using hj
  exact e
theorem code_two {b x y : Int} (h1 : 1 ≤ b) (h2 : b ≤ 6) (hx : 0 ≤ x ∧ x ≤ 1099511627776) (hy : 0 ≤ y ∧ y ≤ 1099511627776) : codeWd b [x, y] = 0 := by
  have e : codeN b x = 0 := by unfold codeN; rw [if_pos ⟨⟨h1, h2⟩, hx⟩]
  have e2 : codeN b y = 0 := by unfold codeN; rw [if_pos ⟨⟨h1, h2⟩, hy⟩]
  have hM : codeM b (([x, y] : List Int).length : Nat) = 0 := (two_tracks h1 h2).1
  unfold codeWd
  rw [if_pos hM]
  refine firstC_all _ fun j hj => ?_
  have : j < 2 := by simpa using hj
  match j with
  | 0 => exact e
  | 1 => exact e2
  | j + 2 => omega
theorem word_okW {b : Int} {nums : List Int} (h : codeWd b nums = 0) : okW (manyU b nums.length).toNat (wordL b nums) := by
  obtain ⟨-, h1, h2⟩ := codeW_zero (word_codeW h)
  intro x hx
  obtain ⟨j, hj, rfl⟩ := List.getElem_of_mem hx
  have := letB_get h2 j hj
  rw [getD_at _ j hj] at this
  omega
theorem wd_takes {b t : Int} {L : List Int → Bool} {m : Nat} {MN : List (List Int)} {ME : List Bool} (h : WdWell b t L m MN ME) {l : List Int} (hl : l.length ≤ 400) (hk : okW m l) : takesB b t MN ME l = L l ∧ runC b t MN MN.length l = 0 := by
  obtain ⟨e1, e2⟩ := takes_ok h.auto h.len (l := l) (by rw [h.many]; exact wordC_ok hl hk)
  exact ⟨by rw [e1]; exact h.lang l hk, e2⟩
theorem at_zero {b : Int} {N : List (List Int)} {O : List Int} {x hi : Int} (h : atF b N O x hi = 0) : outC b N O = 0 ∧ 0 ≤ x ∧ x ≤ hi := by
  unfold atF at h
  by_cases h1 : outC b N O = 0
  · rw [if_pos h1] at h
    by_cases h2 : 0 ≤ x ∧ x ≤ hi
    · exact ⟨h1, h2⟩
    · rw [if_neg h2] at h; omega
  · rw [if_neg h1] at h; exact absurd h h1
theorem is_takes {b : Int} {N : List (List Int)} {O : List Int} {x v : Int} (z : Nat) (hz : z ≤ 20) (h : atF b N O x 1099511627776 = 0) (hi : isC b N O v = 0) : (takesB b 1 (isN b N O v) (isE b N O v) (List.replicate z 0 ++ wordL b [x]) = decide (atV b N O x = v) ∧ runC b 1 (isN b N O v) (isN b N O v).length (List.replicate z 0 ++ wordL b [x]) = 0) := by
  obtain ⟨hO, hx⟩ := at_zero h
  obtain ⟨h1, h2, -⟩ := outC_zero hO
  obtain ⟨k1, k2, k3⟩ := kinds_nat h1 h2
  have hc := code_one h1 h2 hx
  have ho := word_okW hc
  have hm : (manyU b (([x] : List Int).length : Nat)).toNat = (kindsI b).toNat := by show (manyU b 1).toNat = _; rw [(one_track h1 h2).2]
  rw [hm] at ho
  have hl := wordL_length_le b [x]
  obtain ⟨e1, e2⟩ := wd_takes (is_well hi) (l := List.replicate z 0 ++ wordL b [x]) (by rw [List.length_append, List.length_replicate]; omega) (okW_append.2 ⟨okW_zeros (by omega) z, ho⟩)
  refine ⟨?_, e2⟩
  rw [e1, word_is z hc]
  unfold atV
  rw [if_pos h]
theorem like_takes {b : Int} {N : List (List Int)} {O : List Int} {x : Int} {b2 : Int} {N2 : List (List Int)} {O2 : List Int} {y : Int} (h : atF b N O x 1099511627776 = 0) (h' : atF b2 N2 O2 y 1099511627776 = 0) (hi : lkC b N O b2 N2 O2 = 0) : (takesB b 2 (lkRN b N O b2 N2 O2) (lkRE b N O b2 N2 O2) (wordL b [x, y]) = decide (atV b N O x = atV b2 N2 O2 y) ∧ runC b 2 (lkRN b N O b2 N2 O2) (lkRN b N O b2 N2 O2).length (wordL b [x, y]) = 0) := by
  have hF : lkF b N O b2 N2 O2 = 0 := by
    unfold lkC at hi
    by_cases h1 : lkF b N O b2 N2 O2 = 0
    · exact h1
    · rw [if_neg h1] at hi; exact hi
  obtain ⟨-, -, rfl⟩ := lkF_zero hF
  obtain ⟨hO, hx⟩ := at_zero h
  obtain ⟨hO2, hy⟩ := at_zero h'
  obtain ⟨h1, h2, -⟩ := outC_zero hO
  obtain ⟨k1, k2, k3⟩ := kinds_nat h1 h2
  have hc := code_two h1 h2 hx hy
  have ho := word_okW hc
  have hw := like_well hi
  have hm : (manyU b2 (([x, y] : List Int).length : Nat)).toNat = (kindsI b2).toNat * (kindsI b2).toNat := hw.many
  rw [hm] at ho
  obtain ⟨e1, e2⟩ := wd_takes hw (l := wordL b2 [x, y]) (by have := wordL_length_le b2 [x, y]; omega) ho
  refine ⟨?_, e2⟩
  rw [e1, word_like hc]
  unfold atV
  rw [if_pos h, if_pos h']
theorem wordL_wf {b : Int} {nums : List Int} (h : codeWd b nums = 0) : ∀ x ∈ wordL b nums, (Lit.int .i64 x).wf = true := fun x hx => by
  have h0 := word_okW h x hx
  obtain ⟨hM, -⟩ := codeWd_zero h
  obtain ⟨h1, h2, h3, h4, h5, h6⟩ := codeM_zero hM
  refine WalkArith.wf_i64 ?_
  rw [h6] at h0
  omega

set_option maxHeartbeats 16000000 in
set_option maxRecDepth 8000 in
theorem wordtakes_of (b : Int) (a : Option Addr) (n cap : Nat) (ao : Option Addr) (no co : Nat) (N : List (List Int)) (O : List Int) (b2 : Int) (a2 : Option Addr) (n2 cap2 : Nat) (ao2 : Option Addr) (no2 co2 : Nat) (N2 : List (List Int)) (O2 : List Int) (v x y z : Int) (w : World) (hs : Sl2 w a n N) (ho : Sl w ao no O) (hs2 : Sl2 w a2 n2 N2) (ho2 : Sl w ao2 no2 O2) (hAT : AtSays) (hIS : IsSays) (hLK : LikeSays) :
    Calls Try.prog 3 #[outV b a n cap ao no co, outV b2 a2 n2 cap2 ao2 no2 co2, .int .i64 v, .int .i64 x, .int .i64 y, .int .i64 z] w fun e w' => e = .returned (.bool true) ∧ Below w.heap.size w w' := by
  have hB0 := below_two w (.cells #[.int .i64 b, .slice a n cap, .slice ao no co] 25) (.cells #[.int .i64 b2, .slice a2 n2 cap2, .slice ao2 no2 co2] 25)
  have HB0 := hide hB0
  have HX1 := hide (heap_alloc2_fst w (.cells #[.int .i64 b, .slice a n cap, .slice ao no co] 25) (.cells #[.int .i64 b2, .slice a2 n2 cap2, .slice ao2 no2 co2] 25))
  have HX2 := hide (heap_alloc2_snd w (.cells #[.int .i64 b, .slice a n cap, .slice ao no co] 25) (.cells #[.int .i64 b2, .slice a2 n2 cap2, .slice ao2 no2 co2] 25))
  generalize hW0 : (w.alloc (.cells #[.int .i64 b, .slice a n cap, .slice ao no co] 25)).alloc (.cells #[.int .i64 b2, .slice a2 n2 cap2, .slice ao2 no2 co2] 25) = w0 at hB0 HB0 HX1 HX2
  have HAB : Hid (∀ W, Below w0.heap.size w0 W → (W.cell? ⟨w.heap.size, 0, none⟩ = some (.int .i64 b) ∧ W.cell? ⟨w.heap.size, 1, none⟩ = some (.slice a n cap) ∧ W.cell? ⟨w.heap.size, 2, none⟩ = some (.slice ao no co)) ∧ (W.cell? ⟨w.heap.size + 1, 0, none⟩ = some (.int .i64 b2) ∧ W.cell? ⟨w.heap.size + 1, 1, none⟩ = some (.slice a2 n2 cap2) ∧ W.cell? ⟨w.heap.size + 1, 2, none⟩ = some (.slice ao2 no2 co2))) := fun W h => ⟨(box3_cells ((h.block _ (Array.getElem?_eq_some_iff.1 HX1.out).1).trans HX1.out)).1, (box3_cells ((h.block _ (Array.getElem?_eq_some_iff.1 HX2.out).1).trans HX2.out)).1⟩
  have HA1 := hide (fun W (h : Below w0.heap.size w0 W) => hAT b a n cap ao no co N O x W (sl2_below (sl2_below hs hB0) h) (sl_below (sl_below ho hB0) h))
  have HA2 := hide (fun W (h : Below w0.heap.size w0 W) => hAT b2 a2 n2 cap2 ao2 no2 co2 N2 O2 y W (sl2_below (sl2_below hs2 hB0) h) (sl_below (sl_below ho2 hB0) h))
  have HIS := hide (fun W (h : Below w0.heap.size w0 W) => hIS b a n cap ao no co N O v W (sl2_below (sl2_below hs hB0) h) (sl_below (sl_below ho hB0) h))
  have HLS := hide (fun W (h : Below w0.heap.size w0 W) => hLK b a n cap ao no co N O b2 a2 n2 cap2 ao2 no2 co2 N2 O2 W (sl2_below (sl2_below hs hB0) h) (sl_below (sl_below ho hB0) h) (sl2_below (sl2_below hs2 hB0) h) (sl_below (sl_below ho2 hB0) h))
  unfold PairR at HIS HLS
  unfold outV at HA1 HA2 HIS HLS ⊢
  clear hs ho hs2 ho2 hAT hIS hLK hB0
  have HCD : Hid (atF b N O x 1099511627776 = 0 → atF b2 N2 O2 y 1099511627776 = 0 → (lkC b N O b2 N2 O2 = 0 → b2 = b) ∧ 1 ≤ b ∧ b ≤ 6 ∧ (0 ≤ x ∧ x ≤ 1099511627776) ∧ (0 ≤ y ∧ y ≤ 1099511627776)) := fun h h' => by
    obtain ⟨hO, hx⟩ := at_zero h
    obtain ⟨hO2, hy⟩ := at_zero h'
    obtain ⟨h1, h2, -⟩ := outC_zero hO
    refine ⟨fun hi => ?_, h1, h2, hx, hy⟩
    have hF : lkF b N O b2 N2 O2 = 0 := by
      unfold lkC at hi
      by_cases h1 : lkF b N O b2 N2 O2 = 0
      · exact h1
      · rw [if_neg h1] at hi; exact hi
    exact (lkF_zero hF).2.2
  have HMI := hide (fun (j : Nat) (hj : j ≤ 20) (h : atF b N O x 1099511627776 = 0) (hi : isC b N O v = 0) => is_takes j hj h hi)
  have HML := hide (fun (h : atF b N O x 1099511627776 = 0) (h' : atF b2 N2 O2 y 1099511627776 = 0) (hi : lkC b N O b2 N2 O2 = 0) => like_takes h h' hi)
  generalize isN b N O v = IN at *
  generalize isE b N O v = IE at *
  generalize isC b N O v = c3 at *
  generalize lkRN b N O b2 N2 O2 = LN at *
  generalize lkRE b N O b2 N2 O2 = LE at *
  generalize lkC b N O b2 N2 O2 = c4 at *
  generalize atV b N O x = X at *
  generalize atV b2 N2 O2 y = Y at *
  generalize atF b N O x 1099511627776 = c1 at *
  generalize atF b2 N2 O2 y 1099511627776 = c2 at *
  obtain ⟨⟨p0, p1, p2⟩, -⟩ := HAB.out w0 (Below.refl _ _)
  go_enter Try.func3, Try.ntmps3
  go_wp2_with fail
  clear hW0 p0 p1 p2
  refine (HA1.out w0 (Below.refl _ _)).mono ?_
  rintro e w1 ⟨rfl, hb1⟩
  obtain ⟨-, q0, q1, q2⟩ := HAB.out w1 hb1
  go_wp2_with fail
  clear q0 q1 q2
  refine (HA2.out w1 hb1).mono ?_
  rintro e w2 ⟨rfl, hb2'⟩
  have HB2 := hide (below_step hb1 hb2')
  obtain ⟨⟨p0, p1, p2⟩, -⟩ := HAB.out w2 HB2.out
  clear hb1 hb2'
  go_wp2_with fail
  clear p0 p1 p2
  refine (HIS.out w2 HB2.out).mono ?_
  rintro e w3 ⟨xi, di, xi', di', rfl, hnew, hb3⟩
  obtain ⟨hA4, hbz⟩ := autoAt_pair (b := okI c3 b) (t := okI c3 1) (c := di) (c' := di') 32 hnew
  have HB4 := hide (below_step HB2.out (below_step hb3 hbz))
  have HA4 := hide hA4
  clear hA4 hnew hb3 hbz HIS HB2
  generalize hW4 : w3.alloc (.cells #[.int .i64 (okI c3 b), .int .i64 (okI c3 1), .slice xi IN.length di, .slice xi' IN.length di'] 32) = w4 at HB4 HA4
  have HBE := hide (below_step HB0.out HB4.out)
  by_cases h1 : c1 = 0
  case neg =>
    rw [errV_no h1]
    clear h1 HMI HML HCD
    go_wp2_with fail
    go_ret
    exact ⟨rfl, HBE.out⟩
  by_cases h2 : c2 = 0
  case neg =>
    rw [errV_yes h1, errV_no h2]
    clear h1 h2 HMI HML HCD
    go_wp2_with fail
    go_ret
    exact ⟨rfl, HBE.out⟩
  by_cases h3 : c3 = 0
  case neg =>
    rw [errV_yes h1, errV_yes h2, errV_no h3]
    clear h1 h2 h3 HMI HML HCD
    go_wp2_with fail
    go_ret
    exact ⟨rfl, HBE.out⟩
  by_cases hz0 : z < 0
  case pos =>
    rw [errV_yes h1, errV_yes h2, errV_yes h3]
    clear h1 h2 h3 HMI HML HCD
    go_wp2_with fail
    go_ret
    exact ⟨rfl, HBE.out⟩
  by_cases hz1 : z > 20
  case pos =>
    rw [errV_yes h1, errV_yes h2, errV_yes h3]
    clear h1 h2 h3 HMI HML HCD
    go_wp2_with fail
    go_ret
    exact ⟨rfl, HBE.out⟩
  rw [show okI c3 b = b by unfold okI; rw [if_pos h3], show okI c3 1 = 1 by unfold okI; rw [if_pos h3]] at HA4 hW4 ⊢
  rw [errV_yes h1, errV_yes h2, errV_yes h3]
  obtain ⟨-, hbb1, hbb6, hx, hy⟩ := HCD.out h1 h2
  have HWD1 := hide (fun ad c W (h : Sl W ad 1 [x]) => word_u b ad 1 c [x] W h)
  have HWD2 := hide (fun ad c W (h : Sl W ad 2 [x, y]) => word_u b ad 2 c [x, y] W h)
  unfold WordU at HWD1 HWD2
  rw [code_one hbb1 hbb6 hx, if_pos rfl, errV_zero] at HWD1
  rw [code_two hbb1 hbb6 hx hy, if_pos rfl, errV_zero] at HWD2
  unfold OfU at HWD1 HWD2
  have HM1 := hide (fun j hj => HMI.out j hj h1 h3)
  have HM2 := hide (fun h4 => HML.out h1 h2 h4)
  have HL1 : Hid ((wordL b [x]).length ≤ 60) := wordL_length_le b [x]
  have HF1 : Hid (∀ u ∈ wordL b [x], (Lit.int .i64 u).wf = true) := wordL_wf (code_one hbb1 hbb6 hx)
  have HXW : Hid (∀ u ∈ [x], (Lit.int .i64 u).wf = true) := fun u hu => by simp at hu; subst hu; exact WalkArith.wf_i64 (by omega)
  have HYW : Hid (∀ u ∈ [x, y], (Lit.int .i64 u).wf = true) := fun u hu => by
    simp at hu
    rcases hu with rfl | rfl
    · exact WalkArith.wf_i64 (by omega)
    · exact WalkArith.wf_i64 (by omega)
  clear h1 h2 h3 hbb1 hbb6 hx hy HCD HMI HML HBE HA1 HA2
  generalize wordL b [x] = WL1 at HWD1 HM1 HL1 HF1
  generalize wordL b [x, y] = WL2 at HWD2 HM2
  obtain ⟨⟨p0, p1, p2⟩, -⟩ := HAB.out w4 HB4.out
  go_wp2_with fail
  clear hW4 p0 p1 p2
  refine (HWD1.out _ _ _ (sl_lit w4 3 [x] (by show 1 ≤ maxLen; decide) HXW.out)).mono ?_
  rintro e w5 ⟨aw, cw, rfl, hsw, hb5⟩
  have hb45 := below_step ((Below.refl w4.heap.size w4).alloc (Nat.le_refl _) (.cells #[.int .i64 x] 3)) hb5
  have HB5 := hide (below_step HB4.out hb45)
  have HA5 := hide (autoAt_below HA4.out hb45)
  have HSW := hide hsw.1
  clear hsw hb5 hb45 HB4 HA4 HWD1
  go_wp2_with fail
  obtain ⟨l0, hl0, hv0, hv1, hv2⟩ := info_parts info3
  go_loopw [20, 21] (fun lv iv wx => ∃ j : Nat, (j : Int) ≤ z ∧ iv = .int .i64 j ∧ Grow w5 (List.replicate j 0) lv wx) (fun _ iv _ => z.toNat - (intOf iv).toNat)
  case atStart => exact ⟨0, by omega, rfl, grow_nil w5⟩
  case round =>
    obtain ⟨j, hj, rfl, hgr⟩ := hrel
    have HGR := hide hgr
    have HOWN := hide hgr.1
    rw [List.length_replicate] at HOWN
    have HSZ := hide hgr.2.size
    clear hgr
    by_cases hlt : (j : Int) < z
    · go_wp2_with (at_builtin; refine wpList_append_own _ rfl _ _ 23 rfl w5.heap.size 3 l0 (.int .i64 0) 1 8 Try.underlying23 hl0 hv0 hv1 hv2 rfl (by decide) _ j ((List.replicate j (0 : Int)).map (Value.int .i64)) rfl (HOWN.out.alloc _) ⟨wr.heap.size, 0, none⟩ 1 1 [.int .i64 0] rfl rfl (one_new _ _ _) (fun u hu => by simp at hu; subst hu; rfl) (by unfold maxLen; omega) (by omega) (by have := HSZ.out; simp; omega) ?_; intro v3 w6 hown hgrow _)
      go_roundw
      case rel => exact ⟨j + 1, by omega, by go_num, by rw [List.replicate_succ']; exact grow_push HGR.out (by rw [List.length_replicate]; exact hown) hgrow⟩
      case measure => simp [intOf]; omega
    · have HMJ := hide (HM1.out j (by omega))
      have hj20 : j ≤ 20 := by omega
      have HLJ : Hid ((List.replicate j (0 : Int) ++ WL1).length ≤ maxLen) := by show _ ≤ _; rw [List.length_append, List.length_replicate]; have := HL1.out; unfold maxLen; omega
      have HFJ : Hid (∀ u ∈ List.replicate j (0 : Int) ++ WL1, (Lit.int .i64 u).wf = true) := fun u hu => by
        rcases List.mem_append.1 hu with h | h
        · rw [(List.mem_replicate.1 h).2]; rfl
        · exact HF1.out u h
      have HLE : Hid ((List.replicate j (0 : Int) ++ WL1).length = j + WL1.length) := by show _ = _; rw [List.length_append, List.length_replicate]
      clear HM1
      go_wp2_with (at_builtin; refine wpList_append_sv rfl _ _ rfl w5.heap.size _ (List.replicate j 0) rfl HGR.out.1 aw WL1.length cw WL1 rfl (sl_below HSW.out HGR.out.2) (by rw [List.length_replicate]; omega) (by have := HL1.out; omega) HGR.out.2.size ?_; intro v3 w6 hown hgrow; have HB6 := hide (Below.grown HGR.out.2 hgrow HGR.out.2.size (fun k hk => (HGR.out.1.lt k hk).1)); obtain ⟨ar, cr, rfl, hsr⟩ := sl_of_owns rfl HLJ.out HFJ.out hown; have HSR : Hid (Sl w6 ar (j + WL1.length) (List.replicate j 0 ++ WL1)) := (by have h := hsr.1; rw [HLE.out] at h; exact h); have HA6 := hide (autoAt_below HA5.out HB6.out); obtain ⟨⟨q0, q1, q2, q3⟩, -⟩ := HA6.out; clear hown hgrow hsr)
      clear q0 q1 q2 q3
      refine (takes_u b 1 xi xi' IN.length di IN.length di' IN IE ar (j + WL1.length) cr (List.replicate j 0 ++ WL1) w6 HA6.out.2.1 HA6.out.2.2 HSR.out).mono ?_
      rintro e w7 ⟨rfl, hb7⟩
      obtain ⟨m1, m2⟩ := HMJ.out
      rw [m1, m2, errV_zero]
      have HB7 := hide (below_step HB5.out (below_step HB6.out hb7))
      obtain ⟨q, hq⟩ : ∃ q : Bool, decide (X = v) = q := ⟨_, rfl⟩
      have hq2 : (X == v) = q := by rw [← hq]; rfl
      rw [hq]
      obtain ⟨⟨p0, p1, p2⟩, q0, q1, q2⟩ := HAB.out w7 HB7.out
      clear hq m1 m2 hb7 HB6 HA6 HSR HMJ HLJ HFJ HGR HOWN HSZ HSW HA5
      go_wp2_with fail
      clear p0 p1 p2 q0 q1 q2
      refine (HLS.out w7 HB7.out).mono ?_
      rintro e w8 ⟨xl, dl, xl', dl', rfl, hnew, hb8⟩
      obtain ⟨hA9, hbz⟩ := autoAt_pair (b := okI c4 b) (t := okI c4 2) (c := dl) (c' := dl') 32 hnew
      have HB9 := hide (below_step HB7.out (below_step hb8 hbz))
      have HA9 := hide hA9
      clear hA9 hnew hb8 hbz HLS HB7
      generalize hW9 : w8.alloc (.cells #[.int .i64 (okI c4 b), .int .i64 (okI c4 2), .slice xl LN.length dl, .slice xl' LN.length dl'] 32) = w9 at HB9 HA9
      by_cases h4 : c4 = 0
      · rw [show okI c4 b = b by unfold okI; rw [if_pos h4], show okI c4 2 = 2 by unfold okI; rw [if_pos h4]] at HA9 hW9 ⊢
        rw [errV_yes h4]
        have HM4 := hide (HM2.out h4)
        obtain ⟨⟨p0, p1, p2⟩, -⟩ := HAB.out w9 HB9.out
        clear h4 HM2
        go_wp2_with fail
        clear hW9 p0 p1 p2
        refine (HWD2.out _ _ _ (sl_lit w9 3 [x, y] (by show 2 ≤ maxLen; decide) HYW.out)).mono ?_
        rintro e wA ⟨aw2, cw2, rfl, hsw, hbA⟩
        have hb9A := below_step ((Below.refl w9.heap.size w9).alloc (Nat.le_refl _) (.cells #[.int .i64 x, .int .i64 y] 3)) hbA
        have HBA := hide (below_step HB9.out hb9A)
        have HAA := hide (autoAt_below HA9.out hb9A)
        have HSA := hide hsw.1
        clear hsw hbA hb9A HB9 HA9 HWD2
        obtain ⟨⟨q0, q1, q2, q3⟩, -⟩ := HAA.out
        go_wp2_with fail
        clear q0 q1 q2 q3
        refine (takes_u b 2 xl xl' LN.length dl LN.length dl' LN LE aw2 WL2.length cw2 WL2 wA HAA.out.2.1 HAA.out.2.2 HSA.out).mono ?_
        rintro e wB ⟨rfl, hbB⟩
        obtain ⟨m1, m2⟩ := HM4.out
        rw [m1, m2, errV_zero]
        obtain ⟨q', hq'⟩ : ∃ q : Bool, decide (X = Y) = q := ⟨_, rfl⟩
        have hq3 : (X == Y) = q' := by rw [← hq']; rfl
        rw [hq']
        have HBF := hide (below_step HB0.out (below_step HBA.out hbB))
        clear hq' m1 m2 hbB HAA HSA HBA HM4
        go_wp2_with fail
        go_ret
        exact ⟨rfl, HBF.out⟩
      · rw [errV_no h4]
        have HBF := hide (below_step HB0.out HB9.out)
        clear h4 HM2
        go_wp2_with fail
        go_ret
        exact ⟨rfl, HBF.out⟩
end Go.Proofs.Ytgbmemkoggogdaa
