/- The walk of the law AutoParts. -/
import Derived.Test.YtihhlddbppljpabAv
import Derived.Test.YtihhlddbppljpabAx
namespace Go.Proofs.Ytihhlddbppljpab
open Go.RowKit

def PartsAt (w W : World) (b t : Int) (a : Option Addr) (len cap : Nat) (a' : Option Addr) (len' cap' : Nat) (N : List (List Int)) (E : List Bool) (av : Option Addr) (lv : Nat) (v : List Int) (aw : Option Addr) (lw : Nat) (u : List Int) : Prop :=
  Below w.heap.size w W ∧ AutoAt W w.heap.size b t a len cap a' len' cap' N E ∧ Sl W av lv v ∧ Sl W aw lw u
theorem partsAt_step {w W W' : World} {b t : Int} {a : Option Addr} {len cap : Nat} {a' : Option Addr} {len' cap' : Nat} {N : List (List Int)} {E : List Bool} {av : Option Addr} {lv : Nat} {v : List Int} {aw : Option Addr} {lw : Nat} {u : List Int} (h : PartsAt w W b t a len cap a' len' cap' N E av lv v aw lw u) (hb : Below W.heap.size W W') : PartsAt w W' b t a len cap a' len' cap' N E av lv v aw lw u :=
  ⟨below_step h.1 hb, autoAt_below h.2.1 hb, sl_below h.2.2.1 hb, sl_below h.2.2.2 hb⟩

theorem runC_zero {b t : Int} {N : List (List Int)} {e : Nat} {l : List Int} (h : runC b t N e l = 0) : autoC b t N e = 0 ∧ wordC (manyU b t).toNat l = 0 := by
  unfold runC at h
  split at h
  · exact ⟨by assumption, h⟩
  · contradiction
theorem runC_of {b t : Int} {N : List (List Int)} {e : Nat} {l : List Int} (h : autoC b t N e = 0) (h' : wordC (manyU b t).toNat l = 0) : runC b t N e l = 0 := by unfold runC; rw [if_pos h, h']
theorem wordC_pre {m : Nat} {v u : List Int} (h : wordC m (v ++ u) = 0) : wordC m v = 0 := by
  obtain ⟨h1, h2⟩ := wordC_zero h
  rw [List.length_append] at h1 h2
  refine wordC_good (by omega) fun k hk => ?_
  have := h2 k (by omega)
  rwa [pre_getD (List.prefix_append v u) k hk] at this
theorem getD_right (v u : List Int) (k : Nat) : (v ++ u).getD (v.length + k) 0 = u.getD k 0 := by
  simp only [List.getD]
  rw [List.getElem?_append_right (by omega), Nat.add_sub_cancel_left]
theorem mem_snoc {L : List Int} {k : Nat} (hk : k < L.length) (s : Int) : decide (s ∈ L.take (k + 1)) = (decide (s ∈ L.take k) || decide (L.getD k 0 = s)) := by
  have e : L.take (k + 1) = L.take k ++ [L.getD k 0] := by rw [List.take_succ_eq_append_getElem hk, getD_at _ _ hk]
  have h : s ∈ L.take (k + 1) ↔ s ∈ L.take k ∨ L.getD k 0 = s := by
    rw [e, List.mem_append, List.mem_singleton]
    exact ⟨fun h => h.imp id Eq.symm, fun h => h.imp id Eq.symm⟩
  rw [decide_eq_decide.2 h, Bool.decide_or]

set_option maxHeartbeats 4000000 in
set_option maxRecDepth 8000 in
theorem parts_any (b t : Int) (a : Option Addr) (len cap : Nat) (a' : Option Addr) (len' cap' : Nat) (N : List (List Int)) (E : List Bool) (av : Option Addr) (lv cv : Nat) (v : List Int) (aw : Option Addr) (lw cw : Nat) (u : List Int) (w : World) (hs : Sl2 w a len N) (he : SlB w a' len' E) (hv : Sl w av lv v) (hnv : av = none → cv = 0) (hbv : lv ≤ 1048576) (hw : Sl w aw lw u) (hnw : aw = none → cw = 0) (hbw : lw ≤ 1048576) :
    Calls Try.prog 3 #[.agg #[.int .i64 b, .int .i64 t, .slice a len cap, .slice a' len' cap'], .slice av lv cv, .slice aw lw cw] w fun e w' => e = .returned (.bool true) ∧ Below w.heap.size w w' := by
  have hB0 : Below w.heap.size w (w.alloc (.cells #[.int .i64 b, .int .i64 t, .slice a len cap, .slice a' len' cap'] 25)) := (Below.refl _ _).alloc (Nat.le_refl _) _
  have H0 : Hid (PartsAt w (w.alloc (.cells #[.int .i64 b, .int .i64 t, .slice a len cap, .slice a' len' cap'] 25)) b t a len cap a' len' cap' N E av lv v aw lw u) := ⟨hB0, autoAt_new hs he, sl_below hv hB0, sl_below hw hB0⟩
  have HTW := hide twos_any
  unfold TwosU at HTW
  have HTF := hide (fun W a a' c c' h h' => two_fact W a a' c c' h h' 3)
  have HRU := hide (fun aw lw cw l W h k => run_u b t a a' len cap len' cap' N aw lw cw l W h he.2.1 k)
  have HRE := hide (fun W h => reach_u b t a a' len cap len' cap' N W h he.2.1)
  unfold OfU at HRE
  have hLv := hv.1
  have hLw := hw.1
  have hLN := hs.1
  have HNV := hide hnv
  have HNW := hide hnw
  clear hs he hv hw hB0 hnv hnw
  go_enter Try.func3, Try.ntmps3
  go_wp2_with fail
  refine (HTW.out _).mono ?_
  rintro e w1 ⟨a1, c1, a2, c2, rfl, hs1, he1, hb1⟩
  have H1 := hide (partsAt_step H0.out hb1)
  have HT1 := hide hs1
  have HE1 := hide he1
  clear hb1 H0 HTW hs1 he1
  go_wp2_with fail
  refine (HTF.out w1 a1 a2 c1 c2 HT1.out HE1.out).mono ?_
  rintro e w2 ⟨rfl, hb2⟩
  have H2 := hide (partsAt_step H1.out hb2)
  clear hb2 H1 HTF HT1 HE1
  have HWF : Hid (∀ x ∈ v ++ u, (Lit.int .i64 x).wf = true) := fun x hx => by
    rcases List.mem_append.1 hx with h | h
    · exact H2.out.2.2.1.2.2.1 x h
    · exact H2.out.2.2.2.2.2.1 x h
  have hall : (v ++ u).length ≤ 4000000 := by rw [List.length_append]; omega
  have HLL : Hid ((v ++ u).length = lv + lw) := by show _ = _; rw [List.length_append]; omega
  go_wp2_with (first | (at_builtin; refine wpList_append_sl rfl _ _ rfl w2.heap.size (.slice none 0 0) [] rfl (World.ownsRow_nil _ _ _ _) av lv cv v rfl H2.out.2.2.1 HNV.out (by simp) (by omega) (Nat.le_refl _) ?_; intro v3 w3 hown3 hgrow3; have hb3 : Below w2.heap.size w2 w3 := (Below.refl _ _).grown hgrow3 (Nat.le_refl _) (fun k hk => by simp [Value.ownBlock] at hk); have HB3 := hide hb3; have H3 := hide (partsAt_step H2.out hb3); have HO3 := hide hown3; clear hb3 hown3 hgrow3; rw [List.nil_append] at HO3) | (at_builtin; refine wpList_append_sl rfl _ _ rfl w2.heap.size v3 v rfl HO3.out aw lw cw u rfl H3.out.2.2.2 HNW.out (by omega) (by omega) HB3.out.size ?_; intro v4 w4 hown4 hgrow4; have hb4 : Below w2.heap.size w2 w4 := HB3.out.grown hgrow4 HB3.out.size (fun k hk => (HO3.out.lt k hk).1); have H4 := hide (partsAt_step H2.out hb4); obtain ⟨a4, c4, rfl, hs4⟩ := sl_of_owns rfl (by unfold maxLen; omega) HWF.out hown4; have HS4 := hide hs4.1; rw [HLL.out] at HS4; clear hb4 hown4 hgrow4 hs4 HB3 H3 HO3 H2; obtain ⟨hc0, hc1, hc2, hc3⟩ := H4.out.2.1.1))
  refine (HRU.out a4 _ c4 (v ++ u) w4 H4.out.2.1.2.1 HS4.out).mono ?_
  rintro e w5 ⟨rfl, hb5⟩
  have H5 := hide (partsAt_step H4.out hb5)
  clear hb5 H4 HS4 hc0 hc1 hc2 hc3
  by_cases hC : runC b t N len' (v ++ u) = 0
  · obtain ⟨hA, hW⟩ := runC_zero hC
    obtain ⟨-, -, hG, -⟩ := autoC_zero hA
    rw [hLN] at hG
    have hCv := runC_of hA (wordC_pre hW)
    have hS : runS b t N len' (v ++ u) = runL N (v ++ u) := by unfold runS; rw [if_pos hC]
    have hSv : runS b t N len' v = runL N v := by unfold runS; rw [if_pos hCv]
    have hRL : reachL b t N len' = metL N := by unfold reachL; rw [if_pos hA]
    have HRV := hide (fun W h k => HRU.out av lv cv v W h k)
    rw [hSv, hCv, errV_yes rfl] at HRV
    rw [hRL, hA, errV_yes rfl] at HRE
    rw [hS, hC, errV_yes rfl]
    generalize (manyU b t).toNat = m at hW hG
    have hwz := wordC_zero hW
    have HLET := hide hwz.2
    have HLT := hide (fun k hk => runL_lt hG (v ++ u) k hk)
    have HTS := hide (fun k => runL_take_succ N (v ++ u) k)
    have HST := hide (fun s => @goodN_step m len N hG s)
    have HROW : Hid (∀ s, s < len → (N.getD s []).length = m) := fun s h => (hG.2.2.2.2.2 s h).1
    have HMEM : Hid (((runL N (v ++ u) : Nat) : Int) ∈ metL N) := by
      have := run_met hG (v ++ u) (v ++ u).length (Nat.le_refl _) hwz.2
      rwa [List.take_length] at this
    have HV0 : Hid (runL N ((v ++ u).take (lv + 0)) = runL N v) := by show _ = _; rw [Nat.add_zero, ← hLv, List.take_left]
    have HV1 : Hid (runL N ((v ++ u).take (lv + lw)) = runL N (v ++ u)) := by show _ = _; rw [List.take_of_length_le (by rw [List.length_append]; omega)]
    have HGR : Hid (∀ k, (v ++ u).getD (lv + k) 0 = u.getD k 0) := fun k => by rw [← hLv]; exact getD_right v u k
    have hll : (v ++ u).length = lv + lw := by rw [List.length_append]; omega
    have hvlt : runL N v < len := by
      have := HLT.out lv (by omega) (fun j hj => hwz.2 j (by omega))
      rwa [show (v ++ u).take lv = v by rw [← hLv]; exact List.take_left] at this
    have hvi : ¬ ((len : Int) ≤ ((runL N v : Nat) : Int)) := by omega
    have hml := met_len hG
    have hn80 := hG.2.2.1
    have hm36 := hG.2.2.2.1
    have HSN := hide (fun k hk => @mem_snoc (metL N) k hk (runL N (v ++ u) : Nat))
    clear hA hW hCv hS hSv hRL hC HRU hwz hG HWF
    generalize hL : metL N = L at HRE HMEM hml HSN
    clear hL
    generalize hs : runL N (v ++ u) = s at HMEM HV1 HSN ⊢
    clear hs
    obtain ⟨hc0, hc1, hc2, hc3⟩ := H5.out.2.1.1
    go_wp2_with fail
    refine (HRV.out w5 H5.out.2.1.2.1 H5.out.2.2.1).mono ?_
    rintro e w6 ⟨rfl, hb6⟩
    have H6 := hide (partsAt_step H5.out hb6)
    clear hb6 H5 HRV hc0 hc1 hc2 hc3
    obtain ⟨hc0, hc1, hc2, hc3⟩ := H6.out.2.1.1
    go_wp2_with fail
    refine (HRE.out w6 H6.out.2.1.2.1).mono ?_
    rintro e w7 ⟨a7, c7, rfl, ⟨hs7, -⟩, hb7⟩
    have H7 := hide (partsAt_step H6.out hb7)
    have HS7 := hide hs7
    clear hb7 hs7 H6 HRE hc0 hc1 hc2 hc3
    obtain ⟨-, -, hc2, -⟩ := H7.out.2.1.1
    have HC2 := hide hc2
    go_wp2
    clear hc2
    go_loopw [12, 16] (fun p i wx => ∃ k n : Nat, k ≤ lw ∧ i = .int .i64 k ∧ p = .int .i64 (runL N ((v ++ u).take (lv + k)) : Nat) ∧ wx = w7.drewN n) (fun _ i _ => lw - (intOf i).toNat)
    case atStart => exact ⟨0, 0, by omega, rfl, by rw [HV0.out], rfl⟩
    case round =>
      obtain ⟨k, n, hk, rfl, rfl, hwx⟩ := hrel
      have HWX := hide hwx
      clear hwx
      by_cases hlt : k < lw
      · have hlti : (k : Int) < (lw : Int) := by omega
        have hsl := HLT.out (lv + k) (by omega) (fun j hj => HLET.out j (by omega))
        have HTS' := hide (HTS.out (lv + k) (by omega))
        have hx := HLET.out (lv + k) (by omega)
        rw [HGR.out k] at hx HTS'
        obtain ⟨bw, ow, rfl, hcw0⟩ := sl_cell H7.out.2.2.2 k hlt
        have hcw : wr.cell? ⟨bw, ow + k, none⟩ = some (.int .i64 (u.getD k 0)) := by rw [HWX.out]; exact hcw0
        have hbx : wr.cell? ⟨w.heap.size, 2, none⟩ = some (.slice a len cap) := by rw [HWX.out]; exact HC2.out
        clear hcw0
        generalize runL N ((v ++ u).take (lv + k)) = q at hsl HTS' ⊢
        generalize u.getD k 0 = x at hcw hx HTS'
        obtain ⟨bn, on, a1, c1, rfl, hcn0, hsl1⟩ := sl2_cell H7.out.2.1.2.1 q hsl
        rw [HROW.out q hsl] at hcn0 hsl1
        have hcn : wr.cell? ⟨bn, on + q, none⟩ = some (.slice a1 m c1) := by rw [HWX.out]; exact hcn0
        have hsli : (q : Int) < (len : Int) := by omega
        have HST' := hide (HST.out q hsl x hx)
        obtain ⟨y, rfl⟩ : ∃ y : Nat, x = y := ⟨x.toNat, by omega⟩
        have hy : y < m := by omega
        have hyi : (y : Int) < (m : Int) := by omega
        obtain ⟨b1, o1, rfl, hc10⟩ := sl_cell hsl1 y hy
        rw [Int.toNat_natCast] at HST'
        rw [← HST'.out.2] at hc10
        have hc1 : wr.cell? ⟨b1, o1 + y, none⟩ = some (.int .i64 (stepL N q (y : Int) : Nat)) := by rw [HWX.out]; exact hc10
        clear hsl1 hcn0 hc10 hx
        generalize stepL N q (y : Int) = q' at hc1 HTS'
        go_wp2
        go_quiet (fail)
        go_wp2
        go_roundw
        case rel => exact ⟨k + 1, n + nq, by omega, by go_num, by rw [← HTS'.out, Nat.add_assoc], by rw [HWX.out, World.drewN_drewN]⟩
        case measure => simp [intOf]; omega
      · have hlti : ¬ ((k : Int) < (lw : Int)) := by omega
        obtain rfl : k = lw := by omega
        rw [HV1.out]
        have HBW : Hid (Below w.heap.size w wr) := by rw [HWX.out]; exact below_drewN H7.out.1 n
        have HSW : Hid (Sl wr a7 L.length L) := by show Sl _ _ _ _; rw [HWX.out]; exact sl_below HS7.out (below_drewN (Below.refl _ _) n)
        clear HWX HTS HST HROW HLT HLET HGR HV0 HV1
        go_wp2
        go_loop [17, 18] (fun h i => ∃ k : Nat, k ≤ L.length ∧ i = .int .i64 k ∧ h = .bool (decide ((s : Int) ∈ L.take k))) (fun _ i => L.length - (intOf i).toNat)
        case atStart => exact ⟨0, by omega, rfl, by simp⟩
        case round =>
          obtain ⟨k, hk, rfl, rfl⟩ := hrel
          by_cases hlt2 : k < L.length
          · have hlti2 : (k : Int) < (L.length : Int) := by omega
            obtain ⟨bl, ol, rfl, hcl⟩ := sl_cell HSW.out k hlt2
            have HSN' := hide (HSN.out k hlt2)
            generalize L.getD k 0 = y at hcl HSN'
            generalize decide ((s : Int) ∈ L.take k) = hd at HSN' ⊢
            cases hd with
            | true =>
              go_wp2
              go_round
              case rel => exact ⟨k + 1, by omega, by go_num, by rw [HSN'.out]; rfl⟩
              case measure => simp [intOf]; omega
            | false =>
              by_cases hy : y = (s : Int)
              · have hyb : (y == (s : Int)) = true := by simpa using hy
                go_wp2
                go_round
                case rel => exact ⟨k + 1, by omega, by go_num, by rw [HSN'.out, decide_eq_true hy]; rfl⟩
                case measure => simp [intOf]; omega
              · have hyb : (y == (s : Int)) = false := by simpa using hy
                go_wp2
                go_round
                case rel => exact ⟨k + 1, by omega, by go_num, by rw [HSN'.out, decide_eq_false hy]; rfl⟩
                case measure => simp [intOf]; omega
          · have hlti2 : ¬ ((k : Int) < (L.length : Int)) := by omega
            have HF : Hid (decide ((s : Int) ∈ L.take k) = true) := by show _ = _; rw [List.take_of_length_le (by omega)]; exact decide_eq_true HMEM.out
            rw [HF.out]
            go_wp2
            go_ret
            exact ⟨by simp, HBW.out⟩
  · rw [errV_no hC]
    have HB5 := hide H5.out.1
    clear H5 HRU HRE HWF
    go_wp2
    go_ret
    exact ⟨by simp, HB5.out⟩
end Go.Proofs.Ytihhlddbppljpab
