/- The reference's EvalOf: contract; FormEvals' walk. -/
import Derived.Test.YtgbmemkoggogdaaDoorZYl
import Derived.Test.YtgbmemkoggogdaaDoorRe
import Derived.Test.YtgbmemkoggogdaaDoorZXd
import Derived.Test.YtgbmemkoggogdaaDoorXh
namespace Go.Proofs.YtgbmemkoggogdaaDoor
open Go.RowKit

theorem last_short (t : Fm) (k : Nat) : (0 < (freL t).length ∧ (k : Int) ≤ (freL t).getD ((freL t).length - 1) 0) ↔ shortB t k = true := by
  unfold shortB freL
  simp only [List.filter_cons, List.filter_nil]
  cases t.fre 0 <;> cases t.fre 1 <;> cases t.fre 2 <;> cases t.fre 3 <;> cases t.fre 4 <;> simp <;> omega
def EvI (w : World) (b : Bool) (c : Int) (e : Ending) (w' : World) : Prop := e = .returned (.tuple #[.bool b, .int .i64 c]) ∧ Below w.heap.size w w'
set_option maxHeartbeats 4000000 in
set_option maxRecDepth 4000 in
theorem evalOf_bad (a : Option Addr) (n cap : Nat) (ns : List Nd) (v2 v3 : Value) (w : World) (hs : SlF w a n ns) (hz : (formP ns).2 ≠ 0) : Calls Tryd.prog 10 #[.slice a n cap, v2, v3] w (EvI w false (formP ns).2) := by
  have HCK := hide (formFault_of a n cap ns w hs nodeFault_any)
  have hzb : ((formP ns).2 == 0) = false := by simpa using hz
  have hzn : ((formP ns).2 != 0) = true := by simpa using hz
  clear hs hz
  generalize formP ns = fp at *
  obtain ⟨f1, f2⟩ := fp
  simp only at HCK hzb hzn ⊢
  go_enter Tryd.func10, Tryd.ntmps10
  go_wp2_with fail
  refine HCK.out.mono ?_
  rintro e w1 ⟨rfl, hb1⟩
  have HB1 := hide hb1
  clear hb1
  go_wp2
  go_ret2
  exact ⟨rfl, HB1.out⟩
set_option maxHeartbeats 8000000 in
set_option maxRecDepth 4000 in
theorem evalOf_ok (a : Option Addr) (n cap : Nat) (ns : List Nd) (a2 : Option Addr) (m cap2 : Nat) (os : List Om) (a3 : Option Addr) (l cap3 : Nat) (nums : List Int) (w : World) (hs : SlF w a n ns) (ho : SlO w a2 m os) (h3 : Sl w a3 l nums) (t : Fm) (hok : t.ok) (he : ns = t.flat) (hn : n ≤ 40) (hz : (formP ns).2 = 0) : Calls Tryd.prog 10 #[.slice a n cap, .slice a2 m cap2, .slice a3 l cap3] w (EvI w (decide (evC ns os nums t = 0) && t.tru os nums) (evC ns os nums t)) := by
  have hL := hs.1
  have hLo := ho.1
  have hL3 := h3.1
  have hmx := h3.2.1
  unfold maxLen at hmx
  have HCK := hide (formFault_of a n cap ns w hs nodeFault_any)
  rw [hz] at HCK
  have HBA := hide (fun W (g : SlF W a n ns) => bare_any a n cap ns W g hn)
  have HWF := hide (fun W (g1 : SlF W a n ns) (g2 : SlO W a2 m os) => wordsFault_any a n cap ns a2 m cap2 os 0 W g1 g2 hn)
  have HFO := hide (fun W (g : SlF W a n ns) => freeOf_any a n cap ns W g hn [] [] t hok (by simp [he]))
  rw [show (([] : List Nd).length : Int) = 0 from rfl] at HFO
  have HLS := hide (last_short t l)
  have HTR : Hid (bareB ns = true → wdF ns os 0 = 0 → nmC t nums = 0 → ∀ W, Below w.heap.size w W → Calls Tryd.prog 25 #[.slice a n cap, .int .i64 0, .slice a2 m cap2, .slice a3 l cap3] W fun e W' => e = .returned (.bool (t.tru os nums)) ∧ Below W.heap.size W W') := fun hb hw hm W hbW => by
    obtain ⟨-, hO, hW⟩ := wdF_fine hw
    obtain ⟨hf, hq⟩ := nmC_fine hm
    rw [hLo] at hO hW
    have hbt := bare_tree t (by rw [← he]; exact hb)
    exact truth_any a n cap ns a2 m cap2 os a3 l cap3 nums w hs ho h3 hn (fun x hx v hv hu => by rw [← hL3]; exact hf v hv (bare_fre t hbt _ (by rw [← he]; exact hx) _ hu)) hW hO hq t.flat.length t (Nat.le_refl _) hok hbt [] [] W (by simp [he]) hbW
  have HEV : Hid (evC ns os nums t = if bareB ns = true then (if wdF ns os 0 = 0 then nmC t nums else wdF ns os 0) else 2) := rfl
  have HNC : Hid (nmC t nums = if shortB t l = true then 2 else if numOk nums = true then 0 else 1) := by show _ = _; unfold nmC; rw [hL3]
  have HNO : Hid (∀ k, k < l → ¬ (0 ≤ nums.getD k 0 ∧ nums.getD k 0 ≤ 1099511627776) → numOk nums = false) := fun k hk h => numOk_no (by omega) h
  have HNY : Hid ((∀ k, k < l → 0 ≤ nums.getD k 0 ∧ nums.getD k 0 ≤ 1099511627776) → numOk nums = true) := fun h => numOk_yes (by rw [hL3]; exact h)
  have HS := hide hs
  have HO := hide ho
  have H3 := hide h3
  clear hs ho h3 hok he hz hL hLo hL3
  generalize evC ns os nums t = C at HEV ⊢
  generalize t.tru os nums = T at HTR ⊢
  generalize nmC t nums = nc at HEV HTR HNC
  generalize wdF ns os 0 = wc_ at HWF HEV HTR
  generalize bareB ns = bb_ at HBA HEV HTR
  generalize shortB t l = sb at HLS HNC
  generalize numOk nums = nk at HNC HNO HNY
  generalize freL t = FL at HFO HLS
  go_enter Tryd.func10, Tryd.ntmps10
  go_wp2_with fail
  refine HCK.out.mono ?_
  rintro e w1 ⟨rfl, hb1⟩
  have HB1 := hide hb1
  have HC1 := hide (HBA.out w1 (slF_below HS.out hb1))
  clear hb1 HCK HBA
  generalize (formP ns).1 = f1
  cases bb_ with
  | false =>
    have HC2 : Hid (C = 2) := by show _ = _; rw [HEV.out, if_neg (by decide)]
    go_wp2_with (go_at_call 22; refine HC1.out.mono ?_; rintro e w' ⟨rfl, hw'⟩; rw [hw']; clear hw' w')
    go_ret2
    exact ⟨by rw [HC2.out]; rfl, HB1.out⟩
  | true =>
    have hev := HEV.out
    rw [if_pos rfl] at hev
    have HCV := hide hev
    have HT1 := hide (HTR.out rfl)
    have HW1 := hide (HWF.out w1 (slF_below HS.out HB1.out) (slO_below HO.out HB1.out))
    clear hev HEV HTR HWF
    go_wp2_with (go_at_call 22; refine HC1.out.mono ?_; rintro e w' ⟨rfl, hw'⟩; rw [hw']; clear hw' w')
    refine HW1.out.mono ?_
    rintro e w2 ⟨rfl, hb2⟩
    have HB2 := hide (below_step HB1.out hb2)
    clear hb2 HW1 HC1
    by_cases hwz : wc_ = 0
    · subst hwz
      have hcv := HCV.out
      rw [if_pos rfl] at hcv
      have HCX := hide hcv
      have HT2 := hide (HT1.out rfl)
      have HF1 := hide (HFO.out w2 (slF_below HS.out HB2.out))
      clear hcv HCV HT1 HFO
      go_wp2_with fail
      refine HF1.out.mono ?_
      rintro e w3 ⟨af, cf, rfl, hsf, hb3⟩
      have HB3 := hide (below_step HB2.out hb3)
      have HSF := hide hsf.1
      have hfm := hsf.1.2.1
      unfold maxLen at hfm
      clear hsf hb3 HF1
      by_cases hsb : sb = true
      · have hls := HLS.out.2 hsb
        have HC2 : Hid (C = 2) := by show _ = _; rw [HCX.out, HNC.out, if_pos hsb]
        have hpos : (FL.length : Int) > 0 := by omega
        obtain ⟨bo, oo, rfl, hc⟩ := sl_cell HSF.out (FL.length - 1) (by omega)
        have hge := hls.2
        generalize FL.getD (FL.length - 1) 0 = z at hc hge
        have hge2 : z ≥ (l : Int) := by omega
        clear hls hge hsb
        go_wp2
        go_ret2
        exact ⟨by rw [HC2.out]; rfl, HB3.out⟩
      · have hnl : ¬ (0 < FL.length ∧ (l : Int) ≤ FL.getD (FL.length - 1) 0) := fun h => hsb (HLS.out.1 h)
        have hnc := HNC.out
        rw [if_neg hsb] at hnc
        have HNC2 := hide hnc
        have HFZ : Hid (∀ (K : Prop), (FL.length = 0 → K) → (0 < FL.length → K) → K) := fun K h1 h2 => by
          by_cases h : FL.length = 0
          · exact h1 h
          · exact h2 (by omega)
        clear hnc HNC hsb HLS
        by_cases hp0 : (FL.length : Int) > 0
        · obtain ⟨bo, oo, rfl, hcf⟩ := sl_cell HSF.out (FL.length - 1) (by omega)
          generalize FL.getD (FL.length - 1) 0 = zl at hcf hnl
          have hge2 : ¬ zl ≥ (l : Int) := by omega
          clear hnl HFZ
          go_wp2
          go_loop [12] (fun jv => ∃ j : Nat, j ≤ l ∧ jv = .int .i64 j ∧ ∀ i, i < j → 0 ≤ nums.getD i 0 ∧ nums.getD i 0 ≤ 1099511627776) (fun jv => l - (intOf jv).toNat)
          case atStart => exact ⟨0, by omega, rfl, fun j hj => by omega⟩
          case round =>
            obtain ⟨j, hj, rfl, hz⟩ := hrel
            have HZ := hide hz
            clear hz
            by_cases hlt2 : j < l
            · have hlti2 : (j : Int) < (l : Int) := by omega
              obtain ⟨b1, o1, e1, hc⟩ := sl_cell (sl_below H3.out HB3.out) j hlt2
              cases e1
              have HR1j := hide (HNO.out j hlt2)
              have HNX : Hid (0 ≤ nums.getD j 0 ∧ nums.getD j 0 ≤ 1099511627776 → ∀ i, i < j + 1 → 0 ≤ nums.getD i 0 ∧ nums.getD i 0 ≤ 1099511627776) := fun h i hi => by
                by_cases e : i = j
                · subst e; exact h
                · exact HZ.out i (by omega)
              generalize nums.getD j 0 = z at hc HR1j HNX
              by_cases q1 : z < 0
              · have hnk := HR1j.out (by omega)
                have HC1 : Hid (C = 1) := by show _ = _; rw [HCX.out, HNC2.out, hnk]; rfl
                clear HR1j HNX hnk
                go_wp2
                go_ret2
                exact ⟨by rw [HC1.out]; rfl, HB3.out⟩
              · by_cases q2 : z > 1099511627776
                · have hnk := HR1j.out (by omega)
                  have HC1 : Hid (C = 1) := by show _ = _; rw [HCX.out, HNC2.out, hnk]; rfl
                  clear HR1j HNX hnk
                  go_wp2
                  go_ret2
                  exact ⟨by rw [HC1.out]; rfl, HB3.out⟩
                · have HN := hide (HNX.out (by omega))
                  clear HR1j HNX
                  go_wp2
                  exact ⟨⟨j + 1, by omega, by go_num, HN.out⟩, by simp [intOf]; omega⟩
            · have hlti2 : ¬ (j : Int) < (l : Int) := by omega
              obtain rfl : j = l := by omega
              have hnk := HNY.out HZ.out
              have hc0 : nc = 0 := by rw [HNC2.out, hnk]; rfl
              have HC0 : Hid (C = 0) := by show _ = _; rw [HCX.out, hc0]
              have HT3 := hide (HT2.out hc0 w3 HB3.out)
              clear hnk hc0
              go_wp2_with fail
              refine HT3.out.mono ?_
              rintro e w4 ⟨rfl, hb4⟩
              have HB4 := hide (below_step HB3.out hb4)
              clear hb4 HT3
              go_wp2
              go_ret2
              exact ⟨by rw [HC0.out]; rfl, HB4.out⟩
        · clear hnl HFZ
          go_wp2
          go_loop [12] (fun jv => ∃ j : Nat, j ≤ l ∧ jv = .int .i64 j ∧ ∀ i, i < j → 0 ≤ nums.getD i 0 ∧ nums.getD i 0 ≤ 1099511627776) (fun jv => l - (intOf jv).toNat)
          case atStart => exact ⟨0, by omega, rfl, fun j hj => by omega⟩
          case round =>
            obtain ⟨j, hj, rfl, hz⟩ := hrel
            have HZ := hide hz
            clear hz
            by_cases hlt2 : j < l
            · have hlti2 : (j : Int) < (l : Int) := by omega
              obtain ⟨b1, o1, e1, hc⟩ := sl_cell (sl_below H3.out HB3.out) j hlt2
              cases e1
              have HR1j := hide (HNO.out j hlt2)
              have HNX : Hid (0 ≤ nums.getD j 0 ∧ nums.getD j 0 ≤ 1099511627776 → ∀ i, i < j + 1 → 0 ≤ nums.getD i 0 ∧ nums.getD i 0 ≤ 1099511627776) := fun h i hi => by
                by_cases e : i = j
                · subst e; exact h
                · exact HZ.out i (by omega)
              generalize nums.getD j 0 = z at hc HR1j HNX
              by_cases q1 : z < 0
              · have hnk := HR1j.out (by omega)
                have HC1 : Hid (C = 1) := by show _ = _; rw [HCX.out, HNC2.out, hnk]; rfl
                clear HR1j HNX hnk
                go_wp2
                go_ret2
                exact ⟨by rw [HC1.out]; rfl, HB3.out⟩
              · by_cases q2 : z > 1099511627776
                · have hnk := HR1j.out (by omega)
                  have HC1 : Hid (C = 1) := by show _ = _; rw [HCX.out, HNC2.out, hnk]; rfl
                  clear HR1j HNX hnk
                  go_wp2
                  go_ret2
                  exact ⟨by rw [HC1.out]; rfl, HB3.out⟩
                · have HN := hide (HNX.out (by omega))
                  clear HR1j HNX
                  go_wp2
                  exact ⟨⟨j + 1, by omega, by go_num, HN.out⟩, by simp [intOf]; omega⟩
            · have hlti2 : ¬ (j : Int) < (l : Int) := by omega
              obtain rfl : j = l := by omega
              have hnk := HNY.out HZ.out
              have hc0 : nc = 0 := by rw [HNC2.out, hnk]; rfl
              have HC0 : Hid (C = 0) := by show _ = _; rw [HCX.out, hc0]
              have HT3 := hide (HT2.out hc0 w3 HB3.out)
              clear hnk hc0
              go_wp2_with fail
              refine HT3.out.mono ?_
              rintro e w4 ⟨rfl, hb4⟩
              have HB4 := hide (below_step HB3.out hb4)
              clear hb4 HT3
              go_wp2
              go_ret2
              exact ⟨by rw [HC0.out]; rfl, HB4.out⟩
    · have hcv := HCV.out
      rw [if_neg hwz] at hcv
      have HCX := hide hcv
      have ewz : (wc_ == 0) = false := by simpa using hwz
      have nwz : (wc_ != 0) = true := by simpa using hwz
      have HDF := hide (decide_eq_false hwz)
      clear hwz hcv HCV HT1
      go_wp2
      go_ret2
      exact ⟨by rw [HCX.out, HDF.out]; rfl, HB2.out⟩
set_option maxHeartbeats 8000000 in
set_option maxRecDepth 4000 in
theorem formevals_any (a : Option Addr) (n cap : Nat) (ns : List Nd) (a2 : Option Addr) (m cap2 : Nat) (os : List Om) (a3 : Option Addr) (l cap3 : Nat) (nums : List Int) (w : World) (hs : SlF w a n ns) (ho : SlO w a2 m os) (h3 : Sl w a3 l nums) (hcap : l ≤ cap3) (hg : Handle w) : Calls Tryd.prog 4 #[.slice a n cap, .slice a2 m cap2, .slice a3 l cap3] w fun e w' => e = .returned (.bool true) ∧ Below w.heap.size w w' := by
  obtain ⟨B, C, h1, h2⟩ : ∃ (B : Bool) (C : Int), Calls Tryd.prog 10 #[.slice a n cap, .slice a2 m cap2, .slice a3 l cap3] w (EvI w B C) ∧ ∀ W, Below w.heap.size w W → Calls Tryd.prog 11 #[.slice a n cap, .slice a2 m cap2, .slice a3 l cap3] W (EvR W B C) := by
    by_cases hz : (formP ns).2 = 0
    · obtain ⟨t, he, hok, hn40, -⟩ := form_tree hz
      have hn : n ≤ 40 := by rw [← hs.1]; exact hn40
      exact ⟨_, _, evalOf_ok a n cap ns a2 m cap2 os a3 l cap3 nums w hs ho h3 t hok he hn hz, fun W hb => devEval_of a n cap ns a2 m cap2 os a3 l cap3 nums W (slF_below hs hb) (slO_below ho hb) (sl_below h3 hb) hcap t hok he hn hz holds_all⟩
    · exact ⟨_, _, evalOf_bad a n cap ns _ _ w hs hz, fun W hb => devEval_bad a n cap ns _ _ W (slF_below hs hb) hz⟩
  have H1 := hide h1
  have H2 := hide h2
  have HES := hide (fun W (h : Below w.heap.size w W) => error_same C W (hg.below h))
  clear h1 h2 hs ho h3 hg hcap
  go_enter Tryd.func4, Tryd.ntmps4
  go_wp2_with fail
  refine H1.out.mono ?_
  rintro e w1 ⟨rfl, hb1⟩
  have HB1 := hide hb1
  have HC := hide (H2.out w1 hb1)
  clear hb1 H1 H2
  go_wp2_with fail
  refine HC.out.mono ?_
  rintro e w2 ⟨rfl, hb2⟩
  have HB2 := hide (below_step HB1.out hb2)
  have HE := hide (HES.out w2 HB2.out)
  clear hb2 HC HES
  go_wp2_with fail
  refine HE.out.mono ?_
  rintro e w3 ⟨rfl, hb3⟩
  have HB3 := hide (below_step HB2.out hb3)
  clear hb3 HE
  go_wp2
  go_ret
  exact ⟨by simp, HB3.out⟩
end Go.Proofs.YtgbmemkoggogdaaDoor
