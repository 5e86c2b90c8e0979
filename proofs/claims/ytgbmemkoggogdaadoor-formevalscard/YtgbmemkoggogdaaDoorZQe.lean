/- 2 texts in one. -/
import Derived.Test.YtgbmemkoggogdaaDoorZCf
import Derived.Test.YtgbmemkoggogdaaDoorJb
import Derived.Test.YtgbmemkoggogdaaDoorQd
/- line.loadOf, whole, loadsOf: contracts. -/
namespace Go.Proofs.YtgbmemkoggogdaaDoor
open Go.RowKit

theorem ud_far {C N : List Int} (h12 : absT C C.length ≤ 12) {k : Nat} (hk : k ≤ C.length) (hn : ∀ i, i < k → 0 ≤ N.getD i 0 ∧ N.getD i 0 ≤ 1099511627776) : (0 ≤ upT C (fun i => N.getD i 0) k ∧ upT C (fun i => N.getD i 0) k ≤ 13194139533312) ∧ (0 ≤ dnT C (fun i => N.getD i 0) k ∧ dnT C (fun i => N.getD i 0) k ≤ 13194139533312) := by
  have h0 := ud_nn (C := C) (f := fun i => N.getD i 0) (k := k) (fun i hi => (hn i hi).1)
  have h1 := ud_mono (C := C) (f := fun i => N.getD i 0) (g := fun _ => 1099511627776) (k := k) (fun i hi => (hn i hi).2)
  have h2 := ud_mul C 1099511627776 k
  have h3 := ud_abs C k
  have h4 := absT_mono C hk
  have h5 := ud_nn (C := C) (f := fun _ => 1) (k := k) (fun _ _ => by decide)
  omega
def loadV (u d : Int) : Value := .agg #[.int .i64 u, .int .i64 d]
/-- Between two tracks: so much has been gathered in block B. -/
def LoAt (w : World) (u d : Int) (W : World) : Prop := W.heap[w.heap.size + 1]? = some (.cells #[.int .i64 u, .int .i64 d] 132 (0, 0)) ∧ W.heap[w.heap.size]? = some (.cells #[.int .i64 0, .int .i64 0] 132 (0, 0)) ∧ Below w.heap.size w W
theorem loAt_start (w : World) : LoAt w 0 0 ((w.alloc (.cells #[.int .i64 0, .int .i64 0] 132)).alloc (.cells #[.int .i64 0, .int .i64 0] 132)) := by
  have h1 := heap_alloc2_fst w (.cells #[.int .i64 0, .int .i64 0] 132) (.cells #[.int .i64 0, .int .i64 0] 132)
  have h2 := heap_alloc2_snd w (.cells #[.int .i64 0, .int .i64 0] 132) (.cells #[.int .i64 0, .int .i64 0] 132)
  exact ⟨h2, h1, below_two _ _ _⟩
theorem loAt_set0 {w W : World} {u d : Int} (h : LoAt w u d W) (x : Int) : LoAt w x d (W.setCell ⟨w.heap.size + 1, 0, none⟩ (.int .i64 x)).drew := by
  obtain ⟨h1, h2, h3⟩ := h
  obtain ⟨⟨e1, -, k1⟩, hb1⟩ := box2_set1 (i := 0) (v := .int .i64 x) h1
  exact ⟨e1, (k1 _ (by omega)).trans h2, (hb1 w w.heap.size h3 (by omega)).drew⟩
theorem loAt_set1 {w W : World} {u d : Int} (h : LoAt w u d W) (x : Int) : LoAt w u x (W.setCell ⟨w.heap.size + 1, 1, none⟩ (.int .i64 x)).drew := by
  obtain ⟨h1, h2, h3⟩ := h
  obtain ⟨⟨e1, -, k1⟩, hb1⟩ := box2_set1 (i := 1) (v := .int .i64 x) h1
  exact ⟨e1, (k1 _ (by omega)).trans h2, (hb1 w w.heap.size h3 (by omega)).drew⟩
set_option maxHeartbeats 4000000 in
set_option maxRecDepth 4000 in
theorem lnLoad_any (a : Option Addr) (n cap : Nat) (C : List Int) (a2 : Option Addr) (n2 cap2 : Nat) (N : List Int) (w : World) (hs : Sl w a n C) (hs2 : Sl w a2 n2 N) (hn : n ≤ n2) (h12 : absT C C.length ≤ 12) (hN : ∀ i, i < n → 0 ≤ N.getD i 0 ∧ N.getD i 0 ≤ 1099511627776) :
    Calls Tryd.prog 78 #[.slice a n cap, .slice a2 n2 cap2] w fun e w' => e = .returned (loadV (upT C (fun i => N.getD i 0) C.length) (dnT C (fun i => N.getD i 0) C.length)) ∧ Below w.heap.size w w' := by
  have hL := hs.1
  have hML := hs2.2.1
  unfold maxLen at hML
  have HS := hide hs
  have HS2 := hide hs2
  have H0 := hide (loAt_start w)
  have HUF : Hid (∀ k, k ≤ n → (0 ≤ upT C (fun i => N.getD i 0) k ∧ upT C (fun i => N.getD i 0) k ≤ 13194139533312) ∧ (0 ≤ dnT C (fun i => N.getD i 0) k ∧ dnT C (fun i => N.getD i 0) k ≤ 13194139533312)) := fun k hk => ud_far h12 (by omega) (fun i hi => hN i (by omega))
  have HSU : Hid (∀ k, upT C (fun i => N.getD i 0) (k + 1) = if 0 < C.getD k 0 then upT C (fun i => N.getD i 0) k + C.getD k 0 * N.getD k 0 else upT C (fun i => N.getD i 0) k) := fun k => rfl
  have HSD : Hid (∀ k, dnT C (fun i => N.getD i 0) (k + 1) = if 0 < C.getD k 0 then dnT C (fun i => N.getD i 0) k else dnT C (fun i => N.getD i 0) k - C.getD k 0 * N.getD k 0) := fun k => rfl
  have HMF : Hid (∀ k, k < n → -13194139533312 ≤ C.getD k 0 * N.getD k 0 ∧ C.getD k 0 * N.getD k 0 ≤ 13194139533312) := fun k hk => mul_far h12 (by omega) (hN k hk).1 (hN k hk).2
  have HZ : Hid (upT C (fun i => N.getD i 0) 0 = 0 ∧ dnT C (fun i => N.getD i 0) 0 = 0) := ⟨rfl, rfl⟩
  rw [hL]
  clear hs hs2 hL h12 hN
  generalize hU : upT C (fun i => N.getD i 0) = U at HUF HSU HZ ⊢
  generalize hD : dnT C (fun i => N.getD i 0) = D at HUF HSD HZ ⊢
  clear hU hD
  unfold loadV
  generalize hW0 : (w.alloc (.cells #[.int .i64 0, .int .i64 0] 132)).alloc (.cells #[.int .i64 0, .int .i64 0] 132) = wb at H0
  go_enter Tryd.func78, Tryd.ntmps78
  go_wp2
  clear hW0
  go_loopw [10] (fun iv wx => ∃ k : Nat, k ≤ n ∧ iv = .int .i64 k ∧ LoAt w (U k) (D k) wx) (fun iv _ => n - (intOf iv).toNat)
  case atStart => exact ⟨0, by omega, rfl, by rw [HZ.out.1, HZ.out.2]; exact H0.out⟩
  case round =>
    obtain ⟨k, hk, rfl, hlo⟩ := hrel
    have HLO := hide hlo
    have hu := HUF.out k hk
    obtain ⟨⟨c0, c1⟩, cf⟩ := box2_cells hlo.1
    have hsC := sl_below HS.out hlo.2.2
    have hsN := sl_below HS2.out hlo.2.2
    by_cases hlt : k < n
    · have hlti : (k : Int) < (n : Int) := by omega
      have hlti2 : (k : Int) < (n2 : Int) := by omega
      obtain ⟨b1, o1, rfl, hc⟩ := sl_cell hsC k hlt
      obtain ⟨b2, o2, rfl, hc2⟩ := sl_cell hsN k (by omega)
      have hmf := HMF.out k hlt
      have hu2 := HUF.out (k + 1) hlt
      have hsu := HSU.out k
      have hsd := HSD.out k
      have HX0 := hide (fun x => loAt_set0 hlo x)
      have HX1 := hide (fun x => loAt_set1 hlo x)
      clear hsC hsN hlo
      generalize C.getD k 0 = x at hc hmf hsu hsd
      generalize N.getD k 0 = y at hc2 hmf hsu hsd
      by_cases hx : x > 0
      · rw [if_pos hx] at hsu hsd
        have HSU2 := hide hsu
        have HSD2 := hide hsd
        rw [hsu, hsd] at hu2
        clear hsu hsd
        have HN := hide (HX0.out (U k + x * y))
        generalize U k = u at hu hu2 c0 HN HSU2
        generalize D k = d at hu hu2 c1 HN HSD2
        go_wp2
        go_region
        go_wp2
        go_roundw
        case rel => exact ⟨k + 1, by omega, by go_num, by rw [HSU2.out, HSD2.out]; exact HN.out⟩
        case measure => simp [intOf]; omega
      · rw [if_neg hx] at hsu hsd
        have hx' : ¬ x > 0 := hx
        have HSU2 := hide hsu
        have HSD2 := hide hsd
        rw [hsu, hsd] at hu2
        clear hsu hsd
        have HN := hide (HX1.out (D k - x * y))
        generalize U k = u at hu hu2 c0 HN HSU2
        generalize D k = d at hu hu2 c1 HN HSD2
        go_wp2
        go_region
        go_wp2
        go_roundw
        case rel => exact ⟨k + 1, by omega, by go_num, by rw [HSU2.out, HSD2.out]; exact HN.out⟩
        case measure => simp [intOf]; omega
    · have hlti : ¬ (k : Int) < (n : Int) := by omega
      obtain rfl : k = n := by omega
      obtain ⟨h1, h2, h3⟩ := hlo
      have HH2 := hide h2
      have HH3 := hide h3
      obtain ⟨⟨q0, q1⟩, qf⟩ := box2_cells h2
      clear h1 h2 h3 hsC hsN
      generalize hU : U k = u at c0 hu
      generalize hD : D k = d at c1 hu
      have HU := hide hU
      have HD := hide hD
      clear hU hD HLO
      go_wp2
      obtain ⟨⟨hset, -, -⟩, hbel⟩ := box2_set (v0 := .int .i64 u) (v1 := .int .i64 d) HH2.out rfl
      obtain ⟨⟨z0, z1⟩, -⟩ := box2_cells hset
      exact bodyPost_ret (v := .agg #[.int .i64 u, .int .i64 d]) (by simp [results, Tryd.results78, go_sem, z0, z1]) rfl ⟨by rw [HU.out, HD.out], hbel _ _ HH3.out (by omega)⟩

end Go.Proofs.YtgbmemkoggogdaaDoor

/- line.Holds: contract. -/
namespace Go.Proofs.YtgbmemkoggogdaaDoor
open Go.RowKit

set_option maxHeartbeats 8000000 in
set_option maxRecDepth 8000 in
theorem holds_saysQ : HoldsSays := by
  intro a n cap C c less a2 n2 cap2 nums w hs hs2
  have hCL := hs.1
  have hNL := hs2.1
  have hML := hs.2.1
  have hML2 := hs2.2.1
  unfold maxLen at hML hML2
  have HHC : Hid (hdC C c nums = if (n ≤ 5 ∧ absT C C.length ≤ 12) ∧ -60 ≤ c ∧ c ≤ 60 then (if n2 = n then (if numOk nums = true then 0 else 1) else 2) else 1) := by show _ = _; unfold hdC; rw [hCL, hNL]
  have HHB : Hid (hdB C c less nums = if hdC C c nums = 0 then lnEnd c less (sumT C (fun i => nums.getD i 0) C.length) else false) := rfl
  have HB1 : Hid (hdC C c nums ≠ 0 → hdB C c less nums = false) := fun h => by rw [HHB.out, if_neg h]
  have HB0 : Hid (hdC C c nums = 0 → hdB C c less nums = lnEnd c less (sumT C (fun i => nums.getD i 0) C.length)) := fun h => by rw [HHB.out, if_pos h]
  generalize hdC C c nums = HC at HHC HHB HB1 HB0 ⊢
  generalize hdB C c less nums = HB at HHB HB1 HB0 ⊢
  clear HHB
  have HS := hide hs
  have HS2 := hide hs2
  clear hs hs2
  by_cases h5 : n ≤ 5
  · have h5i : ¬ (n : Int) > 5 := by omega
    have HCK := hide (lnCheck_any a n cap C c w HS.out h5)
    by_cases hck : ckC C c = 0
    · have hin : absT C C.length ≤ 12 ∧ -60 ≤ c ∧ c ≤ 60 := by
        unfold ckC at hck
        by_cases h : absT C C.length ≤ 12 ∧ -60 ≤ c ∧ c ≤ 60
        · exact h
        · rw [if_neg h] at hck; omega
      rw [hck, errV_zero] at HCK
      have HHC2 := HHC.out
      rw [if_pos ⟨⟨h5, hin.1⟩, hin.2⟩] at HHC2
      by_cases hnn : n2 = n
      · subst hnn
        rw [if_pos rfl] at HHC2
        have HHC3 := hide HHC2
        have HIN := hide hin
        have hc60 := hin.2
        have HCL := hide hCL
        have HNL := hide hNL
        clear HHC HHC2 hck hin hCL
        go_enter Tryd.func51, Tryd.ntmps51
        go_wp2_with (go_at_call 77; refine HCK.out.mono ?_; rintro e w1 ⟨rfl, hw1⟩; rw [hw1]; clear hw1 w1)
        go_loop [32] (fun iv => ∃ k : Nat, k ≤ n2 ∧ iv = .int .i64 k ∧ ∀ i, i < k → 0 ≤ nums.getD i 0 ∧ nums.getD i 0 ≤ 1099511627776) (fun iv => n2 - (intOf iv).toNat)
        case atStart => exact ⟨0, by omega, rfl, fun i hi => by omega⟩
        case round =>
          obtain ⟨k, hk, rfl, hall⟩ := hrel
          have HALL := hide hall
          clear hall
          by_cases hlt : k < n2
          · have hlti : (k : Int) < (n2 : Int) := by omega
            obtain ⟨b1, o1, rfl, hc⟩ := sl_cell HS2.out k hlt
            have HN1 : Hid (¬ (0 ≤ nums.getD k 0 ∧ nums.getD k 0 ≤ 1099511627776) → HC = 1 ∧ HB = false) := fun h => by
              have h1 := HHC3.out
              rw [if_neg (numOk_not (i := k) (by rw [HNL.out]; exact hlt) h)] at h1
              exact ⟨h1, HB1.out (by rw [h1]; decide)⟩
            have HNX : Hid ((0 ≤ nums.getD k 0 ∧ nums.getD k 0 ≤ 1099511627776) → ∀ i, i < k + 1 → 0 ≤ nums.getD i 0 ∧ nums.getD i 0 ≤ 1099511627776) := fun h i hi => by
              by_cases e : i = k
              · subst e; exact h
              · exact HALL.out i (by omega)
            generalize nums.getD k 0 = x at hc HN1 HNX
            by_cases hx : x < 0
            · obtain ⟨hC1, hB1⟩ := HN1.out (by omega)
              subst hC1
              subst hB1
              go_wp2
              go_ret2
              exact ⟨by simp [errV], Below.refl _ _⟩
            · have hx' : decide (x < 0) = false := by simp; omega
              by_cases hx2 : x > 1099511627776
              · obtain ⟨hC1, hB1⟩ := HN1.out (by omega)
                subst hC1
                subst hB1
                go_wp2
                go_ret2
                exact ⟨by simp [errV], Below.refl _ _⟩
              · have hx2' : decide (x > 1099511627776) = false := by simp; omega
                have HN2 := hide (HNX.out ⟨by omega, by omega⟩)
                go_wp2
                go_round
                case rel => exact ⟨k + 1, by omega, by go_num, HN2.out⟩
                case measure => simp [intOf]; omega
          · have hlti : ¬ (k : Int) < (n2 : Int) := by omega
            obtain rfl : k = n2 := by omega
            have HOK : Hid (HC = 0) := by
              show _ = _
              have h1 := HHC3.out
              rw [if_pos (numOk_of (fun i hi => HALL.out i (by rw [HNL.out] at hi; exact hi)))] at h1
              exact h1
            have HBV := hide (HB0.out HOK.out)
            have HLD := hide (lnLoad_any a k cap C a2 k cap2 nums w HS.out HS2.out (Nat.le_refl _) HIN.out.1 HALL.out)
            have hfar := ud_far (C := C) (N := nums) HIN.out.1 (k := C.length) (Nat.le_refl _) (fun i hi => HALL.out i (by rw [HCL.out] at hi; exact hi))
            have hsum := ud_sum C (fun i => nums.getD i 0) C.length
            rw [← hsum] at HBV
            unfold loadV at HLD
            clear hsum
            generalize upT C (fun i => nums.getD i 0) C.length = u at HLD hfar HBV
            generalize dnT C (fun i => nums.getD i 0) C.length = d at HLD hfar HBV
            have HME := hide (fun W => lnMet_any c less (u - d) W)
            rw [← HBV.out] at HME
            go_wp2_with fail
            refine HLD.out.mono ?_
            rintro e w1 ⟨rfl, hb1⟩
            have HB2 := hide (hb1.alloc hb1.size (.cells #[.int .i64 u, .int .i64 d] 132))
            clear hb1
            go_wp2_with fail
            refine (HME.out _).mono ?_
            rintro e w2 ⟨rfl, hb2⟩
            have HB3 := hide (below_step HB2.out hb2)
            have hok := HOK.out
            subst hok
            clear hb2
            go_wp2
            go_ret2
            exact ⟨by simp [errV], HB3.out⟩
      · have hnni : ((n2 : Int) == (n : Int)) = false := by simp; omega
        rw [if_neg hnn] at HHC2
        obtain rfl : HB = false := HB1.out (by rw [HHC2]; decide)
        subst HHC2
        clear HHC HB1 HB0
        go_enter Tryd.func51, Tryd.ntmps51
        go_wp2_with (go_at_call 77; refine HCK.out.mono ?_; rintro e w1 ⟨rfl, hw1⟩; rw [hw1]; clear hw1 w1)
        go_ret2
        exact ⟨by simp [errV], Below.refl _ _⟩
    · have hck1 : ckC C c = 1 := by unfold ckC at hck ⊢; split at hck <;> simp_all
      have hout : ¬ ((n ≤ 5 ∧ absT C C.length ≤ 12) ∧ -60 ≤ c ∧ c ≤ 60) := fun h => hck (by unfold ckC; rw [if_pos ⟨h.1.2, h.2⟩])
      have HHC2 := HHC.out
      rw [if_neg hout] at HHC2
      obtain rfl : HB = false := HB1.out (by rw [HHC2]; decide)
      subst HHC2
      rw [hck1, errV_no (by decide)] at HCK
      clear HHC HB1 HB0 hck hck1 hout
      go_enter Tryd.func51, Tryd.ntmps51
      go_wp2_with (go_at_call 77; refine HCK.out.mono ?_; rintro e w1 ⟨rfl, hw1⟩; rw [hw1]; clear hw1 w1)
      go_ret2
      exact ⟨by simp [errV], Below.refl _ _⟩
  · have h5i : (n : Int) > 5 := by omega
    have HHC2 := HHC.out
    rw [if_neg (fun h => h5 h.1.1)] at HHC2
    obtain rfl : HB = false := HB1.out (by rw [HHC2]; decide)
    subst HHC2
    clear HHC HB1 HB0
    go_enter Tryd.func51, Tryd.ntmps51
    go_wp2
    go_ret2
    exact ⟨by simp [errV], Below.refl _ _⟩
end Go.Proofs.YtgbmemkoggogdaaDoor
