/- The walk of the law LetterPacks. -/
import Derived.Test.YtdmkjhccdknndaaDoorLp
namespace Go.Proofs.YtdmkjhccdknndaaDoor
open Go.RowKit

/-- The second loop: what e is behind k digits. -/
def PkE (b : Int) (l : List Int) (k : Nat) (c : Int) : Prop := (c = 0 → codeM b l.length = 0 ∧ digB b (l.take k) = true) ∧ (c ≠ 0 → c = codeP b l)

theorem pkE_start (b : Int) (l : List Int) : PkE b l 0 (codeM b l.length) := by
  refine ⟨fun h => ⟨h, rfl⟩, fun h => ?_⟩
  unfold codeP; rw [if_neg h]
theorem pkE_good {b : Int} {l : List Int} {k : Nat} (h : PkE b l k 0) (hk : k < l.length) (hx : 0 ≤ l.getD k 0 ∧ l.getD k 0 < kindsI b) : PkE b l (k + 1) 0 := by
  refine ⟨fun _ => ⟨(h.1 rfl).1, ?_⟩, fun h => absurd rfl h⟩
  rw [digB_take_succ b l k hk, (h.1 rfl).2, decide_eq_true hx]
  rfl
theorem pkE_bad {b : Int} {l : List Int} {k : Nat} (h : PkE b l k 0) (hk : k < l.length) (hx : ¬ (0 ≤ l.getD k 0 ∧ l.getD k 0 < kindsI b)) : PkE b l (k + 1) 1 := by
  refine ⟨fun h => (by cases h), fun _ => ?_⟩
  unfold codeP
  rw [if_pos (h.1 rfl).1, if_neg]
  have := digB_not b l k hk hx
  unfold chkV at this
  split at this
  · cases this
  · assumption
theorem pkE_stay {b : Int} {l : List Int} {k : Nat} {c : Int} (h : PkE b l k c) (hc : c ≠ 0) : c = codeP b l := h.2 hc
theorem pkE_end {b : Int} {l : List Int} {c : Int} (h : PkE b l l.length c) : c = codeP b l := by
  by_cases hc : c = 0
  · subst hc
    have h0 := h.1 rfl
    rw [List.take_of_length_le (Nat.le_refl _)] at h0
    unfold codeP
    rw [if_pos h0.1, if_pos h0.2]
  · exact h.2 hc

/-- The law's second half, from Letters(base, len(d)) on. -/
theorem packU_zero {b : Int} {l : List Int} (h : codeP b l = 0) : packU b l = packL b l := by unfold packU; rw [if_pos h]
theorem packU_no {b : Int} {l : List Int} (h : codeP b l ≠ 0) : packU b l = 0 := by unfold packU; rw [if_neg h]
theorem codeP_zero {b : Int} {l : List Int} (h : codeP b l = 0) : codeM b l.length = 0 ∧ digB b l = true := by
  unfold codeP at h
  split at h
  · split at h
    · exact ⟨by assumption, by assumption⟩
    · cases h
  · contradiction

set_option maxHeartbeats 4000000 in
set_option maxRecDepth 4000 in
theorem packs_any (b t : Int) (a : Option Addr) (len cap : Nat) (l : List Int) (x : Int) (w : World) (hs : Sl w a len l) (hg : Handle w) :
    Calls Tryd.prog 4 #[.int .i64 b, .int .i64 t, .slice a len cap, .int .i64 x] w fun e w' => e = .returned (.bool true) ∧ Below w.heap.size w w' := by
  have HS := hide hs
  have HG := hide hg
  have HL := hide hs.1
  have HMU := hide (fun W => many_u b t W)
  have HLU := hide (fun W => letters_u b t W)
  have HUN := hide (fun W => unpack_u b t x W)
  unfold UnU at HUN
  have HES := hide (fun c W (h : Handle W) => error_same c W h)
  have HLD := hide (fun W => letters_u b len W)
  have HPK := hide (fun W h => pack_u b a len cap l W h)
  have HP0 := hide (pkE_start b l)
  rw [hs.1] at HP0
  have HPG := hide (fun k => @pkE_good b l k)
  have HPB := hide (fun k => @pkE_bad b l k)
  have HPS := hide (fun k c => @pkE_stay b l k c)
  have HPE := hide (fun c => @pkE_end b l c)
  have HPZ := hide (@packU_zero b l)
  have HPN := hide (@packU_no b l)
  have HPO : Hid (codeP b l = 0 → ∀ W, Sl W a len l → Calls Tryd.prog 21 #[.int .i64 b, .slice a len cap] W fun e w' => e = .returned (.int .i64 (packL b l)) ∧ ∃ n, w' = W.drewN n) := by
    intro h W hW
    obtain ⟨hM, hd⟩ := codeP_zero h
    rw [hs.1] at hM
    obtain ⟨h1, h2, h3, h4, _, _⟩ := codeM_zero hM
    exact packOf_any b a len cap l W h1 h2 (by omega) hd hW
  have HBASE : Hid (codeM b len = 0 → 1 ≤ b ∧ b ≤ 6) := fun h => ⟨(codeM_zero h).1, (codeM_zero h).2.1⟩
  have HRX : Hid (1 ≤ b ∧ b ≤ 6 → ∀ W, Calls Tryd.prog 20 #[.int .i64 b] W fun e w' => e = .returned (.int .i64 (kindsI b)) ∧ w' = W) := fun h W => radix_yes b W h.1 h.2
  have HKB : Hid (1 ≤ b ∧ b ≤ 6 → 2 ≤ kindsI b ∧ kindsI b ≤ 6) := fun h => kinds_bd2 b h.2
  have HCU : Hid ((codeU b t x = codeM b t ∧ codeM b t ≠ 0) ∨ (codeM b t = 0 ∧ x < 0 ∧ codeU b t x = 1) ∨ (codeM b t = 0 ∧ 0 ≤ x ∧ manyU b t ≤ x ∧ codeU b t x = 1) ∨ (codeM b t = 0 ∧ 0 ≤ x ∧ x < manyU b t ∧ codeU b t x = 0)) := by
    show _ ∨ _
    unfold codeU
    by_cases hM : codeM b t = 0
    · rw [if_pos hM]
      by_cases hx : 0 ≤ x ∧ x < manyU b t
      · rw [if_pos hx]; exact Or.inr (Or.inr (Or.inr ⟨hM, hx.1, hx.2, rfl⟩))
      · rw [if_neg hx]
        by_cases hx0 : x < 0
        · exact Or.inr (Or.inl ⟨hM, hx0, rfl⟩)
        · exact Or.inr (Or.inr (Or.inl ⟨hM, by omega, by omega, rfl⟩))
    · rw [if_neg hM]; exact Or.inl ⟨rfl, hM⟩
  have HN1 : Hid (codeU b t x ≠ 0 → (if codeU b t x = 0 then splitL b t.toNat x else []).length = 0) := by
    intro h; rw [if_neg h]; rfl
  have HN2 : Hid (codeU b t x = 0 → t = ((if codeU b t x = 0 then splitL b t.toNat x else []).length : Nat) ∧ (if codeU b t x = 0 then splitL b t.toNat x else []).length ≤ 5) := by
    intro h
    obtain ⟨h1, h2, h3, h4, h5, h6⟩ := codeM_zero (codeU_zero h).1
    rw [if_pos h, splitL_length]
    omega
  have HDO : Hid (∀ (i : Nat) W, i < (if codeU b t x = 0 then splitL b t.toNat x else []).length → Calls Tryd.prog 19 #[.int .i64 b, .int .i64 t, .int .i64 x, .int .i64 i] W fun e w' => e = .returned (.int .i64 ((if codeU b t x = 0 then splitL b t.toNat x else []).getD i 0)) ∧ w' = W) := by
    intro i W hi
    by_cases h : codeU b t x = 0
    · rw [if_pos h] at hi ⊢
      obtain ⟨hM, hx1, hx2⟩ := codeU_zero h
      obtain ⟨h1, h2, h3, h4, h5, h6⟩ := codeM_zero hM
      obtain ⟨n, rfl⟩ : ∃ n : Nat, t = n := ⟨t.toNat, by omega⟩
      rw [Int.toNat_natCast, splitL_length] at hi
      rw [Int.toNat_natCast, splitL_get _ _ _ _ hi]
      exact digitOf_any b n x i W h1 h2 (by omega) hi hx1 (by omega)
    · rw [if_neg h] at hi; simp at hi
  generalize (if codeU b t x = 0 then splitL b t.toNat x else []) = L2 at HUN HN1 HN2 HDO
  generalize codeU b t x = c2 at HUN HN1 HN2 HCU
  have hlm := hs.2.1
  unfold maxLen at hlm
  clear hs hg
  generalize codeP b l = cP at HPK HPS HPE HPZ HPN HPO
  generalize packU b l = pU at HPK HPZ HPN
  generalize packL b l = pL at HPZ HPO
  generalize codeM b len = cD at HLD HP0 HBASE
  generalize manyU b len = mD at HLD
  go_enter Tryd.func4, Tryd.ntmps4
  go_wp2_with fail
  refine (HMU.out w).mono ?_
  rintro e w' ⟨rfl, hw⟩
  rw [hw]
  clear hw w' HMU
  go_wp2_with fail
  refine (HLU.out w).mono ?_
  rintro e w' ⟨rfl, hw⟩
  rw [hw]
  clear hw w' HLU
  go_wp2_with fail
  refine (HES.out _ w HG.out).mono ?_
  rintro e w1 ⟨rfl, hb1⟩
  have HB1 := hide hb1
  clear hb1
  generalize manyU b t = M at HCU ⊢
  go_wp2_with fail
  refine (HUN.out w1).mono ?_
  rintro e w2 ⟨a2, cap2, rfl, ⟨hs2, -⟩, hb2⟩
  have HB2 := hide (below_step HB1.out hb2)
  have HS2 := hide hs2
  clear hb2 hs2 HUN HB1
  generalize hL2 : L2.length = n2 at HS2 HN1 HN2 HDO ⊢
  clear hL2
  generalize codeM b t = cM at HCU ⊢
  rcases HCU.out with ⟨hU, hM⟩ | ⟨hM, hx, hU⟩ | ⟨hM, hx0, hx, hU⟩ | ⟨hM, hx0, hx, hU⟩
  · subst hU
    have hM' : (c2 == 0) = false := by simpa using hM
    obtain rfl := HN1.out hM
    clear HN1 HN2 HCU hM
    go_wp2_with fail
    refine (HES.out _ w2 (HG.out.below HB2.out)).mono ?_
    rintro e w3 ⟨rfl, hb3⟩
    have HB3 := hide (below_step HB2.out hb3)
    have HS3 := hide (sl_below HS2.out hb3)
    clear hb3 HB2 HS2
    go_wp2
    go_loopw [15] (fun i wx => ∃ k n : Nat, k ≤ 0 ∧ i = .int .i64 k ∧ wx = w3.drewN n) (fun i _ => 0 - (intOf i).toNat)
    case atStart => exact ⟨0, 0, by omega, rfl, rfl⟩
    case round =>
      obtain ⟨k, n, hk, rfl, hwx⟩ := hrel
      have HWX := hide hwx
      have HB4 : Hid (Below w.heap.size w wr) := by rw [hwx]; exact below_drewN HB3.out n
      by_cases hlt : k < 0
      · have hlti : (k : Int) < (0 : Int) := by omega
        have HDK := hide (fun W => HDO.out k W hlt)
        obtain ⟨bb, o, rfl, hck⟩ := sl_cell HS3.out k hlt
        have hck' : wr.cell? ⟨bb, o + k, none⟩ = some (.int .i64 (L2.getD k 0)) := by rw [hwx]; exact hck
        clear hck hwx
        generalize L2.getD k 0 = y at hck' HDK
        have hyy : (y != y) = false := by simp
        go_wp2
        go_quiet (first | (go_at_call 19; refine Calls.quiet_of_same (HDK.out _)))
        go_wp2
        go_roundw
        case rel => exact ⟨k + 1, n + nq, by omega, by go_num, by rw [HWX.out, World.drewN_drewN]⟩
        case measure => simp [intOf]; omega
      · have hlti : ¬ ((k : Int) < (0 : Int)) := by omega
        clear hwx HWX HS3 HDO
        go_wp2_with fail
        refine (HLD.out wr).mono ?_
        rintro e w' ⟨rfl, hw⟩
        rw [hw]
        clear hw w' HLD
        obtain ⟨wo, hwo⟩ : ∃ wo : World, wo = wr := ⟨_, rfl⟩
        rw [← hwo] at HB4 ⊢
        clear hwo wr HB3
        go_wp2
        go_loopw [12, 17] (fun s i wx => ∃ (k n : Nat) (c : Int), k ≤ len ∧ i = .int .i64 k ∧ s = .int .i64 c ∧ PkE b l k c ∧ wx = wo.drewN n) (fun _ i _ => len - (intOf i).toNat)
        case atStart => exact ⟨0, 0, cD, by omega, rfl, rfl, HP0.out, rfl⟩
        case round =>
          obtain ⟨k, n, c, hk, rfl, rfl, hpe, hwx⟩ := hrel
          have HPEk := hide hpe
          have HWX := hide hwx
          have HB5 : Hid (Below w.heap.size w wr) := by rw [hwx]; exact below_drewN HB4.out n
          clear hpe hwx
          by_cases hgo : k < len ∧ c = 0
          · obtain ⟨hlt, rfl⟩ := hgo
            have hlti : (k : Int) < (len : Int) := by omega
            have HB0 := hide (HBASE.out)
            have hbb : 1 ≤ b ∧ b ≤ 6 := by
              have := HPEk.out.1 rfl
              exact ⟨(codeM_zero this.1).1, (codeM_zero this.1).2.1⟩
            have HRX' := hide (HRX.out hbb)
            have hkb := HKB.out hbb
            obtain ⟨hkb1, hkb2⟩ := hkb
            obtain ⟨bb, o, rfl, hck⟩ := sl_cell (sl_below HS.out HB5.out) k hlt
            have HGOOD := hide (HPG.out k HPEk.out (by rw [HL.out]; exact hlt))
            have HBAD := hide (HPB.out k HPEk.out (by rw [HL.out]; exact hlt))
            generalize l.getD k 0 = y at hck HGOOD HBAD
            generalize kindsI b = K at HRX' hkb1 hkb2 HGOOD HBAD
            by_cases hy : 0 ≤ y ∧ y < K
            · obtain ⟨hy1, hy2⟩ := hy
              have hyd : decide (y < 0) = false := by simp; omega
              have HGOOD' := hide (HGOOD.out ⟨hy1, hy2⟩)
              go_wp2
              go_quiet (first | (go_at_call 20; refine Calls.quiet_of_same (HRX'.out _)))
              go_wp2
              go_roundw
              case rel => exact ⟨k + 1, n + nq, 0, by omega, by go_num, rfl, HGOOD'.out, by rw [HWX.out, World.drewN_drewN]⟩
              case measure => simp [intOf]; omega
            · have HBAD' := hide (HBAD.out hy)
              have hy' : y < 0 ∨ (decide (y < 0) = false ∧ K ≤ y) := by
                by_cases e : y < 0
                · exact Or.inl e
                · exact Or.inr ⟨by simp; omega, by omega⟩
              clear hy
              rcases hy' with hy | ⟨hy1, hy2⟩
              all_goals
                go_wp2
                go_quiet (first | (go_at_call 20; refine Calls.quiet_of_same (HRX'.out _)))
                go_wp2
                go_roundw
                case rel => exact ⟨k + 1, n + nq, 1, by omega, by go_num, rfl, HBAD'.out, by rw [HWX.out, World.drewN_drewN]⟩
                case measure => simp [intOf]; omega
          · have HCE : Hid (c = cP) := by
              by_cases hc : c = 0
              · obtain rfl : k = len := by omega
                exact HPE.out c (by rw [HL.out]; exact HPEk.out)
              · exact HPS.out k c HPEk.out hc
            have hstop : ¬ ((k : Int) < (len : Int)) ∨ ((k : Int) < (len : Int) ∧ (c == 0) = false) := by
              by_cases e : k < len
              · exact Or.inr ⟨by omega, by simpa using fun h => hgo ⟨e, h⟩⟩
              · exact Or.inl (by omega)
            have hce := HCE.out
            subst hce
            clear hgo HCE HPEk HP0 HPG HPB HPS HPE
            by_cases hc : c = 0
            · have HPOc := hide (HPO.out hc wr (sl_below HS.out HB5.out))
              have hpu := HPZ.out hc
              subst hpu
              subst hc
              rcases hstop with hst | ⟨_, hst⟩
              · go_wp2_with fail
                refine HPOc.out.mono ?_
                rintro e w6 ⟨rfl, m6, hw6⟩
                have HB6 : Hid (Below w.heap.size w w6) := by rw [hw6]; exact below_drewN HB5.out m6
                clear hw6 HPOc
                go_wp2_with fail
                refine (HPK.out w6 (sl_below HS.out HB6.out)).mono ?_
                rintro e w' ⟨rfl, hw⟩
                rw [hw]
                clear hw w'
                go_wp2_with fail
                refine (HES.out _ w6 (HG.out.below HB6.out)).mono ?_
                rintro e w7 ⟨rfl, hb7⟩
                have HB7 := hide (below_step HB6.out hb7)
                clear hb7
                go_wp2
                go_ret
                exact ⟨by simp, HB7.out⟩
              · simp at hst
            · have hpu := HPN.out hc
              subst hpu
              have hc' : (c == 0) = false := by simpa using hc
              clear hc
              rcases hstop with hst | ⟨hst1, hst⟩
              all_goals
                go_wp2_with fail
                refine (HPK.out wr (sl_below HS.out HB5.out)).mono ?_
                rintro e w' ⟨rfl, hw⟩
                rw [hw]
                clear hw w'
                go_wp2_with fail
                refine (HES.out _ wr (HG.out.below HB5.out)).mono ?_
                rintro e w7 ⟨rfl, hb7⟩
                have HB7 := hide (below_step HB5.out hb7)
                clear hb7
                go_wp2
                go_ret
                exact ⟨by simp, HB7.out⟩
  · subst hU
    subst hM
    obtain rfl := HN1.out (by decide)
    clear HN1 HN2 HCU
    go_wp2_with fail
    refine (HES.out _ w2 (HG.out.below HB2.out)).mono ?_
    rintro e w3 ⟨rfl, hb3⟩
    have HB3 := hide (below_step HB2.out hb3)
    have HS3 := hide (sl_below HS2.out hb3)
    clear hb3 HB2 HS2
    go_wp2
    go_loopw [15] (fun i wx => ∃ k n : Nat, k ≤ 0 ∧ i = .int .i64 k ∧ wx = w3.drewN n) (fun i _ => 0 - (intOf i).toNat)
    case atStart => exact ⟨0, 0, by omega, rfl, rfl⟩
    case round =>
      obtain ⟨k, n, hk, rfl, hwx⟩ := hrel
      have HWX := hide hwx
      have HB4 : Hid (Below w.heap.size w wr) := by rw [hwx]; exact below_drewN HB3.out n
      by_cases hlt : k < 0
      · have hlti : (k : Int) < (0 : Int) := by omega
        have HDK := hide (fun W => HDO.out k W hlt)
        obtain ⟨bb, o, rfl, hck⟩ := sl_cell HS3.out k hlt
        have hck' : wr.cell? ⟨bb, o + k, none⟩ = some (.int .i64 (L2.getD k 0)) := by rw [hwx]; exact hck
        clear hck hwx
        generalize L2.getD k 0 = y at hck' HDK
        have hyy : (y != y) = false := by simp
        go_wp2
        go_quiet (first | (go_at_call 19; refine Calls.quiet_of_same (HDK.out _)))
        go_wp2
        go_roundw
        case rel => exact ⟨k + 1, n + nq, by omega, by go_num, by rw [HWX.out, World.drewN_drewN]⟩
        case measure => simp [intOf]; omega
      · have hlti : ¬ ((k : Int) < (0 : Int)) := by omega
        clear hwx HWX HS3 HDO
        go_wp2_with fail
        refine (HLD.out wr).mono ?_
        rintro e w' ⟨rfl, hw⟩
        rw [hw]
        clear hw w' HLD
        obtain ⟨wo, hwo⟩ : ∃ wo : World, wo = wr := ⟨_, rfl⟩
        rw [← hwo] at HB4 ⊢
        clear hwo wr HB3
        go_wp2
        go_loopw [12, 17] (fun s i wx => ∃ (k n : Nat) (c : Int), k ≤ len ∧ i = .int .i64 k ∧ s = .int .i64 c ∧ PkE b l k c ∧ wx = wo.drewN n) (fun _ i _ => len - (intOf i).toNat)
        case atStart => exact ⟨0, 0, cD, by omega, rfl, rfl, HP0.out, rfl⟩
        case round =>
          obtain ⟨k, n, c, hk, rfl, rfl, hpe, hwx⟩ := hrel
          have HPEk := hide hpe
          have HWX := hide hwx
          have HB5 : Hid (Below w.heap.size w wr) := by rw [hwx]; exact below_drewN HB4.out n
          clear hpe hwx
          by_cases hgo : k < len ∧ c = 0
          · obtain ⟨hlt, rfl⟩ := hgo
            have hlti : (k : Int) < (len : Int) := by omega
            have HB0 := hide (HBASE.out)
            have hbb : 1 ≤ b ∧ b ≤ 6 := by
              have := HPEk.out.1 rfl
              exact ⟨(codeM_zero this.1).1, (codeM_zero this.1).2.1⟩
            have HRX' := hide (HRX.out hbb)
            have hkb := HKB.out hbb
            obtain ⟨hkb1, hkb2⟩ := hkb
            obtain ⟨bb, o, rfl, hck⟩ := sl_cell (sl_below HS.out HB5.out) k hlt
            have HGOOD := hide (HPG.out k HPEk.out (by rw [HL.out]; exact hlt))
            have HBAD := hide (HPB.out k HPEk.out (by rw [HL.out]; exact hlt))
            generalize l.getD k 0 = y at hck HGOOD HBAD
            generalize kindsI b = K at HRX' hkb1 hkb2 HGOOD HBAD
            by_cases hy : 0 ≤ y ∧ y < K
            · obtain ⟨hy1, hy2⟩ := hy
              have hyd : decide (y < 0) = false := by simp; omega
              have HGOOD' := hide (HGOOD.out ⟨hy1, hy2⟩)
              go_wp2
              go_quiet (first | (go_at_call 20; refine Calls.quiet_of_same (HRX'.out _)))
              go_wp2
              go_roundw
              case rel => exact ⟨k + 1, n + nq, 0, by omega, by go_num, rfl, HGOOD'.out, by rw [HWX.out, World.drewN_drewN]⟩
              case measure => simp [intOf]; omega
            · have HBAD' := hide (HBAD.out hy)
              have hy' : y < 0 ∨ (decide (y < 0) = false ∧ K ≤ y) := by
                by_cases e : y < 0
                · exact Or.inl e
                · exact Or.inr ⟨by simp; omega, by omega⟩
              clear hy
              rcases hy' with hy | ⟨hy1, hy2⟩
              all_goals
                go_wp2
                go_quiet (first | (go_at_call 20; refine Calls.quiet_of_same (HRX'.out _)))
                go_wp2
                go_roundw
                case rel => exact ⟨k + 1, n + nq, 1, by omega, by go_num, rfl, HBAD'.out, by rw [HWX.out, World.drewN_drewN]⟩
                case measure => simp [intOf]; omega
          · have HCE : Hid (c = cP) := by
              by_cases hc : c = 0
              · obtain rfl : k = len := by omega
                exact HPE.out c (by rw [HL.out]; exact HPEk.out)
              · exact HPS.out k c HPEk.out hc
            have hstop : ¬ ((k : Int) < (len : Int)) ∨ ((k : Int) < (len : Int) ∧ (c == 0) = false) := by
              by_cases e : k < len
              · exact Or.inr ⟨by omega, by simpa using fun h => hgo ⟨e, h⟩⟩
              · exact Or.inl (by omega)
            have hce := HCE.out
            subst hce
            clear hgo HCE HPEk HP0 HPG HPB HPS HPE
            by_cases hc : c = 0
            · have HPOc := hide (HPO.out hc wr (sl_below HS.out HB5.out))
              have hpu := HPZ.out hc
              subst hpu
              subst hc
              rcases hstop with hst | ⟨_, hst⟩
              · go_wp2_with fail
                refine HPOc.out.mono ?_
                rintro e w6 ⟨rfl, m6, hw6⟩
                have HB6 : Hid (Below w.heap.size w w6) := by rw [hw6]; exact below_drewN HB5.out m6
                clear hw6 HPOc
                go_wp2_with fail
                refine (HPK.out w6 (sl_below HS.out HB6.out)).mono ?_
                rintro e w' ⟨rfl, hw⟩
                rw [hw]
                clear hw w'
                go_wp2_with fail
                refine (HES.out _ w6 (HG.out.below HB6.out)).mono ?_
                rintro e w7 ⟨rfl, hb7⟩
                have HB7 := hide (below_step HB6.out hb7)
                clear hb7
                go_wp2
                go_ret
                exact ⟨by simp, HB7.out⟩
              · simp at hst
            · have hpu := HPN.out hc
              subst hpu
              have hc' : (c == 0) = false := by simpa using hc
              clear hc
              rcases hstop with hst | ⟨hst1, hst⟩
              all_goals
                go_wp2_with fail
                refine (HPK.out wr (sl_below HS.out HB5.out)).mono ?_
                rintro e w' ⟨rfl, hw⟩
                rw [hw]
                clear hw w'
                go_wp2_with fail
                refine (HES.out _ wr (HG.out.below HB5.out)).mono ?_
                rintro e w7 ⟨rfl, hb7⟩
                have HB7 := hide (below_step HB5.out hb7)
                clear hb7
                go_wp2
                go_ret
                exact ⟨by simp, HB7.out⟩
  · subst hU
    subst hM
    have hx' : decide (x < 0) = false := by simp; omega
    obtain rfl := HN1.out (by decide)
    clear HN1 HN2 HCU
    go_wp2_with fail
    refine (HES.out _ w2 (HG.out.below HB2.out)).mono ?_
    rintro e w3 ⟨rfl, hb3⟩
    have HB3 := hide (below_step HB2.out hb3)
    have HS3 := hide (sl_below HS2.out hb3)
    clear hb3 HB2 HS2
    go_wp2
    go_loopw [15] (fun i wx => ∃ k n : Nat, k ≤ 0 ∧ i = .int .i64 k ∧ wx = w3.drewN n) (fun i _ => 0 - (intOf i).toNat)
    case atStart => exact ⟨0, 0, by omega, rfl, rfl⟩
    case round =>
      obtain ⟨k, n, hk, rfl, hwx⟩ := hrel
      have HWX := hide hwx
      have HB4 : Hid (Below w.heap.size w wr) := by rw [hwx]; exact below_drewN HB3.out n
      by_cases hlt : k < 0
      · have hlti : (k : Int) < (0 : Int) := by omega
        have HDK := hide (fun W => HDO.out k W hlt)
        obtain ⟨bb, o, rfl, hck⟩ := sl_cell HS3.out k hlt
        have hck' : wr.cell? ⟨bb, o + k, none⟩ = some (.int .i64 (L2.getD k 0)) := by rw [hwx]; exact hck
        clear hck hwx
        generalize L2.getD k 0 = y at hck' HDK
        have hyy : (y != y) = false := by simp
        go_wp2
        go_quiet (first | (go_at_call 19; refine Calls.quiet_of_same (HDK.out _)))
        go_wp2
        go_roundw
        case rel => exact ⟨k + 1, n + nq, by omega, by go_num, by rw [HWX.out, World.drewN_drewN]⟩
        case measure => simp [intOf]; omega
      · have hlti : ¬ ((k : Int) < (0 : Int)) := by omega
        clear hwx HWX HS3 HDO
        go_wp2_with fail
        refine (HLD.out wr).mono ?_
        rintro e w' ⟨rfl, hw⟩
        rw [hw]
        clear hw w' HLD
        obtain ⟨wo, hwo⟩ : ∃ wo : World, wo = wr := ⟨_, rfl⟩
        rw [← hwo] at HB4 ⊢
        clear hwo wr HB3
        go_wp2
        go_loopw [12, 17] (fun s i wx => ∃ (k n : Nat) (c : Int), k ≤ len ∧ i = .int .i64 k ∧ s = .int .i64 c ∧ PkE b l k c ∧ wx = wo.drewN n) (fun _ i _ => len - (intOf i).toNat)
        case atStart => exact ⟨0, 0, cD, by omega, rfl, rfl, HP0.out, rfl⟩
        case round =>
          obtain ⟨k, n, c, hk, rfl, rfl, hpe, hwx⟩ := hrel
          have HPEk := hide hpe
          have HWX := hide hwx
          have HB5 : Hid (Below w.heap.size w wr) := by rw [hwx]; exact below_drewN HB4.out n
          clear hpe hwx
          by_cases hgo : k < len ∧ c = 0
          · obtain ⟨hlt, rfl⟩ := hgo
            have hlti : (k : Int) < (len : Int) := by omega
            have HB0 := hide (HBASE.out)
            have hbb : 1 ≤ b ∧ b ≤ 6 := by
              have := HPEk.out.1 rfl
              exact ⟨(codeM_zero this.1).1, (codeM_zero this.1).2.1⟩
            have HRX' := hide (HRX.out hbb)
            have hkb := HKB.out hbb
            obtain ⟨hkb1, hkb2⟩ := hkb
            obtain ⟨bb, o, rfl, hck⟩ := sl_cell (sl_below HS.out HB5.out) k hlt
            have HGOOD := hide (HPG.out k HPEk.out (by rw [HL.out]; exact hlt))
            have HBAD := hide (HPB.out k HPEk.out (by rw [HL.out]; exact hlt))
            generalize l.getD k 0 = y at hck HGOOD HBAD
            generalize kindsI b = K at HRX' hkb1 hkb2 HGOOD HBAD
            by_cases hy : 0 ≤ y ∧ y < K
            · obtain ⟨hy1, hy2⟩ := hy
              have hyd : decide (y < 0) = false := by simp; omega
              have HGOOD' := hide (HGOOD.out ⟨hy1, hy2⟩)
              go_wp2
              go_quiet (first | (go_at_call 20; refine Calls.quiet_of_same (HRX'.out _)))
              go_wp2
              go_roundw
              case rel => exact ⟨k + 1, n + nq, 0, by omega, by go_num, rfl, HGOOD'.out, by rw [HWX.out, World.drewN_drewN]⟩
              case measure => simp [intOf]; omega
            · have HBAD' := hide (HBAD.out hy)
              have hy' : y < 0 ∨ (decide (y < 0) = false ∧ K ≤ y) := by
                by_cases e : y < 0
                · exact Or.inl e
                · exact Or.inr ⟨by simp; omega, by omega⟩
              clear hy
              rcases hy' with hy | ⟨hy1, hy2⟩
              all_goals
                go_wp2
                go_quiet (first | (go_at_call 20; refine Calls.quiet_of_same (HRX'.out _)))
                go_wp2
                go_roundw
                case rel => exact ⟨k + 1, n + nq, 1, by omega, by go_num, rfl, HBAD'.out, by rw [HWX.out, World.drewN_drewN]⟩
                case measure => simp [intOf]; omega
          · have HCE : Hid (c = cP) := by
              by_cases hc : c = 0
              · obtain rfl : k = len := by omega
                exact HPE.out c (by rw [HL.out]; exact HPEk.out)
              · exact HPS.out k c HPEk.out hc
            have hstop : ¬ ((k : Int) < (len : Int)) ∨ ((k : Int) < (len : Int) ∧ (c == 0) = false) := by
              by_cases e : k < len
              · exact Or.inr ⟨by omega, by simpa using fun h => hgo ⟨e, h⟩⟩
              · exact Or.inl (by omega)
            have hce := HCE.out
            subst hce
            clear hgo HCE HPEk HP0 HPG HPB HPS HPE
            by_cases hc : c = 0
            · have HPOc := hide (HPO.out hc wr (sl_below HS.out HB5.out))
              have hpu := HPZ.out hc
              subst hpu
              subst hc
              rcases hstop with hst | ⟨_, hst⟩
              · go_wp2_with fail
                refine HPOc.out.mono ?_
                rintro e w6 ⟨rfl, m6, hw6⟩
                have HB6 : Hid (Below w.heap.size w w6) := by rw [hw6]; exact below_drewN HB5.out m6
                clear hw6 HPOc
                go_wp2_with fail
                refine (HPK.out w6 (sl_below HS.out HB6.out)).mono ?_
                rintro e w' ⟨rfl, hw⟩
                rw [hw]
                clear hw w'
                go_wp2_with fail
                refine (HES.out _ w6 (HG.out.below HB6.out)).mono ?_
                rintro e w7 ⟨rfl, hb7⟩
                have HB7 := hide (below_step HB6.out hb7)
                clear hb7
                go_wp2
                go_ret
                exact ⟨by simp, HB7.out⟩
              · simp at hst
            · have hpu := HPN.out hc
              subst hpu
              have hc' : (c == 0) = false := by simpa using hc
              clear hc
              rcases hstop with hst | ⟨hst1, hst⟩
              all_goals
                go_wp2_with fail
                refine (HPK.out wr (sl_below HS.out HB5.out)).mono ?_
                rintro e w' ⟨rfl, hw⟩
                rw [hw]
                clear hw w'
                go_wp2_with fail
                refine (HES.out _ wr (HG.out.below HB5.out)).mono ?_
                rintro e w7 ⟨rfl, hb7⟩
                have HB7 := hide (below_step HB5.out hb7)
                clear hb7
                go_wp2
                go_ret
                exact ⟨by simp, HB7.out⟩
  · subst hU
    subst hM
    have hx' : decide (x < 0) = false := by simp; omega
    have hx2 : decide (M ≤ x) = false := by simp; omega
    obtain ⟨ht, hn5⟩ := HN2.out rfl
    subst ht
    clear HN1 HN2 HCU
    go_wp2_with fail
    refine (HES.out _ w2 (HG.out.below HB2.out)).mono ?_
    rintro e w3 ⟨rfl, hb3⟩
    have HB3 := hide (below_step HB2.out hb3)
    have HS3 := hide (sl_below HS2.out hb3)
    clear hb3 HB2 HS2
    go_wp2
    go_loopw [15] (fun i wx => ∃ k n : Nat, k ≤ n2 ∧ i = .int .i64 k ∧ wx = w3.drewN n) (fun i _ => n2 - (intOf i).toNat)
    case atStart => exact ⟨0, 0, by omega, rfl, rfl⟩
    case round =>
      obtain ⟨k, n, hk, rfl, hwx⟩ := hrel
      have HWX := hide hwx
      have HB4 : Hid (Below w.heap.size w wr) := by rw [hwx]; exact below_drewN HB3.out n
      by_cases hlt : k < n2
      · have hlti : (k : Int) < (n2 : Int) := by omega
        have HDK := hide (fun W => HDO.out k W hlt)
        obtain ⟨bb, o, rfl, hck⟩ := sl_cell HS3.out k hlt
        have hck' : wr.cell? ⟨bb, o + k, none⟩ = some (.int .i64 (L2.getD k 0)) := by rw [hwx]; exact hck
        clear hck hwx
        generalize L2.getD k 0 = y at hck' HDK
        have hyy : (y != y) = false := by simp
        go_wp2
        go_quiet (first | (go_at_call 19; refine Calls.quiet_of_same (HDK.out _)))
        go_wp2
        go_roundw
        case rel => exact ⟨k + 1, n + nq, by omega, by go_num, by rw [HWX.out, World.drewN_drewN]⟩
        case measure => simp [intOf]; omega
      · have hlti : ¬ ((k : Int) < (n2 : Int)) := by omega
        clear hwx HWX HS3 HDO
        go_wp2_with fail
        refine (HLD.out wr).mono ?_
        rintro e w' ⟨rfl, hw⟩
        rw [hw]
        clear hw w' HLD
        obtain ⟨wo, hwo⟩ : ∃ wo : World, wo = wr := ⟨_, rfl⟩
        rw [← hwo] at HB4 ⊢
        clear hwo wr HB3
        go_wp2
        go_loopw [12, 17] (fun s i wx => ∃ (k n : Nat) (c : Int), k ≤ len ∧ i = .int .i64 k ∧ s = .int .i64 c ∧ PkE b l k c ∧ wx = wo.drewN n) (fun _ i _ => len - (intOf i).toNat)
        case atStart => exact ⟨0, 0, cD, by omega, rfl, rfl, HP0.out, rfl⟩
        case round =>
          obtain ⟨k, n, c, hk, rfl, rfl, hpe, hwx⟩ := hrel
          have HPEk := hide hpe
          have HWX := hide hwx
          have HB5 : Hid (Below w.heap.size w wr) := by rw [hwx]; exact below_drewN HB4.out n
          clear hpe hwx
          by_cases hgo : k < len ∧ c = 0
          · obtain ⟨hlt, rfl⟩ := hgo
            have hlti : (k : Int) < (len : Int) := by omega
            have HB0 := hide (HBASE.out)
            have hbb : 1 ≤ b ∧ b ≤ 6 := by
              have := HPEk.out.1 rfl
              exact ⟨(codeM_zero this.1).1, (codeM_zero this.1).2.1⟩
            have HRX' := hide (HRX.out hbb)
            have hkb := HKB.out hbb
            obtain ⟨hkb1, hkb2⟩ := hkb
            obtain ⟨bb, o, rfl, hck⟩ := sl_cell (sl_below HS.out HB5.out) k hlt
            have HGOOD := hide (HPG.out k HPEk.out (by rw [HL.out]; exact hlt))
            have HBAD := hide (HPB.out k HPEk.out (by rw [HL.out]; exact hlt))
            generalize l.getD k 0 = y at hck HGOOD HBAD
            generalize kindsI b = K at HRX' hkb1 hkb2 HGOOD HBAD
            by_cases hy : 0 ≤ y ∧ y < K
            · obtain ⟨hy1, hy2⟩ := hy
              have hyd : decide (y < 0) = false := by simp; omega
              have HGOOD' := hide (HGOOD.out ⟨hy1, hy2⟩)
              go_wp2
              go_quiet (first | (go_at_call 20; refine Calls.quiet_of_same (HRX'.out _)))
              go_wp2
              go_roundw
              case rel => exact ⟨k + 1, n + nq, 0, by omega, by go_num, rfl, HGOOD'.out, by rw [HWX.out, World.drewN_drewN]⟩
              case measure => simp [intOf]; omega
            · have HBAD' := hide (HBAD.out hy)
              have hy' : y < 0 ∨ (decide (y < 0) = false ∧ K ≤ y) := by
                by_cases e : y < 0
                · exact Or.inl e
                · exact Or.inr ⟨by simp; omega, by omega⟩
              clear hy
              rcases hy' with hy | ⟨hy1, hy2⟩
              all_goals
                go_wp2
                go_quiet (first | (go_at_call 20; refine Calls.quiet_of_same (HRX'.out _)))
                go_wp2
                go_roundw
                case rel => exact ⟨k + 1, n + nq, 1, by omega, by go_num, rfl, HBAD'.out, by rw [HWX.out, World.drewN_drewN]⟩
                case measure => simp [intOf]; omega
          · have HCE : Hid (c = cP) := by
              by_cases hc : c = 0
              · obtain rfl : k = len := by omega
                exact HPE.out c (by rw [HL.out]; exact HPEk.out)
              · exact HPS.out k c HPEk.out hc
            have hstop : ¬ ((k : Int) < (len : Int)) ∨ ((k : Int) < (len : Int) ∧ (c == 0) = false) := by
              by_cases e : k < len
              · exact Or.inr ⟨by omega, by simpa using fun h => hgo ⟨e, h⟩⟩
              · exact Or.inl (by omega)
            have hce := HCE.out
            subst hce
            clear hgo HCE HPEk HP0 HPG HPB HPS HPE
            by_cases hc : c = 0
            · have HPOc := hide (HPO.out hc wr (sl_below HS.out HB5.out))
              have hpu := HPZ.out hc
              subst hpu
              subst hc
              rcases hstop with hst | ⟨_, hst⟩
              · go_wp2_with fail
                refine HPOc.out.mono ?_
                rintro e w6 ⟨rfl, m6, hw6⟩
                have HB6 : Hid (Below w.heap.size w w6) := by rw [hw6]; exact below_drewN HB5.out m6
                clear hw6 HPOc
                go_wp2_with fail
                refine (HPK.out w6 (sl_below HS.out HB6.out)).mono ?_
                rintro e w' ⟨rfl, hw⟩
                rw [hw]
                clear hw w'
                go_wp2_with fail
                refine (HES.out _ w6 (HG.out.below HB6.out)).mono ?_
                rintro e w7 ⟨rfl, hb7⟩
                have HB7 := hide (below_step HB6.out hb7)
                clear hb7
                go_wp2
                go_ret
                exact ⟨by simp, HB7.out⟩
              · simp at hst
            · have hpu := HPN.out hc
              subst hpu
              have hc' : (c == 0) = false := by simpa using hc
              clear hc
              rcases hstop with hst | ⟨hst1, hst⟩
              all_goals
                go_wp2_with fail
                refine (HPK.out wr (sl_below HS.out HB5.out)).mono ?_
                rintro e w' ⟨rfl, hw⟩
                rw [hw]
                clear hw w'
                go_wp2_with fail
                refine (HES.out _ wr (HG.out.below HB5.out)).mono ?_
                rintro e w7 ⟨rfl, hb7⟩
                have HB7 := hide (below_step HB5.out hb7)
                clear hb7
                go_wp2
                go_ret
                exact ⟨by simp, HB7.out⟩
end Go.Proofs.YtdmkjhccdknndaaDoor
