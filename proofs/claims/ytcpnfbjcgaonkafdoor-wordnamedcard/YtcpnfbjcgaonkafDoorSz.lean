/- The law WordNamed: its walk. -/
import Derived.Test.YtcpnfbjcgaonkafDoorRe
import Derived.Test.YtcpnfbjcgaonkafDoorSh
import Derived.Test.YtcpnfbjcgaonkafDoorSs
import Derived.Test.YtcpnfbjcgaonkafDoorSy
import Derived.Deep.DeepCutAuto
namespace Go.Proofs.YtcpnfbjcgaonkafDoor
open Go.RowKit

theorem named_any (s : ByteArray) : ∃ (B : Int) (N : List (List Int)) (O : List Int) (c : Int), (∀ W, Calls Tryd.prog 22 #[.string s] W (MphR W B N O c)) ∧ ((s.toList == [116, 104, 117, 101]) = false → (s.toList == [114, 117, 100, 105, 110]) = false → (s.toList == [102, 105, 98, 111]) = false → c = 4) := by
  cases h1 : (s.toList == [116, 104, 117, 101]) with
  | true => exact ⟨2, thN, thO, 0, named_thue s h1, fun h => by cases h⟩
  | false =>
    cases h2 : (s.toList == [114, 117, 100, 105, 110]) with
    | true => exact ⟨2, ruN, ruO, 0, named_rudin s h1 h2, fun _ h => by cases h⟩
    | false =>
      cases h3 : (s.toList == [102, 105, 98, 111]) with
      | true => exact ⟨1, fiN, fiO, 0, named_fibo s h1 h2 h3, fun _ _ h => by cases h⟩
      | false => exact ⟨0, [], [], 4, named_none s h1 h2 h3, fun _ _ _ => rfl⟩
/-- Both counts, a digit on. -/
def NmI (x O S M : Int) : Prop := 0 ≤ M ∧ M ≤ x ∧ 0 ≤ O ∧ O + M ≤ x ∧ 0 ≤ S ∧ S + M ≤ x ∧ (O + thS M) % 2 = thS x ∧ (S + ruS M) % 2 = ruS x
theorem nm_start {x : Int} (hx : 0 ≤ x ∧ x ≤ 1099511627776) : NmI x 0 0 x := by
  have h1 := thS_bd hx.1 hx.2
  have h2 := ruS_bd hx.1 hx.2
  exact ⟨hx.1, Int.le_refl _, Int.le_refl _, by omega, Int.le_refl _, by omega, by omega, by omega⟩
theorem nm_step {x O S M : Int} (hx : x ≤ 1099511627776) (h : NmI x O S M) (hM : 0 < M) : NmI x (O + M % 2) (if M % 4 = 3 then S + 1 else S) (M / 2) := by
  obtain ⟨h1, h2, h3, h4, h5, h6, h7, h8⟩ := h
  have e1 := thS_half h1 (by omega)
  have e2 := ruS_half h1 (by omega)
  have b1 := thS_bd (n := M / 2) (by omega) (by omega)
  have b2 := ruS_bd (n := M / 2) (by omega) (by omega)
  unfold NmI
  refine ⟨by omega, by omega, by omega, by omega, ?_, ?_, ?_, ?_⟩
  · split <;> omega
  · split <;> omega
  · rw [← h7, e1]
    by_cases h : M % 2 = 1
    · rw [if_pos h]; omega
    · rw [if_neg h]; omega
  · rw [← h8, e2]
    by_cases h : M % 4 = 3
    · rw [if_pos h, if_pos h]; omega
    · rw [if_neg h, if_neg h]
theorem nm_end {x O S : Int} (h : NmI x O S 0) : O % 2 = thS x ∧ S % 2 = ruS x ∧ 0 ≤ O ∧ 0 ≤ S := by
  obtain ⟨h1, h2, h3, h4, h5, h6, h7, h8⟩ := h
  obtain ⟨z1, z2⟩ := thS_zero
  rw [z1] at h7
  rw [z2] at h8
  exact ⟨by omega, by omega, h3, h5⟩

set_option maxHeartbeats 16000000 in
set_option maxRecDepth 8000 in
theorem wordnamed_any (x : Int) (s : ByteArray) (w : World) (hg : Handle w) :
    Calls Tryd.prog 6 #[.int .i64 x, .string s] w fun e w' => e = .returned (.bool true) ∧ Below w.heap.size w w' := by
  have HN1 := hide (fun W => named_thue ⟨#[116, 104, 117, 101]⟩ (by decide +kernel) W)
  have HN2 := hide (fun W => named_rudin ⟨#[114, 117, 100, 105, 110]⟩ (by decide +kernel) (by decide +kernel) W)
  have HN3 := hide (fun W => named_fibo ⟨#[102, 105, 98, 111]⟩ (by decide +kernel) (by decide +kernel) (by decide +kernel) W)
  obtain ⟨B4, N4, O4, c4, hN4, hc4⟩ := named_any s
  have HN4 := hide hN4
  have HC4 := hide hc4
  have HHA : Hid (∀ W, Below w.heap.size w W → Handle W) := fun W h => hg.below h
  have HES := hide (fun c W (h : Handle W) => error_same c W h)
  have HAT := hide word_at_any
  unfold AtSays outV at HAT
  unfold MphR at HN1 HN2 HN3 HN4
  rw [errV_zero] at HN1 HN2 HN3
  have HT1 : Hid ((0 ≤ x ∧ x ≤ 1099511627776 → atF 2 thN thO x 1099511627776 = 0 ∧ atV 2 thN thO x = thS x) ∧ (¬ (0 ≤ x ∧ x ≤ 1099511627776) → atF 2 thN thO x 1099511627776 = 1)) := ⟨fun h => ⟨atF_ok th_out h, by unfold atV; rw [if_pos (atF_ok th_out h)]; rfl⟩, fun h => atF_far th_out h⟩
  have HT2 : Hid ((0 ≤ x ∧ x ≤ 1099511627776 → atF 2 ruN ruO x 1099511627776 = 0 ∧ atV 2 ruN ruO x = ruS x) ∧ (¬ (0 ≤ x ∧ x ≤ 1099511627776) → atF 2 ruN ruO x 1099511627776 = 1)) := ⟨fun h => ⟨atF_ok ru_out h, by unfold atV; rw [if_pos (atF_ok ru_out h)]; rfl⟩, fun h => atF_far ru_out h⟩
  have HT3 : Hid ((0 ≤ x ∧ x ≤ 1099511627776 → atF 1 fiN fiO x 1099511627776 = 0 ∧ atV 1 fiN fiO x = if 0 < (dgs 1 x).length then (dgs 1 x).getD ((dgs 1 x).length - 1) 0 else 0) ∧ (¬ (0 ≤ x ∧ x ≤ 1099511627776) → atF 1 fiN fiO x 1099511627776 = 1)) := ⟨fun h => ⟨atF_ok fi_out h, by unfold atV; rw [if_pos (atF_ok fi_out h)]; exact fi_last h.1 h.2⟩, fun h => atF_far fi_out h⟩
  obtain ⟨t1, ht1⟩ : ∃ t1, (s.toList == [116, 104, 117, 101]) = t1 := ⟨_, rfl⟩
  obtain ⟨t2, ht2⟩ : ∃ t2, (s.toList == [114, 117, 100, 105, 110]) = t2 := ⟨_, rfl⟩
  obtain ⟨t3, ht3⟩ : ∃ t3, (s.toList == [102, 105, 98, 111]) = t3 := ⟨_, rfl⟩
  rw [ht1, ht2, ht3] at HC4
  have HH1 := hide ht1
  have HH2 := hide ht2
  have HH3 := hide ht3
  clear hg hN4 hc4 ht1 ht2 ht3
  go_enter Tryd.func6, Tryd.ntmps6
  go_wp2_with fail
  refine (HN1.out w).mono ?_
  rintro e w1 ⟨a1, c1, o1, d1, rfl, hnew, hb⟩
  have hnw := hnew w1 (fun _ _ _ => rfl)
  have hbz := (Below.refl w1.heap.size w1).alloc (Nat.le_refl _) (.cells #[.int .i64 2, .slice a1 thN.length c1, .slice o1 thN.length d1] 25)
  have HB2 := hide (below_step hb hbz)
  have HX2 := hide (heap_alloc_last w1 (.cells #[.int .i64 2, .slice a1 thN.length c1, .slice o1 thN.length d1] 25))
  have HS2 := hide (And.intro (sl2_below hnw.1 hbz) (sl_below hnw.2 hbz))
  clear hnew hb hnw hbz HN1
  go_wp2_with fail
  obtain ⟨X1, hX⟩ : ∃ X, X = w1.heap.size := ⟨_, rfl⟩
  generalize w1.alloc (.cells #[.int .i64 2, .slice a1 thN.length c1, .slice o1 thN.length d1] 25) = w2 at HB2 HX2 HS2 ⊢
  rw [← hX] at HX2 ⊢
  clear hX
  refine (HN2.out w2).mono ?_
  rintro e w3 ⟨a2, c2, o2, d2, rfl, hnew, hb⟩
  have hnw := hnew w3 (fun _ _ _ => rfl)
  have hbz := (Below.refl w3.heap.size w3).alloc (Nat.le_refl _) (.cells #[.int .i64 2, .slice a2 ruN.length c2, .slice o2 ruN.length d2] 25)
  have hbb := below_step hb hbz
  have HB4 := hide (below_step HB2.out hbb)
  have HX4 := hide ((hbb.block _ (Array.getElem?_eq_some_iff.1 HX2.out).1).trans HX2.out)
  have HS4 := hide (And.intro (sl2_below HS2.out.1 hbb) (sl_below HS2.out.2 hbb))
  have HY4 := hide (heap_alloc_last w3 (.cells #[.int .i64 2, .slice a2 ruN.length c2, .slice o2 ruN.length d2] 25))
  have HU4 := hide (And.intro (sl2_below hnw.1 hbz) (sl_below hnw.2 hbz))
  clear hnew hb hnw hbz hbb HN2 HB2 HX2 HS2
  go_wp2_with fail
  obtain ⟨X2, hX⟩ : ∃ X, X = w3.heap.size := ⟨_, rfl⟩
  generalize w3.alloc (.cells #[.int .i64 2, .slice a2 ruN.length c2, .slice o2 ruN.length d2] 25) = w4 at HB4 HX4 HS4 HY4 HU4 ⊢
  rw [← hX] at HY4 ⊢
  clear hX
  refine (HN3.out w4).mono ?_
  rintro e w5 ⟨a3, c3, o3, d3, rfl, hnew, hb⟩
  have hnw := hnew w5 (fun _ _ _ => rfl)
  have hbz := (Below.refl w5.heap.size w5).alloc (Nat.le_refl _) (.cells #[.int .i64 1, .slice a3 fiN.length c3, .slice o3 fiN.length d3] 25)
  have hbb := below_step hb hbz
  have HB6 := hide (below_step HB4.out hbb)
  have HX6 := hide ((hbb.block _ (Array.getElem?_eq_some_iff.1 HX4.out).1).trans HX4.out)
  have HS6 := hide (And.intro (sl2_below HS4.out.1 hbb) (sl_below HS4.out.2 hbb))
  have HY6 := hide ((hbb.block _ (Array.getElem?_eq_some_iff.1 HY4.out).1).trans HY4.out)
  have HU6 := hide (And.intro (sl2_below HU4.out.1 hbb) (sl_below HU4.out.2 hbb))
  have HZ6 := hide (heap_alloc_last w5 (.cells #[.int .i64 1, .slice a3 fiN.length c3, .slice o3 fiN.length d3] 25))
  have HV6 := hide (And.intro (sl2_below hnw.1 hbz) (sl_below hnw.2 hbz))
  clear hnew hb hnw hbz hbb HN3 HB4 HX4 HS4 HY4 HU4
  go_wp2_with fail
  obtain ⟨X3, hX⟩ : ∃ X, X = w5.heap.size := ⟨_, rfl⟩
  generalize w5.alloc (.cells #[.int .i64 1, .slice a3 fiN.length c3, .slice o3 fiN.length d3] 25) = w6 at HB6 HX6 HS6 HY6 HU6 HZ6 HV6 ⊢
  rw [← hX] at HZ6 ⊢
  clear hX
  refine (HN4.out w6).mono ?_
  rintro e w7 ⟨a4, q4, o4, d4, rfl, hnew, hb⟩
  have hbz := (Below.refl w7.heap.size w7).alloc (Nat.le_refl _) (.cells #[.int .i64 B4, .slice a4 N4.length q4, .slice o4 N4.length d4] 25)
  have hbb := below_step hb hbz
  have HB8 := hide (below_step HB6.out hbb)
  have HAB : Hid (∀ W, Below (w7.alloc (.cells #[.int .i64 B4, .slice a4 N4.length q4, .slice o4 N4.length d4] 25)).heap.size (w7.alloc (.cells #[.int .i64 B4, .slice a4 N4.length q4, .slice o4 N4.length d4] 25)) W → (((W.cell? ⟨X1, 0, none⟩ = some (.int .i64 2) ∧ W.cell? ⟨X1, 1, none⟩ = some (.slice a1 thN.length c1) ∧ W.cell? ⟨X1, 2, none⟩ = some (.slice o1 thN.length d1)) ∧ (Sl2 W a1 thN.length thN ∧ Sl W o1 thN.length thO)) ∧ ((W.cell? ⟨X2, 0, none⟩ = some (.int .i64 2) ∧ W.cell? ⟨X2, 1, none⟩ = some (.slice a2 ruN.length c2) ∧ W.cell? ⟨X2, 2, none⟩ = some (.slice o2 ruN.length d2)) ∧ (Sl2 W a2 ruN.length ruN ∧ Sl W o2 ruN.length ruO)) ∧ (W.cell? ⟨X3, 0, none⟩ = some (.int .i64 1) ∧ W.cell? ⟨X3, 1, none⟩ = some (.slice a3 fiN.length c3) ∧ W.cell? ⟨X3, 2, none⟩ = some (.slice o3 fiN.length d3)) ∧ (Sl2 W a3 fiN.length fiN ∧ Sl W o3 fiN.length fiO))) := fun W h => by
    have h' := below_step hbb h
    exact ⟨⟨(box3_cells ((h'.block _ (Array.getElem?_eq_some_iff.1 HX6.out).1).trans HX6.out)).1, sl2_below HS6.out.1 h', sl_below HS6.out.2 h'⟩, ⟨(box3_cells ((h'.block _ (Array.getElem?_eq_some_iff.1 HY6.out).1).trans HY6.out)).1, sl2_below HU6.out.1 h', sl_below HU6.out.2 h'⟩, (box3_cells ((h'.block _ (Array.getElem?_eq_some_iff.1 HZ6.out).1).trans HZ6.out)).1, sl2_below HV6.out.1 h', sl_below HV6.out.2 h'⟩
  clear hnew hb hbz hbb HN4 HB6 HX6 HS6 HY6 HU6 HZ6 HV6
  go_upto_region 5 with fail
  generalize w7.alloc (.cells #[.int .i64 B4, .slice a4 N4.length q4, .slice o4 N4.length d4] 25) = w8 at HB8 HAB ⊢
  go_cut [52] (fun v wx => v = .bool (!t1 && !t2 && !t3) ∧ w8 = wx)
  case first =>
    have ht1 := HH1.out
    have ht2 := HH2.out
    have ht3 := HH3.out
    clear HC4 HT1 HT2 HT3 HAT HES HHA
    cases t1 <;> cases t2 <;> cases t3
    all_goals
      go_wp2
      go_meet
      case rel => exact ⟨rfl, rfl⟩
  case rest =>
    obtain ⟨rfl, rfl⟩ := hcut
    go_upto_if 52 with fail
    go_cut [13] (fun v wx => Below w8.heap.size w8 wx)
    case first =>
      obtain ⟨q, hq⟩ : ∃ q, (!t1 && !t2 && !t3) = q := ⟨_, rfl⟩
      rw [hq]
      cases q with
      | true =>
        have h4 : c4 = 4 := HC4.out (by revert hq; cases t1 <;> simp) (by revert hq; cases t2 <;> simp) (by revert hq; cases t3 <;> simp)
        have hE := HES.out c4 w8 (HHA.out w8 HB8.out)
        rw [show (Value.int .i64 c4) = .int .i64 4 by rw [h4]] at hE
        have HE := hide hE
        clear hE
        clear h4 hq HC4 HH1 HH2 HH3
        go_wp2_with fail
        refine HE.out.mono ?_
        rintro e w9 ⟨rfl, hb9⟩
        go_wp2
        go_meet
        case rel => exact hb9
      | false =>
        clear hq HC4 HH1 HH2 HH3
        go_wp2
        go_meet
        case rel => exact Below.refl _ _
    case rest =>
      have HB9 := hide hcut
      obtain ⟨⟨⟨p0, p1, p2⟩, s1⟩, -⟩ := HAB.out wc hcut
      have HA1 := hide (HAT.out 2 a1 thN.length c1 o1 thN.length d1 thN thO x wc s1.1 s1.2)
      clear s1 hcut HC4 HH1 HH2 HH3 HES HHA
      go_wp2_with fail
      clear p0 p1 p2
      refine HA1.out.mono ?_
      rintro e wA ⟨rfl, hbA⟩
      have HBA := hide (below_step HB9.out hbA)
      obtain ⟨-, ⟨⟨p0, p1, p2⟩, s1⟩, -⟩ := HAB.out wA HBA.out
      have HA2 := hide (HAT.out 2 a2 ruN.length c2 o2 ruN.length d2 ruN ruO x wA s1.1 s1.2)
      clear s1 hbA HA1 HB9
      go_wp2_with fail
      clear p0 p1 p2
      refine HA2.out.mono ?_
      rintro e wB ⟨rfl, hbB⟩
      have HBB := hide (below_step HBA.out hbB)
      obtain ⟨-, -, ⟨p0, p1, p2⟩, s1⟩ := HAB.out wB HBB.out
      have HA3 := hide (HAT.out 1 a3 fiN.length c3 o3 fiN.length d3 fiN fiO x wB s1.1 s1.2)
      clear s1 hbB HA2 HBA
      go_wp2_with fail
      clear p0 p1 p2
      refine HA3.out.mono ?_
      rintro e wC ⟨rfl, hbC⟩
      have HBC := hide (below_step HB8.out (below_step HBB.out hbC))
      clear hbC HA3 HBB HAB HB8 HAT
      by_cases hx : 0 ≤ x ∧ x ≤ 1099511627776
      · obtain ⟨f1, v1⟩ := HT1.out.1 hx
        obtain ⟨f2, v2⟩ := HT2.out.1 hx
        obtain ⟨f3, v3⟩ := HT3.out.1 hx
        rw [f1, f2, f3, v1, v2, v3, errV_zero]
        have HD := hide (digitsOf_u 1 x wC)
        have hnl : numL 1 x = dgs 1 x := by unfold numL; rw [if_pos ⟨by decide, hx⟩]
        have hcn : codeN 1 x = 0 := by unfold codeN; rw [if_pos ⟨by decide, hx⟩]
        rw [hnl, hcn] at HD
        unfold OfU at HD
        have HST := hide (nm_start hx)
        have HSP := hide (fun O S M h1 h2 => @nm_step x O S M hx.2 h1 h2)
        have HEN := hide (fun O S h => @nm_end x O S h)
        have hx0 : ¬ x < 0 := by omega
        have hx1 : ¬ x > 1099511627776 := by omega
        have hxx : 0 ≤ x ∧ x ≤ 1099511627776 := hx
        clear f1 f2 f3 v1 v2 v3 hnl hcn HT1 HT2 HT3 hx
        generalize dgs 1 x = D at HD ⊢
        obtain ⟨V3, hV3⟩ : ∃ V3, (if 0 < D.length then D.getD (D.length - 1) 0 else 0) = V3 := ⟨_, rfl⟩
        rw [hV3]
        have HV3 := hide hV3
        clear hV3
        go_wp2
        go_loopw [20, 21, 22] (fun o s m wx => ∃ O S M : Int, o = .int .i64 O ∧ s = .int .i64 S ∧ m = .int .i64 M ∧ NmI x O S M ∧ wC = wx) (fun _ _ m _ => (intOf m).toNat)
        case atStart => exact ⟨0, 0, x, rfl, rfl, rfl, HST.out, rfl⟩
        case round =>
          obtain ⟨O, S, M, rfl, rfl, rfl, hi, rfl⟩ := hrel
          have HI := hide hi
          obtain ⟨g1, g2, g3, g4, g5, g6, -, -⟩ := hi
          by_cases hM : M > 0
          · have HNX := hide (HSP.out O S M HI.out hM)
            have e2 : M.tmod 2 = M % 2 := Int.tmod_eq_emod_of_nonneg g1
            have e4 : M.tmod 4 = M % 4 := Int.tmod_eq_emod_of_nonneg g1
            have eq : M.tdiv 2 = M / 2 := Int.tdiv_eq_ediv_of_nonneg g1
            have hwq : IntKind.i64.wrap (M.tdiv 2) = M / 2 := by rw [eq]; exact wrap_i64_id (by omega)
            by_cases h3 : M % 4 = 3
            · have h3' : (M.tmod 4 == 3) = true := by rw [e4]; simp [h3]
              rw [if_pos h3] at HNX
              go_wp2
              exact ⟨⟨_, _, _, rfl, rfl, rfl, HNX.out, trivial⟩, by simp [intOf]; omega⟩
            · have h3' : (M.tmod 4 == 3) = false := by rw [e4]; simp [h3]
              rw [if_neg h3] at HNX
              go_wp2
              exact ⟨⟨_, _, _, rfl, rfl, rfl, HNX.out, trivial⟩, by simp [intOf]; omega⟩
          · obtain rfl : M = 0 := by omega
            obtain ⟨k1, k2, k3, k4⟩ := HEN.out O S HI.out
            have e1 : O.tmod 2 = thS x := by rw [Int.tmod_eq_emod_of_nonneg k3]; exact k1
            have e2 : S.tmod 2 = ruS x := by rw [Int.tmod_eq_emod_of_nonneg k4]; exact k2
            have HE1 := hide e1
            have HE2 := hide e2
            clear g1 g2 g3 g4 g5 g6 k1 k2 e1 e2 HI HSP HST HEN
            go_wp2_with fail
            refine HD.out.mono ?_
            rintro e wD ⟨ad, cd, rfl, hsd, hbD⟩
            have HBD := hide (below_step HBC.out hbD)
            have e1 := HE1.out
            have e2 := HE2.out
            have hv := HV3.out
            by_cases hl : 0 < D.length
            · obtain ⟨m, hm⟩ : ∃ m, D.length = m + 1 := ⟨D.length - 1, by omega⟩
              rw [if_pos hl] at hv
              obtain ⟨bo, oo, rfl, hcell⟩ := sl_cell hsd.1 (D.length - 1) (by omega)
              have hmx := hsd.1.2.1
              unfold maxLen at hmx
              rw [hv] at hcell
              rw [hm] at hcell hmx ⊢
              rw [Nat.add_sub_cancel] at hcell
              clear hv hl hm hsd hbD HD HV3
              go_wp2
              go_ret
              exact ⟨rfl, HBD.out⟩
            · have hl0 : D.length = 0 := by omega
              rw [if_neg hl] at hv
              rw [hl0]
              clear hl hl0 hsd hbD HD HV3
              go_wp2
              go_ret
              exact ⟨rfl, HBD.out⟩
      · have f1 := HT1.out.2 hx
        have f2 := HT2.out.2 hx
        have f3 := HT3.out.2 hx
        rw [f1, f2, f3, errV_no (by decide : (1 : Int) ≠ 0)]
        clear f1 f2 f3 HT1 HT2 HT3
        by_cases hx0 : x < 0
        · clear hx
          go_wp2
          go_ret
          exact ⟨rfl, HBC.out⟩
        · have hx1 : x > 1099511627776 := by omega
          clear hx
          go_wp2
          go_ret
          exact ⟨rfl, HBC.out⟩
end Go.Proofs.YtcpnfbjcgaonkafDoor
