/- word.Morph: contract. -/
import Derived.Test.YtcpnfbjcgaonkafDoorSq
import Derived.Deep.RegionLaw
namespace Go.Proofs.YtcpnfbjcgaonkafDoor
open Go.RowKit

/-- What word.Morph hands back. -/
def mpB (R : List (List Int)) (K : List Int) : Int := if morC R K = 0 then (morK R : Int) else 0
def mpN (R : List (List Int)) (K : List Int) : List (List Int) := if morC R K = 0 then R else []
def mpO (R : List (List Int)) (K : List Int) : List Int := if morC R K = 0 then K else []
def MphR (w : World) (b : Int) (N : List (List Int)) (O : List Int) (c : Int) (e : Ending) (w' : World) : Prop := ∃ a ca ao co, e = .returned (.tuple #[.agg #[.int .i64 b, .slice a N.length ca, .slice ao N.length co], errV c]) ∧ OutNew w N.length N O a ao w' ∧ Below w.heap.size w w'
def MorphSays : Prop := ∀ (a : Option Addr) (n cap : Nat) (ao : Option Addr) (no co : Nat) (R : List (List Int)) (K : List Int) (W : World), Sl2 W a n R → Sl W ao no K → Calls Tryd.prog 20 #[.slice a n cap, .slice ao no co] W (MphR W (mpB R K) (mpN R K) (mpO R K) (morC R K))
theorem mp_bad {R : List (List Int)} {K : List Int} (h : morC R K ≠ 0) : mpB R K = 0 ∧ mpN R K = [] ∧ mpO R K = [] := by
  unfold mpB mpN mpO
  rw [if_neg h, if_neg h, if_neg h]
  exact ⟨rfl, rfl, rfl⟩
theorem outNew_nil (w w' : World) : OutNew w 0 [] [] none none w' := fun _ _ => ⟨⟨rfl, by simp [maxLen], .inl rfl⟩, ⟨rfl, by simp [maxLen], fun x hx => by simp at hx, .inl rfl⟩⟩
theorem morC_zero {R : List (List Int)} {K : List Int} (h : morC R K = 0) : R.length ≠ 0 ∧ 2 ≤ morK R ∧ morK R ≤ 6 ∧ R.length ≤ 20 ∧ mlenB R (morK R) = true ∧ mrngB R R.length = true ∧ (R.getD 0 []).getD 0 0 = 0 ∧ K.length = R.length ∧ mcdB K = true := by
  unfold morC at h
  by_cases h0 : R.length = 0
  · rw [if_pos h0] at h; omega
  · rw [if_neg h0] at h
    by_cases h1 : 2 ≤ morK R ∧ morK R ≤ 6
    · rw [if_pos h1] at h
      by_cases h2 : 20 < R.length
      · rw [if_pos h2] at h; omega
      · rw [if_neg h2] at h
        by_cases h3 : mlenB R (morK R) = true
        · rw [if_pos h3] at h
          by_cases h4 : mrngB R R.length = true
          · rw [if_pos h4] at h
            by_cases h5 : (R.getD 0 []).getD 0 0 = 0 ∧ K.length = R.length
            · rw [if_pos h5] at h
              by_cases h6 : mcdB K = true
              · exact ⟨h0, h1.1, h1.2, by omega, h3, h4, h5.1, h5.2, h6⟩
              · rw [if_neg h6] at h; omega
            · rw [if_neg h5] at h; omega
          · rw [if_neg h4] at h; omega
        · rw [if_neg h3] at h; omega
    · rw [if_neg h1] at h; omega
set_option maxHeartbeats 8000000 in
set_option maxRecDepth 8000 in
theorem word_morph_any : MorphSays := by
  intro a n cap ao no co R K w hs ho
  have hL := hs.1
  have hLo := ho.1
  have HX0 := hide (heap_alloc_last w (.cells #[.int .i64 0, .slice none 0 0, .slice none 0 0] 25))
  have hB0 := (Below.refl w.heap.size w).alloc (Nat.le_refl _) (.cells #[.int .i64 0, .slice none 0 0, .slice none 0 0] 25)
  have HB0 := hide hB0
  have hmr := morC_rul R K
  have HCK := hide (checkRules_any a n cap R _ (sl2_below hs hB0))
  have HUP := hide (allUpTo_any 9 ao no co K _ (sl_below ho hB0))
  have HS := hide (sl2_below hs hB0)
  have HO := hide (sl_below ho hB0)
  have hSZ : (w.alloc (.cells #[.int .i64 0, .slice none 0 0, .slice none 0 0] 25)).heap.size = w.heap.size + 1 := by simp
  generalize hwb : w.alloc (.cells #[.int .i64 0, .slice none 0 0, .slice none 0 0] 25) = wb at HX0 hB0 HB0 HCK HUP HS HO hSZ
  have HSZ := hide hSZ
  have HBADS : Hid (∀ c : Int, c ≠ 0 → morC R K = c → MphR w (mpB R K) (mpN R K) (mpO R K) (morC R K) (.returned (.tuple #[.agg #[.int .i64 0, .slice none 0 0, .slice none 0 0], .iface 26 (.int .i64 c)])) (((wb.setCell ⟨w.heap.size, 0, none⟩ (.int .i64 0)).setCell ⟨w.heap.size, 1, none⟩ (.slice none 0 0)).setCell ⟨w.heap.size, 2, none⟩ (.slice none 0 0))) := fun c hc e => by
    obtain ⟨e1, e2, e3⟩ := mp_bad (R := R) (K := K) (by rw [e]; exact hc)
    rw [e1, e2, e3, e]
    obtain ⟨-, hbel⟩ := box3_set (v0 := .int .i64 0) (v1 := .slice none 0 0) (v2 := .slice none 0 0) HX0.out rfl
    exact ⟨none, 0, none, 0, by rw [errV_no hc]; rfl, outNew_nil _ _, hbel w w.heap.size HB0.out (Nat.le_refl _)⟩
  have hset0 := (box3_set (v0 := .int .i64 0) (v1 := .slice none 0 0) (v2 := .slice none 0 0) HX0.out rfl).1
  obtain ⟨⟨z0, z1, z2⟩, -⟩ := box3_cells hset0
  have HZZ := hide (And.intro z0 (And.intro z1 z2))
  obtain ⟨⟨r0, r1, r2⟩, rf⟩ := box3_cells HX0.out
  clear hset0 z0 z1 z2 hSZ
  by_cases hR : rulC R = 0
  · rw [hR, errV_zero] at HCK
    rw [if_pos hR] at hmr
    by_cases hl : K.length = R.length
    · rw [if_pos hl] at hmr
      have hnn : ((no : Int) == (n : Int)) = true := by simp; omega
      by_cases hu : mcdB K = true
      · rw [if_pos hu] at hmr
        rw [mcd_upB] at hu
        rw [hu] at HUP
        obtain ⟨q0, q1, q2, q3, q4, q5, q6, q7, q8⟩ := morC_zero hmr
        have e1 : mpB R K = (morK R : Int) := by unfold mpB; rw [if_pos hmr]
        have e2 : mpN R K = R := by unfold mpN; rw [if_pos hmr]
        have e3 : mpO R K = K := by unfold mpO; rw [if_pos hmr]
        rw [e1, e2, e3, hmr]
        obtain rfl : no = n := by omega
        obtain ⟨bb, o, a0, cc0, hab, hck, hsl0⟩ := sl2_cell HS.out 0 (by omega)
        rw [Nat.add_zero] at hck
        have hkl : (R.getD 0 []).length = morK R := rfl
        rw [hkl] at hck
        have hn0 : (0 : Int) < (no : Int) := by omega
        have HLJ : Hid (∀ j, j < no → (R.getD j []).length = morK R) := fun j hj => by
          have := all_at (d := []) q4 (i := j) (by omega)
          simpa using this
        have HWF : Hid (∀ j, j < no → ∀ x ∈ R.getD j [], (Lit.int .i64 x).wf = true) := fun j hj x hx => by
          have h1 := all_at (d := []) q5 (i := j) (by omega)
          rw [List.all_eq_true] at h1
          have := h1 x hx
          simp at this
          exact WalkArith.wf_i64 (by omega)
        have HCO := hide (fun W (h : Below wb.heap.size wb W) => clone_any ao no co K W (sl_below HO.out h) (by omega) (by omega))
        have HCR := hide (fun j (hj : j < no) aj cj W (h : Sl W aj (R.getD j []).length (R.getD j [])) => clone_any aj (R.getD j []).length cj (R.getD j []) W h (by rw [HLJ.out j hj]; omega) (by rw [HLJ.out j hj]; omega))
        have HWO : Hid (∀ x ∈ K, (Lit.int .i64 x).wf = true) := HO.out.2.2.1
        unfold CloneR at HCO HCR
        have HLL := hide hL
        have HLK := hide hLo
        have hk6 : morK R ≤ 6 := q2
        have hn20 : no ≤ 20 := by omega
        clear hB0 hmr hR hl hu q0 q1 q2 q3 q4 q5 q6 q7 q8 e1 e2 e3 hL hLo HBADS HZZ hs ho hsl0 hkl
        generalize morK R = k at *
        subst hab
        have HRB := hide (Below.refl wb.heap.size wb)
        go_enter Tryd.func20, Tryd.ntmps20
        go_wp2_with (first
          | (go_at_call 41; refine HCK.out.mono ?_; rintro e w' ⟨rfl, hw'⟩; rw [hw']; clear hw' w')
          | (go_at_call 28; refine HUP.out.mono ?_; rintro e w' ⟨rfl, hw'⟩; rw [hw']; clear hw' w'))
        clear hwb
        go_cut [7] (fun s7 wx => ∃ X gO cO col, s7 = .pointer (some ⟨X, 0, none⟩) ∧ MpI wb (fun j => R.getD j []) col X (k : Int) (.slice (some ⟨gO, 0, none⟩) no cO) K 0 (.slice none 0 0) [] wx)
        case first =>
          have hckk : ∀ (W : World), Below wb.heap.size wb W → W.cell? ⟨bb, o, none⟩ = some (.slice a0 k cc0) := fun W h => (h.cell (p := ⟨bb, o, none⟩) (World.block_lt_of_cell? wb _ hck)).trans hck
          have HCKK := hide hckk
          clear hckk
          go_region_held_law (fun W => W.cell? ⟨bb, o, none⟩ = some (.slice a0 k cc0)) (first | exact HCKK.out _ HRB.out.drew | exact HCKK.out _ (HRB.out.alloc (Nat.le_refl _) _).drew | exact HCKK.out _ HB2.out | exact HCKK.out _ (HB2.out.alloc HB2.out.size _) | exact HCKK.out _ (((HB2.out.setCell (Nat.le_refl _) _).setCell (Nat.le_refl _) _).setCell (Nat.le_refl _) _) | go_keep)
            (first | (go_at_call 42; refine (HCO.out _ ?_).mono ?_; (first | exact HRB.out.drew | exact (HRB.out.alloc (Nat.le_refl _) _).drew); rintro e w2 ⟨gO, cO, rfl, hown, hb2⟩; have HOWN := hide hown; (first | (have HB2 : Hid (Below wb.heap.size wb w2) := below_step HRB.out.drew hb2) | (have HB2 : Hid (Below wb.heap.size wb w2) := below_step (HRB.out.alloc (Nat.le_refl _) _).drew hb2; have hz1 : w2.heap[wb.heap.size]? = some (.cells #[.int .i64 0, .slice none 0 0, .slice none 0 0] 25) := (hb2.block wb.heap.size (by simp)).trans (heap_alloc_last wb _); obtain ⟨⟨y0, y1, y2⟩, yf⟩ := box3_cells hz1; have HZ1 := hide hz1; clear hz1)); clear hown hb2))
          all_goals
            go_wp2_with fail
            go_meet
            case rel =>
              have hl := HOWN.out.lt gO (by simp [Value.ownBlock])
              have ho3 : ∀ W' : World, W'.heap[gO]? = w2.heap[gO]? → W'.ownsRow wb.heap.size 3 1 (.slice (some ⟨gO, 0, none⟩) no cO) K.length (K.map (Value.int .i64)) := fun W' h => by
                rw [HLK.out]
                refine ownsRow_of_block (owns_mono HOWN.out (by first | exact Nat.le_refl _ | simp)) ?_
                intro x hx
                have e : gO = x := by simpa [Value.ownBlock] using hx
                rw [← e]
                exact h
              first
                | (obtain ⟨col, hmp⟩ := mp_start (wb := wb) (k := (k : Int)) (vO := .slice (some ⟨gO, 0, none⟩) no cO) (K := K) (fun j => R.getD j []) (heap_alloc_last w2 (.cells #[.int .i64 (k : Int), .slice none 0 0, .slice (some ⟨gO, 0, none⟩) no cO] 25)) (ho3 _ (Below.heap_alloc _ _ _ hl.2)) (by simp [Value.ownBlock]; omega) HB2.out.size (HB2.out.alloc HB2.out.size _)
                   exact ⟨_, gO, cO, col, rfl, hmp⟩)
                | (obtain ⟨hset, hbel⟩ := box3_set (v0 := .int .i64 (k : Int)) (v1 := .slice none 0 0) (v2 := .slice (some ⟨gO, 0, none⟩) no cO) HZ1.out rfl
                   have hne : gO ≠ wb.heap.size := by have h1 := hl.1; simp at h1; omega
                   obtain ⟨col, hmp⟩ := mp_start (wb := wb) (k := (k : Int)) (vO := .slice (some ⟨gO, 0, none⟩) no cO) (K := K) (fun j => R.getD j []) hset (ho3 _ (by rw [Below.heap_setCell _ _ _ _ hne, Below.heap_setCell _ _ _ _ hne, Below.heap_setCell _ _ _ _ hne])) (by simp [Value.ownBlock]; omega) (Nat.le_refl _) (hbel wb _ HB2.out (Nat.le_refl _))
                   exact ⟨_, gO, cO, col, rfl, hmp⟩)
        case rest =>
          obtain ⟨B, gO, cO, col0, rfl, hmp0⟩ := hcut
          obtain ⟨w3, hw3⟩ : ∃ w3 : World, w3 = wc := ⟨_, rfl⟩
          rw [← hw3] at hmp0 ⊢
          have HMP0 := hide hmp0
          clear hw3 hmp0 wc HCO HCK HUP
          go_wp2
          obtain ⟨j0, hj0, hy0, hy1, hy2⟩ := info_parts infoS2
          go_loopg [37] (no + 1) (fun g iv wx => ∃ (i : Nat) (col : Nat → Nat) (vN : Value) (vals : List Value), g = no + 1 - i ∧ iv = .int .i64 i ∧ i ≤ no ∧ MpI wb (fun j => R.getD j []) col B (k : Int) (.slice (some ⟨gO, 0, none⟩) no cO) K i vN vals wx)
          case atStart => exact ⟨0, col0, .slice none 0 0, [], rfl, rfl, by omega, HMP0.out⟩
          case round =>
            obtain ⟨i, col, vN, vals, hgi, rfl, hi, hmp⟩ := hrel
            have HGI := hide hgi
            have HMP := hide hmp
            obtain ⟨aN, cN, hvN⟩ := owns_sl hmp.nx.own
            rw [hmp.rw_.1] at hvN
            subst hvN
            clear hgi hmp HMP0
            by_cases hlt : i < no
            · have hlti : (i : Int) < (no : Int) := by omega
              obtain ⟨bi, oi, ai, ci, hai, hci, hsi⟩ := sl2_cell (sl2_below HS.out HMP.out.bel) i hlt
              cases hai
              have HCi := hide (fun W (h : Below wr.heap.size wr W) => HCR.out i hlt ai ci W (sl_below hsi h))
              obtain ⟨⟨b0, b1, b2⟩, -⟩ := box3_cells HMP.out.box
              have HBX : Hid (∀ W, Below wr.heap.size wr W → W.cell? ⟨B, 1, none⟩ = some (.slice aN i cN)) := fun W h => (h.cell (p := ⟨B, 1, none⟩) (World.block_lt_of_cell? wr _ b1)).trans b1
              have HOWN : Hid (wr.ownsRow wb.heap.size 23 1 (.slice aN i cN) i vals) := by have h := HMP.out.nx.own; rw [HMP.out.rw_.1] at h; exact h
              have HLBr : Hid (wb.heap.size ≤ wr.heap.size) := HMP.out.bel.size
              have HRi := hide (Below.refl wr.heap.size wr)
              have HLi := hide (HLJ.out i hlt)
              have HWi := hide (HWF.out i hlt)
              have hli : (R.getD i []).length ≤ 6 := by rw [HLi.out]; exact hk6
              clear hsi b0 b2
              generalize hll : (R.getD i []).length = li at hci HCi HLi hli
              go_wp2_with fail
              go_region_law
                (first
                  | (refine step_append_lies _ rfl (.tmp 42) (.tmp 45) 22 rfl wb.heap.size 23 j0 (.slice none 0 0) 1 24 Tryd.underlying22 hj0 hy0 hy1 hy2 rfl (by decide) _ i vals rfl (World.ownsRow.alloc (w := w5) (ownsRow_of_block HOWN.out (fun x hx => HBc.out.block _ (HOWN.out.lt x hx).2)) _) ⟨w5.heap.size, 0, none⟩ 1 1 [.slice (some ⟨gc, 0, none⟩) li cc] (by simp [Act.eval]) rfl (one_new w5 _ _) (fun u hu => by simp at hu; subst hu; rfl) (by omega) (by unfold maxLen; omega) (by omega) (by have h1 := HLBr.out; have h2 := HBc.out.size; simp; omega) (w5.heap.size + 1) (by simp) ?_; intro g6 c6 w6 hown6 hgrow6 hat6 hlt6; have hp := mp_push (o := .cells #[.slice (some ⟨gc, 0, none⟩) li cc] 23) HMP.out HBc.out (by show w5.ownsRow _ _ _ (.slice (some ⟨gc, 0, none⟩) (R.getD i []).length cc) (R.getD i []).length _; rw [hll]; exact HOC.out) (by show (R.getD i []).length ≤ _; rw [hll]; unfold maxLen; omega) HWi.out (by show w6.ownsRow _ _ _ _ _ (vals ++ [.slice (some ⟨gc, 0, none⟩) (R.getD i []).length cc]); rw [hll]; exact hown6) hgrow6 hat6; obtain ⟨⟨e0, e1, e2⟩, ef⟩ := box3_cells hp.1; have hkb := e1; have HPN := hide hp.2; clear hown6 hgrow6 hat6 hp)
                  | (go_simp; go_at_call 42; refine (HCi.out _ HRi.out.drew).mono ?_; rintro e w5 ⟨gc, cc, rfl, hoc, hbc⟩; have HOC := hide hoc; have HBc : Hid (Below wr.heap.size wr w5) := below_step HRi.out.drew hbc; have b15 := HBX.out w5 HBc.out; have b16 := (fun o => HBX.out _ (HBc.out.alloc HBc.out.size o)); clear hoc hbc))
              all_goals
                go_wp2
                obtain ⟨col9, hmp9⟩ := HPN.out
                go_roundg (no + 1 - (i + 1))
                case measure => have := HGI.out; omega
                case rel => exact ⟨i + 1, col9, _, _, rfl, by go_num, by omega, hmp9⟩
            · have hlti : ¬ (i : Int) < (no : Int) := by omega
              obtain rfl : i = no := by omega
              have HEND := hide (mp_end HMP.out (by unfold maxLen; omega) HLK.out (by unfold maxLen; omega) HWO.out R HLL.out (fun j _ => rfl))
              obtain ⟨⟨b0, b1, b2⟩, -⟩ := box3_cells HMP.out.box
              have HBL := hide HMP.out.bel
              have HSZw : Hid (w.heap.size < wb.heap.size) := (Array.getElem?_eq_some_iff.1 HX0.out).1
              have hr := (HBL.out.block _ HSZw.out).trans HX0.out
              obtain ⟨⟨s0, s1, s2⟩, sf⟩ := box3_cells hr
              have HR := hide hr
              clear hr HMP r0 r1 r2 rf
              go_wp2
              obtain ⟨hset, hbel⟩ := box3_set (v0 := .int .i64 (k : Int)) (v1 := .slice aN i cN) (v2 := .slice (some ⟨gO, 0, none⟩) i cO) HR.out rfl
              obtain ⟨⟨z0, z1, z2⟩, -⟩ := box3_cells hset
              have hbF := hbel w w.heap.size (below_step HB0.out HBL.out) (Nat.le_refl _)
              have hk : ∀ x, x ≠ w.heap.size → (((wr.setCell ⟨w.heap.size, 0, none⟩ (.int .i64 (k : Int))).setCell ⟨w.heap.size, 1, none⟩ (.slice aN i cN)).setCell ⟨w.heap.size, 2, none⟩ (.slice (some ⟨gO, 0, none⟩) i cO)).heap[x]? = wr.heap[x]? := fun x hx => by
                rw [Below.heap_setCell _ _ _ _ hx, Below.heap_setCell _ _ _ _ hx, Below.heap_setCell _ _ _ _ hx]
              have hsz : (((wr.setCell ⟨w.heap.size, 0, none⟩ (.int .i64 (k : Int))).setCell ⟨w.heap.size, 1, none⟩ (.slice aN i cN)).setCell ⟨w.heap.size, 2, none⟩ (.slice (some ⟨gO, 0, none⟩) i cO)).heap.size = wr.heap.size := by simp [World.setCell]
              refine bodyPost_ret (v := .tuple #[.agg #[.int .i64 (k : Int), .slice aN i cN, .slice (some ⟨gO, 0, none⟩) i cO], .nilIface]) (by simp [results, Tryd.results20, go_sem, z0, z1, z2]) rfl ⟨aN, cN, some ⟨gO, 0, none⟩, cO, by rw [HLL.out]; rfl, fun W' hW' => ?_, hbF⟩
              rw [HLL.out]
              exact HEND.out W' (fun x hx hxl => by have h1 := HSZw.out; rw [hW' x (by omega) (by rw [hsz]; exact hxl), hk x (by omega)])
      · have hu' : upB 9 K = false := by rw [← mcd_upB]; simpa using hu
        rw [hu'] at HUP
        rw [if_neg hu] at hmr
        have HF := hide (HBADS.out 1 (by decide) hmr)
        obtain ⟨z0, z1, z2⟩ := HZZ.out
        have HZ0 := hide z0
        have HZ1 := hide z1
        have HZ2 := hide z2
        clear z0 z1 z2 hu hu' hmr hR hl HBADS HZZ hs ho hL hLo hB0
        generalize mpB R K = MB at HF ⊢
        generalize mpN R K = MN at HF ⊢
        generalize mpO R K = MO at HF ⊢
        generalize morC R K = MC at HF ⊢
        go_enter Tryd.func20, Tryd.ntmps20
        go_wp2_with (first
          | (go_at_call 41; refine HCK.out.mono ?_; rintro e w' ⟨rfl, hw'⟩; rw [hw']; clear hw' w')
          | (go_at_call 28; refine HUP.out.mono ?_; rintro e w' ⟨rfl, hw'⟩; rw [hw']; clear hw' w'))
        exact bodyPost_ret (v := .tuple #[.agg #[.int .i64 0, .slice none 0 0, .slice none 0 0], .iface 26 (.int .i64 1)]) (by simp [results, Tryd.results20, go_sem, HZ0.out, HZ1.out, HZ2.out]) rfl HF.out
    · rw [if_neg hl] at hmr
      have hnn : ((no : Int) == (n : Int)) = false := by simp; omega
      have HF := hide (HBADS.out 2 (by decide) hmr)
      obtain ⟨z0, z1, z2⟩ := HZZ.out
      have HZ0 := hide z0
      have HZ1 := hide z1
      have HZ2 := hide z2
      clear z0 z1 z2 hmr hR hl HBADS HZZ hs ho hL hLo hB0
      generalize mpB R K = MB at HF ⊢
      generalize mpN R K = MN at HF ⊢
      generalize mpO R K = MO at HF ⊢
      generalize morC R K = MC at HF ⊢
      go_enter Tryd.func20, Tryd.ntmps20
      go_wp2_with (go_at_call 41; refine HCK.out.mono ?_; rintro e w' ⟨rfl, hw'⟩; rw [hw']; clear hw' w')
      exact bodyPost_ret (v := .tuple #[.agg #[.int .i64 0, .slice none 0 0, .slice none 0 0], .iface 26 (.int .i64 2)]) (by simp [results, Tryd.results20, go_sem, HZ0.out, HZ1.out, HZ2.out]) rfl HF.out
  · rw [if_neg hR] at hmr
    have HF := hide (HBADS.out (rulC R) hR hmr)
    rw [errV_no hR] at HCK
    obtain ⟨z0, z1, z2⟩ := HZZ.out
    have HZ0 := hide z0
    have HZ1 := hide z1
    have HZ2 := hide z2
    clear z0 z1 z2 hmr hR HBADS HZZ hs ho hL hLo hB0
    generalize mpB R K = MB at HF ⊢
    generalize mpN R K = MN at HF ⊢
    generalize mpO R K = MO at HF ⊢
    generalize morC R K = MC at HF ⊢
    generalize rulC R = c at HF HCK
    go_enter Tryd.func20, Tryd.ntmps20
    go_wp2_with (go_at_call 41; refine HCK.out.mono ?_; rintro e w' ⟨rfl, hw'⟩; rw [hw']; clear hw' w')
    exact bodyPost_ret (v := .tuple #[.agg #[.int .i64 0, .slice none 0 0, .slice none 0 0], .iface 26 (.int .i64 c)]) (by simp [results, Tryd.results20, go_sem, HZ0.out, HZ1.out, HZ2.out]) rfl HF.out
end Go.Proofs.YtcpnfbjcgaonkafDoor
