/- 3 texts in one. -/
import Derived.Test.YtebbjmcjgjecmaaBy
import Derived.Test.YtebbjmcjgjecmaaZDj
import Derived.Test.YtebbjmcjgjecmaaHj
import Derived.Test.YtebbjmcjgjecmaaZHk
/- some.without: contract. -/
namespace Go.Proofs.Ytebbjmcjgjecmaa
open Go.RowKit

/-- The sets by letters as they are gathered are those of the document's words. -/
theorem left_sets {b : Int} {tr tk m mu : Nat} {N : List (List Int)} {E : List Bool} (H : SmWell b tr tk N E m mu) :
    (setsS (leastN N E m) (leastN N E m).length (leftR b tr tk m mu) ((leftR b tr tk m mu).getD 0 [])).length = (smL b ((tr : Int) + 1) (tk : Int) N E).length ∧
    setN (leastN N E m) (leastN N E m).length (leftR b tr tk m mu) ((leftR b tr tk m mu).getD 0 []) = smGN b ((tr : Int) + 1) (tk : Int) N E ∧
    setE (leastN N E m) (leastN N E m).length (leastE N E m) (leftR b tr tk m mu) ((leftR b tr tk m mu).getD 0 []) = smGE b ((tr : Int) + 1) (tk : Int) N E := by
  have hG := least_good H.good E
  have hfew := H.few36
  rw [leastN_len]
  obtain ⟨h1, h2, h3⟩ := sets_ext hG (R := leftR b tr tk m mu) (R' := readS b tr tk mu) (by rw [leftR_len, readS_len]) (by rw [leftR_len]; omega) (fun l hl x hx => by
    rw [leftR_len] at hl
    rw [leftR_get hl] at hx
    exact (mem_leftL.1 hx).1) (fun l hl x => by
    rw [leftR_len] at hl
    rw [leftR_get hl, readS_get hl]
    exact leftL_with H.base.2 H.tracks.2 H.many H.few hl x)
  rw [h1, h2, h3]
  unfold smL smGN smGE
  rw [smR_eq H.fU, H.mU]
  exact ⟨rfl, rfl, rfl⟩
theorem left_zero {b : Int} {tr tk m mu : Nat} {N : List (List Int)} {E : List Bool} (H : SmWell b tr tk N E m mu) : 0 < ((leftR b tr tk m mu).getD 0 []).length := by
  have hfew := H.few36
  rw [leftR_get (by omega)]
  have hm1 : 1 ≤ m := H.good.2.2.2.2.1
  have : (0 : Int) ∈ leftL b tr tk m 0 := mem_leftL.2 ⟨by omega, by rw [del_zero H.base.2]; rfl⟩
  exact List.length_pos_of_mem this

def WithU (w : World) (b t : Int) (m : Nat) (c : Int) (SN : List (List Int)) (SE : List Bool) (e : Ending) (w' : World) : Prop :=
  (c = 0 → SetsOk w b t m SN SE e w') ∧ (c ≠ 0 → e = .returned (.tuple #[.agg #[.int .i64 0, .int .i64 0, .slice none 0 0, .slice none 0 0], errV c]) ∧ Below w.heap.size w w')

set_option maxHeartbeats 8000000 in
set_option maxRecDepth 8000 in
theorem without_ok (b : Int) (tn tr tk m mu : Nat) (a : Option Addr) (n cap : Nat) (a' : Option Addr) (cap' : Nat) (N : List (List Int)) (E : List Bool) (w : World) (hs : Sl2 w a n N) (he : SlB w a' n E) (htn : tn = tr + 1) (H : SmWell b tr tk N E m mu) (hA : autoC b (tn : Int) N n = 0) (hU1 : manyU b (tn : Int) = (m : Int)) (hC1 : codeM b (tn : Int) = 0) :
    Calls Try.prog 20 #[.agg #[.int .i64 b, .int .i64 (tn : Int), .slice a n cap, .slice a' n cap'], .int .i64 (tk : Int)] w (WithU w b (tr : Int) mu (if 2000 < (smL b ((tr : Int) + 1) (tk : Int) N E).length then 3 else 0) (smGN b ((tr : Int) + 1) (tk : Int) N E) (smGE b ((tr : Int) + 1) (tk : Int) N E)) := by
  obtain ⟨hl1, hl2, hl3⟩ := left_sets H
  have hl0 := left_zero H
  have hfew := H.few36
  have hb2 := H.base.2
  have htr := H.tracks
  have hB0 := below_two w (.cells #[.int .i64 b, .int .i64 (tn : Int), .slice a n cap, .slice a' n cap'] 25) (.cells #[.int .i64 0, .int .i64 0, .slice none 0 0, .slice none 0 0] 25)
  have HB0 := hide hB0
  have HX1 := hide (heap_alloc2_fst w (.cells #[.int .i64 b, .int .i64 (tn : Int), .slice a n cap, .slice a' n cap'] 25) (.cells #[.int .i64 0, .int .i64 0, .slice none 0 0, .slice none 0 0] 25))
  have HX2 := hide (heap_alloc2_snd w (.cells #[.int .i64 b, .int .i64 (tn : Int), .slice a n cap, .slice a' n cap'] 25) (.cells #[.int .i64 0, .int .i64 0, .slice none 0 0, .slice none 0 0] 25))
  have HLE : Hid (∀ W, Below w.heap.size w W → Calls Try.prog 12 #[.agg #[.int .i64 b, .int .i64 (tn : Int), .slice a n cap, .slice a' n cap']] W (LeastU W b (tn : Int) N E m)) := fun W hW => by
    have h := least_ok b (tn : Int) a n cap N a' cap' E W (sl2_below hs hW) (slB_below he hW) hA
    rw [hU1, Int.toNat_natCast] at h
    exact h
  unfold LeastU at HLE
  have hGL := least_good H.good E
  have hKL := leastK_80 H.good E (by have := H.n80; omega)
  have HLW : Hid (∀ (W : World), Calls Try.prog 30 #[.int .i64 b, .int .i64 (tn : Int), .int .i64 (tk : Int)] W (GivesRws W (leftR b tr tk m mu))) := fun W => lettersWithout_any b tn tr tk m mu W htn hb2 htr.1 htr.2 H.few H.code hC1 hU1 hfew.2
  unfold GivesRws at HLW
  have HSO : Hid (∀ (W : World) (a1 : Option Addr) (c1 : Nat) (a2 : Option Addr) (c2 : Nat) (g : Nat), Sl2 W a1 (leastN N E m).length (leastN N E m) → SlB W a2 (leastN N E m).length (leastE N E m) → Sl2 W (some ⟨g, 0, none⟩) mu (leftR b tr tk m mu) → Calls Try.prog 31 #[.agg #[.int .i64 b, .int .i64 (tn : Int), .slice a1 (leastN N E m).length c1, .slice a2 (leastN N E m).length c2], .int .i64 (tr : Int), .slice (some ⟨g, 0, none⟩) mu mu] W (SetsU W b (tr : Int) mu (smL b ((tr : Int) + 1) (tk : Int) N E).length (smGN b ((tr : Int) + 1) (tk : Int) N E) (smGE b ((tr : Int) + 1) (tk : Int) N E))) := fun W a1 c1 a2 c2 g h1 h2 h3 => by
    have h := setsOf_any b (tn : Int) (tr : Int) a1 _ c1 a2 c2 m (leastN N E m) (leastE N E m) (some ⟨g, 0, none⟩) mu mu (leftR b tr tk m mu) W h1 h2 (by rw [leastN_len]; exact hGL) (by rw [leastN_len]; exact hKL) h3 (fun l hl x hx => by
      rw [leftR_get hl] at hx
      exact (mem_leftL.1 hx).1) hfew.1 hfew.2 hl0
    rw [hl1, hl2, hl3] at h
    exact h
  have HRL : Hid ((leftR b tr tk m mu).length = mu) := leftR_len _ _ _ _ _
  rw [HRL.out] at HLW
  have hsub : (tn : Int) - 1 = (tr : Int) := by omega
  clear hs he H hA hU1 hC1 hl1 hl2 hl3 hl0 hGL hKL htn hB0
  generalize (smL b ((tr : Int) + 1) (tk : Int) N E).length = LEN at HSO ⊢
  generalize smGN b ((tr : Int) + 1) (tk : Int) N E = SN at HSO ⊢
  generalize smGE b ((tr : Int) + 1) (tk : Int) N E = SE at HSO ⊢
  generalize leftR b tr tk m mu = LR at HLW HSO HRL
  generalize leastN N E m = LN at HLE HLW HSO
  generalize leastE N E m = LE at HLE HSO
  obtain ⟨c, hc⟩ : ∃ c : Int, c = if 2000 < LEN then 3 else 0 := ⟨_, rfl⟩
  rw [← hc]
  have HFIN : Hid (∀ (e : Ending) (w' : World), (LEN ≤ 2000 → SetsOk w b (tr : Int) mu SN SE e w') → (2000 < LEN → e = .returned (.tuple #[.agg #[.int .i64 0, .int .i64 0, .slice none 0 0, .slice none 0 0], errV 3]) ∧ Below w.heap.size w w') → WithU w b (tr : Int) mu c SN SE e w') := fun e w' h1 h2 => by
    rw [hc]
    by_cases h : 2000 < LEN
    · rw [if_pos h]
      exact ⟨fun h3 => absurd h3 (by decide), fun _ => h2 h⟩
    · rw [if_neg h]
      exact ⟨fun _ => h1 (by omega), fun h3 => absurd rfl h3⟩
  clear hc
  generalize hwb : (w.alloc (.cells #[.int .i64 b, .int .i64 (tn : Int), .slice a n cap, .slice a' n cap'] 25)).alloc (.cells #[.int .i64 0, .int .i64 0, .slice none 0 0, .slice none 0 0] 25) = wb at HB0 HX1 HX2
  have HSZ : Hid (wb.heap.size = w.heap.size + 2) := by show _ = _; rw [← hwb]; simp
  obtain ⟨⟨p0, p1, p2, p3⟩, -⟩ := box_cells HX1.out
  go_enter Try.func20, Try.ntmps20
  have HC1 := hide (HLE.out wb HB0.out)
  clear HLE
  go_wp2_with (go_at_call 12; refine HC1.out.mono ?_; rintro e w2 ⟨a1, c1, a2, c2, rfl, hn2, hb2⟩; have HN2 := hide hn2; have HB2 := hide hb2; clear hn2 hb2)
  clear hwb p0 p1 p2 p3
  have HBA := hide ((Below.refl w2.heap.size w2).alloc (Nat.le_refl _) (.cells #[.int .i64 b, .int .i64 (tn : Int), .slice a1 LN.length c1, .slice a2 LN.length c2] 25))
  have HXA := hide (heap_alloc_last w2 (.cells #[.int .i64 b, .int .i64 (tn : Int), .slice a1 LN.length c1, .slice a2 LN.length c2] 25))
  generalize w2.alloc (.cells #[.int .i64 b, .int .i64 (tn : Int), .slice a1 LN.length c1, .slice a2 LN.length c2] 25) = w3 at HBA HXA ⊢
  refine (HLW.out w3).mono ?_
  rintro e w4 ⟨g, rfl, hs4, hb4⟩
  have HB4 := hide hb4
  have HS4 := hide hs4
  obtain ⟨⟨q0, q1, q2, q3⟩, -⟩ := box_cells ((hb4.block _ (Array.getElem?_eq_some_iff.1 HXA.out).1).trans HXA.out)
  have HAL : Hid (Below w2.heap.size w2 w4) := HBA.out.trans (hb4.mono HBA.out.size)
  have HC4 := hide (HSO.out w4 a1 c1 a2 c2 g (sl2_below HN2.out.here.1 HAL.out) (slB_below HN2.out.here.2 HAL.out) hs4)
  unfold SetsU at HC4
  have HBW4 : Hid (Below wb.heap.size wb w4) := HB2.out.trans (HAL.out.mono HB2.out.size)
  clear hs4 hb4 HLW HSO HC1
  go_wp2_with fail
  refine HC4.out.mono ?_
  rintro e w5 ⟨hyes, hno⟩
  by_cases hL : LEN ≤ 2000
  · obtain ⟨bx, vN, vE, vals, G, rfl, hA, hb5⟩ := hyes hL
    obtain ⟨aN, cN, rfl⟩ := owns_sl hA.ownN
    obtain ⟨aE, cE, rfl⟩ := owns_sl hA.ownE
    have hr := ((HBW4.out.trans (hb5.mono HBW4.out.size)).block (w.heap.size + 1) (by rw [HSZ.out]; omega)).trans HX2.out
    obtain ⟨⟨r0, r1, r2, r3⟩, rf⟩ := box_cells hr
    have HR := hide hr
    have HA := hide hA
    have HB5 : Hid (Below w.heap.size w w5) := (HB0.out.trans (HBW4.out.mono HB0.out.size)).trans (hb5.mono (Nat.le_trans HB0.out.size HBW4.out.size))
    have HS45 : Hid (w.heap.size + 2 ≤ w4.heap.size) := by have := HBW4.out.size; have := HSZ.out; show _ ≤ _; omega
    clear hr hA hb5 hyes hno q0 q1 q2 q3
    go_wp2
    obtain ⟨⟨hset, hsz, hoth⟩, hbel⟩ := box_set (v0 := .int .i64 b) (v1 := .int .i64 (tr : Int)) (v2 := .slice aN SN.length cN) (v3 := .slice aE SN.length cE) HR.out rfl
    have hb := hbel w w.heap.size HB5.out (by omega)
    obtain ⟨⟨z0, z1, z2, z3⟩, -⟩ := box_cells hset
    have hfin := autI_keep HA.out (fun x hx => hoth x (by have := (HA.out.lt x hx).1; have := HS45.out; omega)) (Nat.le_of_eq hsz.symm)
    have hfin2 := autI_mono hfin (show w.heap.size ≤ w4.heap.size by have := HS45.out; omega)
    exact bodyPost_ret (v := .tuple #[.agg #[.int .i64 b, .int .i64 (tr : Int), .slice aN SN.length cN, .slice aE SN.length cE], .nilIface]) (by simp [results, Try.results20, go_sem, z0, z1, z2, z3]) rfl (HFIN.out _ _ (fun _ => ⟨bx, _, _, vals, G, rfl, hfin2, hb⟩) (fun h => by omega))
  · obtain ⟨rfl, hb5⟩ := hno (by omega)
    have hr := ((HBW4.out.trans (hb5.mono HBW4.out.size)).block (w.heap.size + 1) (by rw [HSZ.out]; omega)).trans HX2.out
    obtain ⟨⟨r0, r1, r2, r3⟩, rf⟩ := box_cells hr
    have HR := hide hr
    have HB5 : Hid (Below w.heap.size w w5) := (HB0.out.trans (HBW4.out.mono HB0.out.size)).trans (hb5.mono (Nat.le_trans HB0.out.size HBW4.out.size))
    clear hr hb5 hyes hno q0 q1 q2 q3
    rw [errV_no (show (3 : Int) ≠ 0 by decide)]
    go_wp2
    obtain ⟨⟨hset, hsz, hoth⟩, hbel⟩ := box_set0 HR.out rfl
    have hb := hbel w w.heap.size HB5.out (by omega)
    obtain ⟨⟨z0, z1, z2, z3⟩, -⟩ := box_cells hset
    exact bodyPost_ret (v := .tuple #[.agg #[.int .i64 0, .int .i64 0, .slice none 0 0, .slice none 0 0], .iface 44 (.int .i64 3)]) (by simp [results, Try.results20, go_sem, z0, z1, z2, z3]) rfl (HFIN.out _ _ (fun h => by omega) (fun _ => ⟨rfl, hb⟩))

set_option maxHeartbeats 4000000 in
set_option maxRecDepth 8000 in
theorem without_no (b t : Int) (a : Option Addr) (n cap : Nat) (a' : Option Addr) (k cap' : Nat) (N : List (List Int)) (tk : Int) (w : World) (hs : Sl2 w a n N) (hk : k ≤ maxLen) (hA : autoC b t N k ≠ 0) :
    Calls Try.prog 20 #[.agg #[.int .i64 b, .int .i64 t, .slice a n cap, .slice a' k cap'], .int .i64 tk] w fun e w' => e = .returned (.tuple #[.agg #[.int .i64 0, .int .i64 0, .slice none 0 0, .slice none 0 0], errV (autoC b t N k)]) ∧ Below w.heap.size w w' := by
  have hB0 := below_two w (.cells #[.int .i64 b, .int .i64 t, .slice a n cap, .slice a' k cap'] 25) (.cells #[.int .i64 0, .int .i64 0, .slice none 0 0, .slice none 0 0] 25)
  have HB0 := hide hB0
  have HX1 := hide (heap_alloc2_fst w (.cells #[.int .i64 b, .int .i64 t, .slice a n cap, .slice a' k cap'] 25) (.cells #[.int .i64 0, .int .i64 0, .slice none 0 0, .slice none 0 0] 25))
  have HX2 := hide (heap_alloc2_snd w (.cells #[.int .i64 b, .int .i64 t, .slice a n cap, .slice a' k cap'] 25) (.cells #[.int .i64 0, .int .i64 0, .slice none 0 0, .slice none 0 0] 25))
  have HCK := hide (least_no b t a n cap N a' k cap' _ (sl2_below hs hB0) hk hA)
  rw [errV_no hA] at HCK ⊢
  clear hs hB0
  generalize autoC b t N k = c at HCK ⊢
  clear hA
  generalize hwb : (w.alloc (.cells #[.int .i64 b, .int .i64 t, .slice a n cap, .slice a' k cap'] 25)).alloc (.cells #[.int .i64 0, .int .i64 0, .slice none 0 0, .slice none 0 0] 25) = wb at HB0 HX1 HX2 HCK
  have HSZ : Hid (wb.heap.size = w.heap.size + 2) := by show _ = _; rw [← hwb]; simp
  obtain ⟨⟨p0, p1, p2, p3⟩, -⟩ := box_cells HX1.out
  go_enter Try.func20, Try.ntmps20
  go_wp2_with fail
  clear hwb p0 p1 p2 p3
  refine HCK.out.mono ?_
  rintro e w1 ⟨rfl, hb1⟩
  have hr := (hb1.block (w.heap.size + 1) (by rw [HSZ.out]; omega)).trans HX2.out
  have HR := hide hr
  have HB5 := hide (below_step HB0.out hb1)
  clear hr hb1
  have hrA := ((Below.refl w1.heap.size w1).alloc (Nat.le_refl _) (.cells #[.int .i64 0, .int .i64 0, .slice none 0 0, .slice none 0 0] 25))
  have HRA := hide ((hrA.block (w.heap.size + 1) (Array.getElem?_eq_some_iff.1 HR.out).1).trans HR.out)
  have HBA := hide (below_step HB5.out hrA)
  clear hrA
  obtain ⟨⟨r0, r1, r2, r3⟩, rf⟩ := box_cells HRA.out
  go_wp2
  obtain ⟨⟨hset, hsz, hoth⟩, hbel⟩ := box_set0 HRA.out rfl
  have hb := hbel w w.heap.size HBA.out (by omega)
  obtain ⟨⟨z0, z1, z2, z3⟩, -⟩ := box_cells hset
  exact bodyPost_ret (v := .tuple #[.agg #[.int .i64 0, .int .i64 0, .slice none 0 0, .slice none 0 0], .iface 44 (.int .i64 c)]) (by simp [results, Try.results20, go_sem, z0, z1, z2, z3]) rfl ⟨rfl, hb⟩

set_option maxHeartbeats 4000000 in
set_option maxRecDepth 8000 in
theorem without_far (b t : Int) (a : Option Addr) (n cap : Nat) (a' : Option Addr) (k cap' : Nat) (N : List (List Int)) (tk : Int) (w : World) (E : List Bool) (hs : Sl2 w a n N) (he : SlB w a' k E) (hA : autoC b t N k = 0) (ht : ¬ (0 ≤ tk ∧ tk < t)) :
    Calls Try.prog 20 #[.agg #[.int .i64 b, .int .i64 t, .slice a n cap, .slice a' k cap'], .int .i64 tk] w fun e w' => e = .returned (.tuple #[.agg #[.int .i64 0, .int .i64 0, .slice none 0 0, .slice none 0 0], errV 1]) ∧ Below w.heap.size w w' := by
  have hB0 := below_two w (.cells #[.int .i64 b, .int .i64 t, .slice a n cap, .slice a' k cap'] 25) (.cells #[.int .i64 0, .int .i64 0, .slice none 0 0, .slice none 0 0] 25)
  have HB0 := hide hB0
  have HX1 := hide (heap_alloc2_fst w (.cells #[.int .i64 b, .int .i64 t, .slice a n cap, .slice a' k cap'] 25) (.cells #[.int .i64 0, .int .i64 0, .slice none 0 0, .slice none 0 0] 25))
  have HX2 := hide (heap_alloc2_snd w (.cells #[.int .i64 b, .int .i64 t, .slice a n cap, .slice a' k cap'] 25) (.cells #[.int .i64 0, .int .i64 0, .slice none 0 0, .slice none 0 0] 25))
  have hkn : k = n := by rw [(autoC_zero hA).2.1, hs.1]
  subst hkn
  have HCK := hide (least_ok b t a k cap N a' cap' E _ (sl2_below hs hB0) (slB_below he hB0) hA)
  unfold LeastU at HCK
  generalize (leastN N E (manyU b t).toNat) = LN at HCK
  generalize (leastE N E (manyU b t).toNat) = LE at HCK
  have HFA := hide (fun W => lettersWithout_far b t tk W (autoC_zero hA).1 ht)
  rw [errV_no (show (1 : Int) ≠ 0 by decide)]
  clear hs hB0 hA
  generalize hwb : (w.alloc (.cells #[.int .i64 b, .int .i64 t, .slice a k cap, .slice a' k cap'] 25)).alloc (.cells #[.int .i64 0, .int .i64 0, .slice none 0 0, .slice none 0 0] 25) = wb at HB0 HX1 HX2 HCK
  have HSZ : Hid (wb.heap.size = w.heap.size + 2) := by show _ = _; rw [← hwb]; simp
  obtain ⟨⟨p0, p1, p2, p3⟩, -⟩ := box_cells HX1.out
  clear ht
  rw [errV_no (show (1 : Int) ≠ 0 by decide)] at HFA
  go_enter Try.func20, Try.ntmps20
  go_wp2_with fail
  clear hwb p0 p1 p2 p3
  refine HCK.out.mono ?_
  rintro e w1 ⟨a1, c1, a2, c2, rfl, -, hb1⟩
  have hrA := ((Below.refl w1.heap.size w1).alloc (Nat.le_refl _) (.cells #[.int .i64 b, .int .i64 t, .slice a1 LN.length c1, .slice a2 LN.length c2] 25))
  have hr := (hb1.block (w.heap.size + 1) (by rw [HSZ.out]; omega)).trans HX2.out
  have HRA := hide ((hrA.block (w.heap.size + 1) (Array.getElem?_eq_some_iff.1 hr).1).trans hr)
  have HBA := hide (below_step (below_step HB0.out hb1) hrA)
  obtain ⟨⟨r0, r1, r2, r3⟩, rf⟩ := box_cells HRA.out
  clear hr hb1 hrA
  go_wp2_with (go_at_call 30; refine (HFA.out _).mono ?_; rintro e w' ⟨rfl, hw⟩; rw [hw]; clear hw w')
  obtain ⟨⟨hset, hsz, hoth⟩, hbel⟩ := box_set0 HRA.out rfl
  have hb := hbel w w.heap.size HBA.out (by omega)
  obtain ⟨⟨z0, z1, z2, z3⟩, -⟩ := box_cells hset
  exact bodyPost_ret (v := .tuple #[.agg #[.int .i64 0, .int .i64 0, .slice none 0 0, .slice none 0 0], .iface 44 (.int .i64 1)]) (by simp [results, Try.results20, go_sem, z0, z1, z2, z3]) rfl ⟨rfl, hb⟩

/-- What some.without hands back, at whatever it is given. -/
theorem without_u (b t : Int) (a : Option Addr) (n cap : Nat) (a' : Option Addr) (k cap' : Nat) (N : List (List Int)) (E : List Bool) (tk : Int) (w : World) (hs : Sl2 w a n N) (he : SlB w a' k E) :
    Calls Try.prog 20 #[.agg #[.int .i64 b, .int .i64 t, .slice a n cap, .slice a' k cap'], .int .i64 tk] w (WithU w b (t - 1) (manyU b (t - 1)).toNat (smS b t N E k tk) (smGN b t tk N E) (smGE b t tk N E)) := by
  have hno : ∀ c : Int, c ≠ 0 → smS b t N E k tk = c → (Calls Try.prog 20 #[.agg #[.int .i64 b, .int .i64 t, .slice a n cap, .slice a' k cap'], .int .i64 tk] w fun e w' => e = .returned (.tuple #[.agg #[.int .i64 0, .int .i64 0, .slice none 0 0, .slice none 0 0], errV c]) ∧ Below w.heap.size w w') → Calls Try.prog 20 #[.agg #[.int .i64 b, .int .i64 t, .slice a n cap, .slice a' k cap'], .int .i64 tk] w (WithU w b (t - 1) (manyU b (t - 1)).toNat (smS b t N E k tk) (smGN b t tk N E) (smGE b t tk N E)) := fun c h1 h2 h3 => by
    rw [h2]
    refine h3.mono ?_
    rintro e w' h
    exact ⟨fun h4 => absurd h4 h1, fun _ => h⟩
  by_cases hA : autoC b t N k = 0
  · by_cases ht : 0 ≤ tk ∧ tk < t
    · have hF : smF b t N k tk = 0 := by unfold smF; rw [if_pos hA, if_pos ht]
      obtain ⟨tr, tkn, m, mu, rfl, rfl, hk, H⟩ := sm_well E hF
      obtain rfl : k = n := by rw [hk, hs.1]
      obtain ⟨hM, -, -, -⟩ := autoC_zero hA
      have hS : smS b ((tr : Int) + 1) N E k (tkn : Int) = if 2000 < (smL b ((tr : Int) + 1) (tkn : Int) N E).length then 3 else 0 := by unfold smS; rw [if_pos hF]
      have hU : manyU b ((tr : Int) + 1) = (m : Int) := by
        obtain ⟨-, -, -, -, hm4, -⟩ := many_less hM
        rw [← hm4]; exact H.many
      have h := without_ok b (tr + 1) tr tkn m mu a k cap a' cap' N E w hs he rfl H (by rw [Int.natCast_add]; exact hA) (by rw [Int.natCast_add]; exact hU) (by rw [Int.natCast_add]; exact hM)
      rw [Int.natCast_add] at h
      rw [hS, show (tr : Int) + 1 - 1 = (tr : Int) by omega, H.fU, Int.toNat_natCast]
      exact h
    · refine hno 1 (by decide) ?_ (without_far b t a n cap a' k cap' N tk w E hs he hA ht)
      unfold smS smF
      rw [if_pos hA, if_neg ht, if_neg (by decide)]
  · refine hno _ hA ?_ (without_no b t a n cap a' k cap' N tk w hs he.2.1 hA)
    unfold smS smF
    rw [if_neg hA, if_neg hA]
end Go.Proofs.Ytebbjmcjgjecmaa

/- some.Sets, some.Some, some.Closed: contracts. -/
namespace Go.Proofs.Ytebbjmcjgjecmaa
open Go.RowKit

/-- The automaton of the sets, where all is well. -/
theorem sm_auto {b t : Int} {N : List (List Int)} {E : List Bool} {k : Nat} {tk : Int} (h : smS b t N E k tk = 0) : codeM b (t - 1) = 0 ∧ GoodN (manyU b (t - 1)).toNat (smGN b t tk N E).length (smGN b t tk N E) ∧ (smGN b t tk N E).length ≤ 2000 ∧ (smGE b t tk N E).length = (smGN b t tk N E).length ∧ (manyU b (t - 1)).toNat ≤ 36 := by
  obtain ⟨hF, hL⟩ := smS_zero h
  obtain ⟨tr, tkn, m, mu, rfl, rfl, hk, H⟩ := sm_well E hF
  have e1 : (smGN b ((tr : Int) + 1) (tkn : Int) N E).length = (smL b ((tr : Int) + 1) (tkn : Int) N E).length := by unfold smGN smL; exact gN_len _ _ _
  have e2 : (smGE b ((tr : Int) + 1) (tkn : Int) N E).length = (smL b ((tr : Int) + 1) (tkn : Int) N E).length := by unfold smGE smL; exact gE_len _ _
  rw [e1, e2, show (tr : Int) + 1 - 1 = (tr : Int) by omega, H.fU, Int.toNat_natCast]
  exact ⟨H.code, sm_good H hL, hL, rfl, H.few36.2⟩
end Go.Proofs.Ytebbjmcjgjecmaa

/- some.Some: contract. -/
namespace Go.Proofs.Ytebbjmcjgjecmaa
open Go.RowKit

set_option maxHeartbeats 8000000 in
set_option maxRecDepth 8000 in
theorem some_saysH : SomeSays := by
  intro b t a n cap a' k cap' N E tk w hs he
  have hB0 := below_two w (.cells #[.int .i64 b, .int .i64 t, .slice a n cap, .slice a' k cap'] 25) (.cells #[.int .i64 0, .int .i64 0, .slice none 0 0, .slice none 0 0] 25)
  have HB0 := hide hB0
  have HX1 := hide (heap_alloc2_fst w (.cells #[.int .i64 b, .int .i64 t, .slice a n cap, .slice a' k cap'] 25) (.cells #[.int .i64 0, .int .i64 0, .slice none 0 0, .slice none 0 0] 25))
  have HX2 := hide (heap_alloc2_snd w (.cells #[.int .i64 b, .int .i64 t, .slice a n cap, .slice a' k cap'] 25) (.cells #[.int .i64 0, .int .i64 0, .slice none 0 0, .slice none 0 0] 25))
  have HC := hide (without_u b t a n cap a' k cap' N E tk _ (sl2_below hs hB0) (slB_below he hB0))
  unfold WithU at HC
  have HAU := hide (@sm_auto b t N E k tk)
  have HY : Hid (∀ (e : Ending) (w' : World), smS b t N E k tk = 0 → leastK (smGN b t tk N E) (smGE b t tk N E) (manyU b (t - 1)).toNat ≤ 80 → PairR w b (t - 1) (leastN (smGN b t tk N E) (smGE b t tk N E) (manyU b (t - 1)).toNat) (leastE (smGN b t tk N E) (smGE b t tk N E) (manyU b (t - 1)).toNat) 0 e w' → PairR w (okI (smC b t N E k tk) b) (okI (smC b t N E k tk) (t - 1)) (smN b t N E k tk) (smE b t N E k tk) (smC b t N E k tk) e w') := fun e w' h1 h2 h3 => by
    have hc : smC b t N E k tk = 0 := by unfold smC; rw [if_pos h1, if_neg (by omega)]
    unfold smN smE
    rw [if_pos hc, if_pos hc, hc]
    exact h3
  have HZ : Hid (∀ (e : Ending) (w' : World), smS b t N E k tk = 0 → 80 < leastK (smGN b t tk N E) (smGE b t tk N E) (manyU b (t - 1)).toNat → PairR w 0 0 [] [] 3 e w' → PairR w (okI (smC b t N E k tk) b) (okI (smC b t N E k tk) (t - 1)) (smN b t N E k tk) (smE b t N E k tk) (smC b t N E k tk) e w') := fun e w' h1 h2 h3 => by
    have hc : smC b t N E k tk = 3 := by unfold smC; rw [if_pos h1, if_pos (by omega)]
    unfold smN smE
    rw [hc, if_neg (by decide), if_neg (by decide)]
    exact h3
  have HN : Hid (∀ (e : Ending) (w' : World), smS b t N E k tk ≠ 0 → PairR w 0 0 [] [] (smS b t N E k tk) e w' → PairR w (okI (smC b t N E k tk) b) (okI (smC b t N E k tk) (t - 1)) (smN b t N E k tk) (smE b t N E k tk) (smC b t N E k tk) e w') := fun e w' h1 h3 => by
    have hc : smC b t N E k tk = smS b t N E k tk := by unfold smC; rw [if_neg h1]
    unfold smN smE
    rw [hc, if_neg h1, if_neg h1]
    unfold okI
    rw [if_neg h1, if_neg h1]
    exact h3
  clear hs he hB0
  generalize hwb : (w.alloc (.cells #[.int .i64 b, .int .i64 t, .slice a n cap, .slice a' k cap'] 25)).alloc (.cells #[.int .i64 0, .int .i64 0, .slice none 0 0, .slice none 0 0] 25) = wb at HB0 HX1 HX2 HC
  have HSZ : Hid (wb.heap.size = w.heap.size + 2) := by show _ = _; rw [← hwb]; simp
  obtain ⟨⟨p0, p1, p2, p3⟩, -⟩ := box_cells HX1.out
  generalize smS b t N E k tk = S at HC HAU HY HZ HN
  generalize smGN b t tk N E = SN at HC HAU HY HZ
  generalize smGE b t tk N E = SE at HC HAU HY HZ
  generalize okI (smC b t N E k tk) b = OB at HY HZ HN ⊢
  generalize okI (smC b t N E k tk) (t - 1) = OT at HY HZ HN ⊢
  generalize smN b t N E k tk = RN at HY HZ HN ⊢
  generalize smE b t N E k tk = RE at HY HZ HN ⊢
  generalize smC b t N E k tk = RC at HY HZ HN ⊢
  go_enter Try.func8, Try.ntmps8
  go_wp2_with fail
  clear hwb p0 p1 p2 p3
  refine HC.out.mono ?_
  rintro e w1 ⟨hyes, hno⟩
  by_cases hS : S = 0
  · obtain ⟨bx, vN, vE, vals, G, rfl, hA, hb1⟩ := hyes hS
    obtain ⟨hM, hG, hK, hEl, h36⟩ := HAU.out hS
    obtain ⟨aN, cN, aE, cE, rfl, rfl, hsN, hsE⟩ := autI_sl2 hA (by omega) h36 (fun j hj => (good_wf hG j hj).1) (fun j hj => (good_wf hG j hj).2) hEl
    have HB1 := hide hb1
    have HBA := hide ((Below.refl w1.heap.size w1).alloc (Nat.le_refl _) (.cells #[.int .i64 b, .int .i64 (t - 1), .slice aN SN.length cN, .slice aE SN.length cE] 25))
    have HLW := hide (leastw_any b (t - 1) aN SN.length cN _ SN aE cE SE _ (sl2_below hsN HBA.out) (slB_below hsE HBA.out) hG (autoM_good hM hG (by omega)))
    unfold LeastR LeastU at HLW
    clear hA hb1 hyes hno hM hG hK hEl h36 hsN hsE HAU
    have HYS := hide (fun e w' => HY.out e w' hS)
    have HZS := hide (fun e w' => HZ.out e w' hS)
    clear HY HZ HN hS
    have HXA := hide (heap_alloc_last w1 (.cells #[.int .i64 b, .int .i64 (t - 1), .slice aN SN.length cN, .slice aE SN.length cE] 25))
    generalize hwa : w1.alloc (.cells #[.int .i64 b, .int .i64 (t - 1), .slice aN SN.length cN, .slice aE SN.length cE] 25) = wa at HBA HLW HXA
    generalize leastN SN SE (manyU b (t - 1)).toNat = LN at HLW HYS
    generalize leastE SN SE (manyU b (t - 1)).toNat = LE at HLW HYS
    generalize leastK SN SE (manyU b (t - 1)).toNat = LK at HLW HYS HZS
    obtain ⟨⟨q0, q1, q2, q3⟩, -⟩ := box_cells HXA.out
    have HBW : Hid (Below wb.heap.size wb wa) := HB1.out.trans (HBA.out.mono HB1.out.size)
    go_wp2_with fail
    clear hwa q0 q1 q2 q3
    refine HLW.out.mono ?_
    rintro e w2 ⟨hy2, hn2⟩
    by_cases hK : LK ≤ 80
    · obtain ⟨a1, c1, a2, c2, rfl, hnw, hb2⟩ := hy2 hK
      have hr := ((HBW.out.trans (hb2.mono HBW.out.size)).block (w.heap.size + 1) (by rw [HSZ.out]; omega)).trans HX2.out
      obtain ⟨⟨r0, r1, r2, r3⟩, rf⟩ := box_cells hr
      have HR := hide hr
      have HNW := hide hnw
      have HB5 : Hid (Below w.heap.size w w2) := (HB0.out.trans (HBW.out.mono HB0.out.size)).trans (hb2.mono (Nat.le_trans HB0.out.size HBW.out.size))
      have HSW : Hid (w.heap.size + 2 ≤ wa.heap.size) := by have := HBW.out.size; have := HSZ.out; show _ ≤ _; omega
      clear hr hnw hb2 hy2 hn2
      go_wp2
      obtain ⟨⟨hset, hsz, hoth⟩, hbel⟩ := box_set (v0 := .int .i64 b) (v1 := .int .i64 (t - 1)) (v2 := .slice a1 LN.length c1) (v3 := .slice a2 LN.length c2) HR.out rfl
      have hfin : AutoNew w a1 LN.length LN a2 LE ((((w2.setCell ⟨w.heap.size + 1, 0, none⟩ (.int .i64 b)).setCell ⟨w.heap.size + 1, 1, none⟩ (.int .i64 (t - 1))).setCell ⟨w.heap.size + 1, 2, none⟩ (.slice a1 LN.length c1)).setCell ⟨w.heap.size + 1, 3, none⟩ (.slice a2 LN.length c2)) := fun W' hW' => HNW.out W' (fun x hx hxl => by
        have h1 := HSW.out
        rw [hW' x (by omega) (by rw [hsz]; exact hxl), hoth x (by omega)])
      have hb := hbel w w.heap.size HB5.out (by omega)
      obtain ⟨⟨z0, z1, z2, z3⟩, -⟩ := box_cells hset
      exact bodyPost_ret (v := .tuple #[.agg #[.int .i64 b, .int .i64 (t - 1), .slice a1 LN.length c1, .slice a2 LN.length c2], .nilIface]) (by simp [results, Try.results8, go_sem, z0, z1, z2, z3]) rfl (HYS.out _ _ hK ⟨a1, c1, a2, c2, rfl, hfin, hb⟩)
    · obtain ⟨rfl, hb2⟩ := hn2 (by omega)
      have hr := ((HBW.out.trans (hb2.mono HBW.out.size)).block (w.heap.size + 1) (by rw [HSZ.out]; omega)).trans HX2.out
      obtain ⟨⟨r0, r1, r2, r3⟩, rf⟩ := box_cells hr
      have HR := hide hr
      have HB5 : Hid (Below w.heap.size w w2) := (HB0.out.trans (HBW.out.mono HB0.out.size)).trans (hb2.mono (Nat.le_trans HB0.out.size HBW.out.size))
      clear hr hb2 hy2 hn2
      go_wp2
      obtain ⟨⟨hset, hsz, hoth⟩, hbel⟩ := box_set0 HR.out rfl
      have hb := hbel w w.heap.size HB5.out (by omega)
      obtain ⟨⟨z0, z1, z2, z3⟩, -⟩ := box_cells hset
      exact bodyPost_ret (v := .tuple #[.agg #[.int .i64 0, .int .i64 0, .slice none 0 0, .slice none 0 0], .iface 44 (.int .i64 3)]) (by simp [results, Try.results8, go_sem, z0, z1, z2, z3]) rfl (HZS.out _ _ (by omega) ⟨none, 0, none, 0, rfl, autoNew_nil _ _, hb⟩)
  · obtain ⟨rfl, hb1⟩ := hno hS
    have HNS := hide (fun e w' => HN.out e w' hS)
    have hr := (hb1.block (w.heap.size + 1) (by rw [HSZ.out]; omega)).trans HX2.out
    have hBA := (Below.refl w1.heap.size w1).alloc (Nat.le_refl _) (.cells #[.int .i64 0, .int .i64 0, .slice none 0 0, .slice none 0 0] 25)
    have HB5 : Hid (Below w.heap.size w (w1.alloc (.cells #[.int .i64 0, .int .i64 0, .slice none 0 0, .slice none 0 0] 25))) := below_step (below_step HB0.out hb1) hBA
    have hr2 := (hBA.block _ (Array.getElem?_eq_some_iff.1 hr).1).trans hr
    have HSN := hide hS
    rw [errV_no hS]
    clear hb1 hyes hno hS HY HZ HN hr HAU hBA
    obtain ⟨⟨r0, r1, r2, r3⟩, rf⟩ := box_cells hr2
    have HR := hide hr2
    clear hr2
    go_wp2
    obtain ⟨⟨hset, hsz, hoth⟩, hbel⟩ := box_set0 HR.out rfl
    have hb := hbel w w.heap.size HB5.out (by omega)
    obtain ⟨⟨z0, z1, z2, z3⟩, -⟩ := box_cells hset
    exact bodyPost_ret (v := .tuple #[.agg #[.int .i64 0, .int .i64 0, .slice none 0 0, .slice none 0 0], .iface 44 (.int .i64 S)]) (by simp [results, Try.results8, go_sem, z0, z1, z2, z3]) rfl (HNS.out _ _ ⟨none, 0, none, 0, by rw [errV_no HSN.out]; rfl, autoNew_nil _ _, hb⟩)
end Go.Proofs.Ytebbjmcjgjecmaa
