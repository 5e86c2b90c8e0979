/- count.Long: contract. -/
import Derived.ArgAppend
import Derived.Deep.AppendLies
import Derived.Deep.MidRow
import Derived.Deep.RegionWith
import Derived.DeepKeys4
import Derived.LoopIn
import Derived.LoopNIn
import Derived.Maps.OwnSet
import Derived.OwnWalkIn
import Derived.RangeFuncBound
import Derived.RangeFuncCalls
import Derived.RangeFuncLeaves
import Derived.RangeFuncNested
import Derived.Shelf.Abstract
import Derived.Shelf.RegionOpen
import Derived.Sort.LoopGhostIn
import Derived.TacticsInMore
import Derived.WalkKit
import Derived.Test.YtlgjadnkokmjoaaDoorMa
import Derived.Test.YtlgjadnkokmjoaaDoorZNx
import Derived.Test.YtlgjadnkokmjoaaDoorZRu
import Derived.Test.YtlgjadnkokmjoaaDoorBk
import Derived.Test.YtlgjadnkokmjoaaDoorZLp
import Derived.Test.YtlgjadnkokmjoaaDoorCa
import Derived.Test.YtlgjadnkokmjoaaDoorZCtd
namespace Go.Proofs.YtlgjadnkokmjoaaDoor
open Go.RowKit

/-- How often each state is reached by so many letters, whichever. -/
def lgR (N : List (List Int)) (m k : Nat) : List Int := rwsT N (fst0L N.length) (List.replicate k (rngL m))
theorem rwsT_snoc (N : List (List Int)) (v : List (List Int)) (ls : List Int) (row : List Int) : rwsT N row (v ++ [ls]) = thrL (rwsT N row v) (leadsL N ls) := by simp [rwsT, List.foldl_append]
theorem lgR_succ (N : List (List Int)) (m k : Nat) : lgR N m (k + 1) = thrL (lgR N m k) (leadsL N (rngL m)) := by
  unfold lgR
  rw [List.replicate_succ', rwsT_snoc]
theorem leadsL_bd {N : List (List Int)} {ls : List Int} (h36 : ls.length ≤ 36) : ∀ s, s < N.length → bdL N.length ((leadsL N ls).getD s []) := fun s hs => by
  refine ⟨by simp [leadsL, List.getD, hs], fun t ht => ?_⟩
  rw [leadsL_get hs ht]
  have h1 := dgN_nn N ls s t
  have h2 := dgN_le N ls s t
  omega
theorem fst0L_bd (n : Nat) : bdL n (fst0L n) := ⟨fst0L_len n, fun i hi => by rw [fst0L_get hi]; split <;> omega⟩
theorem okLs_rng {m n : Nat} {N : List (List Int)} (hG : GoodN m n N) : OkLs N n (rngL m) := fun s hs j hj => by
  rw [rngL_len] at hj
  obtain ⟨h1, h2⟩ := hG.2.2.2.2.2 s hs
  rw [rngL_get hj, Int.toNat_natCast, h1]
  have := h2 j hj
  exact ⟨by omega, hj, this.1, this.2⟩
theorem okLs_lt {N : List (List Int)} {n : Nat} {ls : List Int} (h : OkLs N n ls) {s : Nat} (hs : s < n) {j : Nat} (hj : j < ls.length) : nxA N s (ls.getD j 0) < n := by
  obtain ⟨h1, h2, h3, h4⟩ := h s hs j hj
  unfold nxA
  omega
/-- How many words of so many letters: as it is said. -/
def lgV (N : List (List Int)) (E : List Bool) (m k : Nat) : Int := capI (wayL N E (List.replicate k (rngL m)) 0)
theorem lgV_is {m n : Nat} {N : List (List Int)} {E : List Bool} (hG : GoodN m n N) (k : Nat) : capI (csum (fun s => (lgR N m k).getD s 0 * (if E.getD s false then 1 else 0)) n) = lgV N E m k := by
  have e := hG.1
  subst e
  exact first_way _ (by have := hG.2.1; omega) fun ls h s hs j hj => by
    rw [List.eq_of_mem_replicate h] at hj ⊢
    exact okLs_lt (okLs_rng hG) hs hj
def longC (b t : Int) (N : List (List Int)) (E : List Bool) (e : Nat) (n : Int) : Int :=
  if autoC b t N e = 0 then (if 0 ≤ n ∧ n ≤ 400 then (if lgV N E (manyU b t).toNat n.toNat ≤ 1152921504606846976 then 0 else 3) else 1) else autoC b t N e
def longV (b t : Int) (N : List (List Int)) (E : List Bool) (e : Nat) (n : Int) : Int := if longC b t N E e n = 0 then lgV N E (manyU b t).toNat n.toNat else 0
theorem sqR_sl2 {w : World} {n : Nat} {N : List (List Int)} {ls : List Int} {e : Ending} {w' : World} (h : SqR w n (dgN N ls) e w') (hN : N.length = n) (hn : n ≤ 1000) (h36 : ls.length ≤ 36) : e = .returned (.slice (some ⟨w.heap.size + 1, 0, none⟩) n n) ∧ Sl2 w' (some ⟨w.heap.size + 1, 0, none⟩) n (leadsL N ls) ∧ Below w.heap.size w w' := by
  obtain ⟨e1, wb, h1, h2, h3⟩ := h
  subst hN
  refine ⟨e1, ?_, below_step h2 h3.2.2.2⟩
  have := sqAt_end h3 hn (leadsL N ls) (leadsL_len _ _) (fun s hs => ⟨(leadsL_bd h36 s hs).1, fun t ht => by
    rw [leadsL_get hs ht]
    have h1 := dgN_nn N ls s t
    have h2 := dgN_le N ls s t
    exact ⟨rfl, by omega, by omega⟩⟩)
  rwa [h1] at this
set_option maxHeartbeats 8000000 in
set_option maxRecDepth 8000 in
theorem long_ok (b t : Int) (a : Option Addr) (n cap : Nat) (a' : Option Addr) (cap' : Nat) (N : List (List Int)) (E : List Bool) (k : Nat) (w : World) (hs : Sl2 w a n N) (he : SlB w a' n E) (hA : autoC b t N n = 0) (hk : k ≤ 400) :
    Calls Tryd.prog 8 #[.agg #[.int .i64 b, .int .i64 t, .slice a n cap, .slice a' n cap'], .int .i64 (k : Int)] w (EvlR w (if lgV N E (manyU b t).toNat k ≤ 1152921504606846976 then lgV N E (manyU b t).toNat k else 0) (if lgV N E (manyU b t).toNat k ≤ 1152921504606846976 then 0 else 3)) := by
  obtain ⟨hM, -, hG, hmu⟩ := autoC_zero hA
  have hn80 := autoC_80 hA
  rw [hs.1] at hG hn80
  obtain ⟨m, hm⟩ : ∃ m : Nat, (manyU b t).toNat = m := ⟨_, rfl⟩
  rw [hm] at hG ⊢
  have hm36 := hG.2.2.2.1
  have hn1 := hG.2.1
  have hNl := hG.1
  have hB0 : Below w.heap.size w (w.alloc (.cells #[.int .i64 b, .int .i64 t, .slice a n cap, .slice a' n cap'] 25)) := (Below.refl _ _).alloc (Nat.le_refl _) _
  have HB0 := hide hB0
  have HAT := hide (fun w' => @box4 w w' (.int .i64 b) (.int .i64 t) (.slice a n cap) (.slice a' n cap') 25)
  have HCK := hide (check_u b t a a' n cap n cap' N _ (sl2_below hs hB0) he.2.1)
  rw [hA, errV_zero] at HCK
  have HAL := hide (fun W (h : Below w.heap.size w W) => allLetters_any b t a n cap a' n cap' N m W (sl2_below hs h) hn1 ((hG.2.2.2.2.2 0 (by omega)).1) hm36)
  have HLD : Hid (∀ (W : World) (g : Nat), Below w.heap.size w W → Sl W (some ⟨g, 0, none⟩) m (rngL m) → Calls Tryd.prog 21 #[.agg #[.int .i64 b, .int .i64 t, .slice a n cap, .slice a' n cap'], .slice (some ⟨g, 0, none⟩) m m] W fun e w' => e = .returned (.slice (some ⟨W.heap.size + 1, 0, none⟩) n n) ∧ Sl2 w' (some ⟨W.heap.size + 1, 0, none⟩) n (leadsL N (rngL m)) ∧ Below W.heap.size W w') := fun W g h1 h2 =>
    (leads_any b t a n cap a' n cap' N (some ⟨g, 0, none⟩) m m (rngL m) W (sl2_below hs h1) h2 (by omega) hm36 (okLs_rng hG)).mono fun e w' h => sqR_sl2 h hNl (by omega) (by rw [rngL_len]; exact hm36)
  have HAF := hide (fun W => atFirst_any b t a n cap a' n cap' W hn1 (by omega))
  have HTR := hide (fun (W : World) (ar as_ : Option Addr) (row : List Int) (h1 : Sl W ar n row) (h2 : Sl2 W as_ n (leadsL N (rngL m))) (h3 : bdL n row) => through_any ar n n row as_ n (leadsL N (rngL m)) W h1 h2 (by omega) h3 (by rw [← hNl]; exact leadsL_bd (by rw [rngL_len]; exact hm36)))
  have HTB := hide (fun (row : List Int) (h3 : bdL n row) => thrL_bd h3 (S := leadsL N (rngL m)) (by rw [← hNl]; exact leadsL_bd (by rw [rngL_len]; exact hm36)))
  have HSU := hide (fun k => lgR_succ N m k)
  have HZ : Hid (lgR N m 0 = fst0L n) := by show _ = _; rw [← hNl]; rfl
  have HFB := hide (fst0L_bd n)
  have HFW : Hid (∀ W g, W.rowIs g 3 m (fun i => .int .i64 ((rngL m).getD i 0)) → Sl W (some ⟨g, 0, none⟩) m (rngL m)) := fun W g h => by
    exact sl_of_rowIs (rngL_len m) (by unfold maxLen; omega) (fun x hx => by
      obtain ⟨i, hi, rfl⟩ := List.getElem_of_mem hx
      rw [rngL_len] at hi
      have := rngL_get hi
      rw [getD_at _ i (by rw [rngL_len]; exact hi)] at this
      rw [this]
      exact WalkArith.wf_i64 (by omega)) h
  have HAD := hide (fun (W : World) (ar : Option Addr) (row : List Int) (hw : Below w.heap.size w W) (h1 : Sl W ar n row) (h3 : bdL n row) => addedB_any 26 #[] (fun i => .bool (E.getD i false)) (fun i => if E.getD i false then 1 else 0) ar n n row a' n cap' W (enters_of Tryd.func26 (by kernel_rfl) rfl) h1 (fun i hi => slB_cell (slB_below he hw) i hi) (Nat.le_refl _) (fun i _ => cone_any (E.getD i false) W) h3.2 (fun i _ => by show 0 ≤ (if E.getD i false = true then (1 : Int) else 0) ∧ (if E.getD i false = true then (1 : Int) else 0) ≤ 1152921504606846977; split <;> omega))
  have HLV := hide (fun k => lgV_is (E := E) hG k)
  have hlv0 : 0 ≤ lgV N E m k ∧ lgV N E m k ≤ 1152921504606846977 := capI_bd (wayL_nn _ _ _ _)
  unfold NewRow at HAL HAF HTR
  simp only [rngL_len] at HAL
  simp only [fst0L_len] at HAF
  have HFF : Hid (∀ W g, W.rowIs g 3 n (fun i => .int .i64 ((fst0L n).getD i 0)) → Sl W (some ⟨g, 0, none⟩) n (fst0L n)) := fun W g h => sl_of_rowIs (fst0L_len n) (by unfold maxLen; omega) (bdL_wf (fst0L_bd n)) h
  unfold retI at HAD
  generalize hV : lgV N E m k = V at hlv0 ⊢
  have HVK : Hid (capI (csum (fun s => (lgR N m k).getD s 0 * (if E.getD s false then 1 else 0)) n) = V) := by show _ = _; rw [HLV.out]; exact hV
  have HFIN : Hid (∀ W, Below w.heap.size w W → (amtB V = true → EvlR w (if V ≤ 1152921504606846976 then V else 0) (if V ≤ 1152921504606846976 then 0 else 3) (.returned (.tuple #[.int .i64 V, .nilIface])) W) ∧ (amtB V = false → EvlR w (if V ≤ 1152921504606846976 then V else 0) (if V ≤ 1152921504606846976 then 0 else 3) (.returned (.tuple #[.int .i64 0, .iface 26 (.int .i64 3)])) W)) := fun W hW => ⟨fun h => by
    have := (amtB_bd h).2
    rw [if_pos this, if_pos this]
    exact ⟨rfl, hW⟩, fun h => by
    have h4 : ¬ V ≤ 1152921504606846976 := fun h5 => of_decide_eq_false h ⟨hlv0.1, h5⟩
    rw [if_neg h4, if_neg h4]
    exact ⟨rfl, hW⟩⟩
  generalize EvlR w (if V ≤ 1152921504606846976 then V else 0) (if V ≤ 1152921504606846976 then 0 else 3) = R at HFIN ⊢
  clear hs he hA hM hG hmu hm hV hB0 HLV hNl
  generalize hwb : w.alloc (.cells #[.int .i64 b, .int .i64 t, .slice a n cap, .slice a' n cap'] 25) = wb at HB0 HAT HCK
  obtain ⟨p0, p1, p2, p3⟩ := HAT.out wb (Below.refl _ _)
  have hk0 : ¬ ((k : Int) < 0) := by omega
  have hk1 : ¬ ((400 : Int) < (k : Int)) := by omega
  go_enter Tryd.func8, Tryd.ntmps8
  go_wp2_with fail
  clear hwb p0 p1 p2 p3
  refine HCK.out.mono ?_
  rintro e w1 ⟨rfl, hb1⟩
  have HB1 := hide hb1
  have HA1 := hide (HAL.out w1.drew (below_step HB0.out hb1.drew))
  obtain ⟨p0, p1, p2, p3⟩ := HAT.out w1 hb1
  clear hb1 HCK HAL
  go_upto_region 6 with fail
  clear hk0 hk1
  go_region_with (first
    | (go_at_call 22; refine HA1.out.mono ?_; rintro e w2 ⟨g, rfl, hg, hr, hb2⟩; have HL2 := hide (HFW.out w2 g hr); have HB2 := hide (below_step HB1.out.drew hb2); have HLC := hide (HLD.out w2 g (below_step HB0.out HB2.out) HL2.out); obtain ⟨q0, q1, q2, q3⟩ := HAT.out w2 HB2.out; clear hg hr hb2)
    | (go_at_call 21; refine HLC.out.mono ?_; rintro e w3 ⟨rfl, hs3, hb3⟩; have HS3 := hide hs3; have HB3 := hide (below_step HB2.out hb3); clear hs3 hb3))
  all_goals
    have HF3 := hide (HAF.out w3)
    obtain ⟨r0, r1, r2, r3⟩ := HAT.out w3 HB3.out
    clear p0 p1 p2 p3 q0 q1 q2 q3
    go_wp2_with fail
    clear r0 r1 r2 r3
    refine HF3.out.mono ?_
    rintro e w4 ⟨g4, rfl, hg4, hr4, hb4⟩
    have HR4 := hide (HFF.out w4 g4 hr4)
    have HS4 := hide (sl2_below HS3.out hb4)
    have HB4 := hide (below_step HB3.out hb4)
    clear hg4 hr4 hb4 HF3 HLC HL2 HA1
    generalize w2.heap.size + 1 = gs at HS4 HS3 ⊢
    go_wp2
    go_loopw [8, 29] (fun u i wx => ∃ j : Nat, j ≤ k ∧ i = .int .i64 j ∧ ∃ ra, u = .slice ra n n ∧ Sl wx ra n (lgR N m j) ∧ bdL n (lgR N m j) ∧ Below w4.heap.size w4 wx) (fun _ i _ => k - (intOf i).toNat)
    case atStart => exact ⟨0, by omega, rfl, _, rfl, by rw [HZ.out]; exact HR4.out, by rw [HZ.out]; exact HFB.out, Below.refl _ _⟩
    case round =>
      obtain ⟨j, hj, rfl, ra, rfl, hrow, hbd, hbw⟩ := hrel
      have HBW := hide hbw
      have HBD := hide hbd
      have HROW := hide hrow
      by_cases hlt : j < k
      · have hlti : (j : Int) < (k : Int) := by omega
        have HT := hide (HTR.out wr ra _ (lgR N m j) hrow (sl2_below HS4.out hbw) hbd)
        rw [thrL_len, hbd.1, ← HSU.out] at HT
        have HBD2 := hide (HTB.out _ hbd)
        rw [← HSU.out] at HBD2
        clear hrow hbd hbw
        go_wp2_with fail
        refine HT.out.mono ?_
        rintro e w5 ⟨g5, rfl, hg5, hr5, hb5⟩
        have HS5 := hide (sl_of_rowIs HBD2.out.1 (by unfold maxLen; omega) (bdL_wf HBD2.out) hr5)
        have HB5 := hide (below_step HBW.out hb5)
        clear hg5 hr5 hb5 HT
        go_wp2
        go_roundw
        case rel => exact ⟨j + 1, by omega, by go_num, _, rfl, HS5.out, HBD2.out, HB5.out⟩
        case measure => simp [intOf]; omega
      · have hlti : ¬ (j : Int) < (k : Int) := by omega
        obtain rfl : j = k := by omega
        have HB5 := hide (below_step HB0.out (below_step HB4.out hbw))
        have HA5 := hide (HAD.out wr ra _ HB5.out hrow hbd)
        rw [HVK.out] at HA5
        obtain ⟨p0, p1, p2, p3⟩ := HAT.out wr (below_step HB4.out hbw)
        have hba := (Below.refl wr.heap.size wr).alloc (Nat.le_refl _) (.cells #[.int .i64 V] 3)
        have HBA := hide (below_step HB5.out hba)
        have hs1 : Sl (wr.alloc (.cells #[.int .i64 V] 3)) (some ⟨wr.heap.size, 0, none⟩) 1 [V] := by
          refine ⟨rfl, by decide, fun y hy => by simp at hy; rw [hy]; exact WalkArith.wf_i64 (by omega), Or.inr ⟨_, _, rfl, fun i hi => ?_⟩⟩
          rw [cell_of_row _ _ (0 + i) _ 3 (0, 0) (heap_alloc_last wr _)]
          obtain rfl : i = 0 := by omega
          rfl
        have HAC := hide (areCounts_any (some ⟨wr.heap.size, 0, none⟩) 1 1 [V] _ hs1)
        unfold retQ at HAC
        rw [show [V].all amtB = amtB V by simp] at HAC
        have HFI := hide (HFIN.out _ HBA.out)
        clear hs1 hba hrow hbd hbw
        generalize amtB V = q at HAC HFI
        cases q with
        | true =>
          have HFY := hide (HFI.out.1 rfl)
          go_wp2_with (first
            | (go_at_call 25; refine HA5.out.mono ?_; rintro e w' ⟨rfl, hw⟩; rw [hw]; clear hw w')
            | (go_at_call 27; refine HAC.out.mono ?_; rintro e w' ⟨rfl, hw⟩; rw [hw]; clear hw w'))
          exact HFY.out
        | false =>
          have HFY := hide (HFI.out.2 rfl)
          go_wp2_with (first
            | (go_at_call 25; refine HA5.out.mono ?_; rintro e w' ⟨rfl, hw⟩; rw [hw]; clear hw w')
            | (go_at_call 27; refine HAC.out.mono ?_; rintro e w' ⟨rfl, hw⟩; rw [hw]; clear hw w'))
          exact HFY.out
end Go.Proofs.YtlgjadnkokmjoaaDoor
