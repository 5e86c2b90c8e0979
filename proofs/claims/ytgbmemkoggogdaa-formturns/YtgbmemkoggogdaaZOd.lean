/- 3 texts in one. -/
import Derived.BigQuiet
import Derived.BigRegion
import Derived.Test.YtgbmemkoggogdaaEk
import Derived.Test.YtgbmemkoggogdaaEv
import Derived.Test.YtgbmemkoggogdaaZYf
import Derived.Test.YtgbmemkoggogdaaZXd
import Derived.Test.YtgbmemkoggogdaaZYr
import Derived.Test.YtgbmemkoggogdaaZOa
import Derived.Test.YtgbmemkoggogdaaZEg
/- FormTurns: its walk. -/
namespace Go.Proofs.Ytgbmemkoggogdaa
open Go.RowKit

theorem sl_blkF {W : World} {x : Nat} {l : List Int} {t : TypeId} (h : W.heap[x]? = some (.cells (iArr l) t)) (hm : l.length ≤ maxLen) (hw : ∀ x ∈ l, (Lit.int .i64 x).wf = true) : Sl W (some ⟨x, 0, none⟩) l.length l := by
  refine ⟨rfl, hm, hw, Or.inr ⟨_, _, rfl, fun i hi => ?_⟩⟩
  rw [cell_of_row _ _ (0 + i) _ t (0, 0) h, Nat.zero_add, iArr_get _ _ hi]
theorem ev_turn {p : Nat} (hp : p < 5) {ns : List Nd} {os : List Om} {nums : List Int} {t : Fm} (h5 : nums.length = 5) : evC (ns.map (renN (turnL p))) os (moved p nums) (t.ren (turnL p)) = evC ns os nums t := by
  have h5' : (moved p nums).length = 5 := by simp [moved]
  have hb : bareB (ns.map (renN (turnL p))) = bareB ns := by unfold bareB; rw [List.all_map]; rfl
  unfold evC
  rw [hb, ren_wdF]
  unfold nmC
  rw [h5, h5', short_five, short_five, moved_ok hp h5]
theorem mov_moved {p : Nat} (hp : p < 5) (nums : List Int) : movK (turnL p) nums 5 = moved p nums := by
  refine list_ext0 (by rw [movK_len]; simp [moved]) (fun j hj => ?_)
  rw [movK_len] at hj
  obtain ⟨i, hi, hij⟩ : ∃ i, i < 5 ∧ (i + p) % 5 = j := ⟨(j + 5 - p) % 5, by omega, by omega⟩
  have h1 := movK_at (turn_names hp) nums 5 (Nat.le_refl _) i hi
  rw [turnL_at hi, Int.toNat_natCast, hij, if_pos hi] at h1
  have h2 := moved_at hp nums hi
  rw [hij] at h2
  rw [h1, h2]
theorem names_turn {p : Nat} (hp : p < 5) : namesC (turnL p) = 0 := by
  match p, hp with
  | 0, _ => decide +kernel
  | 1, _ => decide +kernel
  | 2, _ => decide +kernel
  | 3, _ => decide +kernel
  | 4, _ => decide +kernel
theorem names_back {p : Nat} (hp : p < 5) : namesC (nbkL p) = 0 := by
  match p, hp with
  | 0, _ => decide +kernel
  | 1, _ => decide +kernel
  | 2, _ => decide +kernel
  | 3, _ => decide +kernel
  | 4, _ => decide +kernel
set_option maxHeartbeats 16000000 in
set_option maxRecDepth 8000 in
theorem formturns_bad (a : Option Addr) (n cap : Nat) (ns : List Nd) (a2 : Option Addr) (m cap2 : Nat) (a3 : Option Addr) (l cap3 : Nat) (turn : Int) (w : World) (hs : SlF w a n ns) (hc : (Lit.int .i64 turn).wf = true) (hz : (formP ns).2 ≠ 0) : Calls Try.prog 4 #[.slice a n cap, .slice a2 m cap2, .slice a3 l cap3, .int .i64 turn] w fun e w' => e = .returned (.bool true) ∧ Below w.heap.size w w' := by
  have HPK := hide (fun W => pick_any turn 5 W (by decide) (by decide) hc)
  have hp5 := pickN_lt turn (n := 5) (by decide)
  generalize pickN turn 5 = p at HPK hp5
  have HS := hide hs
  have HRN := hide (fun W ar cr (g1 : SlF W a n ns) (g2 : Sl W ar 5 (toL 5 p)) => devRename_any a n cap ns ar 5 cr (toL 5 p) W g1 g2)
  have hrc : renC ns (toL 5 p) ≠ 0 := by unfold renC; rw [if_neg hz]; exact hz
  clear hs hz hc
  obtain ⟨i0, hi0, hz0, hz1, hz2⟩ := info_parts info3
  have HTT := hide (fun i h => @toL_take 5 p i h)
  have HBT := hide (fun i h => @backL_take 5 p i h)
  have HTL := hide (toL_len 5 p)
  have HBL := hide (backL_len 5 p)
  have HTW : Hid (∀ x ∈ toL 5 p, (Lit.int .i64 x).wf = true) := small_wf (Nat.le_refl _) (toL_len 5 p) (fun i hi => by have := @toL_rng 5 p i hi; omega)
  have HBW : Hid (∀ x ∈ backL 5 p, (Lit.int .i64 x).wf = true) := small_wf (Nat.le_refl _) (backL_len 5 p) (fun i hi => by have := @backL_rng 5 p i hi; omega)
  generalize toL 5 p = TO at HTT HTL HTW HRN hrc
  generalize backL 5 p = BK at HBT HBL HBW
  have HEV := hide (even_any w)
  have HFE := hide (fun (W : World) (b : Nat) (h : SlF W (some ⟨b, 0, none⟩) 2 evenL) => devFree_any (some ⟨b, 0, none⟩) 2 2 evenL W h [0] 0 even_free)
  go_enter Try.func4, Try.ntmps4
  go_wp2_with fail
  refine HEV.out.mono ?_
  rintro e w1 ⟨rfl, hf1, hb1⟩
  have HF1 := hide (HFE.out w1 _ hf1)
  have HB1 := hide hb1
  clear hf1 hb1 HEV HFE
  go_wp2_with fail
  refine HF1.out.mono ?_
  rintro e w2 ⟨ah, ch, rfl, hs2, hb2⟩
  have HB2 := hide (below_step HB1.out hb2)
  obtain ⟨bx, ox, rfl, hc0⟩ := sl_cell hs2 0 (by decide)
  rw [show errV 0 = .nilIface from rfl]
  rw [show ([0] : List Int).getD 0 0 = 0 from rfl] at hc0
  simp only [Nat.add_zero] at hc0
  clear hs2 hb2 HF1
  go_wp2
  clear hc0
  go_loopw [11, 12, 13] (fun v v' iv wx => ∃ i : Nat, i ≤ 5 ∧ iv = .int .i64 i ∧ TwoR w2 (TO.take i) (BK.take i) v v' wx) (fun _ _ iv _ => 5 - (intOf iv).toNat)
  case atStart => exact ⟨0, by omega, rfl, twoR_nil w2⟩
  case round =>
    obtain ⟨i, hi, rfl, htr⟩ := hrel
    have HTR := hide htr
    clear htr
    by_cases hlt : i < 5
    · have hlti : (i : Int) < 5 := by omega
      have hip : (0 : Int) ≤ (i : Int) + (p : Int) := by omega
      have hiq : (0 : Int) ≤ (i : Int) + 5 - (p : Int) := by omega
      have HT1 : Hid (TO.take (i + 1) = TO.take i ++ [((i : Int) + (p : Int)) % 5]) := by
        show _ = _
        rw [HTT.out i hlt]
        simp
      have HT2 : Hid (BK.take (i + 1) = BK.take i ++ [((i : Int) + 5 - (p : Int)) % 5]) := by
        show _ = _
        rw [HBT.out i hlt]
        congr 2
        omega
      have HTLi : Hid ((TO.take i).length = i) := by show _ = _; rw [List.length_take]; have := HTL.out; omega
      have HBLi : Hid ((BK.take i).length = i) := by show _ = _; rw [List.length_take]; have := HBL.out; omega
      have HOWN := hide HTR.out.1
      rw [HTLi.out] at HOWN
      have HSZ := hide HTR.out.2.2.2.size
      go_wp2_with (first
        | (go_at_call 12; refine (HPK.out _).mono ?_; rintro e w' ⟨rfl, hw⟩; rw [hw]; clear hw w')
        | (at_builtin; refine wpList_append_own_at _ rfl _ _ 23 rfl w2.heap.size 3 i0 (.int .i64 0) 1 8 Try.underlying23 hi0 hz0 hz1 hz2 rfl (by decide) _ i ((TO.take i).map (Value.int .i64)) rfl (HOWN.out.alloc _) ⟨wr.heap.size, 0, none⟩ 1 1 [.int .i64 (((i : Int) + (p : Int)) % 5)] rfl rfl (one_new _ _ _) (fun u hu => by simp at hu; subst hu; rfl) (by unfold maxLen; omega) (by omega) (by have := HSZ.out; simp; omega) ?_; intro v3 w6 hown hgrow _ hat; have HX := hide (twoR_swap (twoR_left2 HTR.out (by rw [HTLi.out]; exact hown) hgrow hat)); have HOX := hide HX.out.1; rw [HBLi.out] at HOX; have HSX := hide HX.out.2.2.2.size; clear hown hgrow hat HOWN)
        | (at_builtin; refine wpList_append_own_at _ rfl _ _ 23 rfl w2.heap.size 3 i0 (.int .i64 0) 1 8 Try.underlying23 hi0 hz0 hz1 hz2 rfl (by decide) _ i ((BK.take i).map (Value.int .i64)) rfl (HOX.out.alloc _) ⟨w6.heap.size, 0, none⟩ 1 1 [.int .i64 (((i : Int) + 5 - (p : Int)) % 5)] rfl rfl (one_new _ _ _) (fun u hu => by simp at hu; subst hu; rfl) (by unfold maxLen; omega) (by omega) (by have := HSX.out; simp; omega) ?_; intro v4 w7 hown hgrow _ hat; have HY := hide (twoR_swap (twoR_left2 HX.out (by rw [HBLi.out]; exact hown) hgrow hat)); clear hown hgrow hat HOX HX))
      rw [← HT1.out, ← HT2.out] at HY
      go_roundw
      case rel => exact ⟨i + 1, by omega, by go_num, HY.out⟩
      case measure => simp [intOf]; omega
    · have hlti : ¬ (i : Int) < 5 := by omega
      obtain rfl : i = 5 := by omega
      have HF1 : Hid (TO.take 5 = TO) := List.take_of_length_le (by have := HTL.out; omega)
      have HF2 : Hid (BK.take 5 = BK) := List.take_of_length_le (by have := HBL.out; omega)
      rw [HF1.out, HF2.out] at HTR
      obtain ⟨ar, cr, rfl, hsr⟩ := sl_of_owns rfl (by unfold maxLen; have := HTL.out; omega) HTW.out HTR.out.1
      obtain ⟨ak, ck, rfl, hsk⟩ := sl_of_owns rfl (by unfold maxLen; have := HBL.out; omega) HBW.out HTR.out.2.1
      have hsr1 := hsr.1
      have hsk1 := hsk.1
      rw [HTL.out] at hsr1 ⊢
      rw [HBL.out] at hsk1 ⊢
      have HB3 := hide (below_step HB2.out HTR.out.2.2.2)
      obtain ⟨wo, hwo⟩ : ∃ wo : World, wo = wr := ⟨_, rfl⟩
      rw [← hwo] at HB3 hsr1 hsk1 ⊢
      clear hwo HTR hsr hsk HTT HBT HTW HBW HPK HF1 HF2 wr
      have HC := hide (HRN.out wo ar cr (slF_below HS.out HB3.out) hsr1)
      clear hsr1 hsk1 HRN
      go_wp2_with fail
      refine HC.out.mono ?_
      rintro e w3 ⟨ag, cg, rfl, hsg, hb3⟩
      clear HC
      generalize renC ns TO = c at hrc ⊢
      have hze : errV c = .iface 54 (.int .i64 c) := by unfold errV; rw [if_neg hrc]
      rw [hze]
      have HB4 := hide (below_step HB3.out hb3)
      clear hrc hze hb3 hsg
      go_wp2
      go_ret
      exact ⟨rfl, HB4.out⟩
end Go.Proofs.Ytgbmemkoggogdaa

/- FormTurns: its walk, at a formula that is right. -/
namespace Go.Proofs.Ytgbmemkoggogdaa
open Go.RowKit

theorem made5 : madeCells #[Value.int .i64 0] 5 = iArr zer5 := by
  apply Array.ext
  · simp [madeCells, iArr, zer5]
  · intro i h1 h2
    have h5 : i < 5 := by simpa [madeCells] using h1
    match i, h5 with
    | 0, _ => simp [madeCells, iArr, zer5]
    | 1, _ => simp [madeCells, iArr, zer5]
    | 2, _ => simp [madeCells, iArr, zer5]
    | 3, _ => simp [madeCells, iArr, zer5]
    | 4, _ => simp [madeCells, iArr, zer5]
set_option maxHeartbeats 16000000 in
set_option maxRecDepth 8000 in
theorem formturns_ok (a : Option Addr) (n cap : Nat) (ns : List Nd) (a2 : Option Addr) (m cap2 : Nat) (os : List Om) (a3 : Option Addr) (l cap3 : Nat) (nums : List Int) (turn : Int) (w : World) (hs : SlF w a n ns) (ho : SlO w a2 m os) (h3 : Sl w a3 l nums) (hcap : l ≤ cap3) (hc : (Lit.int .i64 turn).wf = true) (hz : (formP ns).2 = 0) (hHD : HoldNd) : Calls Try.prog 4 #[.slice a n cap, .slice a2 m cap2, .slice a3 l cap3, .int .i64 turn] w fun e w' => e = .returned (.bool true) ∧ Below w.heap.size w w' := by
  have HPK := hide (fun W => pick_any turn 5 W (by decide) (by decide) hc)
  have hp5 := pickN_lt turn (n := 5) (by decide)
  generalize pickN turn 5 = p at HPK hp5
  have HS := hide hs
  have HO := hide ho
  have H3 := hide h3
  obtain ⟨t, he, hok, hn40, -⟩ := form_tree hz
  have hL := hs.1
  have hn : n ≤ 40 := by omega
  have hall : ∀ x ∈ ns, ndF x = 0 := by rw [he]; exact ok_ndF t hok
  have hokr : (t.ren (toL 5 p)).ok := ren_ok hp5 t hok
  have hgf : ns.map (renN (toL 5 p)) = (t.ren (toL 5 p)).flat := by rw [ren_flat, he]
  have hgl : (ns.map (renN (toL 5 p))).length = n := by simpa using hL
  have hgz : formP (ns.map (renN (toL 5 p))) = (0, 0) := by rw [hgf]; exact formP_flat hokr (by rw [← hgf, hgl]; exact hn)
  have hrc : renC ns (toL 5 p) = 0 := by unfold renC; rw [if_pos hz]; exact names_turn hp5
  have hrc2 : renC (ns.map (renN (toL 5 p))) (backL 5 p) = 0 := by unfold renC; rw [hgz]; exact names_back hp5
  have hbk : (ns.map (renN (toL 5 p))).map (renN (backL 5 p)) = ns := ren_back_all hp5 hall
  have HRN : Hid (∀ (W : World) (ar : Option Addr) (cr : Nat), SlF W a n ns → Sl W ar 5 (toL 5 p) → Calls Try.prog 13 #[.slice a n cap, .slice ar 5 cr] W (NodesR W (ns.map (renN (toL 5 p))) 0)) := fun W ar cr g1 g2 => by
    have := devRename_any a n cap ns ar 5 cr (toL 5 p) W g1 g2
    rw [renL_ok hrc, hrc] at this
    exact this
  have HRB : Hid (∀ (W : World) (ag : Option Addr) (cg : Nat) (ak : Option Addr) (ck : Nat), SlF W ag n (ns.map (renN (toL 5 p))) → Sl W ak 5 (backL 5 p) → Calls Try.prog 13 #[.slice ag n cg, .slice ak 5 ck] W (NodesR W ns 0)) := fun W ag cg ak ck g1 g2 => by
    have := devRename_any ag n cg (ns.map (renN (toL 5 p))) ak 5 ck (backL 5 p) W g1 g2
    rw [renL_ok hrc2, hrc2, hbk] at this
    exact this
  have HFF : Hid (∀ (W : World), SlF W a n ns → Calls Try.prog 10 #[.slice a n cap] W (HeadR W (freL t) 0)) := fun W g => devFree_any a n cap ns W g (freL t) 0 ⟨hz.symm, fun h => absurd rfl h, fun t' h1 h2 => by rw [tree_one hok h2 (by rw [← he, h1])]⟩
  have HFG : Hid (∀ (W : World) (ag : Option Addr) (cg : Nat), SlF W ag n (ns.map (renN (toL 5 p))) → Calls Try.prog 10 #[.slice ag n cg] W (HeadR W (freL (t.ren (toL 5 p))) 0)) := fun W ag cg g => devFree_any ag n cg _ W g (freL (t.ren (toL 5 p))) 0 ⟨by rw [hgz], fun h => absurd rfl h, fun t' h1 h2 => by rw [tree_one hokr h2 (by rw [← hgf, h1])]⟩
  have HMN : Hid ((freL (t.ren (toL 5 p))).length = (freL t).length) := ren_many hp5 t hok
  have HME : Hid (∀ v ∈ freL t, (toL 5 p).getD v.toNat 0 ∈ freL (t.ren (toL 5 p))) := fun v hv => ren_mem hp5 t hok hv
  have HFV : Hid (∀ v ∈ freL t, 0 ≤ v ∧ v < 5) := fun v hv => ((freL_mem t v).1 hv).1
  have HFN : Hid ((freL t).length ≤ 5) := by
    show _ ≤ _
    unfold freL
    exact Nat.le_trans (List.length_filter_le _ _) (by simp)
  have HEF : Hid (∀ (W : World), SlF W a n ns → SlO W a2 m os → Sl W a3 l nums → Calls Try.prog 15 #[.slice a n cap, .slice a2 m cap2, .slice a3 l cap3] W (EvR W (decide (evC ns os nums t = 0) && t.tru os nums) (evC ns os nums t))) := fun W g1 g2 g3 => devEval_of a n cap ns a2 m cap2 os a3 l cap3 nums W g1 g2 g3 hcap t hok he hn hz hHD
  have HEG : Hid (l = 5 → ∀ (W : World) (ag : Option Addr) (cg : Nat) (am : Option Addr) (cm : Nat), 5 ≤ cm → SlF W ag n (ns.map (renN (toL 5 p))) → SlO W a2 m os → Sl W am 5 (movK (toL 5 p) nums 5) → Calls Try.prog 15 #[.slice ag n cg, .slice a2 m cap2, .slice am 5 cm] W (EvR W (decide (evC ns os nums t = 0) && t.tru os nums) (evC ns os nums t))) := fun h5 W ag cg am cm hcm g1 g2 g3 => by
    have hl5 : nums.length = 5 := by rw [h3.1]; exact h5
    have hmv : movK (toL 5 p) nums 5 = moved p nums := mov_moved hp5 nums
    rw [hmv] at g3
    have := devEval_of ag n cg _ a2 m cap2 os am 5 cm (moved p nums) W g1 g2 g3 hcm (t.ren (toL 5 p)) hokr hgf hn (by rw [hgz]) hHD
    rw [show toL 5 p = turnL p from rfl, ev_turn hp5 hl5, ren_tru hp5 t hok] at this
    exact this
  have HNE := hide (fun W ax cx (g1 : SlF W ax n ns) (g2 : SlF W a n ns) => nodes_eq ax a n cx cap ns W g1 g2)
  have HRG : Hid (∀ i, i < 5 → 0 ≤ (toL 5 p).getD i 0 ∧ (toL 5 p).getD i 0 < 5) := fun i hi => by have := @toL_rng 5 p i hi; omega
  have HNL := hide h3.1
  have HNW := hide h3.2.2.1
  have hlm := h3.2.1
  unfold maxLen at hlm
  clear hHD hs ho h3 hz he hok hall hokr hgf hgz hrc hrc2 hbk hn40 hL hc hcap
  generalize evC ns os nums t = EC at HEF HEG
  generalize t.tru os nums = ET at HEF HEG
  generalize freL t = FL at HFF HMN HME HFV HFN
  generalize freL (t.ren (toL 5 p)) = GL at HFG HMN HME
  have HGLN := hide hgl
  clear hgl
  generalize ns.map (renN (toL 5 p)) = gs at HRN HRB HFG HEG HGLN
  obtain ⟨i0, hi0, hz0, hz1, hz2⟩ := info_parts info3
  have HTT := hide (fun i h => @toL_take 5 p i h)
  have HBT := hide (fun i h => @backL_take 5 p i h)
  have HTL := hide (toL_len 5 p)
  have HBL := hide (backL_len 5 p)
  have HTW : Hid (∀ x ∈ toL 5 p, (Lit.int .i64 x).wf = true) := small_wf (Nat.le_refl _) (toL_len 5 p) (fun i hi => by have := @toL_rng 5 p i hi; omega)
  have HBW : Hid (∀ x ∈ backL 5 p, (Lit.int .i64 x).wf = true) := small_wf (Nat.le_refl _) (backL_len 5 p) (fun i hi => by have := @backL_rng 5 p i hi; omega)
  generalize toL 5 p = TO at HTT HTL HTW HRN HME HEG HRG
  generalize backL 5 p = BK at HBT HBL HBW HRB
  have HEV := hide (even_any w)
  have HFE := hide (fun (W : World) (b : Nat) (h : SlF W (some ⟨b, 0, none⟩) 2 evenL) => devFree_any (some ⟨b, 0, none⟩) 2 2 evenL W h [0] 0 even_free)
  go_enter Try.func4, Try.ntmps4
  go_wp2_with fail
  refine HEV.out.mono ?_
  rintro e w1 ⟨rfl, hf1, hb1⟩
  have HF1 := hide (HFE.out w1 _ hf1)
  have HB1 := hide hb1
  clear hf1 hb1 HEV HFE
  go_wp2_with fail
  refine HF1.out.mono ?_
  rintro e w2 ⟨ah, ch, rfl, hs2, hb2⟩
  have HB2 := hide (below_step HB1.out hb2)
  obtain ⟨bx, ox, rfl, hc0⟩ := sl_cell hs2 0 (by decide)
  rw [show errV 0 = .nilIface from rfl]
  rw [show ([0] : List Int).getD 0 0 = 0 from rfl] at hc0
  simp only [Nat.add_zero] at hc0
  clear hs2 hb2 HF1
  go_wp2
  clear hc0
  go_loopw [11, 12, 13] (fun v v' iv wx => ∃ i : Nat, i ≤ 5 ∧ iv = .int .i64 i ∧ TwoR w2 (TO.take i) (BK.take i) v v' wx) (fun _ _ iv _ => 5 - (intOf iv).toNat)
  case atStart => exact ⟨0, by omega, rfl, twoR_nil w2⟩
  case round =>
    obtain ⟨i, hi, rfl, htr⟩ := hrel
    have HTR := hide htr
    clear htr
    by_cases hlt : i < 5
    · have hlti : (i : Int) < 5 := by omega
      have hip : (0 : Int) ≤ (i : Int) + (p : Int) := by omega
      have hiq : (0 : Int) ≤ (i : Int) + 5 - (p : Int) := by omega
      have HT1 : Hid (TO.take (i + 1) = TO.take i ++ [((i : Int) + (p : Int)) % 5]) := by
        show _ = _
        rw [HTT.out i hlt]
        simp
      have HT2 : Hid (BK.take (i + 1) = BK.take i ++ [((i : Int) + 5 - (p : Int)) % 5]) := by
        show _ = _
        rw [HBT.out i hlt]
        congr 2
        omega
      have HTLi : Hid ((TO.take i).length = i) := by show _ = _; rw [List.length_take]; have := HTL.out; omega
      have HBLi : Hid ((BK.take i).length = i) := by show _ = _; rw [List.length_take]; have := HBL.out; omega
      have HOWN := hide HTR.out.1
      rw [HTLi.out] at HOWN
      have HSZ := hide HTR.out.2.2.2.size
      go_wp2_with (first
        | (go_at_call 12; refine (HPK.out _).mono ?_; rintro e w' ⟨rfl, hw⟩; rw [hw]; clear hw w')
        | (at_builtin; refine wpList_append_own_at _ rfl _ _ 23 rfl w2.heap.size 3 i0 (.int .i64 0) 1 8 Try.underlying23 hi0 hz0 hz1 hz2 rfl (by decide) _ i ((TO.take i).map (Value.int .i64)) rfl (HOWN.out.alloc _) ⟨wr.heap.size, 0, none⟩ 1 1 [.int .i64 (((i : Int) + (p : Int)) % 5)] rfl rfl (one_new _ _ _) (fun u hu => by simp at hu; subst hu; rfl) (by unfold maxLen; omega) (by omega) (by have := HSZ.out; simp; omega) ?_; intro v3 w6 hown hgrow _ hat; have HX := hide (twoR_swap (twoR_left2 HTR.out (by rw [HTLi.out]; exact hown) hgrow hat)); have HOX := hide HX.out.1; rw [HBLi.out] at HOX; have HSX := hide HX.out.2.2.2.size; clear hown hgrow hat HOWN)
        | (at_builtin; refine wpList_append_own_at _ rfl _ _ 23 rfl w2.heap.size 3 i0 (.int .i64 0) 1 8 Try.underlying23 hi0 hz0 hz1 hz2 rfl (by decide) _ i ((BK.take i).map (Value.int .i64)) rfl (HOX.out.alloc _) ⟨w6.heap.size, 0, none⟩ 1 1 [.int .i64 (((i : Int) + 5 - (p : Int)) % 5)] rfl rfl (one_new _ _ _) (fun u hu => by simp at hu; subst hu; rfl) (by unfold maxLen; omega) (by omega) (by have := HSX.out; simp; omega) ?_; intro v4 w7 hown hgrow _ hat; have HY := hide (twoR_swap (twoR_left2 HX.out (by rw [HBLi.out]; exact hown) hgrow hat)); clear hown hgrow hat HOX HX))
      rw [← HT1.out, ← HT2.out] at HY
      go_roundw
      case rel => exact ⟨i + 1, by omega, by go_num, HY.out⟩
      case measure => simp [intOf]; omega
    · have hlti : ¬ (i : Int) < 5 := by omega
      obtain rfl : i = 5 := by omega
      have HF1 : Hid (TO.take 5 = TO) := List.take_of_length_le (by have := HTL.out; omega)
      have HF2 : Hid (BK.take 5 = BK) := List.take_of_length_le (by have := HBL.out; omega)
      rw [HF1.out, HF2.out] at HTR
      obtain ⟨ar, cr, rfl, hsr⟩ := sl_of_owns rfl (by unfold maxLen; have := HTL.out; omega) HTW.out HTR.out.1
      obtain ⟨ak, ck, rfl, hsk⟩ := sl_of_owns rfl (by unfold maxLen; have := HBL.out; omega) HBW.out HTR.out.2.1
      have hsr1 := hsr.1
      have hsk1 := hsk.1
      rw [HTL.out] at hsr1 ⊢
      rw [HBL.out] at hsk1 ⊢
      have HB3 := hide (below_step HB2.out HTR.out.2.2.2)
      obtain ⟨wo, hwo⟩ : ∃ wo : World, wo = wr := ⟨_, rfl⟩
      rw [← hwo] at HB3 hsr1 hsk1 ⊢
      clear hwo HTR hsr hsk HTT HBT HTW HBW HPK HF1 HF2 wr
      have HSR := hide hsr1
      have HSK := hide hsk1
      have HC := hide (HRN.out wo ar cr (slF_below HS.out HB3.out) hsr1)
      clear hsr1 hsk1 HRN
      go_wp2_with fail
      refine HC.out.mono ?_
      rintro e w3 ⟨ag, cg, rfl, hsg, hb3⟩
      clear HC
      rw [show errV 0 = .nilIface from rfl]
      rw [HGLN.out] at hsg ⊢
      have HB4 := hide (below_step HB3.out hb3)
      have HSG := hide hsg
      have HSR4 := hide (sl_below HSR.out hb3)
      have HC := hide (HRB.out w3 ag cg ak ck hsg (sl_below HSK.out hb3))
      clear hsg hb3 HRB HSR HSK HB3
      go_wp2_with fail
      refine HC.out.mono ?_
      rintro e w4 ⟨ax, cx, rfl, hsx, hb4⟩
      rw [show errV 0 = .nilIface from rfl]
      have hL := hsx.1
      obtain rfl : ns.length = n := (slF_below HS.out HB4.out).1
      have HB5 := hide (below_step HB4.out hb4)
      have HSG5 := hide (slF_below HSG.out hb4)
      have HSR5 := hide (sl_below HSR4.out hb4)
      have HC2 := hide (HNE.out w4 ax cx hsx (slF_below HS.out HB5.out))
      clear hsx hb4 HC HSG HSR4 HB4 HNE
      go_wp2_with fail
      refine HC2.out.mono ?_
      rintro e w5 ⟨rfl, hb5⟩
      have HB6 := hide (below_step HB5.out hb5)
      have HSG6 := hide (slF_below HSG5.out hb5)
      have HSR6 := hide (sl_below HSR5.out hb5)
      have HC3 := hide (HFF.out w5 (slF_below HS.out HB6.out))
      clear hb5 HC2 HSG5 HSR5 HB5 HFF
      go_wp2_with fail
      refine HC3.out.mono ?_
      rintro e w6 ⟨al, cl, rfl, hsl, hb6⟩
      rw [show errV 0 = .nilIface from rfl]
      have HB7 := hide (below_step HB6.out hb6)
      have HSG7 := hide (slF_below HSG6.out hb6)
      have HSR7 := hide (sl_below HSR6.out hb6)
      have HSL7 := hide hsl
      have HC4 := hide (HFG.out w6 ag cg HSG7.out)
      clear hb6 hsl HC3 HSG6 HSR6 HB6 HFG
      go_wp2_with fail
      refine HC4.out.mono ?_
      rintro e w7 ⟨am, cm, rfl, hsm, hb7⟩
      rw [show errV 0 = .nilIface from rfl]
      rw [HMN.out] at hsm ⊢
      have HB8 := hide (below_step HB7.out hb7)
      have HSG8 := hide (slF_below HSG7.out hb7)
      have HSR8 := hide (sl_below HSR7.out hb7)
      have HSL8 := hide (sl_below HSL7.out hb7)
      have HSM8 := hide hsm
      clear hb7 hsm HC4 HSG7 HSR7 HSL7 HB7
      have hfn := HFN.out
      go_wp2
      go_loopw [23] (fun iv wx => ∃ i : Nat, i ≤ FL.length ∧ iv = .int .i64 i ∧ Below w7.heap.size w7 wx) (fun iv _ => FL.length - (intOf iv).toNat)
      case atStart => exact ⟨0, by omega, rfl, Below.refl _ _⟩
      case round =>
        obtain ⟨i, hi, rfl, hbi⟩ := hrel
        have HBI := hide hbi
        clear hbi
        by_cases hlt : i < FL.length
        · have hlti : (i : Int) < (FL.length : Int) := by omega
          have hmem : FL.getD i 0 ∈ FL := by simp [List.getD, hlt]
          obtain ⟨q, hq⟩ : ∃ q : Nat, FL.getD i 0 = ((q : Nat) : Int) := ⟨(FL.getD i 0).toNat, by have := HFV.out _ hmem; omega⟩
          have hq5 : q < 5 := by have := HFV.out _ hmem; omega
          have hq5i : (q : Int) < 5 := by omega
          have hx := HME.out _ hmem
          rw [hq, Int.toNat_natCast] at hx
          obtain ⟨j0, hj0, hj1⟩ : ∃ j, j < FL.length ∧ GL.getD j 0 = TO.getD q 0 := by
            obtain ⟨j, hj, e⟩ := List.getElem_of_mem hx
            exact ⟨j, by rw [← HMN.out]; exact hj, by simp [List.getD, hj, e]⟩
          have HJ : Hid (∃ j, j < FL.length ∧ GL.getD j 0 = TO.getD q 0) := ⟨j0, hj0, hj1⟩
          have HQ := hide hq
          clear hmem hx hj0 hj1 hq
          obtain ⟨wo2, hwo2⟩ : ∃ wo2 : World, wo2 = wr := ⟨_, rfl⟩
          rw [← hwo2] at HBI ⊢
          clear hwo2 wr
          go_wp2
          go_loopw [24, 25] (fun hv kv wx => ∃ (k : Nat) (b : Bool), k ≤ FL.length ∧ kv = .int .i64 k ∧ hv = .bool b ∧ (b = false → ∀ j, j < k → GL.getD j 0 ≠ TO.getD q 0) ∧ Below w7.heap.size w7 wx) (fun _ kv _ => FL.length - (intOf kv).toNat)
          case atStart => exact ⟨0, false, by omega, rfl, rfl, fun _ j hj => by omega, HBI.out⟩
          case round =>
            obtain ⟨k, b, hk, rfl, rfl, hz, hbk⟩ := hrel
            have HZ := hide hz
            have HBK := hide hbk
            clear hz hbk
            by_cases hlt2 : k < FL.length
            · have hlti2 : (k : Int) < (FL.length : Int) := by omega
              have hbd := HBK.out
              obtain ⟨bl, ol, rfl, hcl⟩ := sl_cell (sl_below HSL8.out hbd) i hlt
              obtain ⟨bm, om, rfl, hcm⟩ := sl_cell (sl_below HSM8.out hbd) k hlt2
              obtain ⟨bt, ot, rfl, hct⟩ := sl_cell (sl_below HSR8.out hbd) q hq5
              rw [HQ.out] at hcl
              have HBD := hide hbd
              have HNX : Hid (∀ b', (b' = false → b = false ∧ GL.getD k 0 ≠ TO.getD q 0) → b' = false → ∀ j, j < k + 1 → GL.getD j 0 ≠ TO.getD q 0) := fun b' h hb j hj => by
                obtain ⟨h1, h2⟩ := h hb
                by_cases e : j = k
                · subst e; exact h2
                · exact HZ.out h1 j (by omega)
              clear hbd
              generalize GL.getD k 0 = gx at hcm HNX
              cases b with
              | true =>
                have HN := hide (HNX.out true (fun h => by cases h))
                clear HNX
                go_wp2
                go_quiet (fail)
                go_wp2
                go_roundw
                case rel => exact ⟨k + 1, true, by omega, by go_num, rfl, HN.out, below_drewN HBD.out _⟩
                case measure => simp [intOf]; omega
              | false =>
                have HN := hide (HNX.out (gx == TO.getD q 0) (fun h => ⟨rfl, by simpa using h⟩))
                clear HNX
                generalize hTQ : TO.getD q 0 = tq at hct HN
                have HTQ := hide hTQ
                clear hTQ
                go_wp2
                go_quiet (fail)
                go_wp2
                go_roundw
                case rel => exact ⟨k + 1, gx == tq, by omega, by go_num, rfl, HN.out, below_drewN HBD.out _⟩
                case measure => simp [intOf]; omega
            · have hlti2 : ¬ (k : Int) < (FL.length : Int) := by omega
              obtain rfl : k = FL.length := by omega
              cases b with
              | true =>
                clear HZ
                go_wp2
                go_roundw
                case rel => exact ⟨i + 1, by omega, by go_num, HBK.out⟩
                case measure => simp [intOf]; omega
              | false =>
                obtain ⟨j, hj, e⟩ := HJ.out
                exact absurd e (HZ.out rfl j hj)
        · have hlti : ¬ (i : Int) < (FL.length : Int) := by omega
          obtain rfl : i = FL.length := by omega
          have HB9 := hide (below_step HB8.out HBI.out)
          have HSG9 := hide (slF_below HSG8.out HBI.out)
          have HSR9 := hide (sl_below HSR8.out HBI.out)
          clear HSG8 HSR8 HSL8 HSM8 HB8 HBI HME HFV HMN HFN
          obtain ⟨w8, hw8⟩ : ∃ w8 : World, w8 = wr := ⟨_, rfl⟩
          rw [← hw8] at HB9 HSG9 HSR9 ⊢
          clear hw8 wr
          by_cases h5 : l = 5
          · subst h5
            have HEG5 := hide (HEG.out rfl)
            clear HEG
            have hmk : ∀ W : World, (Instr.makeSlice 23 (.int .i64 5) (.int .i64 5)).run Try.prog W = .ok (.slice (some ⟨W.heap.size, 0, none⟩) 5 5) (W.alloc (.cells (madeCells #[.int .i64 0] 5) 3)) := fun W => make_ints 5 (by decide) W
            have hBd := (Below.refl w8.heap.size w8).alloc (Nat.le_refl _) (.cells (madeCells #[.int .i64 0] 5) 3)
            have HI0 : Hid ((w8.alloc (.cells (madeCells #[.int .i64 0] 5) 3)).heap[w8.heap.size]? = some (.cells (iArr (movK TO nums 0)) 3 (0, 0))) := by
              show _ = _
              rw [heap_alloc_last, made5]
              rfl
            have HBd := hide hBd
            clear hBd
            go_wp2
            generalize w8.alloc (.cells (madeCells #[.int .i64 0] 5) 3) = wI at HI0 HBd ⊢
            go_loopw [27] (fun kv wx => ∃ k : Nat, k ≤ 5 ∧ kv = .int .i64 k ∧ wx.heap[w8.heap.size]? = some (.cells (iArr (movK TO nums k)) 3 (0, 0)) ∧ Below w8.heap.size w8 wx) (fun kv _ => 5 - (intOf kv).toNat)
            case atStart => exact ⟨0, by omega, rfl, HI0.out, HBd.out⟩
            case round =>
              obtain ⟨k, hk, rfl, hg, hbk⟩ := hrel
              have HG := hide hg
              have HBK := hide hbk
              clear hg hbk HI0 HBd
              by_cases hlt : k < 5
              · have hlti : (k : Int) < 5 := by omega
                have hbd := HBK.out.drew
                obtain ⟨bn, on, rfl, hcn⟩ := sl_cell (sl_below (sl_below H3.out HB9.out) hbd) k hlt
                obtain ⟨bt, ot, rfl, hct⟩ := sl_cell (sl_below HSR9.out hbd) k hlt
                have hrg := HRG.out k hlt
                obtain ⟨q, hq⟩ : ∃ q : Nat, TO.getD k 0 = ((q : Nat) : Int) := ⟨(TO.getD k 0).toNat, by omega⟩
                have hq5 : q < 5 := by omega
                have hq5i : (q : Int) < 5 := by omega
                have HST : Hid (movK TO nums (k + 1) = (movK TO nums k).set q (nums.getD k 0)) := by show _ = _; rw [movK, hq, Int.toNat_natCast]
                rw [hq] at hct
                have hcm : wr.drew.cell? ⟨w8.heap.size, q, none⟩ = some (.int .i64 ((movK TO nums k).getD q 0)) := by
                  rw [cell_of_row wr.drew _ q _ _ _ HG.out, iArr_get _ _ (by rw [movK_len]; exact hq5)]
                have hfm : wr.drew.frozen? ⟨w8.heap.size, q, none⟩ = false := by
                  have h : wr.drew.heap[w8.heap.size]? = _ := HG.out
                  simp [World.frozen?, h]
                clear hbd hrg hq
                generalize nums.getD k 0 = z at hcn HST
                generalize (movK TO nums k).getD q 0 = y at hcm
                go_wp2
                go_region
                all_goals go_wp2
                all_goals
                  go_roundw
                  case rel =>
                    refine ⟨k + 1, by omega, by go_num, ?_, (HBK.out.setCell (Nat.le_refl _) _).drew⟩
                    have h := heap_setCell_at (k := q) (v := .int .i64 z) HG.out
                    rw [iArr_set] at h
                    rw [HST.out]
                    exact h
                  case measure => simp [intOf]; omega
              · have hlti : ¬ (k : Int) < 5 := by omega
                obtain rfl : k = 5 := by omega
                have hsm := sl_blkF HG.out (by rw [movK_len]; decide) (movK_wf (tl := TO) HNW.out 5)
                rw [movK_len] at hsm
                have HSM := hide hsm
                have HBA := hide (below_step HB9.out HBK.out)
                have HSGA := hide (slF_below HSG9.out HBK.out)
                have HCA := hide (HEF.out wr (slF_below HS.out HBA.out) (slO_below HO.out HBA.out) (sl_below H3.out HBA.out))
                clear hsm HG HSG9 HSR9 HB9 HBK
                go_wp2_with fail
                refine HCA.out.mono ?_
                rintro e wA ⟨rfl, hbA⟩
                have HBB := hide (below_step HBA.out hbA)
                have HCB := hide (HEG5.out wA ag cg (some ⟨w8.heap.size, 0, none⟩) 5 (by decide) (slF_below HSGA.out hbA) (slO_below HO.out HBB.out) (sl_below HSM.out hbA))
                clear hbA HCA HSM HSGA
                by_cases hez : EC = 0
                · subst hez
                  rw [show errV 0 = .nilIface from rfl]
                  go_wp2_with fail
                  refine HCB.out.mono ?_
                  rintro e wB ⟨rfl, hbB⟩
                  rw [show errV 0 = .nilIface from rfl]
                  have HBC := hide (below_step HBB.out hbB)
                  clear hbB HCB
                  generalize (decide ((0 : Int) = 0) && ET) = xv
                  go_wp2
                  go_quiet (fail)
                  go_wp2
                  go_ret
                  exact ⟨by simp, below_drewN HBC.out _⟩
                · have hze : errV EC = .iface 54 (.int .i64 EC) := by unfold errV; rw [if_neg hez]
                  rw [hze, decide_eq_false hez, Bool.false_and]
                  go_wp2_with fail
                  refine HCB.out.mono ?_
                  rintro e wB ⟨rfl, hbB⟩
                  rw [hze, decide_eq_false hez, Bool.false_and]
                  have HBC := hide (below_step HBB.out hbB)
                  clear hbB HCB hez hze
                  go_wp2
                  go_quiet (fail)
                  go_wp2
                  go_ret
                  exact ⟨by simp, below_drewN HBC.out _⟩
          · have h5b : ((l : Int) == 5) = false := by simp; omega
            have h5n : ((l : Int) != 5) = true := by simp; omega
            clear h5
            go_wp2
            go_ret
            exact ⟨rfl, HB9.out⟩
end Go.Proofs.Ytgbmemkoggogdaa

/- FormTurns, whole. -/
namespace Go.Proofs.Ytgbmemkoggogdaa
open Go.RowKit

theorem formturns_any (a : Option Addr) (n cap : Nat) (ns : List Nd) (a2 : Option Addr) (m cap2 : Nat) (os : List Om) (a3 : Option Addr) (l cap3 : Nat) (nums : List Int) (turn : Int) (w : World) (hs : SlF w a n ns) (ho : SlO w a2 m os) (h3 : Sl w a3 l nums) (hcap : l ≤ cap3) (hc : (Lit.int .i64 turn).wf = true) : Calls Try.prog 4 #[.slice a n cap, .slice a2 m cap2, .slice a3 l cap3, .int .i64 turn] w fun e w' => e = .returned (.bool true) ∧ Below w.heap.size w w' := by
  by_cases hz : (formP ns).2 = 0
  · exact formturns_ok a n cap ns a2 m cap2 os a3 l cap3 nums turn w hs ho h3 hcap hc hz holds_all
  · exact formturns_bad a n cap ns a2 m cap2 a3 l cap3 turn w hs hc hz
end Go.Proofs.Ytgbmemkoggogdaa
