/- 2 texts in one. -/
import Derived.Test.YtafbggbdlcfbdaaGreatDoorZUf
import Derived.Test.YtafbggbdlcfbdaaGreatDoorZUl
import Derived.Test.YtafbggbdlcfbdaaGreatDoorZWi
import Derived.Test.YtafbggbdlcfbdaaGreatDoorYt
/- Package text: compared: contract. -/
namespace Go.Proofs.YtafbggbdlcfbdaaGreatDoor
open Go.RowKit

theorem bdC_zero : BdC 0 zer5 0 := ⟨fun k => by
  have : zer5.getD k 0 = 0 := by
    rcases Nat.lt_or_ge k 5 with h | h
    · match k, h with
      | 0, _ => rfl
      | 1, _ => rfl
      | 2, _ => rfl
      | 3, _ => rfl
      | 4, _ => rfl
    · simp only [List.getD_eq_getElem?_getD, List.getElem?_eq_none (show zer5.length ≤ k from h)]; rfl
  rw [this]; omega, by omega, by omega⟩
theorem tot_sl {W : World} {tb : Nat} {cf : List Int} {nm M : Int} (h : TotAt W tb cf nm) (hb : BdC M cf nm) (hM : M ≤ 1000000000000) : Sl W (some ⟨tb, 0, none⟩) 5 cf := by
  refine ⟨h.1, by unfold maxLen; omega, fun x hx => ?_, .inr ⟨tb, 0, rfl, fun i hi => by rw [Nat.zero_add]; exact (tot_cell h hi).1⟩⟩
  obtain ⟨k, hk, rfl⟩ := List.getElem_of_mem hx
  have := hb.1 k
  have e : cf.getD k 0 = cf[k] := by simp [List.getD, hk]
  rw [e] at this
  exact Go.WalkArith.wf_i64 (by omega)
/-- What comes of two sums. -/
def cmpA (s : List UInt8) (a : SumO) : Option Nd × Nat :=
  if a.ok = true then
    if bt s a.e = 60 ∨ bt s a.e = 61 then
      let b := sumA s (-1) (s.length + 1) (a.e + 1) a.cf a.nm
      if b.ok = true then (some ⟨if bt s a.e = 60 then 2 else 1, 0, 0, 0, 0, b.nm, trimL b.cf⟩, b.e) else (none, b.e)
    else (none, a.e)
  else (none, a.e)
theorem atomA_cmp {s : List UInt8} {i : Nat} (h : ¬ bt s i = 64) : atomA s i = cmpA s (sumA s 1 (s.length + 1) i zer5 0) := by
  unfold atomA cmpA
  rw [if_neg h]
set_option maxHeartbeats 16000000 in
set_option maxRecDepth 20000 in
theorem compared_any (s : List UInt8) (i rb : Nat) (v : Value) (L : List Nd) (W : World) (h : RdAt W rb s i v) (hN : NdR rb W v L) (hL : L.length ≤ 5000) (hs : s.length ≤ 2000) (hi : i ≤ s.length) (h64 : ¬ bt s i = 64) :
    Calls Tryz.prog 56 #[.pointer (some ⟨rb, 0, none⟩)] W (AtmR W rb s L (atomA s i)) := by
  rw [atomA_cmp h64]
  have hrb := rd_lt h
  obtain ⟨ovals, hown⟩ := ndR_own hN
  have HNE : Hid (W.heap.size ≠ rb) := by show _ ≠ _; omega
  have HNX : Hid (W.heap.size + 1 ∉ [rb, W.heap.size]) := by show ¬ _; simp; omega
  have HNF : Hid (rb ≠ W.heap.size + 1) := by show _ ≠ _; omega
  have HTO := hide (fun j Wx (hx : RdAt Wx rb s j v) (hb : bt s j = 60 ∨ bt s j = 61) => take_ok s [61, 60] j rb v Wx hx (by decide) hs (by rcases hb with hb | hb <;> rw [hb] <;> simp))
  have HTN := hide (fun j Wx (hx : RdAt Wx rb s j v) (hb : ¬ (bt s j = 60 ∨ bt s j = 61)) => take_no s [61, 60] j rb v Wx hx (by decide) (by simp only [List.mem_cons, List.not_mem_nil, or_false]; exact fun h => hb (h.elim .inr .inl)))
  have HSU := hide (fun j sg c x M Wx (hx : RdAt Wx rb s j v) (hT : TotAt Wx W.heap.size c x) (hsg : sg = 1 ∨ sg = -1) (hM : 0 ≤ M ∧ M ≤ 100000000) (hB : BdC M c x) (hj : j ≤ s.length) => sum_any s j rb W.heap.size v sg c x M Wx hx hs hT HNE.out hsg hM hB hj (s.length + 1) (by omega))
  have HAD := hide (fun j (n : Nd) a c Wx (hx : RdAt Wx rb s j v) (hb : But [rb] W Wx) (hw : ndWf n) (hS : Sl Wx a n.cf.length n.cf) (hq : ∀ x, slB a n.cf.length x → W.heap.size ≤ x) => add_any s j rb v L n a c Wx hx (ndR_but hN hb) hL hw hS (fun x hx => ⟨by have := hq x hx; omega, fun e => by have := (hown.lt x e).2; have := hq x hx; omega⟩))
  have hBa := ((But.refl [rb, W.heap.size] W).alloc (.cells #[.int .i64 0, .int .i64 0, .int .i64 0, .int .i64 0, .int .i64 0, .int .i64 0] 120)).alloc (.cells #[.int .i64 1, .int .i64 0, .int .i64 0, .int .i64 0, .int .i64 0, .int .i64 0, .slice none 0 0] 41)
  have hta : TotAt ((W.alloc (.cells #[.int .i64 0, .int .i64 0, .int .i64 0, .int .i64 0, .int .i64 0, .int .i64 0] 120)).alloc (.cells #[.int .i64 1, .int .i64 0, .int .i64 0, .int .i64 0, .int .i64 0, .int .i64 0, .slice none 0 0] 41)) W.heap.size zer5 0 := ⟨rfl, heap_alloc2_fst W _ _⟩
  have hbx : Bx7 ((W.alloc (.cells #[.int .i64 0, .int .i64 0, .int .i64 0, .int .i64 0, .int .i64 0, .int .i64 0] 120)).alloc (.cells #[.int .i64 1, .int .i64 0, .int .i64 0, .int .i64 0, .int .i64 0, .int .i64 0, .slice none 0 0] 41)) (W.heap.size + 1) (.int .i64 1) (.int .i64 0) (.int .i64 0) (.int .i64 0) (.int .i64 0) (.int .i64 0) (.slice none 0 0) := heap_alloc2_snd W _ _
  have hra := rd_below h (((Below.refl W.heap.size W).alloc (Nat.le_refl _) (.cells #[.int .i64 0, .int .i64 0, .int .i64 0, .int .i64 0, .int .i64 0, .int .i64 0] 120)).alloc (by simp) (.cells #[.int .i64 1, .int .i64 0, .int .i64 0, .int .i64 0, .int .i64 0, .int .i64 0, .slice none 0 0] 41))
  have HRB := hide hrb
  have HBU := hide hBa
  have HBX := hide hbx
  have HTA := hide hta
  have HRA := hide hra
  have C1 := hide (fun Wx hx hT => HSU.out i 1 zer5 0 0 Wx hx hT (.inl rfl) ⟨by omega, by omega⟩ bdC_zero hi)
  have hA := sumA_bd s 1 (s.length + 1) i zer5 0 hi rfl
  have hAB := sumA_bdC s (sg := 1) (.inl rfl) (s.length + 1) i zer5 0 0 (by omega) hi bdC_zero
  generalize sumA s 1 (s.length + 1) i zer5 0 = oa at C1 hA hAB ⊢
  obtain ⟨ca, na, ea, oka⟩ := oa
  simp only [] at hA hAB
  have hAB2 : BdC 2000000 ca na := bdC_mono hAB (by omega)
  obtain ⟨-, hea, hla⟩ := hA
  unfold cmpA
  simp only []
  clear h64 h hN hi hrb hown hBa hta hbx hra hAB
  by_cases k1 : oka = true
  · subst k1
    rw [if_pos rfl]
    by_cases k2 : bt s ea = 60 ∨ bt s ea = 61
    · rw [if_pos k2]
      have hea2 : ea < s.length := bt_in (by rcases k2 with h | h <;> rw [h] <;> decide)
      have C2 := hide (fun Wx hx => HTO.out ea Wx hx k2)
      have C3 := hide (fun Wx hx hT => HSU.out (ea + 1) (-1) ca na 2000000 Wx hx hT (.inr rfl) ⟨by omega, by omega⟩ hAB2 hea2)
      have hB := sumA_bd s (-1) (s.length + 1) (ea + 1) ca na hea2 hla
      have hBB := sumA_bdC s (sg := -1) (.inr rfl) (s.length + 1) (ea + 1) ca na 2000000 (by omega) hea2 hAB2
      generalize sumA s (-1) (s.length + 1) (ea + 1) ca na = ob at C3 hB hBB ⊢
      obtain ⟨cb, nb, eb, okb⟩ := ob
      simp only [] at hB hBB ⊢
      have hBB2 : BdC 4000000 cb nb := bdC_mono hBB (by omega)
      have HBB := hide hBB2
      clear hBB hAB2 hBB2
      have HOP : Hid (∃ op : Int, (op = 1 ∨ op = 2) ∧ op = (if bt s ea = 60 then 2 else 1) ∧ ((bt s ea).toNat == 60) = decide (op = 2)) := by
        by_cases h : bt s ea = 60
        · exact ⟨2, .inr rfl, (by rw [if_pos h]), (by rw [h]; rfl)⟩
        · exact ⟨1, .inl rfl, (by rw [if_neg h]), (by have hh : ¬ (bt s ea).toNat = 60 := (fun e => h (UInt8.toNat_inj.1 e)); simp [hh])⟩
      obtain ⟨op, ho1, ho2, ho3⟩ := HOP.out
      rw [← ho2]
      have ho4 : (((bt s ea).toNat : Int) == 60) = decide (op = 2) := by rw [← ho3]; exact Bool.eq_iff_iff.2 (by simp only [beq_iff_eq]; omega)
      generalize (bt s ea).toNat = cc at C2 ho4
      clear ho2 ho3 HOP k2
      rcases ho1 with rfl | rfl
      · by_cases k3 : okb = true
        · subst k3
          rw [if_pos rfl]
          go_enter Tryz.func56, Tryz.ntmps56
          go_wp2_with fail
          generalize hWa : (W.alloc (.cells #[.int .i64 0, .int .i64 0, .int .i64 0, .int .i64 0, .int .i64 0, .int .i64 0] 120)).alloc (.cells #[.int .i64 1, .int .i64 0, .int .i64 0, .int .i64 0, .int .i64 0, .int .i64 0, .slice none 0 0] 41) = Wa at HBU HBX HTA HRA ⊢
          clear hWa
          have K1 := hide (C1.out Wa HRA.out HTA.out)
          refine K1.out.mono ?_
          intro e w2 hk
          obtain ⟨rfl, hr, ht, hb⟩ := hk.1 rfl
          have HB2 := hide (HBU.out.trans hb)
          have HX2 := hide (bx7_but HBX.out hb HNX.out)
          have HR2 := hide hr
          have HT2 := hide ht
          clear hr ht hb hk K1 HBU HBX HTA HRA
          have K2 := hide (C2.out w2 HR2.out)
          go_wp2_with fail
          refine K2.out.mono ?_
          rintro e w4 ⟨rfl, hr, hb⟩
          have hb2 := hb.mono (Y := [rb, W.heap.size]) (by simp)
          have HB4 := hide (HB2.out.trans hb2)
          have HX4 := hide (bx7_but HX2.out hb2 HNX.out)
          have HR4 := hide hr
          have HT4 := hide (tot_but HT2.out hb (by simpa using HNE.out))
          clear hr hb hb2 K2 HB2 HX2 HR2 HT2
          have HX5 := hide HX4.out
          have HR5 := hide HR4.out
          have HT5 := hide HT4.out
          have HB5 := hide HB4.out
          clear HX4 HR4 HT4 HB4
          have K3 := hide (C3.out w4 HR5.out HT5.out)
          go_wp2_with fail
          refine K3.out.mono ?_
          intro e w6 hk
          obtain ⟨rfl, hr, ht, hb⟩ := hk.1 rfl
          have HB6 := hide (HB5.out.trans hb)
          have HX6 := hide (bx7_but HX5.out hb HNX.out)
          have HR6 := hide hr
          have HT6 := hide ht
          clear hr ht hb hk K3 HX5 HR5 HT5 HB5
          have HTR := hide (fun k => trim_any W.heap.size 0 5 5 cb (w6.drewN k) (tot_sl (tot_below HT6.out (below_drewN (Below.refl _ _) k)) HBB.out (by omega)) (Nat.le_refl _) (by omega))
          have HWS : Hid (W.heap.size + 1 < w6.heap.size) := (Array.getElem?_eq_some_iff.1 HX6.out).1
          have HW7 : Hid (∀ k w7 a c, SlN (w6.drewN k).heap.size w7 a (trimL cb).length (trimL cb) → Below (w6.drewN k).heap.size (w6.drewN k) w7 → (w7.cell? ⟨W.heap.size, 5, none⟩ = some (.int .i64 nb) ∧ w7.cell? ⟨W.heap.size + 1, 6, none⟩ = some (.slice none 0 0) ∧ w7.frozen? ⟨W.heap.size + 1, 6, none⟩ = false ∧ (w7.setCell ⟨W.heap.size + 1, 6, none⟩ (.slice a (trimL cb).length c)).cell? ⟨W.heap.size + 1, 5, none⟩ = some (.int .i64 0) ∧ (w7.setCell ⟨W.heap.size + 1, 6, none⟩ (.slice a (trimL cb).length c)).frozen? ⟨W.heap.size + 1, 5, none⟩ = false ∧ (w7.setCell ⟨W.heap.size + 1, 6, none⟩ (.slice a (trimL cb).length c)).cell? ⟨W.heap.size, 5, none⟩ = some (.int .i64 nb)) ∧ ∃ W8, (w7.setCell ⟨W.heap.size + 1, 6, none⟩ (.slice a (trimL cb).length c)).setCell ⟨W.heap.size + 1, 5, none⟩ (.int .i64 nb) = W8 ∧ Bx7 W8 (W.heap.size + 1) (.int .i64 1) (.int .i64 0) (.int .i64 0) (.int .i64 0) (.int .i64 0) (.int .i64 nb) (.slice a (trimL cb).length c) ∧ RdAt W8 rb s eb v ∧ But [rb] W W8 ∧ Sl W8 a (trimL cb).length (trimL cb) ∧ ∀ x, slB a (trimL cb).length x → W.heap.size ≤ x) := by
            intro k w7 a c hs7 hb7
            have hb7 : Below w6.heap.size w6 w7 := ⟨hb7.os, hb7.tape, hb7.output, hb7.size, hb7.block⟩
            have hs7 : SlN w6.heap.size w7 a (trimL cb).length (trimL cb) := hs7
            have hx7 := bx7_but HX6.out (But.of_below (X := [rb, W.heap.size]) hb7) HNX.out
            have hx8 : Bx7 (w7.setCell ⟨W.heap.size + 1, 6, none⟩ (.slice a (trimL cb).length c)) (W.heap.size + 1) (.int .i64 1) (.int .i64 0) (.int .i64 0) (.int .i64 0) (.int .i64 0) (.int .i64 0) (.slice a (trimL cb).length c) := heap_setCell_at (k := 6) (v := .slice a (trimL cb).length c) hx7
            refine ⟨⟨(tot_num (tot_below HT6.out hb7)).1, (box7_cells hx7).1.2.2.2.2.2.2, (box7_froz hx7).2.2.2.2.2.2, (box7_cells hx8).1.2.2.2.2.2.1, (box7_froz hx8).2.2.2.2.2.1, (tot_num (W := w7.setCell ⟨W.heap.size + 1, 6, none⟩ (.slice a (trimL cb).length c)) ⟨HT6.out.1, (Below.heap_setCell _ _ _ _ (show W.heap.size ≠ W.heap.size + 1 by omega)).trans (tot_below HT6.out hb7).2⟩).1⟩, _, rfl, heap_setCell_at (k := 5) (v := .int .i64 nb) hx8, rd_set (rd_set (rd_below HR6.out hb7) (p := ⟨W.heap.size + 1, 6, none⟩) HNF.out _) (p := ⟨W.heap.size + 1, 5, none⟩) HNF.out _, ?_, ?_, ?_⟩
            · exact (((HB6.out.trans (But.of_below hb7)).set (p := ⟨W.heap.size + 1, 6, none⟩) (.inr (by simp)) _).set (p := ⟨W.heap.size + 1, 5, none⟩) (.inr (by simp)) _).less (by simp)
            · refine sl_keep (w := w7.setCell ⟨W.heap.size + 1, 6, none⟩ (.slice a (trimL cb).length c)) (sl_keep (w := w7) hs7.1 (fun x hx => ?_)) (fun x hx => ?_)
              · obtain ⟨_, ad, e1, rfl⟩ := hx
                have := hs7.2 ad e1
                have := HWS.out
                exact Below.heap_setCell _ _ _ _ (by show ad.block ≠ W.heap.size + 1; omega)
              · obtain ⟨_, ad, e1, rfl⟩ := hx
                have := hs7.2 ad e1
                have := HWS.out
                exact Below.heap_setCell _ _ _ _ (by show ad.block ≠ W.heap.size + 1; omega)
            · rintro x ⟨_, ad, e1, rfl⟩
              have := hs7.2 ad e1
              have := HWS.out
              omega
          have HC6 : Hid (∀ k, (w6.drewN k).cell? ⟨W.heap.size, 5, none⟩ = some (.int .i64 nb)) := fun k => (tot_num HT6.out).1
          have hc6 := (tot_num HT6.out).1
          have HWF : Hid (ndWf ⟨1, 0, 0, 0, 0, nb, trimL cb⟩) := ndWf_sum (Go.WalkArith.wf_i64 (by have := HBB.out.2; omega)) (by simp)
          generalize hTR : trimL cb = tr at HTR HW7 HWF
          have HTE := hide hTR
          clear hTR
          go_wp2_with fail
          go_region_with (first | (go_at_call 72; refine (HTR.out _).mono ?_; rintro e w7 ⟨a7, c7, rfl, hs7, hb7⟩; obtain ⟨⟨z1, z2, z3, z4, z5, z6⟩, W8, hW8, HX8, HR8, HB8, HS8, HQ8⟩ := HW7.out _ w7 a7 c7 hs7 hb7; clear hs7 hb7))
          all_goals clear z1 z2 z3 z4 z5 z6 hW8 hc6
          all_goals have K9 := hide (HAD.out eb ⟨1, 0, 0, 0, 0, nb, tr⟩ a7 c7 W8 HR8 HB8 HWF.out HS8 HQ8)
          all_goals obtain ⟨⟨q0, q1, q2, q3, q4, q5, q6⟩, -⟩ := box7_cells HX8
          all_goals have HBL := hide (HB8.below (Nat.le_of_lt HRB.out) (by simp))
          all_goals clear HX8 HR8 HB8 HS8 HQ8
          all_goals unfold ndV at K9
          all_goals simp only [] at K9
          all_goals go_wp2_with fail
          all_goals refine K9.out.mono ?_
          all_goals rintro e w9 ⟨rfl, v9, hr, hn, hb⟩
          all_goals have HB9 := hide (HBL.out.trans hb)
          all_goals have HR9 := hide hr
          all_goals have HN9 := hide hn
          all_goals clear hr hn hb K9 q0 q1 q2 q3 q4 q5 q6
          all_goals go_wp2
          all_goals exact bodyPost_end (v := .tuple #[]) (by simp [results, Tryz.results56]) rfl ⟨fun n hn => ⟨rfl, _, HR9.out, (by injection hn with hn; subst hn; rw [HTE.out]; exact HN9.out), HB9.out⟩, (fun h => by cases h)⟩
        · rw [if_neg k3]
          go_enter Tryz.func56, Tryz.ntmps56
          go_wp2_with fail
          generalize hWa : (W.alloc (.cells #[.int .i64 0, .int .i64 0, .int .i64 0, .int .i64 0, .int .i64 0, .int .i64 0] 120)).alloc (.cells #[.int .i64 1, .int .i64 0, .int .i64 0, .int .i64 0, .int .i64 0, .int .i64 0, .slice none 0 0] 41) = Wa at HBU HBX HTA HRA ⊢
          clear hWa
          have K1 := hide (C1.out Wa HRA.out HTA.out)
          refine K1.out.mono ?_
          intro e w2 hk
          obtain ⟨rfl, hr, ht, hb⟩ := hk.1 rfl
          have HB2 := hide (HBU.out.trans hb)
          have HX2 := hide (bx7_but HBX.out hb HNX.out)
          have HR2 := hide hr
          have HT2 := hide ht
          clear hr ht hb hk K1 HBU HBX HTA HRA
          have K2 := hide (C2.out w2 HR2.out)
          go_wp2_with fail
          refine K2.out.mono ?_
          rintro e w4 ⟨rfl, hr, hb⟩
          have hb2 := hb.mono (Y := [rb, W.heap.size]) (by simp)
          have HB4 := hide (HB2.out.trans hb2)
          have HX4 := hide (bx7_but HX2.out hb2 HNX.out)
          have HR4 := hide hr
          have HT4 := hide (tot_but HT2.out hb (by simpa using HNE.out))
          clear hr hb hb2 K2 HB2 HX2 HR2 HT2
          have HX5 := hide HX4.out
          have HR5 := hide HR4.out
          have HT5 := hide HT4.out
          have HB5 := hide HB4.out
          clear HX4 HR4 HT4 HB4
          have K3 := hide (C3.out w4 HR5.out HT5.out)
          go_wp2_with fail
          refine K3.out.mono ?_
          intro e w6 hk
          obtain ⟨rfl, hb⟩ := hk.2 k3
          exact ⟨rfl, atm_no ((HB5.out.trans hb).less (by simp)) HRB.out⟩
      · by_cases k3 : okb = true
        · subst k3
          rw [if_pos rfl]
          go_enter Tryz.func56, Tryz.ntmps56
          go_wp2_with fail
          generalize hWa : (W.alloc (.cells #[.int .i64 0, .int .i64 0, .int .i64 0, .int .i64 0, .int .i64 0, .int .i64 0] 120)).alloc (.cells #[.int .i64 1, .int .i64 0, .int .i64 0, .int .i64 0, .int .i64 0, .int .i64 0, .slice none 0 0] 41) = Wa at HBU HBX HTA HRA ⊢
          clear hWa
          have K1 := hide (C1.out Wa HRA.out HTA.out)
          refine K1.out.mono ?_
          intro e w2 hk
          obtain ⟨rfl, hr, ht, hb⟩ := hk.1 rfl
          have HB2 := hide (HBU.out.trans hb)
          have HX2 := hide (bx7_but HBX.out hb HNX.out)
          have HR2 := hide hr
          have HT2 := hide ht
          clear hr ht hb hk K1 HBU HBX HTA HRA
          have K2 := hide (C2.out w2 HR2.out)
          go_wp2_with fail
          refine K2.out.mono ?_
          rintro e w4 ⟨rfl, hr, hb⟩
          have hb2 := hb.mono (Y := [rb, W.heap.size]) (by simp)
          have HB4 := hide (HB2.out.trans hb2)
          have HX4 := hide (bx7_but HX2.out hb2 HNX.out)
          have HR4 := hide hr
          have HT4 := hide (tot_but HT2.out hb (by simpa using HNE.out))
          clear hr hb hb2 K2 HB2 HX2 HR2 HT2
          obtain ⟨⟨p0, p1, p2, p3, p4, p5, p6⟩, -⟩ := box7_cells HX4.out
          obtain ⟨f0, f1, f2, f3, f4, f5, f6⟩ := box7_froz HX4.out
          have HX5 : Hid (Bx7 (w4.setCell ⟨W.heap.size + 1, 0, none⟩ (.int .i64 2)) (W.heap.size + 1) (.int .i64 2) (.int .i64 0) (.int .i64 0) (.int .i64 0) (.int .i64 0) (.int .i64 0) (.slice none 0 0)) := heap_setCell_at (k := 0) (v := .int .i64 2) HX4.out
          have HR5 := hide (rd_set HR4.out (p := ⟨W.heap.size + 1, 0, none⟩) HNF.out (.int .i64 2))
          have HB5 := hide (HB4.out.set (p := ⟨W.heap.size + 1, 0, none⟩) (.inr (by simp)) (.int .i64 2))
          have HT5 : Hid (TotAt (w4.setCell ⟨W.heap.size + 1, 0, none⟩ (.int .i64 2)) W.heap.size ca na) := ⟨HT4.out.1, (Below.heap_setCell _ _ _ _ (by simp)).trans HT4.out.2⟩
          clear HX4 HR4 HT4 HB4
          generalize hW5 : w4.setCell ⟨W.heap.size + 1, 0, none⟩ (.int .i64 2) = W5 at HX5 HR5 HT5 HB5
          have K3 := hide (C3.out W5 HR5.out HT5.out)
          go_wp2_with fail
          clear p0 p1 p2 p3 p4 p5 p6 f0 f1 f2 f3 f4 f5 f6 hW5
          refine K3.out.mono ?_
          intro e w6 hk
          obtain ⟨rfl, hr, ht, hb⟩ := hk.1 rfl
          have HB6 := hide (HB5.out.trans hb)
          have HX6 := hide (bx7_but HX5.out hb HNX.out)
          have HR6 := hide hr
          have HT6 := hide ht
          clear hr ht hb hk K3 HX5 HR5 HT5 HB5
          have HTR := hide (fun k => trim_any W.heap.size 0 5 5 cb (w6.drewN k) (tot_sl (tot_below HT6.out (below_drewN (Below.refl _ _) k)) HBB.out (by omega)) (Nat.le_refl _) (by omega))
          have HWS : Hid (W.heap.size + 1 < w6.heap.size) := (Array.getElem?_eq_some_iff.1 HX6.out).1
          have HW7 : Hid (∀ k w7 a c, SlN (w6.drewN k).heap.size w7 a (trimL cb).length (trimL cb) → Below (w6.drewN k).heap.size (w6.drewN k) w7 → (w7.cell? ⟨W.heap.size, 5, none⟩ = some (.int .i64 nb) ∧ w7.cell? ⟨W.heap.size + 1, 6, none⟩ = some (.slice none 0 0) ∧ w7.frozen? ⟨W.heap.size + 1, 6, none⟩ = false ∧ (w7.setCell ⟨W.heap.size + 1, 6, none⟩ (.slice a (trimL cb).length c)).cell? ⟨W.heap.size + 1, 5, none⟩ = some (.int .i64 0) ∧ (w7.setCell ⟨W.heap.size + 1, 6, none⟩ (.slice a (trimL cb).length c)).frozen? ⟨W.heap.size + 1, 5, none⟩ = false ∧ (w7.setCell ⟨W.heap.size + 1, 6, none⟩ (.slice a (trimL cb).length c)).cell? ⟨W.heap.size, 5, none⟩ = some (.int .i64 nb)) ∧ ∃ W8, (w7.setCell ⟨W.heap.size + 1, 6, none⟩ (.slice a (trimL cb).length c)).setCell ⟨W.heap.size + 1, 5, none⟩ (.int .i64 nb) = W8 ∧ Bx7 W8 (W.heap.size + 1) (.int .i64 2) (.int .i64 0) (.int .i64 0) (.int .i64 0) (.int .i64 0) (.int .i64 nb) (.slice a (trimL cb).length c) ∧ RdAt W8 rb s eb v ∧ But [rb] W W8 ∧ Sl W8 a (trimL cb).length (trimL cb) ∧ ∀ x, slB a (trimL cb).length x → W.heap.size ≤ x) := by
            intro k w7 a c hs7 hb7
            have hb7 : Below w6.heap.size w6 w7 := ⟨hb7.os, hb7.tape, hb7.output, hb7.size, hb7.block⟩
            have hs7 : SlN w6.heap.size w7 a (trimL cb).length (trimL cb) := hs7
            have hx7 := bx7_but HX6.out (But.of_below (X := [rb, W.heap.size]) hb7) HNX.out
            have hx8 : Bx7 (w7.setCell ⟨W.heap.size + 1, 6, none⟩ (.slice a (trimL cb).length c)) (W.heap.size + 1) (.int .i64 2) (.int .i64 0) (.int .i64 0) (.int .i64 0) (.int .i64 0) (.int .i64 0) (.slice a (trimL cb).length c) := heap_setCell_at (k := 6) (v := .slice a (trimL cb).length c) hx7
            refine ⟨⟨(tot_num (tot_below HT6.out hb7)).1, (box7_cells hx7).1.2.2.2.2.2.2, (box7_froz hx7).2.2.2.2.2.2, (box7_cells hx8).1.2.2.2.2.2.1, (box7_froz hx8).2.2.2.2.2.1, (tot_num (W := w7.setCell ⟨W.heap.size + 1, 6, none⟩ (.slice a (trimL cb).length c)) ⟨HT6.out.1, (Below.heap_setCell _ _ _ _ (show W.heap.size ≠ W.heap.size + 1 by omega)).trans (tot_below HT6.out hb7).2⟩).1⟩, _, rfl, heap_setCell_at (k := 5) (v := .int .i64 nb) hx8, rd_set (rd_set (rd_below HR6.out hb7) (p := ⟨W.heap.size + 1, 6, none⟩) HNF.out _) (p := ⟨W.heap.size + 1, 5, none⟩) HNF.out _, ?_, ?_, ?_⟩
            · exact (((HB6.out.trans (But.of_below hb7)).set (p := ⟨W.heap.size + 1, 6, none⟩) (.inr (by simp)) _).set (p := ⟨W.heap.size + 1, 5, none⟩) (.inr (by simp)) _).less (by simp)
            · refine sl_keep (w := w7.setCell ⟨W.heap.size + 1, 6, none⟩ (.slice a (trimL cb).length c)) (sl_keep (w := w7) hs7.1 (fun x hx => ?_)) (fun x hx => ?_)
              · obtain ⟨_, ad, e1, rfl⟩ := hx
                have := hs7.2 ad e1
                have := HWS.out
                exact Below.heap_setCell _ _ _ _ (by show ad.block ≠ W.heap.size + 1; omega)
              · obtain ⟨_, ad, e1, rfl⟩ := hx
                have := hs7.2 ad e1
                have := HWS.out
                exact Below.heap_setCell _ _ _ _ (by show ad.block ≠ W.heap.size + 1; omega)
            · rintro x ⟨_, ad, e1, rfl⟩
              have := hs7.2 ad e1
              have := HWS.out
              omega
          have HC6 : Hid (∀ k, (w6.drewN k).cell? ⟨W.heap.size, 5, none⟩ = some (.int .i64 nb)) := fun k => (tot_num HT6.out).1
          have hc6 := (tot_num HT6.out).1
          have HWF : Hid (ndWf ⟨2, 0, 0, 0, 0, nb, trimL cb⟩) := ndWf_sum (Go.WalkArith.wf_i64 (by have := HBB.out.2; omega)) (by simp)
          generalize hTR : trimL cb = tr at HTR HW7 HWF
          have HTE := hide hTR
          clear hTR
          go_wp2_with fail
          go_region_with (first | (go_at_call 72; refine (HTR.out _).mono ?_; rintro e w7 ⟨a7, c7, rfl, hs7, hb7⟩; obtain ⟨⟨z1, z2, z3, z4, z5, z6⟩, W8, hW8, HX8, HR8, HB8, HS8, HQ8⟩ := HW7.out _ w7 a7 c7 hs7 hb7; clear hs7 hb7))
          all_goals clear z1 z2 z3 z4 z5 z6 hW8 hc6
          all_goals have K9 := hide (HAD.out eb ⟨2, 0, 0, 0, 0, nb, tr⟩ a7 c7 W8 HR8 HB8 HWF.out HS8 HQ8)
          all_goals obtain ⟨⟨q0, q1, q2, q3, q4, q5, q6⟩, -⟩ := box7_cells HX8
          all_goals have HBL := hide (HB8.below (Nat.le_of_lt HRB.out) (by simp))
          all_goals clear HX8 HR8 HB8 HS8 HQ8
          all_goals unfold ndV at K9
          all_goals simp only [] at K9
          all_goals go_wp2_with fail
          all_goals refine K9.out.mono ?_
          all_goals rintro e w9 ⟨rfl, v9, hr, hn, hb⟩
          all_goals have HB9 := hide (HBL.out.trans hb)
          all_goals have HR9 := hide hr
          all_goals have HN9 := hide hn
          all_goals clear hr hn hb K9 q0 q1 q2 q3 q4 q5 q6
          all_goals go_wp2
          all_goals exact bodyPost_end (v := .tuple #[]) (by simp [results, Tryz.results56]) rfl ⟨fun n hn => ⟨rfl, _, HR9.out, (by injection hn with hn; subst hn; rw [HTE.out]; exact HN9.out), HB9.out⟩, (fun h => by cases h)⟩
        · rw [if_neg k3]
          go_enter Tryz.func56, Tryz.ntmps56
          go_wp2_with fail
          generalize hWa : (W.alloc (.cells #[.int .i64 0, .int .i64 0, .int .i64 0, .int .i64 0, .int .i64 0, .int .i64 0] 120)).alloc (.cells #[.int .i64 1, .int .i64 0, .int .i64 0, .int .i64 0, .int .i64 0, .int .i64 0, .slice none 0 0] 41) = Wa at HBU HBX HTA HRA ⊢
          clear hWa
          have K1 := hide (C1.out Wa HRA.out HTA.out)
          refine K1.out.mono ?_
          intro e w2 hk
          obtain ⟨rfl, hr, ht, hb⟩ := hk.1 rfl
          have HB2 := hide (HBU.out.trans hb)
          have HX2 := hide (bx7_but HBX.out hb HNX.out)
          have HR2 := hide hr
          have HT2 := hide ht
          clear hr ht hb hk K1 HBU HBX HTA HRA
          have K2 := hide (C2.out w2 HR2.out)
          go_wp2_with fail
          refine K2.out.mono ?_
          rintro e w4 ⟨rfl, hr, hb⟩
          have hb2 := hb.mono (Y := [rb, W.heap.size]) (by simp)
          have HB4 := hide (HB2.out.trans hb2)
          have HX4 := hide (bx7_but HX2.out hb2 HNX.out)
          have HR4 := hide hr
          have HT4 := hide (tot_but HT2.out hb (by simpa using HNE.out))
          clear hr hb hb2 K2 HB2 HX2 HR2 HT2
          obtain ⟨⟨p0, p1, p2, p3, p4, p5, p6⟩, -⟩ := box7_cells HX4.out
          obtain ⟨f0, f1, f2, f3, f4, f5, f6⟩ := box7_froz HX4.out
          have HX5 : Hid (Bx7 (w4.setCell ⟨W.heap.size + 1, 0, none⟩ (.int .i64 2)) (W.heap.size + 1) (.int .i64 2) (.int .i64 0) (.int .i64 0) (.int .i64 0) (.int .i64 0) (.int .i64 0) (.slice none 0 0)) := heap_setCell_at (k := 0) (v := .int .i64 2) HX4.out
          have HR5 := hide (rd_set HR4.out (p := ⟨W.heap.size + 1, 0, none⟩) HNF.out (.int .i64 2))
          have HB5 := hide (HB4.out.set (p := ⟨W.heap.size + 1, 0, none⟩) (.inr (by simp)) (.int .i64 2))
          have HT5 : Hid (TotAt (w4.setCell ⟨W.heap.size + 1, 0, none⟩ (.int .i64 2)) W.heap.size ca na) := ⟨HT4.out.1, (Below.heap_setCell _ _ _ _ (by simp)).trans HT4.out.2⟩
          clear HX4 HR4 HT4 HB4
          generalize hW5 : w4.setCell ⟨W.heap.size + 1, 0, none⟩ (.int .i64 2) = W5 at HX5 HR5 HT5 HB5
          have K3 := hide (C3.out W5 HR5.out HT5.out)
          go_wp2_with fail
          clear p0 p1 p2 p3 p4 p5 p6 f0 f1 f2 f3 f4 f5 f6 hW5
          refine K3.out.mono ?_
          intro e w6 hk
          obtain ⟨rfl, hb⟩ := hk.2 k3
          exact ⟨rfl, atm_no ((HB5.out.trans hb).less (by simp)) HRB.out⟩
    · rw [if_neg k2]
      have C2 := hide (fun Wx hx => HTN.out ea Wx hx k2)
      go_enter Tryz.func56, Tryz.ntmps56
      go_wp2_with fail
      generalize hWa : (W.alloc (.cells #[.int .i64 0, .int .i64 0, .int .i64 0, .int .i64 0, .int .i64 0, .int .i64 0] 120)).alloc (.cells #[.int .i64 1, .int .i64 0, .int .i64 0, .int .i64 0, .int .i64 0, .int .i64 0, .slice none 0 0] 41) = Wa at HBU HBX HTA HRA ⊢
      clear hWa
      have K1 := hide (C1.out Wa HRA.out HTA.out)
      refine K1.out.mono ?_
      intro e w2 hk
      obtain ⟨rfl, hr, ht, hb⟩ := hk.1 rfl
      have HB2 := hide (HBU.out.trans hb)
      have HX2 := hide (bx7_but HBX.out hb HNX.out)
      have HR2 := hide hr
      have HT2 := hide ht
      clear hr ht hb hk K1 HBU HBX HTA HRA
      have K2 := hide (C2.out w2 HR2.out)
      go_wp2_with fail
      refine K2.out.mono ?_
      rintro e w4 ⟨rfl, hb⟩
      exact ⟨rfl, atm_no ((HB2.out.trans (But.of_below hb)).less (by simp)) HRB.out⟩
  · rw [if_neg k1]
    go_enter Tryz.func56, Tryz.ntmps56
    go_wp2_with fail
    generalize hWa : (W.alloc (.cells #[.int .i64 0, .int .i64 0, .int .i64 0, .int .i64 0, .int .i64 0, .int .i64 0] 120)).alloc (.cells #[.int .i64 1, .int .i64 0, .int .i64 0, .int .i64 0, .int .i64 0, .int .i64 0, .slice none 0 0] 41) = Wa at HBU HBX HTA HRA ⊢
    clear hWa
    have K1 := hide (C1.out Wa HRA.out HTA.out)
    refine K1.out.mono ?_
    intro e w2 hk
    obtain ⟨rfl, hb⟩ := hk.2 k1
    exact ⟨rfl, atm_no ((HBU.out.trans hb).less (by simp)) HRB.out⟩
end Go.Proofs.YtafbggbdlcfbdaaGreatDoor

/- Package text: claim: contract. -/
namespace Go.Proofs.YtafbggbdlcfbdaaGreatDoor
open Go.RowKit

theorem fmR_atm {W w' : World} {rb : Nat} {s : List UInt8} {L : List Nd} {o : Option Nd × Nat} {e : Ending} (h : AtmR W rb s L o e w') : FmR W rb s L (o.1.map (fun n => [n]), o.2) e w' := by
  refine ⟨fun l hl => ?_, fun hl => ?_⟩
  · cases ho : o.1 with
    | none => rw [ho] at hl; cases hl
    | some n =>
      rw [ho] at hl
      injection hl with hl
      subst hl
      exact h.1 n ho
  · cases ho : o.1 with
    | none => exact h.2 ho
    | some n => rw [ho] at hl; cases hl
theorem formA_atm {s : List UInt8} {f i : Nat} (h1 : ¬ bt s i = 126) (h2 : ¬ (bt s i = 69 ∨ bt s i = 65)) (h3 : ¬ bt s i = 40) : formA s (f + 1) i = ((atomA s i).1.map (fun n => [n]), (atomA s i).2) := by
  rw [formA, if_neg h1, if_neg h2, if_neg h3]
  rcases atomA s i with ⟨_ | n, e⟩ <;> rfl
theorem formA_not {s : List UInt8} {f i : Nat} (h1 : bt s i = 126) : formA s (f + 1) i = ((formA s f (i + 1)).1.map (fun x => ⟨5, 0, 0, 0, 0, 0, []⟩ :: x), (formA s f (i + 1)).2) := by rw [formA, if_pos h1]
theorem formA_both {s : List UInt8} {f i : Nat} (h3 : bt s i = 40) : formA s (f + 1) i = bothA s f i := by
  rw [formA, if_neg (by rw [h3]; decide), if_neg (by rw [h3]; decide), if_pos h3]
  rfl
def bndA (s : List UInt8) (f i : Nat) : Option (List Nd) × Nat := if isLt (bt s (i + 1)) = true then if bt s (i + 2) = 58 then ((formA s f (i + 3)).1.map (fun x => ⟨if bt s i = 65 then 9 else 8, ((bt s (i + 1)).toNat - 97 : Nat), 0, 0, 0, 0, []⟩ :: x), (formA s f (i + 3)).2) else (none, i + 2) else (none, i + 1)
theorem formA_bound {s : List UInt8} {f i : Nat} (h2 : bt s i = 69 ∨ bt s i = 65) : formA s (f + 1) i = bndA s f i := by
  rw [formA, if_neg (by rcases h2 with h | h <;> rw [h] <;> decide), if_pos h2]
  rfl
set_option maxHeartbeats 16000000 in
set_option maxRecDepth 20000 in
theorem claim_step (s : List UInt8) (rb f i : Nat) (hs : s.length ≤ 2000) (hi : i ≤ s.length) (ih : ∀ j, i < j → j ≤ s.length → ClmS rb s f j) : ClmS rb s (f + 1) i := by
  intro v L W h hN hL
  have HS := hide (fun S Wx (hx : RdAt Wx rb s i v) (h0 : (0 : UInt8) ∉ S) => sees_any s S i rb v Wx hx h0)
  have HR := hide h
  have HN := hide hN
  have HRB := hide (rd_lt h)
  have HUP : Hid (∀ o Wx e w', Below W.heap.size W Wx → FmR Wx rb s L o e w' → FmR W rb s L o e w') := fun o Wx e w' hb hf => ⟨fun l hl => let ⟨h1, v, h2, h3, h4⟩ := hf.1 l hl; ⟨h1, v, h2, h3, (hb.mono (Nat.le_of_lt HRB.out)).trans h4⟩, fun hl => ⟨(hf.2 hl).1, (hb.mono (Nat.le_of_lt HRB.out)).trans (hf.2 hl).2⟩⟩
  have S0 := hide (fun Wx hx => HS.out [126] Wx hx (by decide))
  by_cases t0 : bt s i = 126
  · rw [decide_eq_true (show bt s i ∈ [126] from (by rw [t0]; simp))] at S0
    have hil : i < s.length := bt_in (by rw [t0]; decide)
    rw [formA_not t0]
    have CC := hide (fun Wx (hb : Below W.heap.size W Wx) hx hn => not_of s i rb f v L Wx hx hn hL hs t0 (ih (i + 1) (by omega) hil))
    clear hil
    clear h hN hL hs hi ih t0
    go_enter Tryz.func35, Tryz.ntmps35
    have K := hide (S0.out W HR.out)
    go_wp2_with fail
    refine K.out.mono ?_
    rintro e w1 ⟨rfl, hb⟩
    have B0 := hide (hb)
    clear hb K
    have K := hide (CC.out w1 B0.out (rd_below HR.out B0.out) (ndR_below HN.out B0.out))
    go_wp2_with fail
    refine K.out.mono ?_
    intro e w9 hf
    have HF := hide (HUP.out _ _ _ _ B0.out hf)
    rcases fmR_end hf with ⟨rfl, -⟩ | ⟨c, rfl⟩
    · clear hf K
      go_wp2
      exact bodyPost_end (v := .tuple #[]) (by simp [results, Tryz.results35]) rfl HF.out
    · exact ⟨rfl, HF.out⟩
  · rw [decide_eq_false (show ¬ bt s i ∈ [126] from (by simpa using t0))] at S0
    have S1 := hide (fun Wx hx => HS.out [40] Wx hx (by decide))
    by_cases t1 : bt s i = 40
    · rw [decide_eq_true (show bt s i ∈ [40] from (by rw [t1]; simp))] at S1
      rw [formA_both t1]
      have CC := hide (fun Wx (hb : Below W.heap.size W Wx) hx hn => both_of s i rb f v L Wx hx hn hL hs t1 ih)
      clear h hN hL hs hi ih t0 t1
      go_enter Tryz.func35, Tryz.ntmps35
      have K := hide (S0.out W HR.out)
      go_wp2_with fail
      refine K.out.mono ?_
      rintro e w1 ⟨rfl, hb⟩
      have B0 := hide (hb)
      clear hb K
      have K := hide (S1.out w1 (rd_below HR.out B0.out))
      go_wp2_with fail
      refine K.out.mono ?_
      rintro e w2 ⟨rfl, hb⟩
      have B1 := hide (below_step B0.out hb)
      clear hb K
      have K := hide (CC.out w2 B1.out (rd_below HR.out B1.out) (ndR_below HN.out B1.out))
      go_wp2_with fail
      refine K.out.mono ?_
      intro e w9 hf
      have HF := hide (HUP.out _ _ _ _ B1.out hf)
      rcases fmR_end hf with ⟨rfl, -⟩ | ⟨c, rfl⟩
      · clear hf K
        go_wp2
        exact bodyPost_end (v := .tuple #[]) (by simp [results, Tryz.results35]) rfl HF.out
      · exact ⟨rfl, HF.out⟩
    · rw [decide_eq_false (show ¬ bt s i ∈ [40] from (by simpa using t1))] at S1
      have S2 := hide (fun Wx hx => HS.out [69, 65] Wx hx (by decide))
      by_cases t2 : bt s i = 69 ∨ bt s i = 65
      · rw [decide_eq_true (show bt s i ∈ [69, 65] from (by rcases t2 with h | h <;> rw [h] <;> simp))] at S2
        rw [formA_bound t2]
        have CC := hide (fun Wx (hb : Below W.heap.size W Wx) hx hn => show Calls Tryz.prog 54 #[.pointer (some ⟨rb, 0, none⟩)] Wx (FmR Wx rb s L (bndA s f i)) from bound_of s i rb f v L Wx hx hn hL hs t2 (fun h3 => ih (i + 3) (by omega) h3))
        generalize bndA s f i = o at CC ⊢
        clear h hN hL hs hi ih t0 t1 t2
        go_enter Tryz.func35, Tryz.ntmps35
        have K := hide (S0.out W HR.out)
        go_wp2_with fail
        refine K.out.mono ?_
        rintro e w1 ⟨rfl, hb⟩
        have B0 := hide (hb)
        clear hb K
        have K := hide (S1.out w1 (rd_below HR.out B0.out))
        go_wp2_with fail
        refine K.out.mono ?_
        rintro e w2 ⟨rfl, hb⟩
        have B1 := hide (below_step B0.out hb)
        clear hb K
        have K := hide (S2.out w2 (rd_below HR.out B1.out))
        go_wp2_with fail
        refine K.out.mono ?_
        rintro e w3 ⟨rfl, hb⟩
        have B2 := hide (below_step B1.out hb)
        clear hb K
        have K := hide (CC.out w3 B2.out (rd_below HR.out B2.out) (ndR_below HN.out B2.out))
        go_wp2_with fail
        refine K.out.mono ?_
        intro e w9 hf
        have HF := hide (HUP.out _ _ _ _ B2.out hf)
        rcases fmR_end hf with ⟨rfl, -⟩ | ⟨c, rfl⟩
        · clear hf K
          go_wp2
          exact bodyPost_end (v := .tuple #[]) (by simp [results, Tryz.results35]) rfl HF.out
        · exact ⟨rfl, HF.out⟩
      · rw [decide_eq_false (show ¬ bt s i ∈ [69, 65] from (by simpa using t2))] at S2
        have S3 := hide (fun Wx hx => HS.out [64] Wx hx (by decide))
        by_cases t3 : bt s i = 64
        · rw [decide_eq_true (show bt s i ∈ [64] from (by rw [t3]; simp))] at S3
          rw [formA_atm t0 t2 t1]
          have CC := hide (fun Wx (hb : Below W.heap.size W Wx) hx hn => (output_any s i rb v L Wx hx hn (by omega) hs hi t3).mono (fun _ _ h => fmR_atm h))
          clear h hN hL hs hi ih t0 t1 t2 t3
          go_enter Tryz.func35, Tryz.ntmps35
          have K := hide (S0.out W HR.out)
          go_wp2_with fail
          refine K.out.mono ?_
          rintro e w1 ⟨rfl, hb⟩
          have B0 := hide (hb)
          clear hb K
          have K := hide (S1.out w1 (rd_below HR.out B0.out))
          go_wp2_with fail
          refine K.out.mono ?_
          rintro e w2 ⟨rfl, hb⟩
          have B1 := hide (below_step B0.out hb)
          clear hb K
          have K := hide (S2.out w2 (rd_below HR.out B1.out))
          go_wp2_with fail
          refine K.out.mono ?_
          rintro e w3 ⟨rfl, hb⟩
          have B2 := hide (below_step B1.out hb)
          clear hb K
          have K := hide (S3.out w3 (rd_below HR.out B2.out))
          go_wp2_with fail
          refine K.out.mono ?_
          rintro e w4 ⟨rfl, hb⟩
          have B3 := hide (below_step B2.out hb)
          clear hb K
          have K := hide (CC.out w4 B3.out (rd_below HR.out B3.out) (ndR_below HN.out B3.out))
          go_wp2_with fail
          refine K.out.mono ?_
          intro e w9 hf
          have HF := hide (HUP.out _ _ _ _ B3.out hf)
          rcases fmR_end hf with ⟨rfl, -⟩ | ⟨c, rfl⟩
          · clear hf K
            go_wp2
            exact bodyPost_end (v := .tuple #[]) (by simp [results, Tryz.results35]) rfl HF.out
          · exact ⟨rfl, HF.out⟩
        · rw [decide_eq_false (show ¬ bt s i ∈ [64] from (by simpa using t3))] at S3
          rw [formA_atm t0 t2 t1]
          have CC := hide (fun Wx (hb : Below W.heap.size W Wx) hx hn => (compared_any s i rb v L Wx hx hn (by omega) hs hi t3).mono (fun _ _ h => fmR_atm h))
          clear h hN hL hs hi ih t0 t1 t2 t3
          go_enter Tryz.func35, Tryz.ntmps35
          have K := hide (S0.out W HR.out)
          go_wp2_with fail
          refine K.out.mono ?_
          rintro e w1 ⟨rfl, hb⟩
          have B0 := hide (hb)
          clear hb K
          have K := hide (S1.out w1 (rd_below HR.out B0.out))
          go_wp2_with fail
          refine K.out.mono ?_
          rintro e w2 ⟨rfl, hb⟩
          have B1 := hide (below_step B0.out hb)
          clear hb K
          have K := hide (S2.out w2 (rd_below HR.out B1.out))
          go_wp2_with fail
          refine K.out.mono ?_
          rintro e w3 ⟨rfl, hb⟩
          have B2 := hide (below_step B1.out hb)
          clear hb K
          have K := hide (S3.out w3 (rd_below HR.out B2.out))
          go_wp2_with fail
          refine K.out.mono ?_
          rintro e w4 ⟨rfl, hb⟩
          have B3 := hide (below_step B2.out hb)
          clear hb K
          have K := hide (CC.out w4 B3.out (rd_below HR.out B3.out) (ndR_below HN.out B3.out))
          go_wp2_with fail
          refine K.out.mono ?_
          intro e w9 hf
          have HF := hide (HUP.out _ _ _ _ B3.out hf)
          rcases fmR_end hf with ⟨rfl, -⟩ | ⟨c, rfl⟩
          · clear hf K
            go_wp2
            exact bodyPost_end (v := .tuple #[]) (by simp [results, Tryz.results35]) rfl HF.out
          · exact ⟨rfl, HF.out⟩
theorem claim_any (s : List UInt8) (rb : Nat) (hs : s.length ≤ 2000) : ∀ (f i : Nat), i ≤ s.length → s.length - i < f → ClmS rb s f i := by
  intro f
  induction f with
  | zero => intro i _ h; omega
  | succ f ih => intro i hi hf; exact claim_step s rb f i hs hi (fun j h1 h2 => ih j h2 (by omega))
end Go.Proofs.YtafbggbdlcfbdaaGreatDoor
