/- 2 texts in one. -/
import Derived.Test.YtafbggbdlcfbdaaDoorZUl
import Derived.Test.YtafbggbdlcfbdaaDoorZWo
/- Package text: not, bound, from what claim does: contracts. -/
namespace Go.Proofs.YtafbggbdlcfbdaaDoor
open Go.RowKit

/-- What reading a claim does. -/
def FmR (W : World) (rb : Nat) (s : List UInt8) (L : List Nd) (o : Option (List Nd) × Nat) (e : Ending) (w' : World) : Prop := (∀ l, o.1 = some l → e = .returned (.tuple #[]) ∧ ∃ v, RdAt w' rb s o.2 v ∧ NdR rb w' v (L ++ l) ∧ Below rb W w') ∧ (o.1 = none → e = .panicked [{ v := stopV o.2, recovered := false }] ∧ Below rb W w')
/-- What claim does at a place. -/
def ClmS (rb : Nat) (s : List UInt8) (f i : Nat) : Prop := ∀ (v : Value) (L : List Nd) (W : World), RdAt W rb s i v → NdR rb W v L → L.length ≤ i → Calls Tryd.prog 20 #[.pointer (some ⟨rb, 0, none⟩)] W (FmR W rb s L (formA s f i))
theorem fmR_no {W w' : World} {rb : Nat} {s : List UInt8} {L : List Nd} {e : Nat} (hb : Below rb W w') : FmR W rb s L (none, e) (.panicked [{ v := stopV e, recovered := false }]) w' := ⟨(fun n h => by cases h), fun _ => ⟨rfl, hb⟩⟩
/-- A claim behind a node. -/
theorem fmR_cons {W W1 w' : World} {rb : Nat} {s : List UInt8} {L : List Nd} {n : Nd} {o : Option (List Nd) × Nat} {e : Ending} (h : FmR W1 rb s (L ++ [n]) o e w') (hb : Below rb W W1) : FmR W rb s L (o.1.map (fun x => n :: x), o.2) e w' := by
  refine ⟨fun l hl => ?_, fun hl => ?_⟩
  · cases ho : o.1 with
    | none => rw [ho] at hl; cases hl
    | some x =>
      rw [ho] at hl
      injection hl with hl
      subst hl
      obtain ⟨h1, v, h2, h3, h4⟩ := h.1 x ho
      exact ⟨h1, v, h2, by rw [List.append_assoc] at h3; exact h3, hb.trans h4⟩
  · cases ho : o.1 with
    | none => exact ⟨(h.2 ho).1, hb.trans (h.2 ho).2⟩
    | some x => rw [ho] at hl; cases hl
/-- A call that hands on what a claim's reading came to. -/
theorem fmR_end {W w' : World} {rb : Nat} {s : List UInt8} {L : List Nd} {o : Option (List Nd) × Nat} {e : Ending} (h : FmR W rb s L o e w') : (e = .returned (.tuple #[]) ∧ o.1 ≠ none) ∨ (∃ c, e = .panicked c) := by
  cases ho : o.1 with
  | none => exact .inr ⟨_, (h.2 ho).1⟩
  | some x => exact .inl ⟨(h.1 x ho).1, by simp⟩
set_option maxHeartbeats 16000000 in
set_option maxRecDepth 20000 in
theorem not_of (s : List UInt8) (i rb f : Nat) (v : Value) (L : List Nd) (W : World) (h : RdAt W rb s i v) (hN : NdR rb W v L) (hL : L.length ≤ i) (hs : s.length ≤ 2000) (hb : bt s i = 126) (HI : ClmS rb s f (i + 1)) :
    Calls Tryd.prog 33 #[.pointer (some ⟨rb, 0, none⟩)] W (FmR W rb s L ((formA s f (i + 1)).1.map (fun x => ⟨5, 0, 0, 0, 0, 0, []⟩ :: x), (formA s f (i + 1)).2)) := by
  have hi : i < s.length := bt_in (by rw [hb]; decide)
  have hrb := rd_lt h
  have HT := hide (take_ok s [126] i rb v W h (by decide) hs (by rw [hb]; simp))
  have HAD := hide (fun Wx (hx : RdAt Wx rb s (i + 1) v) (hb : But [rb] W Wx) => add_any s (i + 1) rb v L ⟨5, 0, 0, 0, 0, 0, []⟩ none 0 Wx hx (ndR_but hN hb) (by omega) (ndWf_op (v := 0) (by omega) (by omega)) (sl_none Wx) (fun x hx => absurd hx (slB_none _ _)))
  unfold ndV at HAD
  simp only [List.length_nil] at HAD
  have HCL := hide (fun v' Wx (hx : RdAt Wx rb s (i + 1) v') (hn : NdR rb Wx v' (L ++ [⟨5, 0, 0, 0, 0, 0, []⟩])) => HI v' _ Wx hx hn (by simp; omega))
  have HRB := hide hrb
  generalize formA s f (i + 1) = o at HCL ⊢
  clear h hN hL hs hb HI hi hrb
  go_enter Tryd.func33, Tryd.ntmps33
  go_wp2_with fail
  refine HT.out.mono ?_
  rintro e w1 ⟨rfl, hr, hb⟩
  have B1 := hide (hb.below (Nat.le_of_lt HRB.out) (by simp))
  have K1 := hide (HAD.out w1 hr hb)
  clear hr hb HT
  go_wp2_with fail
  refine K1.out.mono ?_
  rintro e w2 ⟨rfl, v2, hr, hn, hb⟩
  have B2 := hide (B1.out.trans hb)
  have K2 := hide (HCL.out v2 w2 hr hn)
  clear hr hn hb K1
  go_wp2_with fail
  refine K2.out.mono ?_
  intro e w3 hf
  have HF := hide (fmR_cons hf B2.out)
  rcases fmR_end hf with ⟨rfl, -⟩ | ⟨c, rfl⟩
  · clear hf K2
    go_wp2
    exact bodyPost_end (v := .tuple #[]) (by simp [results, Tryd.results33]) rfl HF.out
  · exact ⟨rfl, HF.out⟩
set_option maxHeartbeats 16000000 in
set_option maxRecDepth 20000 in
theorem bound_of (s : List UInt8) (i rb f : Nat) (v : Value) (L : List Nd) (W : World) (h : RdAt W rb s i v) (hN : NdR rb W v L) (hL : L.length ≤ i) (hs : s.length ≤ 2000) (hb : bt s i = 69 ∨ bt s i = 65) (HI : i + 3 ≤ s.length → ClmS rb s f (i + 3)) :
    Calls Tryd.prog 35 #[.pointer (some ⟨rb, 0, none⟩)] W (FmR W rb s L (if isLt (bt s (i + 1)) = true then if bt s (i + 2) = 58 then ((formA s f (i + 3)).1.map (fun x => ⟨if bt s i = 65 then 9 else 8, ((bt s (i + 1)).toNat - 97 : Nat), 0, 0, 0, 0, []⟩ :: x), (formA s f (i + 3)).2) else (none, i + 2) else (none, i + 1))) := by
  have hi : i < s.length := bt_in (by rcases hb with h | h <;> rw [h] <;> decide)
  have hrb := rd_lt h
  have HNE : Hid (W.heap.size ∉ [rb]) := by show ¬ _; simp; omega
  have HNF : Hid (rb ≠ W.heap.size) := by show _ ≠ _; omega
  have HT := hide (fun Wx (hx : RdAt Wx rb s i v) => take_ok s [69, 65] i rb v Wx hx (by decide) hs (by rcases hb with h | h <;> rw [h] <;> simp))
  have HTO := hide (fun Wx (hx : RdAt Wx rb s (i + 2) v) (hb : bt s (i + 2) = 58) => take_ok s [58] (i + 2) rb v Wx hx (by decide) hs (by rw [hb]; simp))
  have HTN := hide (fun Wx (hx : RdAt Wx rb s (i + 2) v) (hb : ¬ bt s (i + 2) = 58) => take_no s [58] (i + 2) rb v Wx hx (by decide) (by simpa using hb))
  have HVO := hide (fun Wx (hx : RdAt Wx rb s (i + 1) v) (hd : isLt (bt s (i + 1)) = true) => variable_ok s (i + 1) rb v Wx hx hs hd)
  have HVN := hide (fun Wx (hx : RdAt Wx rb s (i + 1) v) (hd : ¬ isLt (bt s (i + 1)) = true) => variable_no s (i + 1) rb v Wx hx hd)
  have HAD := hide (fun (op : Int) (q : Nat) (ho : 1 ≤ op ∧ op ≤ 9) (hq : q ≤ 1000) Wx (hx : RdAt Wx rb s (i + 3) v) (hb : But [rb] W Wx) => add_any s (i + 3) rb v L ⟨op, (q : Nat), 0, 0, 0, 0, []⟩ none 0 Wx hx (ndR_but hN hb) (by omega) (ndWf_op ho hq) (sl_none Wx) (fun x hx => absurd hx (slB_none _ _)))
  unfold ndV at HAD
  simp only [List.length_nil] at HAD
  have HCL := hide (fun (h3 : i + 3 ≤ s.length) n v' Wx (hx : RdAt Wx rb s (i + 3) v') (hn : NdR rb Wx v' (L ++ [n])) => HI h3 v' _ Wx hx hn (by simp; omega))
  have hBU := (But.refl [rb] W).alloc (.cells #[.int .i64 8, .int .i64 0, .int .i64 0, .int .i64 0, .int .i64 0, .int .i64 0, .slice none 0 0] 39)
  have hbx : Bx7 (W.alloc (.cells #[.int .i64 8, .int .i64 0, .int .i64 0, .int .i64 0, .int .i64 0, .int .i64 0, .slice none 0 0] 39)) W.heap.size (.int .i64 8) (.int .i64 0) (.int .i64 0) (.int .i64 0) (.int .i64 0) (.int .i64 0) (.slice none 0 0) := heap_alloc_last W _
  have hra := rd_below h ((Below.refl W.heap.size W).alloc (Nat.le_refl _) (.cells #[.int .i64 8, .int .i64 0, .int .i64 0, .int .i64 0, .int .i64 0, .int .i64 0, .slice none 0 0] 39))
  have HBU := hide hBU
  have HBX := hide hbx
  have HRA := hide hra
  have HRB := hide hrb
  have HOP : Hid (∃ op : Int, (op = 8 ∨ op = 9) ∧ op = (if bt s i = 65 then 9 else 8) ∧ ((bt s i).toNat == 65) = decide (op = 9)) := by
    by_cases h : bt s i = 65
    · exact ⟨9, .inr rfl, (by rw [if_pos h]), (by rw [h]; rfl)⟩
    · exact ⟨8, .inl rfl, (by rw [if_neg h]), (by have hh : ¬ (bt s i).toNat = 65 := (fun e => h (UInt8.toNat_inj.1 e)); simp [hh])⟩
  obtain ⟨op, ho1, ho2, ho3⟩ := HOP.out
  rw [← ho2]
  have ho4 : (((bt s i).toNat : Int) == 65) = decide (op = 9) := by rw [← ho3]; exact Bool.eq_iff_iff.2 (by simp only [beq_iff_eq]; omega)
  generalize (bt s i).toNat = cc at HT ho4
  generalize formA s f (i + 3) = o at HCL ⊢
  clear h hN hL hs hb HI hi hrb hBU hbx hra ho2 ho3 HOP
  by_cases k1 : isLt (bt s (i + 1)) = true
  · rw [if_pos k1]
    have C1 := hide (fun Wx hx => HVO.out Wx hx k1)
    have hq : (bt s (i + 1)).toNat - 97 < 5 := by have := lt_bd k1; omega
    generalize (bt s (i + 1)).toNat - 97 = q at C1 hq ⊢
    by_cases k2 : bt s (i + 2) = 58
    · rw [if_pos k2]
      have C2 := hide (fun Wx hx => HTO.out Wx hx k2)
      have H3 : Hid (i + 3 ≤ s.length) := bt_in (s := s) (i := i + 2) (by rw [k2]; decide)
      rcases ho1 with rfl | rfl
      · skip
        go_enter Tryd.func35, Tryd.ntmps35
        go_wp2_with fail
        generalize hWa : W.alloc (.cells #[.int .i64 8, .int .i64 0, .int .i64 0, .int .i64 0, .int .i64 0, .int .i64 0, .slice none 0 0] 39) = Wa at HBU HBX HRA ⊢
        clear hWa
        have K1 := hide (HT.out Wa HRA.out)
        refine K1.out.mono ?_
        rintro e w2 ⟨rfl, hr, hb⟩
        have HB2 := hide (HBU.out.trans hb)
        have HX2 := hide (bx7_but HBX.out hb HNE.out)
        have HR2 := hide hr
        clear hr hb K1 HBU HBX HRA HT
        have HX3 := hide HX2.out
        have HR3 := hide HR2.out
        have HB3 := hide HB2.out
        clear HX2 HR2 HB2
        have K2 := hide (C1.out w2 HR3.out)
        go_wp2_with fail
        refine K2.out.mono ?_
        rintro e w4 ⟨rfl, hr, hb⟩
        have hx := bx7_but HX3.out hb HNE.out
        obtain ⟨⟨p0, p1, p2, p3, p4, p5, p6⟩, -⟩ := box7_cells hx
        obtain ⟨f0, f1, f2, f3, f4, f5, f6⟩ := box7_froz hx
        have HX5 : Hid (Bx7 (w4.setCell ⟨W.heap.size, 1, none⟩ (.int .i64 (q : Int))) W.heap.size (.int .i64 8) (.int .i64 (q : Int)) (.int .i64 0) (.int .i64 0) (.int .i64 0) (.int .i64 0) (.slice none 0 0)) := heap_setCell_at (k := 1) (v := .int .i64 (q : Int)) hx
        have HR5 := hide (rd_set hr (p := ⟨W.heap.size, 1, none⟩) HNF.out (.int .i64 (q : Int)))
        have HB5 := hide ((HB3.out.trans hb).set (p := ⟨W.heap.size, 1, none⟩) (.inr (Nat.le_refl _)) (.int .i64 (q : Int)))
        clear hr hb hx K2 HX3 HR3 HB3
        generalize hW5 : w4.setCell ⟨W.heap.size, 1, none⟩ (.int .i64 (q : Int)) = W5 at HX5 HR5 HB5
        have K3 := hide (C2.out W5 HR5.out)
        go_wp2_with fail
        clear p0 p1 p2 p3 p4 p5 p6 f0 f1 f2 f3 f4 f5 f6 hW5
        refine K3.out.mono ?_
        rintro e w6 ⟨rfl, hr, hb⟩
        have HX6 := hide (bx7_but HX5.out hb HNE.out)
        have HB6 := hide (HB5.out.trans hb)
        have B6 := hide (HB6.out.below (Nat.le_of_lt HRB.out) (by simp))
        have K4 := hide (HAD.out 8 q (by omega) (by omega) w6 hr HB6.out)
        clear hr hb K3 HX5 HR5 HB5
        obtain ⟨⟨p0, p1, p2, p3, p4, p5, p6⟩, -⟩ := box7_cells HX6.out
        go_wp2_with fail
        clear p0 p1 p2 p3 p4 p5 p6
        refine K4.out.mono ?_
        rintro e w7 ⟨rfl, v7, hr, hn, hb⟩
        have B7 := hide (B6.out.trans hb)
        have K5 := hide (HCL.out H3.out _ v7 w7 hr hn)
        clear hr hn hb K4 HX6 HB6 B6
        go_wp2_with fail
        refine K5.out.mono ?_
        intro e w8 hf
        have HF := hide (fmR_cons hf B7.out)
        rcases fmR_end hf with ⟨rfl, -⟩ | ⟨c, rfl⟩
        · clear hf K5
          go_wp2
          exact bodyPost_end (v := .tuple #[]) (by simp [results, Tryd.results35]) rfl HF.out
        · exact ⟨rfl, HF.out⟩
      · skip
        go_enter Tryd.func35, Tryd.ntmps35
        go_wp2_with fail
        generalize hWa : W.alloc (.cells #[.int .i64 8, .int .i64 0, .int .i64 0, .int .i64 0, .int .i64 0, .int .i64 0, .slice none 0 0] 39) = Wa at HBU HBX HRA ⊢
        clear hWa
        have K1 := hide (HT.out Wa HRA.out)
        refine K1.out.mono ?_
        rintro e w2 ⟨rfl, hr, hb⟩
        have HB2 := hide (HBU.out.trans hb)
        have HX2 := hide (bx7_but HBX.out hb HNE.out)
        have HR2 := hide hr
        clear hr hb K1 HBU HBX HRA HT
        obtain ⟨⟨p0, p1, p2, p3, p4, p5, p6⟩, -⟩ := box7_cells HX2.out
        obtain ⟨f0, f1, f2, f3, f4, f5, f6⟩ := box7_froz HX2.out
        have HX3 : Hid (Bx7 (w2.setCell ⟨W.heap.size, 0, none⟩ (.int .i64 9)) W.heap.size (.int .i64 9) (.int .i64 0) (.int .i64 0) (.int .i64 0) (.int .i64 0) (.int .i64 0) (.slice none 0 0)) := heap_setCell_at (k := 0) (v := .int .i64 9) HX2.out
        have HR3 := hide (rd_set HR2.out (p := ⟨W.heap.size, 0, none⟩) HNF.out (.int .i64 9))
        have HB3 := hide (HB2.out.set (p := ⟨W.heap.size, 0, none⟩) (.inr (Nat.le_refl _)) (.int .i64 9))
        clear HX2 HR2 HB2
        generalize hW3 : w2.setCell ⟨W.heap.size, 0, none⟩ (.int .i64 9) = W3 at HX3 HR3 HB3
        have K2 := hide (C1.out W3 HR3.out)
        go_wp2_with fail
        clear p0 p1 p2 p3 p4 p5 p6 f0 f1 f2 f3 f4 f5 f6 hW3
        refine K2.out.mono ?_
        rintro e w4 ⟨rfl, hr, hb⟩
        have hx := bx7_but HX3.out hb HNE.out
        obtain ⟨⟨p0, p1, p2, p3, p4, p5, p6⟩, -⟩ := box7_cells hx
        obtain ⟨f0, f1, f2, f3, f4, f5, f6⟩ := box7_froz hx
        have HX5 : Hid (Bx7 (w4.setCell ⟨W.heap.size, 1, none⟩ (.int .i64 (q : Int))) W.heap.size (.int .i64 9) (.int .i64 (q : Int)) (.int .i64 0) (.int .i64 0) (.int .i64 0) (.int .i64 0) (.slice none 0 0)) := heap_setCell_at (k := 1) (v := .int .i64 (q : Int)) hx
        have HR5 := hide (rd_set hr (p := ⟨W.heap.size, 1, none⟩) HNF.out (.int .i64 (q : Int)))
        have HB5 := hide ((HB3.out.trans hb).set (p := ⟨W.heap.size, 1, none⟩) (.inr (Nat.le_refl _)) (.int .i64 (q : Int)))
        clear hr hb hx K2 HX3 HR3 HB3
        generalize hW5 : w4.setCell ⟨W.heap.size, 1, none⟩ (.int .i64 (q : Int)) = W5 at HX5 HR5 HB5
        have K3 := hide (C2.out W5 HR5.out)
        go_wp2_with fail
        clear p0 p1 p2 p3 p4 p5 p6 f0 f1 f2 f3 f4 f5 f6 hW5
        refine K3.out.mono ?_
        rintro e w6 ⟨rfl, hr, hb⟩
        have HX6 := hide (bx7_but HX5.out hb HNE.out)
        have HB6 := hide (HB5.out.trans hb)
        have B6 := hide (HB6.out.below (Nat.le_of_lt HRB.out) (by simp))
        have K4 := hide (HAD.out 9 q (by omega) (by omega) w6 hr HB6.out)
        clear hr hb K3 HX5 HR5 HB5
        obtain ⟨⟨p0, p1, p2, p3, p4, p5, p6⟩, -⟩ := box7_cells HX6.out
        go_wp2_with fail
        clear p0 p1 p2 p3 p4 p5 p6
        refine K4.out.mono ?_
        rintro e w7 ⟨rfl, v7, hr, hn, hb⟩
        have B7 := hide (B6.out.trans hb)
        have K5 := hide (HCL.out H3.out _ v7 w7 hr hn)
        clear hr hn hb K4 HX6 HB6 B6
        go_wp2_with fail
        refine K5.out.mono ?_
        intro e w8 hf
        have HF := hide (fmR_cons hf B7.out)
        rcases fmR_end hf with ⟨rfl, -⟩ | ⟨c, rfl⟩
        · clear hf K5
          go_wp2
          exact bodyPost_end (v := .tuple #[]) (by simp [results, Tryd.results35]) rfl HF.out
        · exact ⟨rfl, HF.out⟩
    · rw [if_neg k2]
      have C2 := hide (fun Wx hx => HTN.out Wx hx k2)
      rcases ho1 with rfl | rfl
      · skip
        go_enter Tryd.func35, Tryd.ntmps35
        go_wp2_with fail
        generalize hWa : W.alloc (.cells #[.int .i64 8, .int .i64 0, .int .i64 0, .int .i64 0, .int .i64 0, .int .i64 0, .slice none 0 0] 39) = Wa at HBU HBX HRA ⊢
        clear hWa
        have K1 := hide (HT.out Wa HRA.out)
        refine K1.out.mono ?_
        rintro e w2 ⟨rfl, hr, hb⟩
        have HB2 := hide (HBU.out.trans hb)
        have HX2 := hide (bx7_but HBX.out hb HNE.out)
        have HR2 := hide hr
        clear hr hb K1 HBU HBX HRA HT
        have HX3 := hide HX2.out
        have HR3 := hide HR2.out
        have HB3 := hide HB2.out
        clear HX2 HR2 HB2
        have K2 := hide (C1.out w2 HR3.out)
        go_wp2_with fail
        refine K2.out.mono ?_
        rintro e w4 ⟨rfl, hr, hb⟩
        have hx := bx7_but HX3.out hb HNE.out
        obtain ⟨⟨p0, p1, p2, p3, p4, p5, p6⟩, -⟩ := box7_cells hx
        obtain ⟨f0, f1, f2, f3, f4, f5, f6⟩ := box7_froz hx
        have HX5 : Hid (Bx7 (w4.setCell ⟨W.heap.size, 1, none⟩ (.int .i64 (q : Int))) W.heap.size (.int .i64 8) (.int .i64 (q : Int)) (.int .i64 0) (.int .i64 0) (.int .i64 0) (.int .i64 0) (.slice none 0 0)) := heap_setCell_at (k := 1) (v := .int .i64 (q : Int)) hx
        have HR5 := hide (rd_set hr (p := ⟨W.heap.size, 1, none⟩) HNF.out (.int .i64 (q : Int)))
        have HB5 := hide ((HB3.out.trans hb).set (p := ⟨W.heap.size, 1, none⟩) (.inr (Nat.le_refl _)) (.int .i64 (q : Int)))
        clear hr hb hx K2 HX3 HR3 HB3
        generalize hW5 : w4.setCell ⟨W.heap.size, 1, none⟩ (.int .i64 (q : Int)) = W5 at HX5 HR5 HB5
        have K3 := hide (C2.out W5 HR5.out)
        go_wp2_with fail
        clear p0 p1 p2 p3 p4 p5 p6 f0 f1 f2 f3 f4 f5 f6 hW5
        refine K3.out.mono ?_
        rintro e w6 ⟨rfl, hb⟩
        exact ⟨rfl, fmR_no ((HB5.out.trans (But.of_below hb)).below (Nat.le_of_lt HRB.out) (by simp))⟩
      · skip
        go_enter Tryd.func35, Tryd.ntmps35
        go_wp2_with fail
        generalize hWa : W.alloc (.cells #[.int .i64 8, .int .i64 0, .int .i64 0, .int .i64 0, .int .i64 0, .int .i64 0, .slice none 0 0] 39) = Wa at HBU HBX HRA ⊢
        clear hWa
        have K1 := hide (HT.out Wa HRA.out)
        refine K1.out.mono ?_
        rintro e w2 ⟨rfl, hr, hb⟩
        have HB2 := hide (HBU.out.trans hb)
        have HX2 := hide (bx7_but HBX.out hb HNE.out)
        have HR2 := hide hr
        clear hr hb K1 HBU HBX HRA HT
        obtain ⟨⟨p0, p1, p2, p3, p4, p5, p6⟩, -⟩ := box7_cells HX2.out
        obtain ⟨f0, f1, f2, f3, f4, f5, f6⟩ := box7_froz HX2.out
        have HX3 : Hid (Bx7 (w2.setCell ⟨W.heap.size, 0, none⟩ (.int .i64 9)) W.heap.size (.int .i64 9) (.int .i64 0) (.int .i64 0) (.int .i64 0) (.int .i64 0) (.int .i64 0) (.slice none 0 0)) := heap_setCell_at (k := 0) (v := .int .i64 9) HX2.out
        have HR3 := hide (rd_set HR2.out (p := ⟨W.heap.size, 0, none⟩) HNF.out (.int .i64 9))
        have HB3 := hide (HB2.out.set (p := ⟨W.heap.size, 0, none⟩) (.inr (Nat.le_refl _)) (.int .i64 9))
        clear HX2 HR2 HB2
        generalize hW3 : w2.setCell ⟨W.heap.size, 0, none⟩ (.int .i64 9) = W3 at HX3 HR3 HB3
        have K2 := hide (C1.out W3 HR3.out)
        go_wp2_with fail
        clear p0 p1 p2 p3 p4 p5 p6 f0 f1 f2 f3 f4 f5 f6 hW3
        refine K2.out.mono ?_
        rintro e w4 ⟨rfl, hr, hb⟩
        have hx := bx7_but HX3.out hb HNE.out
        obtain ⟨⟨p0, p1, p2, p3, p4, p5, p6⟩, -⟩ := box7_cells hx
        obtain ⟨f0, f1, f2, f3, f4, f5, f6⟩ := box7_froz hx
        have HX5 : Hid (Bx7 (w4.setCell ⟨W.heap.size, 1, none⟩ (.int .i64 (q : Int))) W.heap.size (.int .i64 9) (.int .i64 (q : Int)) (.int .i64 0) (.int .i64 0) (.int .i64 0) (.int .i64 0) (.slice none 0 0)) := heap_setCell_at (k := 1) (v := .int .i64 (q : Int)) hx
        have HR5 := hide (rd_set hr (p := ⟨W.heap.size, 1, none⟩) HNF.out (.int .i64 (q : Int)))
        have HB5 := hide ((HB3.out.trans hb).set (p := ⟨W.heap.size, 1, none⟩) (.inr (Nat.le_refl _)) (.int .i64 (q : Int)))
        clear hr hb hx K2 HX3 HR3 HB3
        generalize hW5 : w4.setCell ⟨W.heap.size, 1, none⟩ (.int .i64 (q : Int)) = W5 at HX5 HR5 HB5
        have K3 := hide (C2.out W5 HR5.out)
        go_wp2_with fail
        clear p0 p1 p2 p3 p4 p5 p6 f0 f1 f2 f3 f4 f5 f6 hW5
        refine K3.out.mono ?_
        rintro e w6 ⟨rfl, hb⟩
        exact ⟨rfl, fmR_no ((HB5.out.trans (But.of_below hb)).below (Nat.le_of_lt HRB.out) (by simp))⟩
  · rw [if_neg k1]
    have C1 := hide (fun Wx hx => HVN.out Wx hx k1)
    rcases ho1 with rfl | rfl
    · skip
      go_enter Tryd.func35, Tryd.ntmps35
      go_wp2_with fail
      generalize hWa : W.alloc (.cells #[.int .i64 8, .int .i64 0, .int .i64 0, .int .i64 0, .int .i64 0, .int .i64 0, .slice none 0 0] 39) = Wa at HBU HBX HRA ⊢
      clear hWa
      have K1 := hide (HT.out Wa HRA.out)
      refine K1.out.mono ?_
      rintro e w2 ⟨rfl, hr, hb⟩
      have HB2 := hide (HBU.out.trans hb)
      have HX2 := hide (bx7_but HBX.out hb HNE.out)
      have HR2 := hide hr
      clear hr hb K1 HBU HBX HRA HT
      have HX3 := hide HX2.out
      have HR3 := hide HR2.out
      have HB3 := hide HB2.out
      clear HX2 HR2 HB2
      have K2 := hide (C1.out w2 HR3.out)
      go_wp2_with fail
      refine K2.out.mono ?_
      rintro e w4 ⟨rfl, hb⟩
      exact ⟨rfl, fmR_no ((HB3.out.trans (But.of_below hb)).below (Nat.le_of_lt HRB.out) (by simp))⟩
    · skip
      go_enter Tryd.func35, Tryd.ntmps35
      go_wp2_with fail
      generalize hWa : W.alloc (.cells #[.int .i64 8, .int .i64 0, .int .i64 0, .int .i64 0, .int .i64 0, .int .i64 0, .slice none 0 0] 39) = Wa at HBU HBX HRA ⊢
      clear hWa
      have K1 := hide (HT.out Wa HRA.out)
      refine K1.out.mono ?_
      rintro e w2 ⟨rfl, hr, hb⟩
      have HB2 := hide (HBU.out.trans hb)
      have HX2 := hide (bx7_but HBX.out hb HNE.out)
      have HR2 := hide hr
      clear hr hb K1 HBU HBX HRA HT
      obtain ⟨⟨p0, p1, p2, p3, p4, p5, p6⟩, -⟩ := box7_cells HX2.out
      obtain ⟨f0, f1, f2, f3, f4, f5, f6⟩ := box7_froz HX2.out
      have HX3 : Hid (Bx7 (w2.setCell ⟨W.heap.size, 0, none⟩ (.int .i64 9)) W.heap.size (.int .i64 9) (.int .i64 0) (.int .i64 0) (.int .i64 0) (.int .i64 0) (.int .i64 0) (.slice none 0 0)) := heap_setCell_at (k := 0) (v := .int .i64 9) HX2.out
      have HR3 := hide (rd_set HR2.out (p := ⟨W.heap.size, 0, none⟩) HNF.out (.int .i64 9))
      have HB3 := hide (HB2.out.set (p := ⟨W.heap.size, 0, none⟩) (.inr (Nat.le_refl _)) (.int .i64 9))
      clear HX2 HR2 HB2
      generalize hW3 : w2.setCell ⟨W.heap.size, 0, none⟩ (.int .i64 9) = W3 at HX3 HR3 HB3
      have K2 := hide (C1.out W3 HR3.out)
      go_wp2_with fail
      clear p0 p1 p2 p3 p4 p5 p6 f0 f1 f2 f3 f4 f5 f6 hW3
      refine K2.out.mono ?_
      rintro e w4 ⟨rfl, hb⟩
      exact ⟨rfl, fmR_no ((HB3.out.trans (But.of_below hb)).below (Nat.le_of_lt HRB.out) (by simp))⟩
end Go.Proofs.YtafbggbdlcfbdaaDoor

/- Package text: both, from what claim does: contract. -/
namespace Go.Proofs.YtafbggbdlcfbdaaDoor
open Go.RowKit

theorem ndR_form {rb : Nat} {W : World} {v : Value} {L : List Nd} (h : NdR rb W v L) : ∃ a c, v = .slice a L.length c := by
  obtain ⟨vals, h1, -⟩ := h
  rcases h1.2 with ⟨e, h0⟩ | ⟨g, cap, cur, e, -⟩
  · exact ⟨none, 0, by rw [e, h0]⟩
  · exact ⟨_, cap, e⟩
/-- The kind of a node that is there is put down anew. -/
theorem ndR_op {rb : Nat} {W : World} {v : Value} {L1 L2 : List Nd} {m : Nd} (h : NdR rb W v (L1 ++ m :: L2)) (op : Int) (hw : ndWf { m with op := op }) : ∃ g cap, v = .slice (some ⟨g, 0, none⟩) (L1 ++ m :: L2).length cap ∧ rb < g ∧ (∃ u, W.cell? ⟨g, L1.length * 7, none⟩ = some u) ∧ W.frozen? ⟨g, L1.length * 7, none⟩ = false ∧ NdR rb (W.setCell ⟨g, L1.length * 7, none⟩ (.int .i64 op)) v (L1 ++ { m with op := op } :: L2) := by
  obtain ⟨vals, h1, h2, h3⟩ := h
  have hlen : (L1 ++ m :: L2).length = L1.length + (L2.length + 1) := by simp
  rcases h1.2 with ⟨e, h0⟩ | ⟨g, cap, cur, e, hg, hh, hc, hcm, hcs, ht⟩
  · omega
  · have hvl := h1.1
    have hpos : L1.length * 7 < cur.size := by omega
    refine ⟨g, cap, e, by omega, ⟨cur[L1.length * 7], ?_⟩, by simp [World.frozen?, hh], ?_⟩
    · rw [cell_of_row W g (L1.length * 7) cur 39 (0, 0) hh, Array.getElem?_eq_getElem hpos]
    · have hset := heap_setCell_at (k := L1.length * 7) (v := .int .i64 op) hh
      refine ⟨vals.set (L1.length * 7) (.int .i64 op), ⟨by rw [List.length_set, hvl]; simp, .inr ⟨g, cap, _, by rw [e]; simp, hg, hset, by simp at hc ⊢; omega, hcm, by simpa using hcs, ?_⟩⟩, fun n hn => ?_, fun j hj => ?_⟩
      · rw [Array.toList_setIfInBounds, List.take_set, ← ht]
        simp
      · rcases List.mem_append.1 hn with hn | hn
        · exact h2 n (List.mem_append.2 (.inl hn))
        · rcases List.mem_cons.1 hn with rfl | hn
          · exact hw
          · exact h2 n (List.mem_append.2 (.inr (List.mem_cons.2 (.inr hn))))
      · obtain ⟨a, c, e1, e2, e3⟩ := h3 j (by simpa using hj)
        have hcf : ((L1 ++ { m with op := op } :: L2).getD j zNd).cf = ((L1 ++ m :: L2).getD j zNd).cf := by
          simp only [List.getD_eq_getElem?_getD]
          by_cases q : j < L1.length
          · rw [List.getElem?_append_left q, List.getElem?_append_left q]
          · rw [List.getElem?_append_right (by omega), List.getElem?_append_right (by omega)]
            cases j - L1.length with
            | zero => rfl
            | succ k => rfl
        rw [hcf]
        refine ⟨a, c, fun i hi => ?_, sl_keep e2 (fun x hx => Below.heap_setCell _ _ _ _ (fun eq => (e3 x hx).2 (by rw [e]; simp [Value.ownBlock]; exact eq.symm))), fun x hx => ?_⟩
        · rw [List.getElem?_set]
          by_cases q : j = L1.length
          · subst q
            have en : (L1 ++ m :: L2).getD L1.length zNd = m := by simp [List.getD]
            have en2 : (L1 ++ { m with op := op } :: L2).getD L1.length zNd = { m with op := op } := by simp [List.getD]
            have e1 := e1 i hi
            rw [en] at e1
            rw [en2]
            by_cases q0 : i = 0
            · subst q0
              rw [if_pos (by omega), if_pos (by omega)]
              rfl
            · rw [if_neg (by omega), e1]
              obtain ⟨k, rfl⟩ : ∃ k, i = k + 1 := ⟨i - 1, by omega⟩
              rfl
          · rw [if_neg (by omega), e1 i hi]
            have en : (L1 ++ { m with op := op } :: L2).getD j zNd = (L1 ++ m :: L2).getD j zNd := by
              simp only [List.getD_eq_getElem?_getD]
              by_cases q' : j < L1.length
              · rw [List.getElem?_append_left q', List.getElem?_append_left q']
              · rw [List.getElem?_append_right (by omega), List.getElem?_append_right (by omega)]
                obtain ⟨k, hk⟩ : ∃ k, j - L1.length = k + 1 := ⟨j - L1.length - 1, by omega⟩
                rw [hk]
                rfl
            rw [en]
        · exact e3 x hx
/-- Two claims. -/
def bothA (s : List UInt8) (f i : Nat) : Option (List Nd) × Nat :=
      match formA s f (i + 1) with
      | (none, e) => (none, e)
      | (some x, e) =>
        if bt s e = 124 ∨ bt s e = 38 then
          match formA s f (e + 1) with
          | (none, e2) => (none, e2)
          | (some y, e2) => if bt s e2 = 41 then (some (⟨if bt s e = 124 then 7 else 6, 0, 0, 0, 0, 0, []⟩ :: (x ++ y)), e2 + 1) else (none, e2)
        else (none, e)
set_option maxHeartbeats 16000000 in
set_option maxRecDepth 20000 in
theorem both_of (s : List UInt8) (i rb f : Nat) (v : Value) (L : List Nd) (W : World) (h : RdAt W rb s i v) (hN : NdR rb W v L) (hL : L.length ≤ i) (hs : s.length ≤ 2000) (hb : bt s i = 40) (HI : ∀ j, i < j → j ≤ s.length → ClmS rb s f j) :
    Calls Tryd.prog 34 #[.pointer (some ⟨rb, 0, none⟩)] W (FmR W rb s L (bothA s f i)) := by
  have hi : i < s.length := bt_in (by rw [hb]; decide)
  have hrb := rd_lt h
  obtain ⟨a0, c0, rfl⟩ := ndR_form hN
  have HT := hide (take_ok s [40] i rb _ W h (by decide) hs (by rw [hb]; simp))
  have HAD := hide (fun Wx (hx : RdAt Wx rb s (i + 1) (.slice a0 L.length c0)) (hb : But [rb] W Wx) => add_any s (i + 1) rb _ L ⟨6, 0, 0, 0, 0, 0, []⟩ none 0 Wx hx (ndR_but hN hb) (by omega) (ndWf_op (v := 0) (by omega) (by omega)) (sl_none Wx) (fun x hx => absurd hx (slB_none _ _)))
  unfold ndV at HAD
  simp only [List.length_nil] at HAD
  have HCL := hide (fun v' Wx (hx : RdAt Wx rb s (i + 1) v') (hn : NdR rb Wx v' (L ++ [⟨6, 0, 0, 0, 0, 0, []⟩])) => HI (i + 1) (by omega) hi v' _ Wx hx hn (by simp; omega))
  have HRB := hide hrb
  have hb1 := formA_bd s f (i + 1) hi
  have hl1 := formA_len s f (i + 1) hi
  unfold bothA
  generalize formA s f (i + 1) = o1 at HCL hb1 hl1 ⊢
  obtain ⟨o1x, e1⟩ := o1
  simp only [] at hb1 hl1
  rcases o1x with _ | x
  · clear h hN hL hs hb HI hi hrb hb1 hl1
    simp only []
    go_enter Tryd.func34, Tryd.ntmps34
    go_wp2_with fail
    refine HT.out.mono ?_
    rintro e w1 ⟨rfl, hr, hb⟩
    obtain ⟨⟨c0, c1, c2⟩, -⟩ := rd_cells hr
    have B1 := hide (hb.below (Nat.le_of_lt HRB.out) (by simp))
    have K1 := hide (HAD.out w1 hr hb)
    clear hr hb HT
    go_wp2_with fail
    clear c0 c1 c2
    refine K1.out.mono ?_
    rintro e w2 ⟨rfl, v2, hr, hn, hb⟩
    have B2 := hide (B1.out.trans hb)
    have K2 := hide (HCL.out v2 w2 hr hn)
    clear hr hn hb K1 B1
    go_wp2_with fail
    refine K2.out.mono ?_
    intro e w3 hf
    obtain ⟨rfl, hb⟩ := hf.2 rfl
    exact ⟨rfl, fmR_no (B2.out.trans hb)⟩
  · have hx1 := hl1 x rfl
    simp only [] at hx1 ⊢
    have HTO := hide (fun v Wx (hx : RdAt Wx rb s e1 v) (hb : bt s e1 = 124 ∨ bt s e1 = 38) => take_ok s [38, 124] e1 rb v Wx hx (by decide) hs (by rcases hb with hb | hb <;> rw [hb] <;> simp))
    have HTN := hide (fun v Wx (hx : RdAt Wx rb s e1 v) (hb : ¬ (bt s e1 = 124 ∨ bt s e1 = 38)) => take_no s [38, 124] e1 rb v Wx hx (by decide) (by simp only [List.mem_cons, List.not_mem_nil, or_false]; exact fun h => hb (h.elim .inr .inl)))
    by_cases k2 : bt s e1 = 124 ∨ bt s e1 = 38
    · rw [if_pos k2]
      have he1 : e1 < s.length := bt_in (by rcases k2 with h | h <;> rw [h] <;> decide)
      have C2 := hide (fun v Wx hx => HTO.out v Wx hx k2)
      have HC3 := hide (fun (op : Int) v' Wx (hx : RdAt Wx rb s (e1 + 1) v') (hn : NdR rb Wx v' (L ++ ⟨op, 0, 0, 0, 0, 0, []⟩ :: x)) => HI (e1 + 1) (by omega) he1 v' _ Wx hx hn (by simp; omega))
      have HOP : Hid (∃ op : Int, (op = 6 ∨ op = 7) ∧ op = (if bt s e1 = 124 then 7 else 6) ∧ ((bt s e1).toNat == 124) = decide (op = 7)) := by
        by_cases h : bt s e1 = 124
        · exact ⟨7, .inr rfl, (by rw [if_pos h]), (by rw [h]; rfl)⟩
        · exact ⟨6, .inl rfl, (by rw [if_neg h]), (by have hh : ¬ (bt s e1).toNat = 124 := (fun e => h (UInt8.toNat_inj.1 e)); simp [hh])⟩
      obtain ⟨op, ho1, ho2, ho3⟩ := HOP.out
      rw [← ho2]
      have ho4 : (((bt s e1).toNat : Int) == 124) = decide (op = 7) := by rw [← ho3]; exact Bool.eq_iff_iff.2 (by simp only [beq_iff_eq]; omega)
      generalize (bt s e1).toNat = cc at C2 ho4
      have hb2 := formA_bd s f (e1 + 1) he1
      generalize formA s f (e1 + 1) = o2 at HC3 hb2 ⊢
      obtain ⟨o2x, e2⟩ := o2
      simp only [] at hb2
      have HTP := hide (fun v Wx (hx : RdAt Wx rb s e2 v) (hb : bt s e2 = 41) => take_ok s [41] e2 rb v Wx hx (by decide) hs (by rw [hb]; simp))
      have HTQ := hide (fun v Wx (hx : RdAt Wx rb s e2 v) (hb : ¬ bt s e2 = 41) => take_no s [41] e2 rb v Wx hx (by decide) (by simpa using hb))
      have HLN : Hid ((L.length : Int) < ((L ++ ⟨6, 0, 0, 0, 0, 0, []⟩ :: x).length : Int) ∧ 0 ≤ (L.length : Int) ∧ (L.length : Int) < 2000) := by
        refine ⟨?_, ?_, ?_⟩
        · simp; omega
        · omega
        · omega
      clear h hN hL hs hb HI hi hrb hb1 hl1 hx1 ho2 ho3 HOP HTO HTN k2
      rcases ho1 with rfl | rfl
      · rcases o2x with _ | y
        · simp only []
          go_enter Tryd.func34, Tryd.ntmps34
          go_wp2_with fail
          refine HT.out.mono ?_
          rintro e w1 ⟨rfl, hr, hb⟩
          obtain ⟨⟨c0, c1, c2⟩, -⟩ := rd_cells hr
          have B1 := hide (hb.below (Nat.le_of_lt HRB.out) (by simp))
          have K1 := hide (HAD.out w1 hr hb)
          clear hr hb HT
          go_wp2_with fail
          clear c0 c1 c2
          refine K1.out.mono ?_
          rintro e w2 ⟨rfl, v2, hr, hn, hb⟩
          have B2 := hide (B1.out.trans hb)
          have K2 := hide (HCL.out v2 w2 hr hn)
          clear hr hn hb K1 B1
          go_wp2_with fail
          refine K2.out.mono ?_
          intro e w3 hf
          obtain ⟨rfl, v3, hr, hn, hb⟩ := hf.1 x rfl
          have hn : NdR rb w3 v3 (L ++ ⟨6, 0, 0, 0, 0, 0, []⟩ :: x) := by rw [List.append_assoc] at hn; exact hn
          have B3 := hide (B2.out.trans hb)
          have N3 := hide hn
          have R3 := hide hr
          have K3 := hide (C2.out v3 w3 hr)
          have HRB3 := hide (rd_lt hr)
          clear hr hn hb hf K2 B2 HRB
          go_wp2_with fail
          refine K3.out.mono ?_
          rintro e w4 ⟨rfl, hr, hb⟩
          have B4 := hide (B3.out.trans (hb.below (Nat.le_of_lt HRB3.out) (by simp)))
          have N4 := hide (ndR_but N3.out hb)
          have R4 := hide hr
          clear hr hb K3 B3 N3 R3
          have K4 := hide (HC3.out 6 v3 w4 R4.out N4.out)
          go_wp2_with fail
          refine K4.out.mono ?_
          intro e w6 hf
          have B5 := hide B4.out
          obtain ⟨rfl, hb⟩ := hf.2 rfl
          exact ⟨rfl, fmR_no (B5.out.trans hb)⟩
        · simp only []
          by_cases k5 : bt s e2 = 41
          · rw [if_pos k5]
            have C5 := hide (fun v Wx hx => HTP.out v Wx hx k5)
            go_enter Tryd.func34, Tryd.ntmps34
            go_wp2_with fail
            refine HT.out.mono ?_
            rintro e w1 ⟨rfl, hr, hb⟩
            obtain ⟨⟨c0, c1, c2⟩, -⟩ := rd_cells hr
            have B1 := hide (hb.below (Nat.le_of_lt HRB.out) (by simp))
            have K1 := hide (HAD.out w1 hr hb)
            clear hr hb HT
            go_wp2_with fail
            clear c0 c1 c2
            refine K1.out.mono ?_
            rintro e w2 ⟨rfl, v2, hr, hn, hb⟩
            have B2 := hide (B1.out.trans hb)
            have K2 := hide (HCL.out v2 w2 hr hn)
            clear hr hn hb K1 B1
            go_wp2_with fail
            refine K2.out.mono ?_
            intro e w3 hf
            obtain ⟨rfl, v3, hr, hn, hb⟩ := hf.1 x rfl
            have hn : NdR rb w3 v3 (L ++ ⟨6, 0, 0, 0, 0, 0, []⟩ :: x) := by rw [List.append_assoc] at hn; exact hn
            have B3 := hide (B2.out.trans hb)
            have N3 := hide hn
            have R3 := hide hr
            have K3 := hide (C2.out v3 w3 hr)
            have HRB3 := hide (rd_lt hr)
            clear hr hn hb hf K2 B2 HRB
            go_wp2_with fail
            refine K3.out.mono ?_
            rintro e w4 ⟨rfl, hr, hb⟩
            have B4 := hide (B3.out.trans (hb.below (Nat.le_of_lt HRB3.out) (by simp)))
            have N4 := hide (ndR_but N3.out hb)
            have R4 := hide hr
            clear hr hb K3 B3 N3 R3
            have K4 := hide (HC3.out 6 v3 w4 R4.out N4.out)
            go_wp2_with fail
            refine K4.out.mono ?_
            intro e w6 hf
            have B5 := hide B4.out
            obtain ⟨rfl, v6, hr, hn, hb⟩ := hf.1 y rfl
            have B6 := hide (B5.out.trans hb)
            have N6 := hide hn
            have HRB6 := hide (rd_lt hr)
            have K5 := hide (C5.out v6 w6 hr)
            clear hr hn hb hf K4
            go_wp2_with fail
            refine K5.out.mono ?_
            rintro e w7 ⟨rfl, hr, hb⟩
            have R7 := hide hr
            have N7 := hide (ndR_but N6.out hb)
            have B7 := hide (B6.out.trans (hb.below (Nat.le_of_lt HRB6.out) (by simp)))
            clear hr hb K5 N6 B6
            go_wp2
            exact bodyPost_end (v := .tuple #[]) (by simp [results, Tryd.results34]) rfl ⟨fun n hn => ⟨rfl, _, R7.out, (by injection hn with hn; subst hn; have h7 := N7.out; rw [List.append_assoc] at h7; exact h7), B7.out⟩, (fun h => by cases h)⟩
          · rw [if_neg k5]
            have C5 := hide (fun v Wx hx => HTQ.out v Wx hx k5)
            go_enter Tryd.func34, Tryd.ntmps34
            go_wp2_with fail
            refine HT.out.mono ?_
            rintro e w1 ⟨rfl, hr, hb⟩
            obtain ⟨⟨c0, c1, c2⟩, -⟩ := rd_cells hr
            have B1 := hide (hb.below (Nat.le_of_lt HRB.out) (by simp))
            have K1 := hide (HAD.out w1 hr hb)
            clear hr hb HT
            go_wp2_with fail
            clear c0 c1 c2
            refine K1.out.mono ?_
            rintro e w2 ⟨rfl, v2, hr, hn, hb⟩
            have B2 := hide (B1.out.trans hb)
            have K2 := hide (HCL.out v2 w2 hr hn)
            clear hr hn hb K1 B1
            go_wp2_with fail
            refine K2.out.mono ?_
            intro e w3 hf
            obtain ⟨rfl, v3, hr, hn, hb⟩ := hf.1 x rfl
            have hn : NdR rb w3 v3 (L ++ ⟨6, 0, 0, 0, 0, 0, []⟩ :: x) := by rw [List.append_assoc] at hn; exact hn
            have B3 := hide (B2.out.trans hb)
            have N3 := hide hn
            have R3 := hide hr
            have K3 := hide (C2.out v3 w3 hr)
            have HRB3 := hide (rd_lt hr)
            clear hr hn hb hf K2 B2 HRB
            go_wp2_with fail
            refine K3.out.mono ?_
            rintro e w4 ⟨rfl, hr, hb⟩
            have B4 := hide (B3.out.trans (hb.below (Nat.le_of_lt HRB3.out) (by simp)))
            have N4 := hide (ndR_but N3.out hb)
            have R4 := hide hr
            clear hr hb K3 B3 N3 R3
            have K4 := hide (HC3.out 6 v3 w4 R4.out N4.out)
            go_wp2_with fail
            refine K4.out.mono ?_
            intro e w6 hf
            have B5 := hide B4.out
            obtain ⟨rfl, v6, hr, hn, hb⟩ := hf.1 y rfl
            have B6 := hide (B5.out.trans hb)
            have N6 := hide hn
            have HRB6 := hide (rd_lt hr)
            have K5 := hide (C5.out v6 w6 hr)
            clear hr hn hb hf K4
            go_wp2_with fail
            refine K5.out.mono ?_
            rintro e w7 ⟨rfl, hb⟩
            exact ⟨rfl, fmR_no (B6.out.trans (hb.mono (Nat.le_of_lt HRB6.out)))⟩
      · rcases o2x with _ | y
        · simp only []
          go_enter Tryd.func34, Tryd.ntmps34
          go_wp2_with fail
          refine HT.out.mono ?_
          rintro e w1 ⟨rfl, hr, hb⟩
          obtain ⟨⟨c0, c1, c2⟩, -⟩ := rd_cells hr
          have B1 := hide (hb.below (Nat.le_of_lt HRB.out) (by simp))
          have K1 := hide (HAD.out w1 hr hb)
          clear hr hb HT
          go_wp2_with fail
          clear c0 c1 c2
          refine K1.out.mono ?_
          rintro e w2 ⟨rfl, v2, hr, hn, hb⟩
          have B2 := hide (B1.out.trans hb)
          have K2 := hide (HCL.out v2 w2 hr hn)
          clear hr hn hb K1 B1
          go_wp2_with fail
          refine K2.out.mono ?_
          intro e w3 hf
          obtain ⟨rfl, v3, hr, hn, hb⟩ := hf.1 x rfl
          have hn : NdR rb w3 v3 (L ++ ⟨6, 0, 0, 0, 0, 0, []⟩ :: x) := by rw [List.append_assoc] at hn; exact hn
          have B3 := hide (B2.out.trans hb)
          have N3 := hide hn
          have R3 := hide hr
          have K3 := hide (C2.out v3 w3 hr)
          have HRB3 := hide (rd_lt hr)
          clear hr hn hb hf K2 B2 HRB
          go_wp2_with fail
          refine K3.out.mono ?_
          rintro e w4 ⟨rfl, hr, hb⟩
          have B4 := hide (B3.out.trans (hb.below (Nat.le_of_lt HRB3.out) (by simp)))
          have N4 := hide (ndR_but N3.out hb)
          have R4 := hide hr
          clear hr hb K3 B3 N3 R3
          obtain ⟨g, cap, hv, hg, ⟨u, hcu⟩, hfu, hn⟩ := ndR_op N4.out 7 (ndWf_op (v := 0) (by omega) (by omega))
          subst hv
          obtain ⟨⟨c0, c1, c2⟩, -⟩ := rd_cells R4.out
          obtain ⟨ln1, ln2, ln3⟩ := HLN.out
          have R5 := hide (rd_set R4.out (p := ⟨g, L.length * 7, none⟩) (show rb ≠ g by omega) (.int .i64 7))
          have N5 := hide hn
          have B5 := hide (B4.out.setCell (p := ⟨g, L.length * 7, none⟩) (show rb ≤ g by omega) (.int .i64 7))
          generalize (L ++ ⟨6, 0, 0, 0, 0, 0, []⟩ :: x).length = ln at ln1 c2 R5 N5 R4 N4
          generalize hW5 : w4.setCell ⟨g, L.length * 7, none⟩ (.int .i64 7) = W5 at R5 N5 B5
          have K4 := hide (HC3.out 7 _ W5 R5.out N5.out)
          clear hn R4 N4 B4 hg
          go_wp2_with fail
          clear hcu hfu c0 c1 c2 ln1 ln2 ln3 hW5
          refine K4.out.mono ?_
          intro e w6 hf
          obtain ⟨rfl, hb⟩ := hf.2 rfl
          exact ⟨rfl, fmR_no (B5.out.trans hb)⟩
        · simp only []
          by_cases k5 : bt s e2 = 41
          · rw [if_pos k5]
            have C5 := hide (fun v Wx hx => HTP.out v Wx hx k5)
            go_enter Tryd.func34, Tryd.ntmps34
            go_wp2_with fail
            refine HT.out.mono ?_
            rintro e w1 ⟨rfl, hr, hb⟩
            obtain ⟨⟨c0, c1, c2⟩, -⟩ := rd_cells hr
            have B1 := hide (hb.below (Nat.le_of_lt HRB.out) (by simp))
            have K1 := hide (HAD.out w1 hr hb)
            clear hr hb HT
            go_wp2_with fail
            clear c0 c1 c2
            refine K1.out.mono ?_
            rintro e w2 ⟨rfl, v2, hr, hn, hb⟩
            have B2 := hide (B1.out.trans hb)
            have K2 := hide (HCL.out v2 w2 hr hn)
            clear hr hn hb K1 B1
            go_wp2_with fail
            refine K2.out.mono ?_
            intro e w3 hf
            obtain ⟨rfl, v3, hr, hn, hb⟩ := hf.1 x rfl
            have hn : NdR rb w3 v3 (L ++ ⟨6, 0, 0, 0, 0, 0, []⟩ :: x) := by rw [List.append_assoc] at hn; exact hn
            have B3 := hide (B2.out.trans hb)
            have N3 := hide hn
            have R3 := hide hr
            have K3 := hide (C2.out v3 w3 hr)
            have HRB3 := hide (rd_lt hr)
            clear hr hn hb hf K2 B2 HRB
            go_wp2_with fail
            refine K3.out.mono ?_
            rintro e w4 ⟨rfl, hr, hb⟩
            have B4 := hide (B3.out.trans (hb.below (Nat.le_of_lt HRB3.out) (by simp)))
            have N4 := hide (ndR_but N3.out hb)
            have R4 := hide hr
            clear hr hb K3 B3 N3 R3
            obtain ⟨g, cap, hv, hg, ⟨u, hcu⟩, hfu, hn⟩ := ndR_op N4.out 7 (ndWf_op (v := 0) (by omega) (by omega))
            subst hv
            obtain ⟨⟨c0, c1, c2⟩, -⟩ := rd_cells R4.out
            obtain ⟨ln1, ln2, ln3⟩ := HLN.out
            have R5 := hide (rd_set R4.out (p := ⟨g, L.length * 7, none⟩) (show rb ≠ g by omega) (.int .i64 7))
            have N5 := hide hn
            have B5 := hide (B4.out.setCell (p := ⟨g, L.length * 7, none⟩) (show rb ≤ g by omega) (.int .i64 7))
            generalize (L ++ ⟨6, 0, 0, 0, 0, 0, []⟩ :: x).length = ln at ln1 c2 R5 N5 R4 N4
            generalize hW5 : w4.setCell ⟨g, L.length * 7, none⟩ (.int .i64 7) = W5 at R5 N5 B5
            have K4 := hide (HC3.out 7 _ W5 R5.out N5.out)
            clear hn R4 N4 B4 hg
            go_wp2_with fail
            clear hcu hfu c0 c1 c2 ln1 ln2 ln3 hW5
            refine K4.out.mono ?_
            intro e w6 hf
            obtain ⟨rfl, v6, hr, hn, hb⟩ := hf.1 y rfl
            have B6 := hide (B5.out.trans hb)
            have N6 := hide hn
            have HRB6 := hide (rd_lt hr)
            have K5 := hide (C5.out v6 w6 hr)
            clear hr hn hb hf K4
            go_wp2_with fail
            refine K5.out.mono ?_
            rintro e w7 ⟨rfl, hr, hb⟩
            have R7 := hide hr
            have N7 := hide (ndR_but N6.out hb)
            have B7 := hide (B6.out.trans (hb.below (Nat.le_of_lt HRB6.out) (by simp)))
            clear hr hb K5 N6 B6
            go_wp2
            exact bodyPost_end (v := .tuple #[]) (by simp [results, Tryd.results34]) rfl ⟨fun n hn => ⟨rfl, _, R7.out, (by injection hn with hn; subst hn; have h7 := N7.out; rw [List.append_assoc] at h7; exact h7), B7.out⟩, (fun h => by cases h)⟩
          · rw [if_neg k5]
            have C5 := hide (fun v Wx hx => HTQ.out v Wx hx k5)
            go_enter Tryd.func34, Tryd.ntmps34
            go_wp2_with fail
            refine HT.out.mono ?_
            rintro e w1 ⟨rfl, hr, hb⟩
            obtain ⟨⟨c0, c1, c2⟩, -⟩ := rd_cells hr
            have B1 := hide (hb.below (Nat.le_of_lt HRB.out) (by simp))
            have K1 := hide (HAD.out w1 hr hb)
            clear hr hb HT
            go_wp2_with fail
            clear c0 c1 c2
            refine K1.out.mono ?_
            rintro e w2 ⟨rfl, v2, hr, hn, hb⟩
            have B2 := hide (B1.out.trans hb)
            have K2 := hide (HCL.out v2 w2 hr hn)
            clear hr hn hb K1 B1
            go_wp2_with fail
            refine K2.out.mono ?_
            intro e w3 hf
            obtain ⟨rfl, v3, hr, hn, hb⟩ := hf.1 x rfl
            have hn : NdR rb w3 v3 (L ++ ⟨6, 0, 0, 0, 0, 0, []⟩ :: x) := by rw [List.append_assoc] at hn; exact hn
            have B3 := hide (B2.out.trans hb)
            have N3 := hide hn
            have R3 := hide hr
            have K3 := hide (C2.out v3 w3 hr)
            have HRB3 := hide (rd_lt hr)
            clear hr hn hb hf K2 B2 HRB
            go_wp2_with fail
            refine K3.out.mono ?_
            rintro e w4 ⟨rfl, hr, hb⟩
            have B4 := hide (B3.out.trans (hb.below (Nat.le_of_lt HRB3.out) (by simp)))
            have N4 := hide (ndR_but N3.out hb)
            have R4 := hide hr
            clear hr hb K3 B3 N3 R3
            obtain ⟨g, cap, hv, hg, ⟨u, hcu⟩, hfu, hn⟩ := ndR_op N4.out 7 (ndWf_op (v := 0) (by omega) (by omega))
            subst hv
            obtain ⟨⟨c0, c1, c2⟩, -⟩ := rd_cells R4.out
            obtain ⟨ln1, ln2, ln3⟩ := HLN.out
            have R5 := hide (rd_set R4.out (p := ⟨g, L.length * 7, none⟩) (show rb ≠ g by omega) (.int .i64 7))
            have N5 := hide hn
            have B5 := hide (B4.out.setCell (p := ⟨g, L.length * 7, none⟩) (show rb ≤ g by omega) (.int .i64 7))
            generalize (L ++ ⟨6, 0, 0, 0, 0, 0, []⟩ :: x).length = ln at ln1 c2 R5 N5 R4 N4
            generalize hW5 : w4.setCell ⟨g, L.length * 7, none⟩ (.int .i64 7) = W5 at R5 N5 B5
            have K4 := hide (HC3.out 7 _ W5 R5.out N5.out)
            clear hn R4 N4 B4 hg
            go_wp2_with fail
            clear hcu hfu c0 c1 c2 ln1 ln2 ln3 hW5
            refine K4.out.mono ?_
            intro e w6 hf
            obtain ⟨rfl, v6, hr, hn, hb⟩ := hf.1 y rfl
            have B6 := hide (B5.out.trans hb)
            have N6 := hide hn
            have HRB6 := hide (rd_lt hr)
            have K5 := hide (C5.out v6 w6 hr)
            clear hr hn hb hf K4
            go_wp2_with fail
            refine K5.out.mono ?_
            rintro e w7 ⟨rfl, hb⟩
            exact ⟨rfl, fmR_no (B6.out.trans (hb.mono (Nat.le_of_lt HRB6.out)))⟩
    · rw [if_neg k2]
      have C2 := hide (fun v Wx hx => HTN.out v Wx hx k2)
      clear h hN hL hs hb HI hi hrb hb1 hl1 hx1 HTO HTN k2
      go_enter Tryd.func34, Tryd.ntmps34
      go_wp2_with fail
      refine HT.out.mono ?_
      rintro e w1 ⟨rfl, hr, hb⟩
      obtain ⟨⟨c0, c1, c2⟩, -⟩ := rd_cells hr
      have B1 := hide (hb.below (Nat.le_of_lt HRB.out) (by simp))
      have K1 := hide (HAD.out w1 hr hb)
      clear hr hb HT
      go_wp2_with fail
      clear c0 c1 c2
      refine K1.out.mono ?_
      rintro e w2 ⟨rfl, v2, hr, hn, hb⟩
      have B2 := hide (B1.out.trans hb)
      have K2 := hide (HCL.out v2 w2 hr hn)
      clear hr hn hb K1 B1
      go_wp2_with fail
      refine K2.out.mono ?_
      intro e w3 hf
      obtain ⟨rfl, v3, hr, hn, hb⟩ := hf.1 x rfl
      have B3 := hide (B2.out.trans hb)
      have K3 := hide (C2.out v3 w3 hr)
      have HRB3 := hide (rd_lt hr)
      clear hr hn hb hf K2 B2 HRB
      go_wp2_with fail
      refine K3.out.mono ?_
      rintro e w4 ⟨rfl, hb⟩
      exact ⟨rfl, fmR_no (B3.out.trans (hb.mono (Nat.le_of_lt HRB3.out)))⟩
end Go.Proofs.YtafbggbdlcfbdaaDoor
