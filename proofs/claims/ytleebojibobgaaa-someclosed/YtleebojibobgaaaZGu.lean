/- 2 texts in one. -/
import Derived.Test.YtleebojibobgaaaDd
import Derived.Test.YtleebojibobgaaaZEg
import Derived.Test.YtleebojibobgaaaAx
import Derived.Test.YtleebojibobgaaaZLp
/- What package some answers: the words of its contracts. -/
namespace Go.Proofs.Ytleebojibobgaaa
open Go.RowKit

/-- What some.Some and some.Sets answer, at whatever they are given. -/
def SomeSays : Prop := ∀ (b t : Int) (a : Option Addr) (n cap : Nat) (a' : Option Addr) (k cap' : Nat) (N : List (List Int)) (E : List Bool) (tk : Int) (W : World), Sl2 W a n N → SlB W a' k E → Calls Try.prog 6 #[.agg #[.int .i64 b, .int .i64 t, .slice a n cap, .slice a' k cap'], .int .i64 tk] W (PairR W (okI (smC b t N E k tk) b) (okI (smC b t N E k tk) (t - 1)) (smN b t N E k tk) (smE b t N E k tk) (smC b t N E k tk))
/-- What some.Close and some.Closed answer, at whatever they are given. -/
def CloseSays : Prop := ∀ (b t : Int) (a : Option Addr) (n cap : Nat) (a' : Option Addr) (k cap' : Nat) (N : List (List Int)) (E : List Bool) (W : World), Sl2 W a n N → SlB W a' k E → Calls Try.prog 11 #[.agg #[.int .i64 b, .int .i64 t, .slice a n cap, .slice a' k cap']] W (PairR W (okI (ccC b t N E k) b) (okI (ccC b t N E k) t) (ccN b t N E k) (ccE b t N E k) (ccC b t N E k))
def ClosedSays : Prop := ∀ (b t : Int) (a : Option Addr) (n cap : Nat) (a' : Option Addr) (k cap' : Nat) (N : List (List Int)) (E : List Bool) (W : World), Sl2 W a n N → SlB W a' k E → Calls Try.prog 10 #[.agg #[.int .i64 b, .int .i64 t, .slice a n cap, .slice a' k cap']] W fun e W' => e = .returned (.tuple #[.bool (closedB b t N E k), errV (autoC b t N k)]) ∧ Below W.heap.size W W'
end Go.Proofs.Ytleebojibobgaaa

/- The walk of the law SomeClosed, from what package some answers. -/
namespace Go.Proofs.Ytleebojibobgaaa
open Go.RowKit

/-- What stands between two calls: the automaton in its box, the word. -/
def ScAt (w W : World) (b t : Int) (a : Option Addr) (n cap : Nat) (a' : Option Addr) (k cap' : Nat) (N : List (List Int)) (E : List Bool) (aw : Option Addr) (lw : Nat) (u : List Int) : Prop :=
  Below w.heap.size w W ∧ AutoAt W w.heap.size b t a n cap a' k cap' N E ∧ Sl W aw lw u
theorem scAt_step {w W W' : World} {b t : Int} {a : Option Addr} {n cap : Nat} {a' : Option Addr} {k cap' : Nat} {N : List (List Int)} {E : List Bool} {aw : Option Addr} {lw : Nat} {u : List Int} (h : ScAt w W b t a n cap a' k cap' N E aw lw u) (hb : Below W.heap.size W W') : ScAt w W' b t a n cap a' k cap' N E aw lw u :=
  ⟨below_step h.1 hb, autoAt_below h.2.1 hb, sl_below h.2.2 hb⟩
theorem made_owns (w : World) (z : Nat) (hz : z ≤ 40) : (w.alloc (.cells (madeCells #[.int .i64 0] z) 3)).ownsRow w.heap.size 3 1 (.slice (some ⟨w.heap.size, 0, none⟩) z z) (List.replicate z (0 : Int)).length ((List.replicate z (0 : Int)).map (Value.int .i64)) := by
  obtain ⟨c, h1, h2, h3⟩ := World.rowIs_made w (.int .i64 0) z 3
  have hl : (List.replicate z (0 : Int)).length = z := by simp
  rw [hl]
  refine ⟨by simp, .inr ⟨w.heap.size, z, c, rfl, Nat.le_refl _, h1, Nat.le_refl _, by unfold maxLen; omega, by omega, ?_⟩⟩
  apply List.ext_getElem?
  intro j
  rw [List.getElem?_take]
  by_cases hj : j < z * 1
  · rw [if_pos hj, Array.getElem?_toList, h3 j (by omega)]
    simp [show j < z by omega]
  · rw [if_neg hj]
    simp; omega

set_option maxHeartbeats 16000000 in
set_option maxRecDepth 8000 in
theorem someclosed_of (b t : Int) (a : Option Addr) (n cap : Nat) (a' : Option Addr) (k cap' : Nat) (N : List (List Int)) (E : List Bool) (tk : Int) (aw : Option Addr) (lw cw : Nat) (u : List Int) (zs : Int) (w : World) (hs : Sl2 w a n N) (he : SlB w a' k E) (hw : Sl w aw lw u) (hnw : aw = none → cw = 0) (hbw : lw * 8 ≤ 140737488351232) (hSM : SomeSays) (hCL : CloseSays) (hCD : ClosedSays) :
    Calls Try.prog 4 #[.agg #[.int .i64 b, .int .i64 t, .slice a n cap, .slice a' k cap'], .int .i64 tk, .slice aw lw cw, .int .i64 zs] w fun e w' => e = .returned (.bool true) ∧ Below w.heap.size w w' := by
  have hE := he.1
  have hB0 : Below w.heap.size w (w.alloc (.cells #[.int .i64 b, .int .i64 t, .slice a n cap, .slice a' k cap'] 25)) := (Below.refl _ _).alloc (Nat.le_refl _) _
  have H0 : Hid (ScAt w (w.alloc (.cells #[.int .i64 b, .int .i64 t, .slice a n cap, .slice a' k cap'] 25)) b t a n cap a' k cap' N E aw lw u) := ⟨hB0, autoAt_new hs he, sl_below hw hB0⟩
  have HSA := hide (fun W => sme_any W)
  unfold GivesAuto at HSA
  rw [show smeN.length = 2 from rfl] at HSA
  have HCD0 := hide (fun aa cc aa' cc' W h1 h2 => hCD 2 2 aa 2 cc aa' 2 cc' smeN smeE W h1 h2)
  rw [sme_closed, sme_auto, errV_yes rfl] at HCD0
  have HCL0 := hide (fun W h1 h2 => hCL b t a n cap a' k cap' N E W h1 h2)
  have HTK := hide (fun x cx x' cx' xw lx cx2 l W h1 h2 h3 => takes_u b t x x' (ccN b t N E k).length cx (ccN b t N E k).length cx' (ccN b t N E k) (ccE b t N E k) xw lx cx2 l W h1 h2 h3)
  have HTA := hide (fun xw lx cx2 l W h1 h2 h3 => takes_u b t a a' n cap k cap' N E xw lx cx2 l W h1 h2 h3)
  have HCDM := hide (fun x cx x' cx' W h1 h2 => hCD b t x (ccN b t N E k).length cx x' (ccN b t N E k).length cx' (ccN b t N E k) (ccE b t N E k) W h1 h2)
  have HCLM := hide (fun x cx x' cx' W h1 h2 => hCL b t x (ccN b t N E k).length cx x' (ccN b t N E k).length cx' (ccN b t N E k) (ccE b t N E k) W h1 h2)
  have HSOM := hide (fun x cx x' cx' W h1 h2 => hSM b t x (ccN b t N E k).length cx x' (ccN b t N E k).length cx' (ccN b t N E k) (ccE b t N E k) tk W h1 h2)
  have HCDN := hide (fun x cx x' cx' W h1 h2 => hCD b (t - 1) x (smN b t (ccN b t N E k) (ccE b t N E k) (ccN b t N E k).length tk).length cx x' (smN b t (ccN b t N E k) (ccE b t N E k) (ccN b t N E k).length tk).length cx' (smN b t (ccN b t N E k) (ccE b t N E k) (ccN b t N E k).length tk) (smE b t (ccN b t N E k) (ccE b t N E k) (ccN b t N E k).length tk) W h1 h2)
  have HM1 := hide (@sc_closed b t N E k)
  have HM2 : Hid (ccC b t N E k = 0 → ccC b t (ccN b t N E k) (ccE b t N E k) (ccN b t N E k).length = 0 ∧ ccN b t (ccN b t N E k) (ccE b t N E k) (ccN b t N E k).length = ccN b t N E k ∧ ccE b t (ccN b t N E k) (ccE b t N E k) (ccN b t N E k).length = ccE b t N E k) := fun h => cc_again (cc_well h)
  have HM3 := hide (fun h z => @sc_zeros b t N E k h hE z u)
  have HM4 := hide (@sc_some b t N E k tk)
  unfold PairR at HCL0 HCLM HSOM
  clear hs he hw hSM hCL hCD hB0 hE
  generalize smN b t (ccN b t N E k) (ccE b t N E k) (ccN b t N E k).length tk = RN at HSOM HCDN HM4
  generalize smE b t (ccN b t N E k) (ccE b t N E k) (ccN b t N E k).length tk = RE at HSOM HCDN HM4
  generalize smC b t (ccN b t N E k) (ccE b t N E k) (ccN b t N E k).length tk = rc at HSOM HM4
  generalize ccC b t (ccN b t N E k) (ccE b t N E k) (ccN b t N E k).length = c2 at HCLM HM2
  generalize ccN b t (ccN b t N E k) (ccE b t N E k) (ccN b t N E k).length = N2 at HCLM HM2
  generalize ccE b t (ccN b t N E k) (ccE b t N E k) (ccN b t N E k).length = E2 at HCLM HM2
  generalize ccN b t N E k = MN at HCL0 HTK HCDM HCLM HSOM HM1 HM2 HM3
  generalize ccE b t N E k = ME at HCL0 HTK HCDM HCLM HSOM HM1 HM2 HM3
  generalize ccC b t N E k = c at HCL0 HM1 HM2 HM3 HM4
  generalize hW0 : w.alloc (.cells #[.int .i64 b, .int .i64 t, .slice a n cap, .slice a' k cap'] 25) = w0 at H0
  go_enter Try.func4, Try.ntmps4
  go_wp2_with fail
  clear hW0
  refine (HSA.out w0).mono ?_
  rintro e w1 ⟨x1, y1, x2, y2, rfl, hnew, hb1⟩
  have H1 := hide (scAt_step H0.out hb1)
  have HN1 := hide hnew.here
  clear hnew hb1 H0 HSA
  go_wp2_with fail
  refine (HCD0.out x1 y1 x2 y2 w1 HN1.out.1 HN1.out.2).mono ?_
  rintro e w2 ⟨rfl, hb2⟩
  have H2 := hide (scAt_step H1.out hb2)
  obtain ⟨p0, p1, p2, p3⟩ := H2.out.2.1.1
  clear hb2 H1 HN1 HCD0
  go_wp2_with fail
  clear p0 p1 p2 p3
  refine (HCL0.out w2 H2.out.2.1.2.1 H2.out.2.1.2.2).mono ?_
  rintro e w3 ⟨ax, cx, ax', cx', rfl, hnew, hb3⟩
  have hbz := (Below.refl w3.heap.size w3).alloc (Nat.le_refl _) (.cells #[.int .i64 (okI c b), .int .i64 (okI c t), .slice ax MN.length cx, .slice ax' MN.length cx'] 25)
  have H4 := hide (scAt_step (scAt_step H2.out hb3) hbz)
  have HX4 := hide (heap_alloc_last w3 (.cells #[.int .i64 (okI c b), .int .i64 (okI c t), .slice ax MN.length cx, .slice ax' MN.length cx'] 25))
  have HN4 := hide (hnew.below hbz).here
  clear hnew hb3 hbz H2 HCL0
  generalize hW4 : w3.alloc (.cells #[.int .i64 (okI c b), .int .i64 (okI c t), .slice ax MN.length cx, .slice ax' MN.length cx'] 25) = w4 at H4 HX4 HN4
  by_cases hc : c = 0
  · by_cases hz : 0 ≤ zs ∧ zs ≤ 40
    · obtain ⟨z, hzz⟩ : ∃ z : Nat, zs = (z : Int) := ⟨zs.toNat, by omega⟩
      subst hzz
      have hz40 : z ≤ 40 := by omega
      have hz1 : ¬ ((z : Int) < 0) := by omega
      have hz2 : ¬ ((z : Int) > 40) := by omega
      obtain ⟨m1, m2⟩ := HM1.out hc
      obtain ⟨m3, m4, m5⟩ := HM2.out hc
      have HZZ := hide (HM3.out hc z)
      have HSS := hide (HM4.out hc)
      rw [m1, m2, errV_yes rfl] at HCDM
      rw [m3, m4, m5, errV_yes rfl] at HCLM
      have ho1 : okI c b = b := by unfold okI; rw [if_pos hc]
      have ho2 : okI c t = t := by unfold okI; rw [if_pos hc]
      have ho3 : okI 0 b = b := rfl
      have ho4 : okI 0 t = t := rfl
      rw [ho3, ho4] at HCLM
      rw [ho1, ho2] at HX4 hW4 ⊢
      rw [errV_yes hc]
      clear m1 m2 m3 m4 m5 ho1 ho2 ho3 ho4 HM1 HM2 HM3 HM4 hz hc
      obtain ⟨⟨q0, q1, q2, q3⟩, -⟩ := box_cells HX4.out
      go_wp2_with fail
      clear hW4 q0 q1 q2 q3
      refine (HCDM.out ax cx ax' cx' w4 HN4.out.1 HN4.out.2).mono ?_
      rintro e w5 ⟨rfl, hb5⟩
      have H5 := hide (scAt_step H4.out hb5)
      have HX5 := hide ((hb5.block _ (Array.getElem?_eq_some_iff.1 HX4.out).1).trans HX4.out)
      have HN5 := hide (And.intro (sl2_below HN4.out.1 hb5) (slB_below HN4.out.2 hb5))
      clear hb5 H4 HX4 HN4
      obtain ⟨⟨q0, q1, q2, q3⟩, -⟩ := box_cells HX5.out
      go_wp2_with fail
      clear q0 q1 q2 q3
      refine (HCLM.out ax cx ax' cx' w5 HN5.out.1 HN5.out.2).mono ?_
      rintro e w6 ⟨ay, cy, ay', cy', rfl, hnew, hb6⟩
      have hbz := (Below.refl w6.heap.size w6).alloc (Nat.le_refl _) (.cells #[.int .i64 b, .int .i64 t, .slice ay MN.length cy, .slice ay' MN.length cy'] 25)
      have hb67 := below_step hb6 hbz
      have H7 := hide (scAt_step H5.out hb67)
      have HX7 := hide ((hb67.block _ (Array.getElem?_eq_some_iff.1 HX5.out).1).trans HX5.out)
      have HY7 := hide (heap_alloc_last w6 (.cells #[.int .i64 b, .int .i64 t, .slice ay MN.length cy, .slice ay' MN.length cy'] 25))
      have HN7 := hide (And.intro (sl2_below HN5.out.1 hb67) (slB_below HN5.out.2 hb67))
      have HM7 := hide (hnew.below hbz).here
      clear hnew hb6 hbz hb67 H5 HX5 HN5
      generalize hW7 : w6.alloc (.cells #[.int .i64 b, .int .i64 t, .slice ay MN.length cy, .slice ay' MN.length cy'] 25) = w7 at H7 HX7 HY7 HN7 HM7
      obtain ⟨⟨q0, q1, q2, q3⟩, -⟩ := box_cells HX7.out
      obtain ⟨⟨y0, y1, y2, y3⟩, -⟩ := box_cells HY7.out
      have hmk := make_ints z (by omega)
      go_wp2_with fail
      clear hW7 q0 q1 q2 q3 y0 y1 y2 y3
      refine (autos_eq b t ay MN.length cy ay' MN.length cy' ax cx ax' cx' MN ME w7 HM7.out.1 HM7.out.2 HN7.out.1 HN7.out.2).mono ?_
      rintro e w8 ⟨rfl, hb8⟩
      have hbz := (Below.refl w8.heap.size w8).alloc (Nat.le_refl _) (.cells (madeCells #[.int .i64 0] z) 3)
      have H8 := hide (scAt_step H7.out hb8)
      have H9 := hide (sl_below H8.out.2.2 hbz)
      have HX8 := hide ((hb8.block _ (Array.getElem?_eq_some_iff.1 HX7.out).1).trans HX7.out)
      have HN8 := hide (And.intro (sl2_below HN7.out.1 hb8) (slB_below HN7.out.2 hb8))
      have HO9 := hide (made_owns w8 z hz40)
      have HS9 := hide hbz.size
      have HBK : Hid (∀ wA : World, (w8.alloc (.cells (madeCells #[.int .i64 0] z) 3)).grownBy wA (Value.slice (some ⟨w8.heap.size, 0, none⟩) z z).ownBlock → Below w8.heap.size w8 wA) := fun wA hg => Below.grown hbz hg hbz.size (fun x hx => by simp [Value.ownBlock] at hx; omega)
      have HWF : Hid (∀ x ∈ List.replicate z (0 : Int) ++ u, (Lit.int .i64 x).wf = true) := fun x hx => by
        rcases List.mem_append.1 hx with h | h
        · rw [(List.mem_replicate.1 h).2]; decide
        · exact H8.out.2.2.2.2.1 x h
      have HLL : Hid ((List.replicate z (0 : Int) ++ u).length ≤ 17592186048512) := by
        have := H8.out.2.2.1
        show _ ≤ _
        simp; omega
      clear hb8 hbz H7 HX7 HN7 HY7 HM7
      go_wp2_with (at_builtin; refine wpList_append_sz rfl _ _ rfl w8.heap.size (.slice (some ⟨w8.heap.size, 0, none⟩) z z) (List.replicate z 0) rfl HO9.out aw lw cw u rfl H9.out hnw (by rw [List.length_replicate]; omega) HS9.out ?_; intro v' wA hown hgrow; obtain ⟨al, cl, rfl, hsl⟩ := sl_of_owns rfl (by have := HLL.out; unfold maxLen; omega) HWF.out hown; have HSL := hide hsl.1; have HBA := hide (HBK.out wA hgrow); clear hown hgrow hsl; obtain ⟨⟨q0, q1, q2, q3⟩, -⟩ := box_cells ((HBA.out.block _ (Array.getElem?_eq_some_iff.1 HX8.out).1).trans HX8.out))
      have HA1 := hide (scAt_step H8.out HBA.out)
      have HXA := hide ((HBA.out.block _ (Array.getElem?_eq_some_iff.1 HX8.out).1).trans HX8.out)
      have HNA := hide (And.intro (sl2_below HN8.out.1 HBA.out) (slB_below HN8.out.2 HBA.out))
      clear q0 q1 q2 q3 H8 HX8 HN8 HBA HBK HO9 H9
      have HLN : Hid ((List.replicate z (0 : Int) ++ u).length = z + u.length) := by show _ = _; simp
      generalize hLO : List.replicate z (0 : Int) ++ u = LO at HSL HZZ HWF HLL HLN
      clear hLO
      refine (HTK.out ax cx ax' cx' aw lw cw u wA HNA.out.1 HNA.out.2 HA1.out.2.2).mono ?_
      rintro e wB ⟨rfl, hbB⟩
      have HA2 := hide (scAt_step HA1.out hbB)
      have HXB := hide ((hbB.block _ (Array.getElem?_eq_some_iff.1 HXA.out).1).trans HXA.out)
      have HNB := hide (And.intro (sl2_below HNA.out.1 hbB) (slB_below HNA.out.2 hbB))
      have HSB := hide (sl_below HSL.out hbB)
      clear hbB HA1 HXA HNA HSL
      obtain ⟨⟨q0, q1, q2, q3⟩, -⟩ := box_cells HXB.out
      have HTK2 := hide (HTK.out ax cx ax' cx' al LO.length cl LO wB HNB.out.1 HNB.out.2 HSB.out)
      have HTA2 := hide (fun W h1 h2 h3 => HTA.out al LO.length cl LO W h1 h2 h3)
      rw [HLN.out] at HTK2 HTA2 HSB
      clear HTK HTA
      generalize takesB b t MN ME u = X at HZZ ⊢
      generalize runC b t MN MN.length u = e1 at HZZ ⊢
      generalize takesB b t MN ME LO = Y at HZZ HTK2
      generalize runC b t MN MN.length LO = e2 at HZZ HTK2
      generalize takesB b t N E LO = Z at HZZ HTA2
      generalize runC b t N k LO = e3 at HZZ HTA2
      go_wp2_with fail
      clear q0 q1 q2 q3
      refine HTK2.out.mono ?_
      rintro e wC ⟨rfl, hbC⟩
      have HA3 := hide (scAt_step HA2.out hbC)
      have HXC := hide ((hbC.block _ (Array.getElem?_eq_some_iff.1 HXB.out).1).trans HXB.out)
      have HNC := hide (And.intro (sl2_below HNB.out.1 hbC) (slB_below HNB.out.2 hbC))
      have HSC := hide (sl_below HSB.out hbC)
      clear hbC HA2 HXB HNB HSB HTK2
      obtain ⟨p0, p1, p2, p3⟩ := HA3.out.2.1.1
      go_wp2_with fail
      clear p0 p1 p2 p3
      refine (HTA2.out wC HA3.out.2.1.2.1 HA3.out.2.1.2.2 HSC.out).mono ?_
      rintro e wD ⟨rfl, hbD⟩
      have HA4 := hide (scAt_step HA3.out hbD)
      have HXD := hide ((hbD.block _ (Array.getElem?_eq_some_iff.1 HXC.out).1).trans HXC.out)
      have HND := hide (And.intro (sl2_below HNC.out.1 hbD) (slB_below HNC.out.2 hbD))
      clear hbD HA3 HXC HNC HSC HTA2
      have hcs : e1 ≠ 0 ∨ (e1 = 0 ∧ e2 ≠ 0) ∨ (e1 = 0 ∧ e2 = 0 ∧ e3 = 0 ∧ X = true ∧ Y = true) ∨ (e1 = 0 ∧ e2 = 0 ∧ e3 = 0 ∧ X = false ∧ Y = false ∧ Z = false) := by
        by_cases h1 : e1 = 0
        · by_cases h2 : e2 = 0
          · obtain ⟨k1, k2, k3⟩ := HZZ.out h1 h2
            cases X with
            | true => exact .inr (.inr (.inl ⟨h1, h2, k2, rfl, k1.symm⟩))
            | false =>
              have hZ : Z = false := by
                cases Z with
                | false => rfl
                | true => exact absurd (k3 rfl) (by decide)
              exact .inr (.inr (.inr ⟨h1, h2, k2, rfl, k1.symm, hZ⟩))
          · exact .inr (.inl ⟨h1, h2⟩)
        · exact .inl h1
      obtain ⟨⟨q0, q1, q2, q3⟩, -⟩ := box_cells HXD.out
      clear HZZ
      obtain h | h | h | h := hcs
      case' inl =>
        rw [errV_no h]
        clear h
      case' inr.inl =>
        obtain ⟨h1, h2⟩ := h
        rw [errV_yes h1, errV_no h2]
        clear h1 h2
      case' inr.inr.inl =>
        obtain ⟨h1, h2, h3, h4, h5⟩ := h
        rw [errV_yes h1, errV_yes h2, errV_yes h3]
        subst h4 h5
        clear h1 h2 h3
        cases Z
      case' inr.inr.inr =>
        obtain ⟨h1, h2, h3, h4, h5, h6⟩ := h
        rw [errV_yes h1, errV_yes h2, errV_yes h3]
        subst h4 h5 h6
        clear h1 h2 h3
      all_goals
        go_wp2_with fail
        clear q0 q1 q2 q3
        refine (HSOM.out ax cx ax' cx' wD HND.out.1 HND.out.2).mono ?_
        rintro e wE ⟨an, cn, an', cn', rfl, hnew, hbE⟩
        have hbz := (Below.refl wE.heap.size wE).alloc (Nat.le_refl _) (.cells #[.int .i64 (okI rc b), .int .i64 (okI rc (t - 1)), .slice an RN.length cn, .slice an' RN.length cn'] 25)
        have HF := hide (below_step HA4.out.1 (below_step hbE hbz))
        have HXF := hide (heap_alloc_last wE (.cells #[.int .i64 (okI rc b), .int .i64 (okI rc (t - 1)), .slice an RN.length cn, .slice an' RN.length cn'] 25))
        have HNF := hide (hnew.below hbz).here
        clear hnew hbE hbz HA4 HXD HND HSOM
        by_cases hr : rc = 0
        · obtain ⟨m1, m2⟩ := HSS.out hr
          rw [m1, m2, errV_yes rfl] at HCDN
          have ho1 : okI rc b = b := by unfold okI; rw [if_pos hr]
          have ho2 : okI rc (t - 1) = t - 1 := by unfold okI; rw [if_pos hr]
          rw [ho1, ho2] at HF HXF HNF ⊢
          rw [errV_yes hr]
          clear m1 m2 ho1 ho2 hr HSS
          generalize hWF : wE.alloc (.cells #[.int .i64 b, .int .i64 (t - 1), .slice an RN.length cn, .slice an' RN.length cn'] 25) = wF at HF HXF HNF
          obtain ⟨⟨q0, q1, q2, q3⟩, -⟩ := box_cells HXF.out
          go_wp2_with fail
          clear hWF q0 q1 q2 q3
          refine (HCDN.out an cn an' cn' wF HNF.out.1 HNF.out.2).mono ?_
          rintro e wG ⟨rfl, hbG⟩
          have HG := hide (below_step HF.out hbG)
          clear hbG
          go_wp2
          go_ret
          exact ⟨rfl, HG.out⟩
        · rw [errV_no hr]
          clear hr HSS HCDN
          generalize hWF : wE.alloc (.cells #[.int .i64 (okI rc b), .int .i64 (okI rc (t - 1)), .slice an RN.length cn, .slice an' RN.length cn'] 25) = wF at HF HXF HNF
          go_wp2
          go_ret
          exact ⟨rfl, HF.out⟩
    · have hzc : zs < 0 ∨ (¬ zs < 0 ∧ zs > 40) := by omega
      rw [errV_yes hc]
      clear hz hc HM1 HM2 HM3 HM4
      rcases hzc with h | ⟨h, h'⟩
      all_goals
        go_wp2_with fail
        go_ret
        exact ⟨rfl, H4.out.1⟩
  · rw [errV_no hc]
    clear hc HM1 HM2 HM3 HM4
    go_wp2_with fail
    go_ret
    exact ⟨rfl, H4.out.1⟩
end Go.Proofs.Ytleebojibobgaaa
