/- 2 texts in one. -/
import Derived.Test.YtleebojibobgaaaDoorZLp
import Derived.Test.YtleebojibobgaaaDoorBp
import Derived.Test.YtleebojibobgaaaDoorZCi
import Derived.Test.YtleebojibobgaaaDoorDd
import Derived.Test.YtleebojibobgaaaDoorZGi
import Derived.Test.YtleebojibobgaaaDoorGu
/- The walk of the law SomeIs, from what package some answers. -/
namespace Go.Proofs.YtleebojibobgaaaDoor
open Go.RowKit

/-- What stands between two calls. -/
def SiAt (w W : World) (b t : Int) (a : Option Addr) (n cap : Nat) (a' : Option Addr) (k cap' : Nat) (N : List (List Int)) (E : List Bool) : Prop := Below w.heap.size w W ∧ AutoAt W w.heap.size b t a n cap a' k cap' N E ∧ Handle W
theorem siAt_step {w W W' : World} {b t : Int} {a : Option Addr} {n cap : Nat} {a' : Option Addr} {k cap' : Nat} {N : List (List Int)} {E : List Bool} (h : SiAt w W b t a n cap a' k cap' N E) (hb : Below W.heap.size W W') : SiAt w W' b t a n cap a' k cap' N E := ⟨below_step h.1 hb, autoAt_below h.2.1 hb, h.2.2.below hb⟩

end Go.Proofs.YtleebojibobgaaaDoor

/- The walk of the law SomeCloses, from what package some answers. -/
namespace Go.Proofs.YtleebojibobgaaaDoor
open Go.RowKit


set_option maxHeartbeats 16000000 in
set_option maxRecDepth 8000 in
theorem somecloses_of (b t : Int) (a : Option Addr) (n cap : Nat) (a' : Option Addr) (k cap' : Nat) (N : List (List Int)) (E : List Bool) (w : World) (hs : Sl2 w a n N) (he : SlB w a' k E) (hg : Handle w) (hCL : CloseSays) (hCD : ClosedSays) :
    Calls Tryd.prog 3 #[.agg #[.int .i64 b, .int .i64 t, .slice a n cap, .slice a' k cap']] w fun e w' => e = .returned (.bool true) ∧ Below w.heap.size w w' := by
  have hB0 := (Below.refl w.heap.size w).alloc (Nat.le_refl _) (.cells #[.int .i64 b, .int .i64 t, .slice a n cap, .slice a' k cap'] 25)
  have H0 : Hid (SiAt w _ b t a n cap a' k cap' N E) := ⟨hB0, autoAt_new (cap := cap) (cap' := cap') (T := 25) hs he, hg.below hB0⟩
  have HSO := hide (fun W h1 h2 => closeOf_u b t a n cap a' k cap' N E W h1 h2)
  have HSM := hide (fun W h1 h2 => hCL b t a n cap a' k cap' N E W h1 h2)
  have HST := hide (fun W h1 h2 => hCD b t a n cap a' k cap' N E W h1 h2)
  have HFA := hide (fun W h => afault_u b t a a' n cap k cap' N W h he.2.1)
  unfold BothR at HSO
  unfold PairR at HSM
  have HES := hide (fun c W (h : Handle W) => error_same c W h)
  have hLN := hs.1
  have HLO : Hid (autoC b t N k = 0 → ∃ m LN LE, (∀ W, Sl2 W a n N → SlB W a' k E → Calls Tryd.prog 9 #[.agg #[.int .i64 b, .int .i64 t, .slice a n cap, .slice a' k cap']] W (GivesAuto W b t LN LE)) ∧ 0 < LN.length ∧ 0 < m ∧ (LN.getD 0 []).length = m ∧ closedB b t N E k = ((LN.getD 0 []).getD 0 0 == 0)) := by
    intro hA
    obtain ⟨hM, hE, hG, hmu⟩ := autoC_zero hA
    have h80 := autoC_80 hA
    obtain rfl : k = n := by omega
    rw [hLN] at hG h80
    have hgl := least_good hG E
    have hl := leastN_len N E (manyU b t).toNat
    refine ⟨(manyU b t).toNat, leastN N E (manyU b t).toNat, leastE N E (manyU b t).toNat, fun W h1 h2 => leastOf_any b t a k cap (manyU b t).toNat N a' cap' E W h1 hG h2 (leastK_80 hG E h80), by rw [hl]; exact hgl.2.1, by have := hG.2.2.2.2.1; omega, (hgl.2.2.2.2.2 0 hgl.2.1).1, by simp [closedB, hA]⟩
  have HNC : Hid (autoC b t N k ≠ 0 → closedB b t N E k = false) := fun h => by simp [closedB, h]
  clear hs he hg hB0 hCL hCD hLN
  generalize okI (ccC b t N E k) b = b0 at HSO HSM
  generalize okI (ccC b t N E k) t = t0 at HSO HSM
  generalize ccC b t N E k = c2 at HSO HSM
  generalize autoC b t N k = c1 at HST HFA HLO HNC
  generalize closedB b t N E k = cb at HST HLO HNC
  generalize ccN b t N E k = LN at HSO HSM
  generalize ccE b t N E k = LE at HSO HSM
  generalize hW0 : w.alloc (.cells #[.int .i64 b, .int .i64 t, .slice a n cap, .slice a' k cap'] 25) = w0 at H0
  obtain ⟨p0, p1, p2, p3⟩ := H0.out.2.1.1
  go_enter Tryd.func3, Tryd.ntmps3
  go_wp2_with fail
  clear hW0 p0 p1 p2 p3
  refine (HSO.out w0 H0.out.2.1.2.1 H0.out.2.1.2.2).mono ?_
  rintro e w1 ⟨ax, cx, ax', cx', rfl, hnew, hb1⟩
  have hbz := (Below.refl w1.heap.size w1).alloc (Nat.le_refl _) (.cells #[.int .i64 b0, .int .i64 t0, .slice ax LN.length cx, .slice ax' LN.length cx'] 25)
  have H2 := hide (siAt_step (siAt_step H0.out hb1) hbz)
  have HX2 := hide (heap_alloc_last w1 (.cells #[.int .i64 b0, .int .i64 t0, .slice ax LN.length cx, .slice ax' LN.length cx'] 25))
  have HN2 := hide (hnew.below hbz).here
  obtain ⟨p0, p1, p2, p3⟩ := H2.out.2.1.1
  clear hnew hb1 hbz H0 HSO
  go_wp2_with fail
  clear p0 p1 p2 p3
  generalize w1.alloc (.cells #[.int .i64 b0, .int .i64 t0, .slice ax LN.length cx, .slice ax' LN.length cx'] 25) = w2 at H2 HX2 HN2 ⊢
  refine (HSM.out w2 H2.out.2.1.2.1 H2.out.2.1.2.2).mono ?_
  rintro e w3 ⟨ay, cy, ay', cy', rfl, hnew, hb3⟩
  have hbz := (Below.refl w3.heap.size w3).alloc (Nat.le_refl _) (.cells #[.int .i64 b0, .int .i64 t0, .slice ay LN.length cy, .slice ay' LN.length cy'] 25)
  have HB4 := hide (below_step hb3 hbz)
  have H4 := hide (siAt_step H2.out HB4.out)
  have HY4 := hide (heap_alloc_last w3 (.cells #[.int .i64 b0, .int .i64 t0, .slice ay LN.length cy, .slice ay' LN.length cy'] 25))
  have HM4 := hide (hnew.below hbz).here
  clear hnew hb3 hbz HSM
  go_wp2_with fail
  generalize w3.alloc (.cells #[.int .i64 b0, .int .i64 t0, .slice ay LN.length cy, .slice ay' LN.length cy'] 25) = w4 at HB4 H4 HY4 HM4 ⊢
  refine (HES.out c2 w4 H4.out.2.2).mono ?_
  rintro e w5 ⟨rfl, hb5⟩
  have HB5 := hide (below_step HB4.out hb5)
  have HC5 := hide hb5
  have H5 := hide (siAt_step H4.out hb5)
  have hx5 := (HB5.out.block _ (Array.getElem?_eq_some_iff.1 HX2.out).1).trans HX2.out
  have hy5 := (HC5.out.block _ (Array.getElem?_eq_some_iff.1 HY4.out).1).trans HY4.out
  obtain ⟨⟨p0, p1, p2, p3⟩, -⟩ := box_cells hx5
  obtain ⟨⟨q0, q1, q2, q3⟩, -⟩ := box_cells hy5
  clear hb5 hx5 hy5
  go_wp2_with fail
  clear p0 p1 p2 p3 q0 q1 q2 q3
  refine (autos_eq b0 t0 ay LN.length cy ay' LN.length cy' ax cx ax' cx' LN LE w5 (sl2_below HM4.out.1 HC5.out) (slB_below HM4.out.2 HC5.out) (sl2_below HN2.out.1 HB5.out) (slB_below HN2.out.2 HB5.out)).mono ?_
  rintro e w6 ⟨rfl, hb6⟩
  have H6 := hide (siAt_step H5.out hb6)
  obtain ⟨p0, p1, p2, p3⟩ := H6.out.2.1.1
  clear hb6 HN2 HM4 HX2 HY4 H2 H4 H5 HB4 HB5 HC5
  go_wp2_with fail
  clear p0 p1 p2 p3
  refine (HFA.out w6 H6.out.2.1.2.1).mono ?_
  rintro e w7 ⟨rfl, hb7⟩
  have H7 := hide (siAt_step H6.out hb7)
  clear hb7 H6 HFA
  by_cases hA : c1 = 0
  · obtain ⟨m, LN', LE', hLO, hl0, hm0, hlr, hcb⟩ := HLO.out hA
    unfold GivesAuto at hLO
    have HLO' := hide hLO
    have HCB := hide hcb
    have HLR := hide hlr
    have HL0 := hide (And.intro hl0 hm0)
    subst hA
    clear hLO hcb hlr hl0 hm0 HLO HNC
    obtain ⟨p0, p1, p2, p3⟩ := H7.out.2.1.1
    go_wp2_with fail
    clear p0 p1 p2 p3
    refine (HLO'.out w7 H7.out.2.1.2.1 H7.out.2.1.2.2).mono ?_
    rintro e w8 ⟨az, cz, az', cz', rfl, hnew, hb8⟩
    have hbz := (Below.refl w8.heap.size w8).alloc (Nat.le_refl _) (.cells #[.int .i64 b, .int .i64 t, .slice az LN'.length cz, .slice az' LN'.length cz'] 25)
    have H9 := hide (siAt_step (siAt_step H7.out hb8) hbz)
    have hx9 := heap_alloc_last w8 (.cells #[.int .i64 b, .int .i64 t, .slice az LN'.length cz, .slice az' LN'.length cz'] 25)
    have hn9 := (hnew.below hbz).here
    obtain ⟨⟨z0, z1, z2, z3⟩, -⟩ := box_cells hx9
    obtain ⟨bn, on, a1, c1, rfl, hcn, hsl⟩ := sl2_cell hn9.1 0 HL0.out.1
    rw [HLR.out] at hcn hsl
    obtain ⟨b1, o1, rfl, hc1⟩ := sl_cell hsl 0 HL0.out.2
    obtain ⟨p0, p1, p2, p3⟩ := H9.out.2.1.1
    have hi0 : (0 : Int) < (LN'.length : Int) := by have := HL0.out.1; omega
    have hi1 : (0 : Int) < (m : Int) := by have := HL0.out.2; omega
    clear hnew hb8 hbz hx9 hn9 hsl H7 HLO'
    generalize (LN'.getD 0 []).getD 0 0 = x at hc1 HCB
    simp only [Nat.add_zero] at hcn hc1
    go_wp2_with fail
    clear p0 p1 p2 p3 z0 z1 z2 z3
    generalize w8.alloc (.cells #[.int .i64 b, .int .i64 t, .slice (some ⟨bn, on, none⟩) LN'.length cz, .slice az' LN'.length cz'] 25) = w9 at H9 hcn hc1 ⊢
    refine (HST.out w9 H9.out.2.1.2.1 H9.out.2.1.2.2).mono ?_
    rintro e w10 ⟨rfl, hb10⟩
    have H10 := hide (siAt_step H9.out hb10)
    clear hb10 H9 hcn hc1
    go_wp2_with fail
    refine (HES.out 0 w10 H10.out.2.2).mono ?_
    rintro e w11 ⟨rfl, hb11⟩
    have HB11 := hide (below_step H10.out.1 hb11)
    clear hb11 H10
    have hcb := HCB.out
    go_wp2
    go_ret
    exact ⟨by simp, HB11.out⟩
  · have hcb := HNC.out hA
    subst hcb
    clear HLO HNC
    obtain ⟨p0, p1, p2, p3⟩ := H7.out.2.1.1
    have hA' : (c1 == 0) = false := by simpa using hA
    go_wp2_with fail
    clear p0 p1 p2 p3
    refine (HST.out w7 H7.out.2.1.2.1 H7.out.2.1.2.2).mono ?_
    rintro e w8 ⟨rfl, hb8⟩
    have H8 := hide (siAt_step H7.out hb8)
    clear hb8 H7
    go_wp2_with fail
    refine (HES.out c1 w8 H8.out.2.2).mono ?_
    rintro e w9 ⟨rfl, hb9⟩
    have HB9 := hide (below_step H8.out.1 hb9)
    clear hb9 H8
    go_wp2
    go_ret
    exact ⟨by simp, HB9.out⟩
end Go.Proofs.YtleebojibobgaaaDoor
