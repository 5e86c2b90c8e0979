/- The walk of the law SomeIs, from what package some answers. -/
import Derived.Test.YtleebojibobgaaaGreatDoorDd
import Derived.Test.YtleebojibobgaaaGreatDoorZGi
import Derived.Test.YtleebojibobgaaaGreatDoorGu
namespace Go.Proofs.YtleebojibobgaaaGreatDoor
open Go.RowKit

/-- What stands between two calls. -/
def SiAt (w W : World) (b t : Int) (a : Option Addr) (n cap : Nat) (a' : Option Addr) (k cap' : Nat) (N : List (List Int)) (E : List Bool) : Prop := Below w.heap.size w W ∧ AutoAt W w.heap.size b t a n cap a' k cap' N E ∧ Handle W
theorem siAt_step {w W W' : World} {b t : Int} {a : Option Addr} {n cap : Nat} {a' : Option Addr} {k cap' : Nat} {N : List (List Int)} {E : List Bool} (h : SiAt w W b t a n cap a' k cap' N E) (hb : Below W.heap.size W W') : SiAt w W' b t a n cap a' k cap' N E := ⟨below_step h.1 hb, autoAt_below h.2.1 hb, h.2.2.below hb⟩

set_option maxHeartbeats 16000000 in
set_option maxRecDepth 8000 in
theorem someis_of (b t : Int) (a : Option Addr) (n cap : Nat) (a' : Option Addr) (k cap' : Nat) (N : List (List Int)) (E : List Bool) (tk : Int) (w : World) (hs : Sl2 w a n N) (he : SlB w a' k E) (hg : Handle w) (hSM : SomeSays) (hST : SetsSays) :
    Calls Tryz.prog 3 #[.agg #[.int .i64 b, .int .i64 t, .slice a n cap, .slice a' k cap'], .int .i64 tk] w fun e w' => e = .returned (.bool true) ∧ Below w.heap.size w w' := by
  have hB0 := (Below.refl w.heap.size w).alloc (Nat.le_refl _) (.cells #[.int .i64 b, .int .i64 t, .slice a n cap, .slice a' k cap'] 25)
  have H0 : Hid (SiAt w _ b t a n cap a' k cap' N E) := ⟨hB0, autoAt_new (cap := cap) (cap' := cap') (T := 25) hs he, hg.below hB0⟩
  have HSO := hide (fun W h1 h2 => someOf_u b t a n cap a' k cap' N E tk W h1 h2)
  have HSM := hide (fun W h1 h2 => hSM b t a n cap a' k cap' N E tk W h1 h2)
  have HST := hide (fun W h1 h2 => hST b t a n cap a' k cap' N E tk W h1 h2)
  unfold SomeR at HSO
  unfold PairR at HSM
  have HES := hide (fun c W (h : Handle W) => error_same c W h)
  clear hs he hg hB0 hSM hST
  generalize okI (smC b t N E k tk) b = b0 at HSO HSM
  generalize okI (smC b t N E k tk) (t - 1) = t0 at HSO HSM
  generalize smC b t N E k tk = c2 at HSO HSM
  generalize smS b t N E k tk = c1 at HSO HST
  generalize smM b t N E k tk = cnt at HSO HST
  generalize smN b t N E k tk = LN at HSO HSM
  generalize smE b t N E k tk = LE at HSO HSM
  generalize hW0 : w.alloc (.cells #[.int .i64 b, .int .i64 t, .slice a n cap, .slice a' k cap'] 25) = w0 at H0
  obtain ⟨p0, p1, p2, p3⟩ := H0.out.2.1.1
  go_enter Tryz.func3, Tryz.ntmps3
  go_wp2_with fail
  clear hW0 p0 p1 p2 p3
  refine (HSO.out w0 H0.out.2.1.2.1 H0.out.2.1.2.2).mono ?_
  rintro e w1 ⟨ax, cx, ax', cx', rfl, hnew, hb1⟩
  have hbz := (Below.refl w1.heap.size w1).alloc (Nat.le_refl _) (.cells #[.int .i64 b0, .int .i64 t0, .slice ax LN.length cx, .slice ax' LN.length cx'] 25)
  have H2 := hide (siAt_step (siAt_step H0.out hb1) hbz)
  have HX2 := hide (heap_alloc_last w1 (.cells #[.int .i64 b0, .int .i64 t0, .slice ax LN.length cx, .slice ax' LN.length cx'] 25))
  have HN2 := hide (hnew.below hbz).here
  obtain ⟨p0, p1, p2, p3⟩ := H2.out.2.1.1
  clear hnew hb1 hbz H0 HSO
  go_wp2_with fail
  clear p0 p1 p2 p3
  generalize w1.alloc (.cells #[.int .i64 b0, .int .i64 t0, .slice ax LN.length cx, .slice ax' LN.length cx'] 25) = w2 at H2 HX2 HN2 ⊢
  refine (HSM.out w2 H2.out.2.1.2.1 H2.out.2.1.2.2).mono ?_
  rintro e w3 ⟨ay, cy, ay', cy', rfl, hnew, hb3⟩
  have hbz := (Below.refl w3.heap.size w3).alloc (Nat.le_refl _) (.cells #[.int .i64 b0, .int .i64 t0, .slice ay LN.length cy, .slice ay' LN.length cy'] 25)
  have HB4 := hide (below_step hb3 hbz)
  have H4 := hide (siAt_step H2.out HB4.out)
  have HY4 := hide (heap_alloc_last w3 (.cells #[.int .i64 b0, .int .i64 t0, .slice ay LN.length cy, .slice ay' LN.length cy'] 25))
  have HM4 := hide (hnew.below hbz).here
  clear hnew hb3 hbz HSM
  go_wp2_with fail
  generalize w3.alloc (.cells #[.int .i64 b0, .int .i64 t0, .slice ay LN.length cy, .slice ay' LN.length cy'] 25) = w4 at HB4 H4 HY4 HM4 ⊢
  refine (HES.out c2 w4 H4.out.2.2).mono ?_
  rintro e w5 ⟨rfl, hb5⟩
  have HB5 := hide (below_step HB4.out hb5)
  have HC5 := hide hb5
  have H5 := hide (siAt_step H4.out hb5)
  have hx5 := (HB5.out.block _ (Array.getElem?_eq_some_iff.1 HX2.out).1).trans HX2.out
  have hy5 := (HC5.out.block _ (Array.getElem?_eq_some_iff.1 HY4.out).1).trans HY4.out
  obtain ⟨⟨p0, p1, p2, p3⟩, -⟩ := box_cells hx5
  obtain ⟨⟨q0, q1, q2, q3⟩, -⟩ := box_cells hy5
  clear hb5 hx5 hy5
  go_wp2_with fail
  clear p0 p1 p2 p3 q0 q1 q2 q3
  refine (autos_eq b0 t0 ay LN.length cy ay' LN.length cy' ax cx ax' cx' LN LE w5 (sl2_below HM4.out.1 HC5.out) (slB_below HM4.out.2 HC5.out) (sl2_below HN2.out.1 HB5.out) (slB_below HN2.out.2 HB5.out)).mono ?_
  rintro e w6 ⟨rfl, hb6⟩
  have H6 := hide (siAt_step H5.out hb6)
  obtain ⟨p0, p1, p2, p3⟩ := H6.out.2.1.1
  clear hb6 HN2 HM4 HX2 HY4 H2 H4 H5 HB4 HB5 HC5
  go_wp2_with fail
  clear p0 p1 p2 p3
  refine (HST.out w6 H6.out.2.1.2.1 H6.out.2.1.2.2).mono ?_
  rintro e w7 ⟨rfl, hb7⟩
  have H7 := hide (siAt_step H6.out hb7)
  clear hb7 H6
  go_wp2_with fail
  refine (HES.out c1 w7 H7.out.2.2).mono ?_
  rintro e w8 ⟨rfl, hb8⟩
  have HB8 := hide (below_step H7.out.1 hb8)
  clear hb8 H7
  go_wp2
  go_ret
  exact ⟨by simp, HB8.out⟩
end Go.Proofs.YtleebojibobgaaaGreatDoor
