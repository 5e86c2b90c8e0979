/- The walk of the law TrackMoves, from what package track's functions answer. -/
import Derived.Test.YtkighkpmebcnhacDoorDd
import Derived.Test.YtkighkpmebcnhacDoorZEg
namespace Go.Proofs.YtkighkpmebcnhacDoor
open Go.RowKit

/-- What stands between two calls: the automaton in its box, and the list. -/
def OneAt (w W : World) (b t : Int) (a : Option Addr) (n cap : Nat) (a' : Option Addr) (k cap' : Nat) (N : List (List Int)) (E : List Bool) (aa : Option Addr) (la : Nat) (at_ : List Int) : Prop :=
  Below w.heap.size w W ∧ AutoAt W w.heap.size b t a n cap a' k cap' N E ∧ Sl W aa la at_ ∧ Handle W
theorem oneAt_step {w W W' : World} {b t : Int} {a : Option Addr} {n cap : Nat} {a' : Option Addr} {k cap' : Nat} {N : List (List Int)} {E : List Bool} {aa : Option Addr} {la : Nat} {at_ : List Int} (h : OneAt w W b t a n cap a' k cap' N E aa la at_) (hb : Below W.heap.size W W') : OneAt w W' b t a n cap a' k cap' N E aa la at_ :=
  ⟨below_step h.1 hb, autoAt_below h.2.1 hb, sl_below h.2.2.1 hb, h.2.2.2.below hb⟩

set_option maxHeartbeats 16000000 in
set_option maxRecDepth 8000 in
theorem trackmoves_of (b t : Int) (a : Option Addr) (n cap : Nat) (a' : Option Addr) (k cap' : Nat) (N : List (List Int)) (E : List Bool) (tr : Int) (aa : Option Addr) (la ca : Nat) (at_ : List Int) (tk x : Int) (w : World) (hs : Sl2 w a n N) (he : SlB w a' k E) (ha : Sl w aa la at_) (hg : Handle w)
    (hSP : ∀ W, Sl2 W a n N → SlB W a' k E → Sl W aa la at_ → Calls Tryd.prog 13 #[.agg #[.int .i64 b, .int .i64 t, .slice a n cap, .slice a' k cap'], .int .i64 tr, .slice aa la ca] W (PairR W (okI (sprC b t N k tr at_) b) (okI (sprC b t N k tr at_) tr) (sprN b t N E k tr at_) (sprE b t N E k tr at_) (sprC b t N k tr at_)))
    (hFX : ∀ W, Sl2 W a n N → SlB W a' k E → Calls Tryd.prog 15 #[.agg #[.int .i64 b, .int .i64 t, .slice a n cap, .slice a' k cap'], .int .i64 tk, .int .i64 x] W (PairR W (okI (fixC b t N k tk x) b) (okI (fixC b t N k tk x) (t - 1)) (fixN b t N E k tk x) (fixE b t N E k tk x) (fixC b t N k tk x))) :
    Calls Tryd.prog 4 #[.agg #[.int .i64 b, .int .i64 t, .slice a n cap, .slice a' k cap'], .int .i64 tr, .slice aa la ca, .int .i64 tk, .int .i64 x] w fun e w' => e = .returned (.bool true) ∧ Below w.heap.size w w' := by
  have hB0 := (Below.refl w.heap.size w).alloc (Nat.le_refl _) (.cells #[.int .i64 b, .int .i64 t, .slice a n cap, .slice a' k cap'] 25)
  have H0 : Hid (OneAt w _ b t a n cap a' k cap' N E aa la at_) := ⟨hB0, autoAt_new (cap := cap) (cap' := cap') (T := 25) hs he, sl_below ha hB0, hg.below hB0⟩
  have HSO := hide (fun W h1 h2 h3 => spreadOf_u b t a n cap a' k cap' N E tr aa la ca at_ W h1 h2 h3)
  have HFO := hide (fun W h1 h2 => fixOf_u b t a n cap a' k cap' N E tk x W h1 h2)
  have HSP := hide hSP
  have HFX := hide hFX
  unfold BothR at HSO HFO
  unfold PairR at HSP HFX
  have HES := hide (fun c W (h : Handle W) => error_same c W h)
  clear hs he ha hg hB0 hSP hFX
  generalize okI (sprC b t N k tr at_) b = b0 at HSO HSP
  generalize okI (sprC b t N k tr at_) tr = t0 at HSO HSP
  generalize sprC b t N k tr at_ = c0 at HSO HSP
  generalize sprN b t N E k tr at_ = LN at HSO HSP
  generalize sprE b t N E k tr at_ = LE at HSO HSP
  generalize okI (fixC b t N k tk x) b = b1 at HFO HFX
  generalize okI (fixC b t N k tk x) (t - 1) = t1 at HFO HFX
  generalize fixC b t N k tk x = c1 at HFO HFX
  generalize fixN b t N E k tk x = MN at HFO HFX
  generalize fixE b t N E k tk x = ME at HFO HFX
  generalize hW0 : w.alloc (.cells #[.int .i64 b, .int .i64 t, .slice a n cap, .slice a' k cap'] 25) = w0 at H0
  obtain ⟨p0, p1, p2, p3⟩ := H0.out.2.1.1
  go_enter Tryd.func4, Tryd.ntmps4
  go_wp2_with fail
  clear hW0 p0 p1 p2 p3
  refine (HSO.out w0 H0.out.2.1.2.1 H0.out.2.1.2.2 H0.out.2.2.1).mono ?_
  rintro e w1 ⟨ax, cx, ax', cx', rfl, hnew, hb1⟩
  have hbz := (Below.refl w1.heap.size w1).alloc (Nat.le_refl _) (.cells #[.int .i64 b0, .int .i64 t0, .slice ax LN.length cx, .slice ax' LN.length cx'] 25)
  have H1 := hide (oneAt_step H0.out hb1)
  have HBW2 := hide hbz
  have H2 := hide (oneAt_step (oneAt_step H0.out hb1) hbz)
  have HX2 := hide (heap_alloc_last w1 (.cells #[.int .i64 b0, .int .i64 t0, .slice ax LN.length cx, .slice ax' LN.length cx'] 25))
  have HN2 := hide (hnew.below hbz).here
  clear hnew hb1 hbz H0 HSO
  obtain ⟨p0, p1, p2, p3⟩ := H2.out.2.1.1
  go_wp2_with fail
  clear p0 p1 p2 p3
  generalize w1.alloc (.cells #[.int .i64 b0, .int .i64 t0, .slice ax LN.length cx, .slice ax' LN.length cx'] 25) = w2 at H2 HX2 HN2 HBW2 ⊢
  have HSX : Hid (w1.heap.size < w2.heap.size) := (Array.getElem?_eq_some_iff.1 HX2.out).1
  refine (HSP.out w2 H2.out.2.1.2.1 H2.out.2.1.2.2 H2.out.2.2.1).mono ?_
  rintro e w3 ⟨ay, cy, ay', cy', rfl, hnew, hb3⟩
  have hbz := (Below.refl w3.heap.size w3).alloc (Nat.le_refl _) (.cells #[.int .i64 b0, .int .i64 t0, .slice ay LN.length cy, .slice ay' LN.length cy'] 25)
  have HB4 := hide (below_step hb3 hbz)
  have H4 := hide (oneAt_step H2.out HB4.out)
  have HY4 := hide (heap_alloc_last w3 (.cells #[.int .i64 b0, .int .i64 t0, .slice ay LN.length cy, .slice ay' LN.length cy'] 25))
  have HM4 := hide (hnew.below hbz).here
  have HS23 := hide hb3.size
  clear hnew hb3 hbz HSP
  go_wp2_with fail
  generalize w3.alloc (.cells #[.int .i64 b0, .int .i64 t0, .slice ay LN.length cy, .slice ay' LN.length cy'] 25) = w4 at HB4 H4 HY4 HM4 ⊢
  have HSY : Hid (w3.heap.size < w4.heap.size) := (Array.getElem?_eq_some_iff.1 HY4.out).1
  refine (HES.out c0 w4 H4.out.2.2.2).mono ?_
  rintro e w5 ⟨rfl, hb5⟩
  have HB5 := hide (below_step HB4.out hb5)
  have HBW5 := hide (below_step HBW2.out HB5.out)
  have HC5 := hide hb5
  have H5 := hide (oneAt_step H4.out hb5)
  clear hb5
  have hx5 := (HB5.out.block _ HSX.out).trans HX2.out
  have hy5 := (HC5.out.block _ HSY.out).trans HY4.out
  have HX5 := hide hx5
  have HY5 := hide hy5
  obtain ⟨⟨p0, p1, p2, p3⟩, -⟩ := box_cells hx5
  obtain ⟨⟨q0, q1, q2, q3⟩, -⟩ := box_cells hy5
  clear hx5 hy5
  go_wp2_with fail
  refine (autos_eq b0 t0 ay LN.length cy ay' LN.length cy' ax cx ax' cx' LN LE w5 (sl2_below HM4.out.1 HC5.out) (slB_below HM4.out.2 HC5.out) (sl2_below HN2.out.1 HB5.out) (slB_below HN2.out.2 HB5.out)).mono ?_
  rintro e w6 ⟨rfl, hb6⟩
  have HBW6 := hide (below_step HBW5.out hb6)
  have H6 := hide (oneAt_step H5.out hb6)
  have HX6 := hide ((hb6.block _ (Array.getElem?_eq_some_iff.1 HX5.out).1).trans HX5.out)
  have HY6 := hide ((hb6.block _ (Array.getElem?_eq_some_iff.1 HY5.out).1).trans HY5.out)
  clear hb6 p0 p1 p2 p3 q0 q1 q2 q3 HN2 HM4 HX2 HY4 H2 H4 H5 HX5 HY5 HB4 HB5 HC5
  obtain ⟨p0, p1, p2, p3⟩ := H6.out.2.1.1
  go_wp2_with fail
  clear p0 p1 p2 p3
  refine (HFO.out w6 H6.out.2.1.2.1 H6.out.2.1.2.2).mono ?_
  rintro e w7 ⟨az, cz, az', cz', rfl, hnewZ, hb7⟩
  have HBW7 := hide (below_step HBW6.out hb7)
  have HX7 := hide ((hb7.block _ (Array.getElem?_eq_some_iff.1 HX6.out).1).trans HX6.out)
  have HY7 := hide ((hb7.block _ (Array.getElem?_eq_some_iff.1 HY6.out).1).trans HY6.out)
  have HNZ := hide hnewZ
  have HL6 : Hid (w1.heap.size < w6.heap.size ∧ w3.heap.size < w6.heap.size) := ⟨(Array.getElem?_eq_some_iff.1 HX6.out).1, (Array.getElem?_eq_some_iff.1 HY6.out).1⟩
  clear hb7 hnewZ H6 HX6 HY6 HFO HBW2 HBW5 HBW6
  have HNE : Hid (w3.heap.size ≠ w1.heap.size) := by
    show _ ≠ _
    have h1 := HSX.out
    have h2 := HS23.out
    omega
  obtain ⟨w8, hw8⟩ : ∃ w8, (((w7.setCell ⟨w1.heap.size, 0, none⟩ (.int .i64 b1)).setCell ⟨w1.heap.size, 1, none⟩ (.int .i64 t1)).setCell ⟨w1.heap.size, 2, none⟩ (.slice az MN.length cz)).setCell ⟨w1.heap.size, 3, none⟩ (.slice az' MN.length cz') = w8 := ⟨_, rfl⟩
  obtain ⟨⟨hbx8, hsz8, hkp8⟩, hbl8⟩ := box_set HX7.out hw8.symm
  have HX8 := hide hbx8
  have HY8 := hide ((hkp8 _ HNE.out).trans HY7.out)
  have HBW8 := hide (hbl8 w1 w1.heap.size HBW7.out (Nat.le_refl _))
  have H8 := hide (oneAt_step H1.out HBW8.out)
  have HNZ8 : Hid (∀ W', (∀ z, w6.heap.size ≤ z → z < w8.heap.size → W'.heap[z]? = w8.heap[z]?) → Sl2 W' az MN.length MN ∧ SlB W' az' MN.length ME) := fun W' hW' => HNZ.out W' (fun z hz hzl => by
    have h1 := HL6.out
    rw [hW' z hz (by omega), hkp8 z (by omega)])
  clear hbx8 hsz8 hkp8 hbl8
  obtain ⟨⟨r0, r1, r2, r3⟩, rf⟩ := box_cells HX7.out
  obtain ⟨p0, p1, p2, p3⟩ := H8.out.2.1.1
  go_wp2_with fail
  clear p0 p1 p2 p3 r0 r1 r2 r3 rf hw8
  refine (HFX.out w8 H8.out.2.1.2.1 H8.out.2.1.2.2).mono ?_
  rintro e w9 ⟨av, cv, av', cv', rfl, hnewV, hb9⟩
  have HY9 := hide ((hb9.block _ (Array.getElem?_eq_some_iff.1 HY8.out).1).trans HY8.out)
  have HX9 := hide ((hb9.block _ (Array.getElem?_eq_some_iff.1 HX8.out).1).trans HX8.out)
  have HBW9 := hide (below_step HBW8.out hb9)
  have HB9 := hide hb9
  have HNV := hide hnewV
  obtain ⟨wA, hwA⟩ : ∃ wA, (((w9.setCell ⟨w3.heap.size, 0, none⟩ (.int .i64 b1)).setCell ⟨w3.heap.size, 1, none⟩ (.int .i64 t1)).setCell ⟨w3.heap.size, 2, none⟩ (.slice av MN.length cv)).setCell ⟨w3.heap.size, 3, none⟩ (.slice av' MN.length cv') = wA := ⟨_, rfl⟩
  obtain ⟨⟨hbxA, hszA, hkpA⟩, hblA⟩ := box_set HY9.out hwA.symm
  have HYA := hide hbxA
  have HXA := hide ((hkpA _ (Ne.symm HNE.out)).trans HX9.out)
  have HBWA := hide (hblA w1 w1.heap.size HBW9.out (by have h1 := HSX.out; have h2 := HS23.out; omega))
  have HHA := hide (oneAt_step H1.out HBWA.out)
  have HVA : Hid (Sl2 wA av MN.length MN ∧ SlB wA av' MN.length ME) := HNV.out wA (fun z hz hzl => hkpA z (by have h1 := HL6.out; have h2 := (Array.getElem?_eq_some_iff.1 HY8.out).1; omega))
  have HZA : Hid (Sl2 wA az MN.length MN ∧ SlB wA az' MN.length ME) := HNZ8.out wA (fun z hz hzl => by
    have h1 := HL6.out
    rw [hkpA z (by omega), HB9.out.block z hzl])
  clear hbxA hszA hkpA hblA hnewV hb9
  obtain ⟨⟨s0, s1, s2, s3⟩, sf⟩ := box_cells HY9.out
  go_wp2_with fail
  clear s0 s1 s2 s3 sf hwA
  refine (HES.out c1 wA HHA.out.2.2.2).mono ?_
  rintro e wB ⟨rfl, hbB⟩
  have HHB := hide (oneAt_step HHA.out hbB)
  have hxB := (hbB.block _ (Array.getElem?_eq_some_iff.1 HXA.out).1).trans HXA.out
  have hyB := (hbB.block _ (Array.getElem?_eq_some_iff.1 HYA.out).1).trans HYA.out
  have HQ1 := hide (sl2_below HVA.out.1 hbB)
  have HQ2 := hide (slB_below HVA.out.2 hbB)
  have HQ3 := hide (sl2_below HZA.out.1 hbB)
  have HQ4 := hide (slB_below HZA.out.2 hbB)
  obtain ⟨⟨r0, r1, r2, r3⟩, -⟩ := box_cells hxB
  obtain ⟨⟨s0, s1, s2, s3⟩, -⟩ := box_cells hyB
  clear hxB hyB hbB
  go_wp2_with fail
  refine (autos_eq b1 t1 av MN.length cv av' MN.length cv' az cz az' cz' MN ME wB HQ1.out HQ2.out HQ3.out HQ4.out).mono ?_
  rintro e wC ⟨rfl, hbC⟩
  have HBC := hide (below_step HHB.out.1 hbC)
  clear hbC HHB r0 r1 r2 r3 s0 s1 s2 s3
  go_wp2
  go_ret
  exact ⟨by simp, HBC.out⟩
end Go.Proofs.YtkighkpmebcnhacDoor
