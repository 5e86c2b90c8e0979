/- The walk of the law LeastIs. -/
import Derived.Test.YtihhlddbppljpabDoorAw
import Derived.Test.YtihhlddbppljpabDoorBs
import Derived.Test.YtihhlddbppljpabDoorBy
import Derived.Test.YtihhlddbppljpabDoorCa
namespace Go.Proofs.YtihhlddbppljpabDoor
open Go.RowKit

set_option maxHeartbeats 8000000 in
set_option maxRecDepth 8000 in
theorem leastis_any (b t : Int) (a : Option Addr) (len cap : Nat) (a' : Option Addr) (len' cap' : Nat) (N : List (List Int)) (E : List Bool) (w : World) (hs : Sl2 w a len N) (he : SlB w a' len' E) (hg : Handle w) :
    Calls Tryd.prog 5 #[.agg #[.int .i64 b, .int .i64 t, .slice a len cap, .slice a' len' cap']] w fun e w' => e = .returned (.bool true) ∧ Below w.heap.size w w' := by
  have hB0 : Below w.heap.size w (w.alloc (.cells #[.int .i64 b, .int .i64 t, .slice a len cap, .slice a' len' cap'] 25)) := (Below.refl _ _).alloc (Nat.le_refl _) _
  have H0 : Hid (ReachAt w (w.alloc (.cells #[.int .i64 b, .int .i64 t, .slice a len cap, .slice a' len' cap'] 25)) b t a len cap a' len' cap' N E) := ⟨hB0, autoAt_new hs he, hg.below hB0⟩
  have HF := hide (fun W h => afault_u b t a a' len cap len' cap' N W h he.2.1)
  have HES := hide (fun c W (h : Handle W) => error_same c W h)
  have hLN := hs.1
  have hmE := he.2.1
  clear hs he hg hB0
  by_cases hA : autoC b t N len' = 0
  · obtain ⟨hM, hE, hG, hmu⟩ := autoC_zero hA
    have h80 := autoC_80 hA
    obtain rfl : len' = len := by omega
    rw [hLN] at hG h80
    have HL := hide (fun W h1 h2 => least_ok b t a len' cap N a' cap' E W h1 h2 hA)
    unfold LeastU at HL
    rw [hA] at HF
    generalize (manyU b t).toNat = m at hG HL
    have HLO := hide (fun W h1 h2 => leastOf_any b t a len' cap m N a' cap' E W h1 hG h2 (leastK_80 hG E h80))
    unfold GivesAuto at HLO
    have hKE : (leastE N E m).length = (leastN N E m).length := by rw [leastN_len, leastE_len]
    clear hA hM hmu hE hG h80
    generalize leastN N E m = LN at HL HLO hKE
    generalize leastE N E m = LE at HL HLO hKE
    go_enter Tryd.func5, Tryd.ntmps5
    go_wp2_with fail
    refine (HF.out _ H0.out.2.1.2.1).mono ?_
    rintro e w1 ⟨rfl, hb1⟩
    have H1 := hide (reachAt_step H0.out hb1)
    clear hb1 H0
    have hBw : Below w1.heap.size w1 (w1.alloc (.cells #[.int .i64 0, .int .i64 0, .slice none 0 0, .slice none 0 0] 25)) := (Below.refl _ _).alloc (Nat.le_refl _) _
    have HBW := hide hBw
    have H2 := hide (reachAt_step H1.out hBw)
    have HW := hide (heap_alloc_last w1 (.cells #[.int .i64 0, .int .i64 0, .slice none 0 0, .slice none 0 0] 25))
    have HSZ : Hid ((w1.alloc (.cells #[.int .i64 0, .int .i64 0, .slice none 0 0, .slice none 0 0] 25)).heap.size = w1.heap.size + 1) := by show _ = _; simp
    obtain ⟨hc0, hc1, hc2, hc3⟩ := H2.out.2.1.1
    clear hBw
    go_wp2_with fail
    clear hc0 hc1 hc2 hc3
    generalize w1.alloc (.cells #[.int .i64 0, .int .i64 0, .slice none 0 0, .slice none 0 0] 25) = w2 at HBW H2 HW HSZ ⊢
    refine (HLO.out w2 H2.out.2.1.2.1 H2.out.2.1.2.2).mono ?_
    rintro e w3 ⟨ax, cx, ax', cx', rfl, hnew, hb3⟩
    have hbox := (hb3.block w1.heap.size (by have := HSZ.out; omega)).trans HW.out
    obtain ⟨⟨ho0, ho1, ho2, ho3⟩, hf⟩ := box_cells hbox
    obtain ⟨w4, hw4⟩ : ∃ w4, (((w3.setCell ⟨w1.heap.size, 0, none⟩ (.int .i64 b)).setCell ⟨w1.heap.size, 1, none⟩ (.int .i64 t)).setCell ⟨w1.heap.size, 2, none⟩ (.slice ax LN.length cx)).setCell ⟨w1.heap.size, 3, none⟩ (.slice ax' LN.length cx') = w4 := ⟨_, rfl⟩
    obtain ⟨⟨hbx4, hsz4, hkp4⟩, hbl4⟩ := box_set hbox hw4.symm
    have HX4 := hide hbx4
    have HB4 := hide (hbl4 w1 w1.heap.size (HBW.out.trans (hb3.mono HBW.out.size)) (Nat.le_refl _))
    have H4 := hide (reachAt_step H1.out HB4.out)
    have HN4 : Hid (Sl2 w4 ax LN.length LN ∧ SlB w4 ax' LN.length LE) := hnew w4 (fun x h1 h2 => hkp4 x (by have := HSZ.out; omega))
    have HS4 : Hid (w1.heap.size < w4.heap.size) := by have h1 := HSZ.out; have h2 := hb3.size; show _ < _; omega
    clear hnew hb3 hbox hbx4 hsz4 hkp4 hbl4 HBW H2 HW HSZ HLO
    obtain ⟨hc0, hc1, hc2, hc3⟩ := H4.out.2.1.1
    go_wp2_with fail
    clear hw4 hc0 hc1 hc2 hc3 ho0 ho1 ho2 ho3 hf
    refine (HL.out w4 H4.out.2.1.2.1 H4.out.2.1.2.2).mono ?_
    rintro e w5 ⟨ay, cy, ay', cy', rfl, hnew, hb5⟩
    have HB5 := hide (hb5.trans (((Below.refl w5.heap.size w5).alloc (Nat.le_refl _) (.cells #[.int .i64 b, .int .i64 t, .slice ay LN.length cy, .slice ay' LN.length cy'] 25)).mono hb5.size))
    have H6 := hide (reachAt_step H4.out HB5.out)
    have HY6 := hide (heap_alloc_last w5 (.cells #[.int .i64 b, .int .i64 t, .slice ay LN.length cy, .slice ay' LN.length cy'] 25))
    have HN6 := hide (hnew.below ((Below.refl w5.heap.size w5).alloc (Nat.le_refl _) (.cells #[.int .i64 b, .int .i64 t, .slice ay LN.length cy, .slice ay' LN.length cy'] 25))).here
    clear hnew hb5
    go_wp2_with fail
    generalize w5.alloc (.cells #[.int .i64 b, .int .i64 t, .slice ay LN.length cy, .slice ay' LN.length cy'] 25) = w6 at HB5 H6 HY6 HN6 ⊢
    refine (HES.out 0 w6 H6.out.2.2).mono ?_
    rintro e w7 ⟨rfl, hb7⟩
    have H7 := hide (reachAt_step H6.out hb7)
    have hx7 := ((below_step HB5.out hb7).block _ HS4.out).trans HX4.out
    have hy7 := (hb7.block w5.heap.size (Array.getElem?_eq_some_iff.1 HY6.out).1).trans HY6.out
    have HA7 := hide (sl2_below HN4.out.1 (below_step HB5.out hb7))
    have HA7' := hide (slB_below HN4.out.2 (below_step HB5.out hb7))
    have HC7 := hide (sl2_below HN6.out.1 hb7)
    have HC7' := hide (slB_below HN6.out.2 hb7)
    obtain ⟨⟨p0, p1, p2, p3⟩, -⟩ := box_cells hx7
    obtain ⟨⟨q0, q1, q2, q3⟩, -⟩ := box_cells hy7
    clear hb7 hx7 hy7
    go_wp2_with fail
    refine (autos_eq b t ay LN.length cy ay' LN.length cy' ax cx ax' cx' LN LE w7 HC7.out HC7'.out HA7.out HA7'.out).mono ?_
    rintro e w8 ⟨rfl, hb8⟩
    have HB8 := hide (below_step H7.out.1 hb8)
    clear hb8 H7 p0 p1 p2 p3 q0 q1 q2 q3
    go_wp2
    go_ret
    exact ⟨by simp, HB8.out⟩
  · have HL := hide (fun W h => least_no b t a len cap N a' len' cap' W h hmE hA)
    generalize autoC b t N len' = c at HF HL hA
    have hc' : (c == 0) = false := by simpa using hA
    clear hA
    go_enter Tryd.func5, Tryd.ntmps5
    go_wp2_with fail
    refine (HF.out _ H0.out.2.1.2.1).mono ?_
    rintro e w1 ⟨rfl, hb1⟩
    have H1 := hide (reachAt_step H0.out hb1)
    clear hb1 H0
    have hBw : Below w1.heap.size w1 (w1.alloc (.cells #[.int .i64 0, .int .i64 0, .slice none 0 0, .slice none 0 0] 25)) := (Below.refl _ _).alloc (Nat.le_refl _) _
    have H2 := hide (reachAt_step H1.out hBw)
    have HW := hide (heap_alloc_last w1 (.cells #[.int .i64 0, .int .i64 0, .slice none 0 0, .slice none 0 0] 25))
    obtain ⟨hc0, hc1, hc2, hc3⟩ := H2.out.2.1.1
    clear hBw
    go_wp2_with fail
    clear hc0 hc1 hc2 hc3
    generalize w1.alloc (.cells #[.int .i64 0, .int .i64 0, .slice none 0 0, .slice none 0 0] 25) = w4 at H2 HW ⊢
    refine (HL.out w4 H2.out.2.1.2.1).mono ?_
    rintro e w5 ⟨rfl, hb5⟩
    have HB5 := hide (hb5.trans (((Below.refl w5.heap.size w5).alloc (Nat.le_refl _) (.cells #[.int .i64 0, .int .i64 0, .slice none 0 0, .slice none 0 0] 25)).mono hb5.size))
    have H6 := hide (reachAt_step H2.out HB5.out)
    have HY6 := hide (heap_alloc_last w5 (.cells #[.int .i64 0, .int .i64 0, .slice none 0 0, .slice none 0 0] 25))
    clear hb5
    go_wp2_with fail
    generalize w5.alloc (.cells #[.int .i64 0, .int .i64 0, .slice none 0 0, .slice none 0 0] 25) = w6 at HB5 H6 HY6 ⊢
    refine (HES.out c w6 H6.out.2.2).mono ?_
    rintro e w7 ⟨rfl, hb7⟩
    have H7 := hide (reachAt_step H6.out hb7)
    have hx7 := ((below_step HB5.out hb7).block _ (Array.getElem?_eq_some_iff.1 HW.out).1).trans HW.out
    have hy7 := (hb7.block w5.heap.size (Array.getElem?_eq_some_iff.1 HY6.out).1).trans HY6.out
    obtain ⟨⟨p0, p1, p2, p3⟩, -⟩ := box_cells hx7
    obtain ⟨⟨q0, q1, q2, q3⟩, -⟩ := box_cells hy7
    clear hb7 hx7 hy7
    go_wp2_with fail
    refine (autos_eq 0 0 none 0 0 none 0 0 none 0 none 0 [] [] w7 ⟨rfl, by decide, Or.inl rfl⟩ ⟨rfl, by decide, Or.inl rfl⟩ ⟨rfl, by decide, Or.inl rfl⟩ ⟨rfl, by decide, Or.inl rfl⟩).mono ?_
    rintro e w8 ⟨rfl, hb8⟩
    have HB8 := hide (below_step H7.out.1 hb8)
    clear hb8 H7 p0 p1 p2 p3 q0 q1 q2 q3
    go_wp2
    go_ret
    exact ⟨by simp, HB8.out⟩
end Go.Proofs.YtihhlddbppljpabDoor
