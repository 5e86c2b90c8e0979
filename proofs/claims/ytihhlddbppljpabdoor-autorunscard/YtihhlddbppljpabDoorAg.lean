/- The walk of the law AutoRuns. -/
import Derived.Test.YtihhlddbppljpabDoorAe
namespace Go.Proofs.YtihhlddbppljpabDoor
open Go.RowKit

/-- What stands all along the law. -/
def RunsAt (w W : World) (b t : Int) (a : Option Addr) (len cap : Nat) (a' : Option Addr) (len' cap' : Nat) (N : List (List Int)) (E : List Bool) (aw : Option Addr) (lw : Nat) (l : List Int) : Prop :=
  Below w.heap.size w W ∧ AutoAt W w.heap.size b t a len cap a' len' cap' N E ∧ Sl W aw lw l ∧ Handle W
theorem runsAt_step {w W W' : World} {b t : Int} {a : Option Addr} {len cap : Nat} {a' : Option Addr} {len' cap' : Nat} {N : List (List Int)} {E : List Bool} {aw : Option Addr} {lw : Nat} {l : List Int} (h : RunsAt w W b t a len cap a' len' cap' N E aw lw l) (hb : Below W.heap.size W W') : RunsAt w W' b t a len cap a' len' cap' N E aw lw l :=
  ⟨below_step h.1 hb, autoAt_below h.2.1 hb, sl_below h.2.2.1 hb, h.2.2.2.below hb⟩

set_option maxHeartbeats 4000000 in
set_option maxRecDepth 4000 in
theorem runs_any (b t : Int) (a : Option Addr) (len cap : Nat) (a' : Option Addr) (len' cap' : Nat) (N : List (List Int)) (E : List Bool) (aw : Option Addr) (lw cw : Nat) (l : List Int) (w : World) (hs : Sl2 w a len N) (he : SlB w a' len' E) (hw : Sl w aw lw l) (hg : Handle w) :
    Calls Tryd.prog 3 #[.agg #[.int .i64 b, .int .i64 t, .slice a len cap, .slice a' len' cap'], .slice aw lw cw] w fun e w' => e = .returned (.bool true) ∧ Below w.heap.size w w' := by
  have hB0 : Below w.heap.size w (w.alloc (.cells #[.int .i64 b, .int .i64 t, .slice a len cap, .slice a' len' cap'] 25)) := (Below.refl _ _).alloc (Nat.le_refl _) _
  have H0 : Hid (RunsAt w (w.alloc (.cells #[.int .i64 b, .int .i64 t, .slice a len cap, .slice a' len' cap'] 25)) b t a len cap a' len' cap' N E aw lw l) := ⟨hB0, autoAt_new hs he, sl_below hw hB0, hg.below hB0⟩
  have HF := hide (fun W h => afault_u b t a a' len cap len' cap' N W h he.2.1)
  have HC := hide (fun W h => check_u b t a a' len cap len' cap' N W h he.2.1)
  have HR := hide (fun W h k => run_u b t a a' len cap len' cap' N aw lw cw l W h he.2.1 k)
  have HT := hide (fun W h k k' => takes_u b t a a' len cap len' cap' N E aw lw cw l W h k k')
  have HES := hide (fun c W (h : Handle W) => error_same c W h)
  have hLE := he.1
  have hLN := hs.1
  clear hs he hw hg hB0
  by_cases hA : autoC b t N len' = 0
  · obtain ⟨hM, hE, hG, hmu⟩ := autoC_zero hA
    rw [hLN] at hG hE
    have hRC : runC b t N len' l = wordC (manyU b t).toNat l := by unfold runC; rw [if_pos hA]
    have hRS : runS b t N len' l = if wordC (manyU b t).toNat l = 0 then runL N l else 0 := by unfold runS; rw [hRC]
    have hTB : takesB b t N E l = if wordC (manyU b t).toNat l = 0 then E.getD (runL N l) false else false := by unfold takesB; rw [hLE, hRC]
    rw [hRC, hRS] at HR
    rw [hRC, hTB] at HT
    rw [hA] at HF HC
    subst hE
    clear hRC hRS hTB hA hM hmu hLE
    generalize (manyU b t).toNat = m at hG HR HT
    have HLF := hide (fun W h => longFault_u m aw lw cw l W h)
    have HBH := hide (fun W h k hC => behind_any b t a a' len' cap len' cap' m N aw lw cw l W h k hG hC)
    have hrow := (hG.2.2.2.2.2 0 (by have := hG.2.1; omega)).1
    have hpos := hG.2.1
    have h0i : (0 : Int) < (len' : Int) := by omega
    have HLTR : Hid (wordC m l = 0 → runL N l < len') := by
      intro h
      have := runL_lt hG l l.length (Nat.le_refl _) (wordC_zero h).2
      rwa [List.take_of_length_le (Nat.le_refl _)] at this
    clear hG
    go_enter Tryd.func3, Tryd.ntmps3
    go_wp2_with fail
    refine (HF.out _ H0.out.2.1.2.1).mono ?_
    rintro e w1 ⟨rfl, hb1⟩
    have H1 := hide (runsAt_step H0.out hb1)
    clear hb1 H0
    obtain ⟨hc0, hc1, hc2, hc3⟩ := H1.out.2.1.1
    go_wp2_with fail
    refine (HC.out w1 H1.out.2.1.2.1).mono ?_
    rintro e w2 ⟨rfl, hb2⟩
    have H2 := hide (runsAt_step H1.out hb2)
    clear hb2 H1 hc0 hc1 hc2 hc3
    go_wp2_with fail
    refine (HES.out 0 w2 H2.out.2.2.2).mono ?_
    rintro e w3 ⟨rfl, hb3⟩
    have H3 := hide (runsAt_step H2.out hb3)
    clear hb3 H2
    obtain ⟨-, -, hc2, -⟩ := H3.out.2.1.1
    obtain ⟨bn, on, a1, c1, rfl, hcn, -⟩ := sl2_cell H3.out.2.1.2.1 0 hpos
    rw [hrow] at hcn
    rw [Nat.add_zero] at hcn
    go_wp2_with fail
    refine (HLF.out w3 H3.out.2.2.1).mono ?_
    rintro e w' ⟨rfl, hw⟩
    rw [hw]
    clear hw w' hc2 hcn
    by_cases hW : wordC m l = 0
    · have HBH' := hide (HBH.out w3 H3.out.2.1.2.1 H3.out.2.2.1 hW)
      have hlt := HLTR.out hW
      simp only [hW, if_true] at HR HT ⊢
      clear hW HBH HLTR
      generalize runL N l = s at HBH' hlt HR HT
      have hlti : (s : Int) < (len' : Int) := by omega
      obtain ⟨hc0, hc1, hc2, hc3⟩ := H3.out.2.1.1
      go_wp2_with fail
      refine HBH'.out.mono ?_
      rintro e w4 ⟨rfl, hb4⟩
      have H4 := hide (runsAt_step H3.out hb4)
      clear hb4 H3 hc0 hc1 hc2 hc3
      obtain ⟨hc0, hc1, hc2, hc3⟩ := H4.out.2.1.1
      obtain ⟨be, oe, rfl, hce⟩ := slB_cell H4.out.2.1.2.2 s hlt
      generalize E.getD s false = x at hce HT
      go_wp2_with fail
      refine (HR.out w4 H4.out.2.1.2.1 H4.out.2.2.1).mono ?_
      rintro e w5 ⟨rfl, hb5⟩
      have H5 := hide (runsAt_step H4.out hb5)
      clear hb5 H4 hc0 hc1 hc2 hc3 hce
      go_wp2_with fail
      refine (HES.out 0 w5 H5.out.2.2.2).mono ?_
      rintro e w6 ⟨rfl, hb6⟩
      have H6 := hide (runsAt_step H5.out hb6)
      clear hb6 H5
      obtain ⟨hc0, hc1, hc2, hc3⟩ := H6.out.2.1.1
      go_wp2_with fail
      refine (HT.out w6 H6.out.2.1.2.1 H6.out.2.1.2.2 H6.out.2.2.1).mono ?_
      rintro e w7 ⟨rfl, hb7⟩
      have H7 := hide (runsAt_step H6.out hb7)
      clear hb7 H6 hc0 hc1 hc2 hc3
      go_wp2_with fail
      refine (HES.out 0 w7 H7.out.2.2.2).mono ?_
      rintro e w8 ⟨rfl, hb8⟩
      have H8 := hide (runsAt_step H7.out hb8)
      clear hb8 H7
      go_wp2
      go_ret
      exact ⟨by simp, H8.out.1⟩
    · simp only [hW, if_false] at HR HT
      generalize wordC m l = c at HR HT hW ⊢
      have hc' : (c == 0) = false := by simpa using hW
      clear hW HBH HLTR
      obtain ⟨hc0, hc1, hc2, hc3⟩ := H3.out.2.1.1
      go_wp2_with fail
      refine (HR.out w3 H3.out.2.1.2.1 H3.out.2.2.1).mono ?_
      rintro e w5 ⟨rfl, hb5⟩
      have H5 := hide (runsAt_step H3.out hb5)
      clear hb5 H3 hc0 hc1 hc2 hc3
      go_wp2_with fail
      refine (HES.out c w5 H5.out.2.2.2).mono ?_
      rintro e w6 ⟨rfl, hb6⟩
      have H6 := hide (runsAt_step H5.out hb6)
      clear hb6 H5
      obtain ⟨hc0, hc1, hc2, hc3⟩ := H6.out.2.1.1
      go_wp2_with fail
      refine (HT.out w6 H6.out.2.1.2.1 H6.out.2.1.2.2 H6.out.2.2.1).mono ?_
      rintro e w7 ⟨rfl, hb7⟩
      have H7 := hide (runsAt_step H6.out hb7)
      clear hb7 H6 hc0 hc1 hc2 hc3
      go_wp2_with fail
      refine (HES.out c w7 H7.out.2.2.2).mono ?_
      rintro e w8 ⟨rfl, hb8⟩
      have H8 := hide (runsAt_step H7.out hb8)
      clear hb8 H7
      go_wp2
      go_ret
      exact ⟨by simp, H8.out.1⟩
  · have hRC : runC b t N len' l = autoC b t N len' := by unfold runC; rw [if_neg hA]
    have hRS : runS b t N len' l = 0 := by unfold runS; rw [hRC, if_neg hA]
    have hTB : takesB b t N E l = false := by unfold takesB; rw [hLE, hRC, if_neg hA]
    rw [hRC, hRS] at HR
    rw [hRC, hTB] at HT
    clear hRC hRS hTB
    generalize autoC b t N len' = c at HF HC HR HT hA
    have hc' : (c == 0) = false := by simpa using hA
    clear hA
    go_enter Tryd.func3, Tryd.ntmps3
    go_wp2_with fail
    refine (HF.out _ H0.out.2.1.2.1).mono ?_
    rintro e w1 ⟨rfl, hb1⟩
    have H1 := hide (runsAt_step H0.out hb1)
    clear hb1 H0
    obtain ⟨hc0, hc1, hc2, hc3⟩ := H1.out.2.1.1
    go_wp2_with fail
    refine (HC.out w1 H1.out.2.1.2.1).mono ?_
    rintro e w2 ⟨rfl, hb2⟩
    have H2 := hide (runsAt_step H1.out hb2)
    clear hb2 H1 hc0 hc1 hc2 hc3
    go_wp2_with fail
    refine (HES.out c w2 H2.out.2.2.2).mono ?_
    rintro e w3 ⟨rfl, hb3⟩
    have H3 := hide (runsAt_step H2.out hb3)
    clear hb3 H2
    obtain ⟨hc0, hc1, hc2, hc3⟩ := H3.out.2.1.1
    go_wp2_with fail
    refine (HR.out w3 H3.out.2.1.2.1 H3.out.2.2.1).mono ?_
    rintro e w5 ⟨rfl, hb5⟩
    have H5 := hide (runsAt_step H3.out hb5)
    clear hb5 H3 hc0 hc1 hc2 hc3
    go_wp2_with fail
    refine (HES.out c w5 H5.out.2.2.2).mono ?_
    rintro e w6 ⟨rfl, hb6⟩
    have H6 := hide (runsAt_step H5.out hb6)
    clear hb6 H5
    obtain ⟨hc0, hc1, hc2, hc3⟩ := H6.out.2.1.1
    go_wp2_with fail
    refine (HT.out w6 H6.out.2.1.2.1 H6.out.2.1.2.2 H6.out.2.2.1).mono ?_
    rintro e w7 ⟨rfl, hb7⟩
    have H7 := hide (runsAt_step H6.out hb7)
    clear hb7 H6 hc0 hc1 hc2 hc3
    go_wp2_with fail
    refine (HES.out c w7 H7.out.2.2.2).mono ?_
    rintro e w8 ⟨rfl, hb8⟩
    have H8 := hide (runsAt_step H7.out hb8)
    clear hb8 H7
    go_wp2
    go_ret
    exact ⟨by simp, H8.out.1⟩
end Go.Proofs.YtihhlddbppljpabDoor
