/- The walk of the law AutoReaches. -/
import Derived.Test.YtihhlddbppljpabDoorAe
import Derived.Test.YtihhlddbppljpabDoorAv
namespace Go.Proofs.YtihhlddbppljpabDoor
open Go.RowKit

def ReachAt (w W : World) (b t : Int) (a : Option Addr) (len cap : Nat) (a' : Option Addr) (len' cap' : Nat) (N : List (List Int)) (E : List Bool) : Prop :=
  Below w.heap.size w W ∧ AutoAt W w.heap.size b t a len cap a' len' cap' N E ∧ Handle W
theorem reachAt_step {w W W' : World} {b t : Int} {a : Option Addr} {len cap : Nat} {a' : Option Addr} {len' cap' : Nat} {N : List (List Int)} {E : List Bool} (h : ReachAt w W b t a len cap a' len' cap' N E) (hb : Below W.heap.size W W') : ReachAt w W' b t a len cap a' len' cap' N E :=
  ⟨below_step h.1 hb, autoAt_below h.2.1 hb, h.2.2.below hb⟩

set_option maxHeartbeats 4000000 in
set_option maxRecDepth 4000 in
theorem reaches_any (b t : Int) (a : Option Addr) (len cap : Nat) (a' : Option Addr) (len' cap' : Nat) (N : List (List Int)) (E : List Bool) (w : World) (hs : Sl2 w a len N) (he : SlB w a' len' E) (hg : Handle w) :
    Calls Tryd.prog 4 #[.agg #[.int .i64 b, .int .i64 t, .slice a len cap, .slice a' len' cap']] w fun e w' => e = .returned (.bool true) ∧ Below w.heap.size w w' := by
  have hB0 : Below w.heap.size w (w.alloc (.cells #[.int .i64 b, .int .i64 t, .slice a len cap, .slice a' len' cap'] 25)) := (Below.refl _ _).alloc (Nat.le_refl _) _
  have H0 : Hid (ReachAt w (w.alloc (.cells #[.int .i64 b, .int .i64 t, .slice a len cap, .slice a' len' cap'] 25)) b t a len cap a' len' cap' N E) := ⟨hB0, autoAt_new hs he, hg.below hB0⟩
  have HF := hide (fun W h => afault_u b t a a' len cap len' cap' N W h he.2.1)
  have HR := hide (fun W h => reach_u b t a a' len cap len' cap' N W h he.2.1)
  unfold OfU at HR
  have HES := hide (fun c W (h : Handle W) => error_same c W h)
  have hLN := hs.1
  have hmE := he.2.1
  clear hs he hg hB0
  by_cases hA : autoC b t N len' = 0
  · obtain ⟨hM, hE, hG, hmu⟩ := autoC_zero hA
    rw [hLN] at hG hE
    have hRL : reachL b t N len' = metL N := by unfold reachL; rw [if_pos hA]
    rw [hRL, hA] at HR
    rw [hA] at HF
    generalize (manyU b t).toNat = m at hG
    have HME := hide (fun W h => met_any a len cap m N W h hG)
    unfold GivesRow at HME
    clear hRL hA hM hmu hE hG
    generalize metL N = L at HR HME
    go_enter Tryd.func4, Tryd.ntmps4
    go_wp2_with fail
    refine (HF.out _ H0.out.2.1.2.1).mono ?_
    rintro e w1 ⟨rfl, hb1⟩
    have H1 := hide (reachAt_step H0.out hb1)
    clear hb1 H0
    obtain ⟨-, -, hc2, -⟩ := H1.out.2.1.1
    go_wp2_with fail
    refine (HME.out w1 H1.out.2.1.2.1).mono ?_
    rintro e w2 ⟨a2, cap2, rfl, ⟨hs2, -⟩, hb2⟩
    have H2 := hide (reachAt_step H1.out hb2)
    have HS2 := hide hs2
    clear hb2 hs2 H1 hc2
    obtain ⟨hc0, hc1, hc2, hc3⟩ := H2.out.2.1.1
    go_wp2_with fail
    refine (HR.out w2 H2.out.2.1.2.1).mono ?_
    rintro e w3 ⟨a3, cap3, rfl, ⟨hs3, -⟩, hb3⟩
    have H3 := hide (reachAt_step H2.out hb3)
    have HS3 := hide hs3
    have HS23 := hide (sl_below HS2.out hb3)
    clear hb3 hs3 H2 HS2 hc0 hc1 hc2 hc3
    go_wp2_with fail
    refine (HES.out 0 w3 H3.out.2.2).mono ?_
    rintro e w4 ⟨rfl, hb4⟩
    have H4 := hide (reachAt_step H3.out hb4)
    have HS34 := hide (sl_below HS3.out hb4)
    have HS24 := hide (sl_below HS23.out hb4)
    clear hb4 H3 HS3 HS23
    go_wp2_with fail
    refine (ints_eq _ _ _ _ _ _ _ HS34.out HS24.out).mono ?_
    rintro e w5 ⟨rfl, hb5⟩
    have HB5 := hide (below_step H4.out.1 hb5)
    clear hb5 H4
    go_wp2
    go_ret
    exact ⟨by simp, HB5.out⟩
  · have hRL : reachL b t N len' = [] := by unfold reachL; rw [if_neg hA]
    rw [hRL] at HR
    clear hRL
    generalize autoC b t N len' = c at HF HR hA
    have hc' : (c == 0) = false := by simpa using hA
    clear hA
    go_enter Tryd.func4, Tryd.ntmps4
    go_wp2_with fail
    refine (HF.out _ H0.out.2.1.2.1).mono ?_
    rintro e w2 ⟨rfl, hb1⟩
    have H2 := hide (reachAt_step H0.out hb1)
    clear hb1 H0
    obtain ⟨hc0, hc1, hc2, hc3⟩ := H2.out.2.1.1
    go_wp2_with fail
    refine (HR.out w2 H2.out.2.1.2.1).mono ?_
    rintro e w3 ⟨a3, cap3, rfl, ⟨hs3, -⟩, hb3⟩
    have H3 := hide (reachAt_step H2.out hb3)
    have HS3 := hide hs3
    clear hb3 hs3 H2 hc0 hc1 hc2 hc3
    go_wp2_with fail
    refine (HES.out c w3 H3.out.2.2).mono ?_
    rintro e w4 ⟨rfl, hb4⟩
    have H4 := hide (reachAt_step H3.out hb4)
    have HS34 := hide (sl_below HS3.out hb4)
    clear hb4 H3 HS3
    go_wp2_with fail
    refine (ints_eq _ _ _ _ _ _ _ HS34.out (sl_nil w4)).mono ?_
    rintro e w5 ⟨rfl, hb5⟩
    have HB5 := hide (below_step H4.out.1 hb5)
    clear hb5 H4
    go_wp2
    go_ret
    exact ⟨by simp, HB5.out⟩
end Go.Proofs.YtihhlddbppljpabDoor
