/- The walk of the law DigitReads, out of the contracts. -/
import Derived.Test.YtdmkjhccdknndaaDoorRe
namespace Go.Proofs.YtdmkjhccdknndaaDoor
open Go.RowKit

set_option maxHeartbeats 2000000 in
set_option maxRecDepth 4000 in
theorem reads_any (b n : Int) (a a' : Option Addr) (len cap len' cap' : Nat) (l l' : List Int) (w : World) (hs : Sl w a len l) (hs' : Sl w a' len' l') (hg : Handle w) :
    Calls Tryd.prog 3 #[.int .i64 b, .int .i64 n, .slice a len cap, .slice a' len' cap'] w fun e w' => e = .returned (.bool true) ∧ Below w.heap.size w w' := by
  have HS := hide hs
  have HS' := hide hs'
  have HG := hide hg
  clear hs hs' hg
  go_enter Tryd.func3, Tryd.ntmps3
  go_wp2_with fail
  refine (of_u b n w).mono ?_
  rintro e w1 ⟨a1, cap1, rfl, ⟨hs1, -⟩, hb1⟩
  have HB1 := hide hb1
  have HS1 := hide hs1
  clear hb1 hs1
  go_wp2_with fail
  refine (digitsOf_u b n w1).mono ?_
  rintro e w2 ⟨a2, cap2, rfl, ⟨hs2, -⟩, hb2⟩
  have HB2 := hide (below_step HB1.out hb2)
  have HS1' := hide (sl_below HS1.out hb2)
  have HS2 := hide hs2
  clear hb2 hs2 HS1 HB1
  go_wp2_with fail
  refine (error_same (codeN b n) w2 (HG.out.below HB2.out)).mono ?_
  rintro e w3 ⟨rfl, hb3⟩
  have HB3 := hide (below_step HB2.out hb3)
  have HS1 := hide (sl_below HS1'.out hb3)
  have HS2' := hide (sl_below HS2.out hb3)
  clear hb3 HB2 HS1' HS2
  go_wp2_with fail
  refine (ints_eq _ _ _ _ _ _ _ HS1.out HS2'.out).mono ?_
  rintro e w4 ⟨rfl, hb4⟩
  have HB4 := hide (below_step HB3.out hb4)
  clear hb4 HB3 HS1 HS2'
  go_wp2_with fail
  refine (fault_u b a len cap l w4 (sl_below HS.out HB4.out)).mono ?_
  rintro e w5 ⟨rfl, hw⟩
  rw [hw]
  clear hw w5
  go_wp2_with fail
  refine (right_u b a len cap l w4 (sl_below HS.out HB4.out)).mono ?_
  rintro e w5 ⟨rfl, hw⟩
  rw [hw]
  clear hw w5
  have HE := hide (error_same (codeD b l))
  generalize codeD b l = cD at HE ⊢
  go_wp2_with fail
  refine (HE.out w4 (HG.out.below HB4.out)).mono ?_
  rintro e w5 ⟨rfl, hb5⟩
  have HB5 := hide (below_step HB4.out hb5)
  clear hb5 HB4 HE
  have HRO := hide (rightOf_any b a len cap l w5 (sl_below HS.out HB5.out))
  generalize rightB b l = rB at HRO ⊢
  have hD : ((cD == 0) = true ∧ (decide (cD = 0) && rB) = rB) ∨ ((cD == 0) = false ∧ (decide (cD = 0) && rB) = false) := by
    by_cases e : cD = 0
    · exact Or.inl ⟨by simp [e], by simp [e]⟩
    · exact Or.inr ⟨by simp [e], by simp [e]⟩
  generalize (decide (cD = 0) && rB) = rr at hD ⊢
  have HV1 := hide (valueOf_u b a len cap l w5 (sl_below HS.out HB5.out))
  have HV2 := hide (fun W h => value_u b a len cap l W (sl_below HS.out h))
  have HV3 := hide (fun W h => valueOf_u b a' len' cap' l' W (sl_below HS'.out h))
  have HLE := hide (fun W h => less_u b a a' len cap len' cap' l l' W (sl_below HS.out h) (sl_below HS'.out h))
  generalize codeV b l = cV at HV1 HV2 HLE
  generalize codeV b l' = cO at HV3 HLE
  generalize valU b l = v at HV1 HV2 HLE
  generalize valU b l' = v' at HV3 HLE
  have hcase : ((cV == 0) = true ∧ (cO == 0) = true ∧ lessL cV cO v v' = decide (v < v') ∧ codeL cV cO = cO) ∨ ((cV == 0) = true ∧ (cO == 0) = false ∧ lessL cV cO v v' = false ∧ codeL cV cO = cO) ∨ ((cV == 0) = false ∧ lessL cV cO v v' = false ∧ codeL cV cO = cV ∧ True) := by
    by_cases e : cV = 0
    · by_cases f : cO = 0
      · exact Or.inl ⟨by simp [e], by simp [f], by simp [lessL, e, f], by simp [codeL, e]⟩
      · exact Or.inr (Or.inl ⟨by simp [e], by simp [f], by simp [lessL, f], by simp [codeL, e]⟩)
    · exact Or.inr (Or.inr ⟨by simp [e], by simp [lessL, e], by simp [codeL, e], trivial⟩)
  rcases hD with ⟨hD, hrr⟩ | ⟨hD, hrr⟩
  · rw [hrr]
    clear hrr rr
    go_wp2_with (go_at_call 12; refine HRO.out.mono ?_; rintro e w' ⟨rfl, hw⟩; rw [hw]; clear hw w')
    refine HV1.out.mono ?_
    rintro e w6 ⟨rfl, hb6⟩
    have HB6 := hide (below_step HB5.out hb6)
    clear hb6 HB5 HV1
    go_wp2_with fail
    refine (HV2.out w6 HB6.out).mono ?_
    rintro e w7 ⟨rfl, hb7⟩
    have HB7 := hide (below_step HB6.out hb7)
    clear hb7 HB6 HV2
    go_wp2_with fail
    refine (error_same cV w7 (HG.out.below HB7.out)).mono ?_
    rintro e w8 ⟨rfl, hb8⟩
    have HB8 := hide (below_step HB7.out hb8)
    clear hb8 HB7
    go_wp2_with fail
    refine (HV3.out w8 HB8.out).mono ?_
    rintro e w9 ⟨rfl, hb9⟩
    have HB9 := hide (below_step HB8.out hb9)
    clear hb9 HB8 HV3
    go_wp2_with fail
    refine (HLE.out w9 HB9.out).mono ?_
    rintro e w10 ⟨rfl, hb10⟩
    have HB10 := hide (below_step HB9.out hb10)
    clear hb10 HB9 HLE
    rcases hcase with ⟨hV, hO, e1, e2⟩ | ⟨hV, hO, e1, e2⟩ | ⟨hV, e1, e2, e3⟩
    all_goals
      rw [e1, e2]
      clear e1 e2
      go_wp2_with fail
      refine (error_same _ w10 (HG.out.below HB10.out)).mono ?_
      rintro e w11 ⟨rfl, hb11⟩
      have HB11 := hide (below_step HB10.out hb11)
      clear hb11 HB10
      go_wp2
      go_ret
      exact ⟨by simp, HB11.out⟩
  · rw [hrr]
    clear hrr rr
    go_wp2_with fail
    refine HV1.out.mono ?_
    rintro e w6 ⟨rfl, hb6⟩
    have HB6 := hide (below_step HB5.out hb6)
    clear hb6 HB5 HV1
    go_wp2_with fail
    refine (HV2.out w6 HB6.out).mono ?_
    rintro e w7 ⟨rfl, hb7⟩
    have HB7 := hide (below_step HB6.out hb7)
    clear hb7 HB6 HV2
    go_wp2_with fail
    refine (error_same cV w7 (HG.out.below HB7.out)).mono ?_
    rintro e w8 ⟨rfl, hb8⟩
    have HB8 := hide (below_step HB7.out hb8)
    clear hb8 HB7
    go_wp2_with fail
    refine (HV3.out w8 HB8.out).mono ?_
    rintro e w9 ⟨rfl, hb9⟩
    have HB9 := hide (below_step HB8.out hb9)
    clear hb9 HB8 HV3
    go_wp2_with fail
    refine (HLE.out w9 HB9.out).mono ?_
    rintro e w10 ⟨rfl, hb10⟩
    have HB10 := hide (below_step HB9.out hb10)
    clear hb10 HB9 HLE
    rcases hcase with ⟨hV, hO, e1, e2⟩ | ⟨hV, hO, e1, e2⟩ | ⟨hV, e1, e2, e3⟩
    all_goals
      rw [e1, e2]
      clear e1 e2
      go_wp2_with fail
      refine (error_same _ w10 (HG.out.below HB10.out)).mono ?_
      rintro e w11 ⟨rfl, hb11⟩
      have HB11 := hide (below_step HB10.out hb11)
      clear hb11 HB10
      go_wp2
      go_ret
      exact ⟨by simp, HB11.out⟩

theorem reads_walk (b n : Int) (a : Option Addr) (len cap : Nat) (l : List Int) (a' : Option Addr) (len' cap' : Nat) (l' : List Int) (w : World) (hs : Sl w a len l) (hs' : Sl w a' len' l') (hg : Handle w) :
    Calls Tryd.prog 3 #[.int .i64 b, .int .i64 n, .slice a len cap, .slice a' len' cap'] w fun e w' => e = .returned (.bool true) ∧ Below w.heap.size w w' :=
  reads_any b n a a' len cap len' cap' l l' w hs hs' hg
end Go.Proofs.YtdmkjhccdknndaaDoor
