/- The reference's Fault, LongFault and Behind: contracts. -/
import Derived.Test.YtihhlddbppljpabDoorAd
import Derived.Test.YtihhlddbppljpabDoorLp
namespace Go.Proofs.YtihhlddbppljpabDoor
open Go.RowKit

set_option maxHeartbeats 4000000 in
set_option maxRecDepth 4000 in
theorem afault_u (b t : Int) (a a' : Option Addr) (len cap len' cap' : Nat) (N : List (List Int)) (w : World) (hs : Sl2 w a len N) (hm' : len' ≤ maxLen) :
    Calls Tryd.prog 7 #[.agg #[.int .i64 b, .int .i64 t, .slice a len cap, .slice a' len' cap']] w fun e w' => e = .returned (.int .i64 (autoC b t N len')) ∧ Below w.heap.size w w' := by
  have hL := hs.1
  have hm := hs.2.1
  unfold maxLen at hm hm'
  have HMU := hide (fun W => letters_u b t W)
  by_cases hM : codeM b t = 0
  · have hlo := pw_pos (kindsI b) (kinds_bd2 b (codeM_zero hM).2.1).1 t.toNat
    have hhi := (codeM_zero hM).2.2.2.2.1
    have hmu := (codeM_zero hM).2.2.2.2.2
    rw [← hmu] at hlo hhi
    obtain ⟨m, hmm⟩ : ∃ m : Nat, manyU b t = m := ⟨(manyU b t).toNat, by omega⟩
    have HA : Hid (autoC b t N len' = if len = 0 then 4 else if 80 < len then 3 else if len' = len then rowsC m len N else 2) := by
      show _ = _
      unfold autoC
      rw [if_pos hM, hL, hmm, Int.toNat_natCast]
    have hm36 : m ≤ 36 := by omega
    rw [hmm, hM] at HMU
    clear hM hlo hhi hmu hmm
    generalize autoC b t N len' = R at HA ⊢
    by_cases h0 : len = 0
    · rw [if_pos h0] at HA
      subst h0
      go_enter Tryd.func7, Tryd.ntmps7
      go_wp2_with (go_at_call 26; refine (HMU.out _).mono ?_; rintro e w' ⟨rfl, rfl⟩)
      go_ret
      exact ⟨by rw [HA.out]; simp, (Below.refl _ _).alloc (Nat.le_refl _) _⟩
    · rw [if_neg h0] at HA
      have h0' : ((len : Int) == 0) = false := by simp; omega
      by_cases h80 : 80 < len
      · rw [if_pos h80] at HA
        have h80' : (80 : Int) < (len : Int) := by omega
        go_enter Tryd.func7, Tryd.ntmps7
        go_wp2_with (go_at_call 26; refine (HMU.out _).mono ?_; rintro e w' ⟨rfl, rfl⟩)
        go_ret
        exact ⟨by rw [HA.out]; simp, (Below.refl _ _).alloc (Nat.le_refl _) _⟩
      · rw [if_neg h80] at HA
        have h80' : ¬ (80 : Int) < (len : Int) := by omega
        by_cases hE : len' = len
        · rw [if_pos hE] at HA
          subst hE
          have hee : ((len' : Int) != (len' : Int)) = false := by simp
          have HB : Hid (Below w.heap.size w (w.alloc (.cells #[.int .i64 b, .int .i64 t, .slice a len' cap, .slice a' len' cap'] 25))) := (Below.refl _ _).alloc (Nat.le_refl _) _
          have HS := hide (sl2_below hs HB.out)
          have HBX := hide (box4 (Below.refl (w.alloc (.cells #[.int .i64 b, .int .i64 t, .slice a len' cap, .slice a' len' cap'] 25)).heap.size (w.alloc (.cells #[.int .i64 b, .int .i64 t, .slice a len' cap, .slice a' len' cap'] 25)))).2.2.1
          have HAT := hide (fun k => @rowsC_at m len' N k)
          have HALL := hide (@rowsC_all m len' N)
          rw [hL] at HALL
          have HCL := hide (fun k => @rowC_long m len' (N.getD k []))
          have HCB := hide (fun k h => @rowC_bad m len' (N.getD k []) h)
          have HCG := hide (fun k => @rowC_good m len' (N.getD k []))
          have hN : N.length = len' := hL
          clear hs hL
          go_enter Tryd.func7, Tryd.ntmps7
          go_wp2_with (go_at_call 26; refine (HMU.out _).mono ?_; rintro e w' ⟨rfl, rfl⟩)
          generalize w.alloc (.cells #[.int .i64 b, .int .i64 t, .slice a len' cap, .slice a' len' cap'] 25) = W at HS HB HBX ⊢
          go_loopw [5] (fun i wx => ∃ k n : Nat, k ≤ len' ∧ i = .int .i64 k ∧ wx = W.drewN n ∧ ∀ j, j < k → rowC m len' (N.getD j []) = 0) (fun i _ => len' - (intOf i).toNat)
          case atStart => exact ⟨0, 0, by omega, rfl, rfl, by omega⟩
          case round =>
            obtain ⟨k, n, hk, rfl, hwx, hd⟩ := hrel
            have HD := hide hd
            have HWX := hide hwx
            have hbx : wr.cell? ⟨w.heap.size, 2, none⟩ = some (.slice a len' cap) := by rw [hwx]; exact HBX.out
            clear hd hwx
            by_cases hlt : k < len'
            · have hlti : (k : Int) < (len' : Int) := by omega
              obtain ⟨bb, o, a1, c1, rfl, hck0, hsl⟩ := sl2_cell HS.out k hlt
              have HSL := hide hsl
              have hck : wr.cell? ⟨bb, o + k, none⟩ = some (.slice a1 (N.getD k []).length c1) := by rw [HWX.out]; exact hck0
              have HAT' := hide (HAT.out k (by omega) HD.out)
              have HCL' := hide (HCL.out k)
              have HCB' := hide (HCB.out k)
              have HCG' := hide (HCG.out k)
              have HD' : Hid (rowC m len' (N.getD k []) = 0 → ∀ j, j < k + 1 → rowC m len' (N.getD j []) = 0) := by
                intro h j hj
                by_cases e : j = k
                · subst e; exact h
                · exact HD.out j (by omega)
              have hrm := hsl.2.1
              unfold maxLen at hrm
              clear hck0 hsl
              generalize rowC m len' (N.getD k []) = C at HAT' HCL' HCB' HCG' HD'
              generalize hrl : N.getD k [] = r at hck HCL' HCB' HCG' HSL hrm
              clear hrl
              by_cases hlen : r.length = m
              · have HCB2 := hide (HCB'.out hlen)
                have HCG2 := hide (HCG'.out hlen)
                rw [hlen] at hck HSL hrm
                clear HCL' HCB' HCG' hlen
                have hmm : ((m : Int) != (m : Int)) = false := by simp
                go_wp2
                obtain ⟨wo, hwo⟩ : ∃ wo : World, wo = wr := ⟨_, rfl⟩
                rw [← hwo] at HWX hbx hck ⊢
                clear hwo wr
                have HCK := hide hck
                have HBX2 := hide hbx
                clear hck hbx
                go_loopw [6] (fun i wx => ∃ q n' : Nat, q ≤ m ∧ i = .int .i64 q ∧ wx = wo.drewN n' ∧ ∀ j, j < q → 0 ≤ r.getD j 0 ∧ r.getD j 0 < (len' : Int)) (fun i _ => m - (intOf i).toNat)
                case atStart => exact ⟨0, 0, by omega, rfl, rfl, by omega⟩
                case round =>
                  obtain ⟨q, n', hq, rfl, hwx, hd⟩ := hrel
                  have HWX2 := hide hwx
                  have HDQ := hide hd
                  have hbx : wr.cell? ⟨w.heap.size, 2, none⟩ = some (.slice (some ⟨bb, o, none⟩) len' cap) := by rw [hwx]; exact HBX2.out
                  have hck : wr.cell? ⟨bb, o + k, none⟩ = some (.slice a1 m c1) := by rw [hwx]; exact HCK.out
                  clear hwx hd
                  by_cases hqt : q < m
                  · have hqti : (q : Int) < (m : Int) := by omega
                    obtain ⟨b1, o1, rfl, hx0⟩ := sl_cell HSL.out q hqt
                    have hxc : wr.cell? ⟨b1, o1 + q, none⟩ = some (.int .i64 (r.getD q 0)) := by rw [HWX2.out, HWX.out]; exact hx0
                    clear hx0
                    have HBQ := hide (HCB2.out q hqt)
                    have HDQ' : Hid (0 ≤ r.getD q 0 ∧ r.getD q 0 < (len' : Int) → ∀ j, j < q + 1 → 0 ≤ r.getD j 0 ∧ r.getD j 0 < (len' : Int)) := by
                      intro h j hj
                      by_cases e : j = q
                      · subst e; exact h
                      · exact HDQ.out j (by omega)
                    generalize r.getD q 0 = x at hxc HBQ HDQ'
                    by_cases hx : 0 ≤ x ∧ x < (len' : Int)
                    · have HDQ2 := hide (HDQ'.out hx)
                      obtain ⟨hx1, hx2⟩ := hx
                      have hxd : decide (x < 0) = false := by simp; omega
                      go_wp2
                      go_quiet (fail)
                      go_wp2
                      go_roundw
                      case rel => exact ⟨q + 1, n' + nq, by omega, by go_num, by rw [HWX2.out, World.drewN_drewN], HDQ2.out⟩
                      case measure => simp [intOf]; omega
                    · have HC1 := hide (HBQ.out hx)
                      have HR := hide (HAT'.out (by rw [HC1.out]; decide))
                      rw [HR.out, HC1.out] at HA
                      have HBW : Hid (Below w.heap.size w wr) := by rw [HWX2.out, HWX.out]; exact below_drewN (below_drewN HB.out n) n'
                      have hx' : x < 0 ∨ (decide (x < 0) = false ∧ (len' : Int) ≤ x) := by
                        by_cases e : x < 0
                        · exact Or.inl e
                        · exact Or.inr ⟨by simp; omega, by omega⟩
                      clear hx HR HC1
                      rcases hx' with hx | ⟨hx1, hx2⟩
                      all_goals
                        go_wp2
                        go_quiet (fail)
                        go_wp2
                        go_ret
                        exact ⟨by rw [HA.out]; simp, below_drewN HBW.out nq⟩
                  · have hqti : ¬ ((q : Int) < (m : Int)) := by omega
                    have HD2 := hide (HD'.out (HCG2.out fun j hj => HDQ.out j (by omega)))
                    go_wp2
                    go_roundw
                    case rel => exact ⟨k + 1, n + n', by omega, by go_num, by rw [HWX2.out, HWX.out, World.drewN_drewN], HD2.out⟩
                    case measure => simp [intOf]; omega
              · have HC2 := hide (HCL'.out hlen)
                have HR := hide (HAT'.out (by rw [HC2.out]; decide))
                rw [HR.out, HC2.out] at HA
                have hne : ((r.length : Int) != (m : Int)) = true := by simp; omega
                have HBW : Hid (Below w.heap.size w wr) := by rw [HWX.out]; exact below_drewN HB.out n
                clear HR HC2 HSL
                go_wp2
                go_ret
                exact ⟨by rw [HA.out]; simp, HBW.out⟩
            · have hlti : ¬ ((k : Int) < (len' : Int)) := by omega
              have HR := hide (HALL.out fun j hj => HD.out j (by omega))
              rw [HR.out] at HA
              have HBW : Hid (Below w.heap.size w wr) := by rw [HWX.out]; exact below_drewN HB.out n
              go_wp2
              go_ret
              exact ⟨by rw [HA.out]; simp, HBW.out⟩
        · rw [if_neg hE] at HA
          have hee : ((len' : Int) != (len : Int)) = true := by simp; omega
          go_enter Tryd.func7, Tryd.ntmps7
          go_wp2_with (go_at_call 26; refine (HMU.out _).mono ?_; rintro e w' ⟨rfl, rfl⟩)
          go_ret
          exact ⟨by rw [HA.out]; simp, (Below.refl _ _).alloc (Nat.le_refl _) _⟩
  · have HA : Hid (autoC b t N len' = codeM b t) := by show _ = _; unfold autoC; rw [if_neg hM]
    rw [HA.out]
    generalize codeM b t = c at HMU hM ⊢
    have hM' : (c != 0) = true := by simpa using hM
    go_enter Tryd.func7, Tryd.ntmps7
    go_wp2_with (go_at_call 26; refine (HMU.out _).mono ?_; rintro e w' ⟨rfl, rfl⟩)
    go_ret
    exact ⟨by simp, (Below.refl _ _).alloc (Nat.le_refl _) _⟩

set_option maxHeartbeats 1000000 in
set_option maxRecDepth 4000 in
theorem longFault_u (m : Nat) (aw : Option Addr) (lw cw : Nat) (l : List Int) (w : World) (hs : Sl w aw lw l) :
    Calls Tryd.prog 10 #[.int .i64 m, .slice aw lw cw] w fun e w' => e = .returned (.int .i64 (wordC m l)) ∧ w' = w := by
  have hL := hs.1
  have hm := hs.2.1
  unfold maxLen at hm
  have HS := hide hs
  clear hs
  by_cases hlong : 400 < lw
  · rw [@wordC_long m l (by omega)]
    have hlong' : (400 : Int) < (lw : Int) := by omega
    go_enter Tryd.func10, Tryd.ntmps10
    go_wp2
    go_ret
    exact ⟨by simp, rfl⟩
  · have hlong' : ¬ (400 : Int) < (lw : Int) := by omega
    have HBAD := hide (fun k => @wordC_bad m l (by omega) k)
    have HGOOD := hide (@wordC_good m l (by omega))
    rw [hL] at HBAD HGOOD
    generalize wordC m l = c at HBAD HGOOD ⊢
    go_enter Tryd.func10, Tryd.ntmps10
    go_wp2
    go_loop [5] (fun i => ∃ k : Nat, k ≤ lw ∧ i = .int .i64 k ∧ ∀ j, j < k → 0 ≤ l.getD j 0 ∧ l.getD j 0 < (m : Int)) (fun i => lw - (intOf i).toNat)
    case atStart => exact ⟨0, by omega, rfl, by omega⟩
    case round =>
      obtain ⟨k, hk, rfl, hd⟩ := hrel
      have HD := hide hd
      clear hd
      by_cases hlt : k < lw
      · have hlti : (k : Int) < (lw : Int) := by omega
        obtain ⟨bb, o, rfl, hck⟩ := sl_cell HS.out k hlt
        have HB' := hide (HBAD.out k hlt)
        have HD' : Hid (0 ≤ l.getD k 0 ∧ l.getD k 0 < (m : Int) → ∀ j, j < k + 1 → 0 ≤ l.getD j 0 ∧ l.getD j 0 < (m : Int)) := by
          intro h j hj
          by_cases e : j = k
          · subst e; exact h
          · exact HD.out j (by omega)
        generalize l.getD k 0 = x at hck HB' HD'
        by_cases hx : 0 ≤ x ∧ x < (m : Int)
        · have HD2 := hide (HD'.out hx)
          obtain ⟨hx1, hx2⟩ := hx
          go_wp2
          go_round
          case rel => exact ⟨k + 1, by omega, by go_num, HD2.out⟩
          case measure => simp [intOf]; omega
        · have HB2 := hide (HB'.out hx)
          have hx' : x < 0 ∨ (¬ x < 0 ∧ (m : Int) ≤ x) := by omega
          clear hx
          rcases hx' with hx | ⟨hx1, hx2⟩
          all_goals
            go_wp2
            go_ret
            exact ⟨by rw [HB2.out]; simp, rfl⟩
      · have hlti : ¬ ((k : Int) < (lw : Int)) := by omega
        have HG2 := hide (HGOOD.out fun j hj => HD.out j (by omega))
        go_wp2
        go_ret
        exact ⟨by rw [HG2.out]; simp, rfl⟩

set_option maxHeartbeats 2000000 in
set_option maxRecDepth 4000 in
theorem behind_any (b t : Int) (a a' : Option Addr) (len cap len' cap' m : Nat) (N : List (List Int)) (aw : Option Addr) (lw cw : Nat) (l : List Int) (w : World) (hs : Sl2 w a len N) (hw : Sl w aw lw l) (hG : GoodN m len N) (hC : wordC m l = 0) :
    Calls Tryd.prog 11 #[.agg #[.int .i64 b, .int .i64 t, .slice a len cap, .slice a' len' cap'], .slice aw lw cw] w fun e w' => e = .returned (.int .i64 (runL N l : Nat)) ∧ Below w.heap.size w w' := by
  have hLw := hw.1
  have hWZ := wordC_zero hC
  rw [hLw] at hWZ
  have HWZ := hide hWZ.2
  have hlw := hWZ.1
  have HB : Hid (Below w.heap.size w (w.alloc (.cells #[.int .i64 b, .int .i64 t, .slice a len cap, .slice a' len' cap'] 25))) := (Below.refl _ _).alloc (Nat.le_refl _) _
  have HS := hide (sl2_below hs HB.out)
  have HW := hide (sl_below hw HB.out)
  have HBX := hide (box4 (Below.refl (w.alloc (.cells #[.int .i64 b, .int .i64 t, .slice a len cap, .slice a' len' cap'] 25)).heap.size (w.alloc (.cells #[.int .i64 b, .int .i64 t, .slice a len cap, .slice a' len' cap'] 25)))).2.2.1
  have HLT := hide (fun k => @runL_lt m len N hG l k)
  have HTS := hide (fun k => @runL_take_succ N l k)
  have HST := hide (fun s => @goodN_step m len N hG s)
  have HROW : Hid (∀ s, s < len → (N.getD s []).length = m) := fun s h => (hG.2.2.2.2.2 s h).1
  have hm36 := hG.2.2.2.1
  have hn80 := hG.2.2.1
  have HEND : Hid (runL N (l.take lw) = runL N l) := by show _ = _; rw [List.take_of_length_le (by omega)]
  rw [hLw] at HLT HTS
  clear hs hw hC hWZ hG
  generalize hRL : runL N l = RL at HEND ⊢
  clear hRL
  go_enter Tryd.func11, Tryd.ntmps11
  go_wp2
  generalize w.alloc (.cells #[.int .i64 b, .int .i64 t, .slice a len cap, .slice a' len' cap'] 25) = W at HS HW HB HBX ⊢
  go_loopw [5, 6] (fun s i wx => ∃ k n : Nat, k ≤ lw ∧ i = .int .i64 k ∧ s = .int .i64 (runL N (l.take k) : Nat) ∧ wx = W.drewN n) (fun _ i _ => lw - (intOf i).toNat)
  case atStart => exact ⟨0, 0, by omega, rfl, by simp [runL], rfl⟩
  case round =>
    obtain ⟨k, n, hk, rfl, rfl, hwx⟩ := hrel
    have HWX := hide hwx
    have hbx : wr.cell? ⟨w.heap.size, 2, none⟩ = some (.slice a len cap) := by rw [hwx]; exact HBX.out
    clear hwx
    by_cases hlt : k < lw
    · have hlti : (k : Int) < (lw : Int) := by omega
      have hsl := HLT.out k (by omega) (fun j hj => HWZ.out j (by omega))
      have HTS' := hide (HTS.out k hlt)
      obtain ⟨bw, ow, rfl, hcw0⟩ := sl_cell HW.out k hlt
      have hcw : wr.cell? ⟨bw, ow + k, none⟩ = some (.int .i64 (l.getD k 0)) := by rw [HWX.out]; exact hcw0
      have hx := HWZ.out k hlt
      clear hcw0
      generalize runL N (l.take k) = s at hsl HTS' ⊢
      generalize l.getD k 0 = x at hcw hx HTS'
      obtain ⟨bn, on, a1, c1, rfl, hcn0, hsl1⟩ := sl2_cell HS.out s hsl
      rw [HROW.out s hsl] at hcn0 hsl1
      have hcn : wr.cell? ⟨bn, on + s, none⟩ = some (.slice a1 m c1) := by rw [HWX.out]; exact hcn0
      have hsli : (s : Int) < (len : Int) := by omega
      have HST' := hide (HST.out s hsl x hx)
      obtain ⟨y, rfl⟩ : ∃ y : Nat, x = y := ⟨x.toNat, by omega⟩
      have hy : y < m := by omega
      have hyi : (y : Int) < (m : Int) := by omega
      obtain ⟨b1, o1, rfl, hc10⟩ := sl_cell hsl1 y hy
      rw [Int.toNat_natCast] at HST'
      rw [← HST'.out.2] at hc10
      have hc1 : wr.cell? ⟨b1, o1 + y, none⟩ = some (.int .i64 (stepL N s (y : Int) : Nat)) := by rw [HWX.out]; exact hc10
      clear hsl1 hcn0 hc10 hx
      generalize stepL N s (y : Int) = s' at hc1 HTS'
      go_wp2
      go_quiet (fail)
      go_wp2
      go_roundw
      case rel => exact ⟨k + 1, n + nq, by omega, by go_num, by rw [HTS'.out], by rw [HWX.out, World.drewN_drewN]⟩
      case measure => simp [intOf]; omega
    · have hlti : ¬ ((k : Int) < (lw : Int)) := by omega
      obtain rfl : k = lw := by omega
      have HBW : Hid (Below w.heap.size w wr) := by rw [HWX.out]; exact below_drewN HB.out n
      rw [HEND.out]
      go_wp2
      go_ret
      exact ⟨by simp, HBW.out⟩
end Go.Proofs.YtihhlddbppljpabDoor
