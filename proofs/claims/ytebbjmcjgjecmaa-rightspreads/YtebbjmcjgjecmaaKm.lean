/- right.clash, right.stay: contracts. -/
import Derived.Laws.BitsLemmas
import Derived.Test.YtebbjmcjgjecmaaEn
import Derived.Test.YtebbjmcjgjecmaaZDj
namespace Go.Proofs.Ytebbjmcjgjecmaa
open Go.RowKit

theorem and_small {x y : Nat} (hx : x < 64) (hy : y < 64) : bits .and .i64 (x : Int) (y : Int) = ((x &&& y : Nat) : Int) := (bits_nat .i64 6 (by decide) (fun n h0 h1 => by rw [IntKind.wrap_i64]; omega) x y hx hy).1
theorem clash_any (b : Int) (x y : Nat) (w : World) (hx : x < 64) (hy : y < 64) :
    Calls Try.prog 10 #[.int .i64 b, .int .i64 (x : Int), .int .i64 (y : Int)] w fun e w' => e = .returned (.bool (clB b x y)) ∧ w' = w := by
  have ha := and_small hx hy
  by_cases hb : b = 1
  · subst hb
    have hc : clB 1 x y = decide (x &&& y ≠ 0) := by unfold clB; simp
    rw [hc]
    by_cases h0 : x &&& y = 0
    · rw [h0] at ha
      have h1 : decide (x &&& y ≠ 0) = false := by simp [h0]
      rw [h1]
      go_enter Try.func10, Try.ntmps10
      go_wp2
      go_ret
      exact ⟨by simp, rfl⟩
    · have h1 : decide (x &&& y ≠ 0) = true := by simp [h0]
      have h2 : (((x &&& y : Nat) : Int) == 0) = false := by simp; omega
      rw [h1]
      clear hc h1
      generalize x &&& y = z at ha h2 h0
      go_enter Try.func10, Try.ntmps10
      go_wp2
      go_ret
      exact ⟨by simp [h0], rfl⟩
  · have hc : clB b x y = false := by unfold clB; simp [hb]
    have hb1 : (b == 1) = false := by simp [hb]
    rw [hc]
    go_enter Try.func10, Try.ntmps10
    go_wp2
    go_ret
    exact ⟨by simp, rfl⟩

theorem rep_get {m k : Nat} (z : Int) (hk : k < m) : (List.replicate m z).getD k 0 = z := by simp [List.getD, hk]
def StayR (w : World) (m : Nat) (z : Int) (e : Ending) (w' : World) : Prop := ∃ g, e = .returned (.slice (some ⟨g, 0, none⟩) m m) ∧ w.heap.size ≤ g ∧ (w'.rowIs g 3 m fun i => .int .i64 ((List.replicate m z).getD i 0)) ∧ Below w.heap.size w w'
set_option maxHeartbeats 4000000 in
set_option maxRecDepth 4000 in
theorem stay_any (z : Int) (m : Nat) (w : World) (hm : m ≤ 1000) :
    Calls Try.prog 11 #[.int .i64 z, .int .i64 (m : Int)] w (StayR w m z) := by
  have hmk := make_ints m (by omega)
  have H0 := hide (fillAt_start w (List.replicate m z) m)
  have HG : Hid (∀ k, k < m → (List.replicate m z).getD k 0 = z) := fun k hk => rep_get z hk
  unfold StayR
  generalize List.replicate m z = T at H0 HG ⊢
  go_enter Try.func11, Try.ntmps11
  go_wp2
  generalize w.alloc (.cells (madeCells #[.int .i64 0] m) 3) = w0 at H0 ⊢
  go_loopw [10] (fun i wx => ∃ k : Nat, k ≤ m ∧ i = .int .i64 k ∧ FillAt w T m k wx) (fun i _ => m - (intOf i).toNat)
  case atStart => exact ⟨0, by omega, rfl, H0.out⟩
  case round =>
    obtain ⟨k, hk, rfl, hfl⟩ := hrel
    have HFL := hide hfl
    clear hfl
    by_cases hlt : k < m
    · have hlti : (k : Int) < (m : Int) := by omega
      have hcell := HFL.out.1.cell hlt
      have hfz := HFL.out.1.frozen k
      have HNX := hide (fillAt_step HFL.out)
      rw [if_neg (Nat.lt_irrefl _)] at hcell
      rw [HG.out k hlt] at HNX
      go_wp2
      go_roundw
      case rel => exact ⟨k + 1, by omega, by go_num, HNX.out⟩
      case measure => simp [intOf]; omega
    · have hlti : ¬ (k : Int) < (m : Int) := by omega
      obtain rfl : m = k := by omega
      go_wp2
      go_ret
      refine ⟨w.heap.size, ?_, Nat.le_refl _, HFL.out.1.congr fun i hi => by rw [if_pos hi]; rfl, HFL.out.2⟩
      simp
end Go.Proofs.Ytebbjmcjgjecmaa
