/- Numbers that are one digit longer: mathematics of WordMorphs. -/
import Derived.Test.YtcpnfbjcgaonkafDoorP
import Derived.Test.YtcpnfbjcgaonkafDoorPk
import Derived.Test.YtcpnfbjcgaonkafDoorVf
import Derived.Test.YtcpnfbjcgaonkafDoorVi
namespace Go.Proofs.YtcpnfbjcgaonkafDoor
open Go.RowKit

theorem val_le_tval {b : Int} (h1 : 1 ≤ b) (l : List Int) : (∀ x ∈ l, 0 ≤ x) → val b l ≤ tval b l := by
  induction l with
  | nil => exact fun _ => Int.le_refl _
  | cons x l ih =>
    intro h
    have h0 := h x (by simp)
    have h2 := ih (fun y hy => h y (by simp [hy]))
    have e1 : val b (x :: l) = x * cnt b l.length + val b l := rfl
    have e2 : tval b (x :: l) = x * (tcP b l.length).1 + tval b l := rfl
    have h3 : cnt b l.length ≤ (tcP b l.length).1 := by rw [(cnt_tc h1 l.length).1]; exact Int.min_le_left _ _
    have h4 := Int.mul_le_mul_of_nonneg_left h3 h0
    rw [e1, e2]
    omega
theorem digB_nn {b : Int} {l : List Int} (h : digB b l = true) : ∀ x ∈ l, 0 ≤ x ∧ x < kindsI b := fun x hx => by
  unfold digB at h
  rw [List.all_eq_true] at h
  simpa using h x hx
theorem cnt_59 : ∀ b : Fin 7, 2 ≤ b.val → cnt (b.val : Int) 59 = 1099511627777 := by decide +kernel
theorem dgs_zero {b : Int} (h1 : 1 ≤ b) (h6 : b ≤ 6) : dgs b 0 = [] := by
  have := dgs_unique b h1 h6 [] (by simp) rfl (by unfold rightB onesB; simp) (by show (0 : Int) ≤ 1099511627776; decide) (by simp)
  exact this
theorem dgs_next {b n d : Int} (h2 : 2 ≤ b) (h6 : b ≤ 6) (hn : 0 ≤ n) (hd : 0 ≤ d ∧ d < b) (hm : n * b + d ≤ 1099511627776) : dgs b (n * b + d) = if n = 0 ∧ d = 0 then [] else dgs b n ++ [d] := by
  have hnb : n * 2 ≤ n * b := Int.mul_le_mul_of_nonneg_left h2 hn
  by_cases h0 : n = 0 ∧ d = 0
  · rw [if_pos h0, h0.1, h0.2]
    simpa using dgs_zero (by omega) h6
  · rw [if_neg h0]
    have hn40 : n ≤ 1099511627776 := by omega
    have hkb : kindsI b = b := by unfold kindsI; split <;> omega
    have hdg := dgs_digB b n (by omega) h6 hn hn40
    have hdl : digB b (dgs b n ++ [d]) = true := by
      unfold digB at hdg ⊢
      rw [List.all_append, hdg]
      simp [hkb, hd.1, hd.2]
    have hv := tval_val (by omega : 1 ≤ b) h6 (dgs b n) (fun x hx => (digB_nn hdg x hx).1) (by rw [dgs_val]; exact hn40)
    rw [dgs_val] at hv
    have ht : tval b (dgs b n ++ [d]) = n * b + d := by rw [(tval_snoc b (dgs b n) d).1, if_neg (by omega), hv.2]
    have hle := val_le_tval (by omega : 1 ≤ b) (dgs b n ++ [d]) (fun x hx => (digB_nn hdl x hx).1)
    have hv2 := tval_val (by omega : 1 ≤ b) h6 (dgs b n ++ [d]) (fun x hx => (digB_nn hdl x hx).1) (by omega)
    have hval : val b (dgs b n ++ [d]) = n * b + d := by rw [← hv2.2, ht]
    have hlen : (dgs b n).length ≤ 59 := by
      have h60 := dgs_length b n
      have hbt := dgs_between b n (by omega) h6 hn hn40
      by_cases e : (dgs b n).length = 60
      · have h59 := hbt.2 (by omega)
        rw [e] at h59
        have hc := cnt_59 ⟨b.toNat, by omega⟩ (by show 2 ≤ b.toNat; omega)
        rw [show ((b.toNat : Nat) : Int) = b by omega] at hc
        rw [show (60 - 1 : Nat) = 59 from rfl, hc] at h59
        omega
      · omega
    have hu := dgs_unique b (by omega) h6 (dgs b n ++ [d]) (by rw [List.length_append, List.length_singleton]; omega) hdl (by unfold rightB; simp; omega) (by omega) (fun _ => by
      by_cases e : dgs b n = []
      · have hn0 : n = 0 := by have := dgs_val b n; rw [e] at this; exact this.symm
        rw [e]
        show d ≠ 0
        omega
      · have hp : 0 < (dgs b n).length := List.length_pos_iff.2 e
        have := dgs_head b n hp
        rw [show (dgs b n ++ [d]).getD 0 0 = (dgs b n).getD 0 0 by unfold List.getD; rw [List.getElem?_append_left hp]]
        exact this)
    rw [hval] at hu
    exact hu
/-- Behind a number's sign stand those of its rule. -/
theorem run_next {b n d : Int} {R : List (List Int)} (h2 : 2 ≤ b) (h6 : b ≤ 6) (hn : 0 ≤ n) (hd : 0 ≤ d ∧ d < b) (hm : n * b + d ≤ 1099511627776) (h0 : (R.getD 0 []).getD 0 0 = 0) : runL R (dgs b (n * b + d)) = stepL R (runL R (dgs b n)) d := by
  rw [dgs_next h2 h6 hn hd hm]
  by_cases e : n = 0 ∧ d = 0
  · rw [if_pos e, e.1, e.2, dgs_zero (by omega) h6]
    show 0 = ((R.getD 0 []).getD (0 : Int).toNat 0).toNat
    rw [show (0 : Int).toNat = 0 from rfl, h0]
    rfl
  · rw [if_neg e, runL_snoc]
end Go.Proofs.YtcpnfbjcgaonkafDoor
