/- Digits counted without a limit, and with it; what LineMeans says, in numbers: mathematics. -/
import Derived.Test.YtcpnfbjcgaonkafDoorMa
import Derived.Test.YtcpnfbjcgaonkafDoorAc
import Derived.Test.YtcpnfbjcgaonkafDoorAm
import Derived.Test.YtcpnfbjcgaonkafDoorAt
import Derived.Test.YtcpnfbjcgaonkafDoorBf
import Derived.Test.YtcpnfbjcgaonkafDoorBk
import Derived.Test.YtcpnfbjcgaonkafDoorLb
import Derived.Test.YtcpnfbjcgaonkafDoorLc2
import Derived.Test.YtcpnfbjcgaonkafDoorNx
import Derived.Test.YtcpnfbjcgaonkafDoorP
import Derived.Test.YtcpnfbjcgaonkafDoorRe
import Derived.BigQuiet
import Derived.BigRegion
import Derived.Deep.AppendLies
import Derived.Deep.MidRow
import Derived.Deep.RegionHeldLaw
import Derived.Deep.RegionLaw
import Derived.Deep.RegionWith
import Derived.DeepKeys4
import Derived.Laws.AppendOwnNone
import Derived.Maps.OwnSet
import Derived.Shelf.Abstract
namespace Go.Proofs.YtcpnfbjcgaonkafDoor
open Go.RowKit

def tcP (b : Int) : Nat → Int × Int
  | 0 => (1, 1)
  | k + 1 => (if b = 1 then (tcP b k).1 + (tcP b k).2 else (tcP b k).1 * b, (tcP b k).1)
theorem tcP_succ (b : Int) (k : Nat) : tcP b (k + 1) = (if b = 1 then (tcP b k).1 + (tcP b k).2 else (tcP b k).1 * b, (tcP b k).1) := rfl
theorem tcP_zero (b : Int) : tcP b 0 = (1, 1) := rfl
theorem tcP_pos {b : Int} (h1 : 1 ≤ b) (k : Nat) : 1 ≤ (tcP b k).1 ∧ 1 ≤ (tcP b k).2 := by
  induction k with
  | zero => rw [tcP_zero]; exact ⟨Int.le_refl _, Int.le_refl _⟩
  | succ k ih =>
    rw [tcP_succ]
    refine ⟨?_, ih.1⟩
    show 1 ≤ if b = 1 then (tcP b k).1 + (tcP b k).2 else (tcP b k).1 * b
    split
    · omega
    · have := Int.mul_le_mul ih.1 h1 (by omega) (by omega)
      omega
theorem cnt_tc {b : Int} (h1 : 1 ≤ b) (k : Nat) : cnt b k = min (tcP b k).1 1099511627777 ∧ ahd b k = min (tcP b k).2 1099511627777 := by
  induction k with
  | zero => rw [cnt_zero, ahd_zero, tcP_zero]; exact ⟨rfl, rfl⟩
  | succ k ih =>
    obtain ⟨p1, p2⟩ := tcP_pos h1 k
    rw [cnt_succ, ahd_succ, tcP_succ, ih.1, ih.2]
    refine ⟨?_, rfl⟩
    show min (if b = 1 then min (tcP b k).1 1099511627777 + min (tcP b k).2 1099511627777 else min (tcP b k).1 1099511627777 * b) 1099511627777 = min (if b = 1 then (tcP b k).1 + (tcP b k).2 else (tcP b k).1 * b) 1099511627777
    generalize (tcP b k).1 = x at p1
    generalize (tcP b k).2 = y at p2
    by_cases hb : b = 1
    · rw [if_pos hb, if_pos hb]; omega
    · rw [if_neg hb, if_neg hb]
      by_cases hx : x ≤ 1099511627777
      · rw [show min x 1099511627777 = x by omega]
      · have h2 : 1099511627777 * 1 ≤ x * b := Int.mul_le_mul (by omega) h1 (by omega) (by omega)
        have h3 : 1099511627777 * 1 ≤ 1099511627777 * b := Int.mul_le_mul (by omega) h1 (by omega) (by omega)
        rw [show min x 1099511627777 = 1099511627777 by omega]
        omega
def tval (b : Int) : List Int → Int
  | [] => 0
  | x :: r => x * (tcP b r.length).1 + tval b r
def tlow (b : Int) : List Int → Int
  | [] => 0
  | x :: r => x * (tcP b r.length).2 + tlow b r
theorem tval_snoc (b : Int) (l : List Int) (x : Int) : tval b (l ++ [x]) = (if b = 1 then tval b l + tlow b l + x else tval b l * b + x) ∧ tlow b (l ++ [x]) = tval b l + x := by
  induction l with
  | nil =>
    refine ⟨?_, ?_⟩
    · show x * (tcP b 0).1 + 0 = if b = 1 then (0 : Int) + 0 + x else 0 * b + x
      rw [show (tcP b 0).1 = 1 from rfl]
      split <;> omega
    · show x * (tcP b 0).2 + 0 = 0 + x
      rw [show (tcP b 0).2 = 1 from rfl]
      omega
  | cons y r ih =>
    have hl : (r ++ [x]).length = r.length + 1 := by simp
    have e1 : tval b ((y :: r) ++ [x]) = y * (tcP b (r.length + 1)).1 + tval b (r ++ [x]) := by
      show y * (tcP b (r ++ [x]).length).1 + tval b (r ++ [x]) = _
      rw [hl]
    have e2 : tlow b ((y :: r) ++ [x]) = y * (tcP b (r.length + 1)).2 + tlow b (r ++ [x]) := by
      show y * (tcP b (r ++ [x]).length).2 + tlow b (r ++ [x]) = _
      rw [hl]
    have e3 : tval b (y :: r) = y * (tcP b r.length).1 + tval b r := rfl
    have e4 : tlow b (y :: r) = y * (tcP b r.length).2 + tlow b r := rfl
    rw [e1, e2, e3, e4, ih.1, ih.2, tcP_succ]
    refine ⟨?_, ?_⟩
    · by_cases hb : b = 1
      · rw [if_pos hb, if_pos hb, if_pos hb]
        show y * ((tcP b r.length).1 + (tcP b r.length).2) + (tval b r + tlow b r + x) = _
        rw [Int.mul_add]
        omega
      · rw [if_neg hb, if_neg hb, if_neg hb]
        show y * ((tcP b r.length).1 * b) + (tval b r * b + x) = _
        rw [Int.add_mul, Int.mul_assoc]
        omega
    · show y * (tcP b r.length).1 + (tval b r + x) = _
      omega
theorem tval_val {b : Int} (h1 : 1 ≤ b) (h6 : b ≤ 6) (l : List Int) : (∀ x ∈ l, 0 ≤ x) → val b l ≤ 1099511627776 → 0 ≤ val b l ∧ tval b l = val b l := by
  induction l with
  | nil => exact fun _ _ => ⟨Int.le_refl _, rfl⟩
  | cons x r ih =>
    intro hx hv
    have hx0 := hx x (by simp)
    have e1 : val b (x :: r) = x * cnt b r.length + val b r := rfl
    have e2 : tval b (x :: r) = x * (tcP b r.length).1 + tval b r := rfl
    obtain ⟨⟨c1, c2⟩, -⟩ := cnt_bd b h1 h6 r.length
    have hp : 0 ≤ x * cnt b r.length := Int.mul_nonneg hx0 (by omega)
    have hr : 0 ≤ val b r := by
      clear ih hv e1 e2
      have : ∀ x ∈ r, 0 ≤ x := fun y hy => hx y (by simp [hy])
      clear hx hp c1 c2 hx0
      induction r with
      | nil => exact Int.le_refl _
      | cons y r ih =>
        have hy0 := this y (by simp)
        obtain ⟨⟨d1, -⟩, -⟩ := cnt_bd b h1 h6 r.length
        have := ih (fun z hz => this z (by simp [hz]))
        have h3 : 0 ≤ y * cnt b r.length := Int.mul_nonneg hy0 (by omega)
        show 0 ≤ y * cnt b r.length + val b r
        omega
    obtain ⟨i1, i2⟩ := ih (fun y hy => hx y (by simp [hy])) (by omega)
    rw [e1, e2, i2]
    refine ⟨by omega, ?_⟩
    have hc := (cnt_tc h1 r.length).1
    by_cases hz : x = 0
    · subst hz; omega
    · have h3 : cnt b r.length * 1 ≤ cnt b r.length * x := Int.mul_le_mul_of_nonneg_left (by omega) (by omega)
      rw [Int.mul_comm] at h3
      have h4 : cnt b r.length ≤ 1099511627776 := by
        rw [Int.mul_comm (cnt b r.length) x] at h3
        omega
      have h5 : (tcP b r.length).1 = cnt b r.length := by omega
      rw [h5]
end Go.Proofs.YtcpnfbjcgaonkafDoor
