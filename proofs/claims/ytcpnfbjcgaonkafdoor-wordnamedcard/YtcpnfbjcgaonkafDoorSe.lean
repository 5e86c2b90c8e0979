/- word.isOutput, allUpTo, begun, step and the closure of ofAllWords: contracts. -/
import Derived.Test.YtcpnfbjcgaonkafDoorMa
import Derived.Test.YtcpnfbjcgaonkafDoorAc
import Derived.Test.YtcpnfbjcgaonkafDoorAm
import Derived.Test.YtcpnfbjcgaonkafDoorAt
import Derived.Test.YtcpnfbjcgaonkafDoorBf
import Derived.Test.YtcpnfbjcgaonkafDoorBk
import Derived.Test.YtcpnfbjcgaonkafDoorHm
import Derived.Test.YtcpnfbjcgaonkafDoorLb
import Derived.Test.YtcpnfbjcgaonkafDoorLc2
import Derived.Test.YtcpnfbjcgaonkafDoorNx
import Derived.Test.YtcpnfbjcgaonkafDoorP
import Derived.Test.YtcpnfbjcgaonkafDoorRe
import Derived.Test.YtcpnfbjcgaonkafDoorVa
import Derived.Test.YtcpnfbjcgaonkafDoorVc
import Derived.BigQuiet
import Derived.BigRegion
import Derived.Deep.AppendLies
import Derived.Deep.MidRow
import Derived.Deep.RegionHeldLaw
import Derived.Deep.RegionLaw
import Derived.DeepKeys4
import Derived.Laws.AppendOwnNone
import Derived.Laws.BitsLemmas
import Derived.Maps.OwnSet
import Derived.Shelf.Abstract
namespace Go.Proofs.YtcpnfbjcgaonkafDoor
open Go.RowKit

set_option maxHeartbeats 1000000 in
set_option maxRecDepth 4000 in
theorem isOutput_any (v : Int) (w : World) : Calls Tryd.prog 29 #[.int .i64 v] w fun e w' => e = .returned (.bool (decide (0 ≤ v ∧ v ≤ 9))) ∧ w' = w := by
  by_cases h1 : 0 ≤ v
  · by_cases h2 : v ≤ 9
    · have e : decide (0 ≤ v ∧ v ≤ 9) = true := decide_eq_true ⟨h1, h2⟩
      rw [e]
      go_enter Tryd.func29, Tryd.ntmps29
      go_wp2
      go_ret
      exact ⟨by simp, rfl⟩
    · have e : decide (0 ≤ v ∧ v ≤ 9) = false := decide_eq_false fun h => h2 h.2
      rw [e]
      go_enter Tryd.func29, Tryd.ntmps29
      go_wp2
      go_ret
      exact ⟨by simp, rfl⟩
  · have e : decide (0 ≤ v ∧ v ≤ 9) = false := decide_eq_false fun h => h1 h.1
    rw [e]
    go_enter Tryd.func29, Tryd.ntmps29
    go_wp2
    go_ret
    exact ⟨by simp, rfl⟩
def upB (m : Int) (l : List Int) : Bool := l.all fun x => decide (0 ≤ x ∧ x ≤ m)
theorem upB_no {m : Int} {l : List Int} {j : Nat} (hj : j < l.length) (h : ¬ (0 ≤ l.getD j 0 ∧ l.getD j 0 ≤ m)) : upB m l = false := by
  unfold upB
  rw [List.all_eq_false]
  exact ⟨l.getD j 0, by rw [getD_at _ j hj]; exact List.getElem_mem hj, by simpa using h⟩
theorem upB_yes {m : Int} {l : List Int} (h : ∀ j, j < l.length → 0 ≤ l.getD j 0 ∧ l.getD j 0 ≤ m) : upB m l = true := by
  unfold upB
  rw [List.all_eq_true]
  intro x hx
  obtain ⟨j, hj, rfl⟩ := List.getElem_of_mem hx
  have := h j hj
  rw [getD_at _ j hj] at this
  simpa using this
set_option maxHeartbeats 1000000 in
set_option maxRecDepth 4000 in
theorem allUpTo_any (m : Int) (a : Option Addr) (len cap : Nat) (l : List Int) (w : World) (hs : Sl w a len l) : Calls Tryd.prog 28 #[.int .i64 m, .slice a len cap] w fun e w' => e = .returned (.bool (upB m l)) ∧ w' = w := by
  have hL := hs.1
  have hmx := hs.2.1
  unfold maxLen at hmx
  have HNO : Hid (∀ j, j < len → ¬ (0 ≤ l.getD j 0 ∧ l.getD j 0 ≤ m) → upB m l = false) := fun j hj h => upB_no (by omega) h
  have HYES : Hid ((∀ j, j < len → 0 ≤ l.getD j 0 ∧ l.getD j 0 ≤ m) → upB m l = true) := fun h => upB_yes (fun j hj => h j (by omega))
  have HS := hide hs
  generalize upB m l = V at HNO HYES ⊢
  clear hs hL
  go_enter Tryd.func28, Tryd.ntmps28
  go_wp2
  go_loop [9] (fun u => ∃ j : Nat, u = .int .i64 j ∧ j ≤ len ∧ ∀ i, i < j → 0 ≤ l.getD i 0 ∧ l.getD i 0 ≤ m) (fun u => len - (intOf u).toNat)
  case atStart => exact ⟨0, rfl, by omega, fun i hi => by omega⟩
  case round =>
    obtain ⟨j, rfl, hj, hall⟩ := hrel
    have HALL := hide hall
    clear hall
    by_cases hlt : j < len
    · have hlti : (j : Int) < (len : Int) := by omega
      obtain ⟨bb, o, rfl, hc⟩ := sl_cell HS.out j hlt
      have HNj := hide (HNO.out j hlt)
      have HST : Hid (0 ≤ l.getD j 0 ∧ l.getD j 0 ≤ m → ∀ i, i < j + 1 → 0 ≤ l.getD i 0 ∧ l.getD i 0 ≤ m) := fun h i hi => by
        by_cases e : i = j
        · subst e; exact h
        · exact HALL.out i (by omega)
      obtain ⟨x, hx⟩ : ∃ x, x = l.getD j 0 := ⟨_, rfl⟩
      rw [← hx] at hc HNj HST
      clear hx
      by_cases h1 : 0 ≤ x
      · by_cases h2 : x ≤ m
        · go_wp2
          go_round
          case rel => exact ⟨j + 1, by go_num, by omega, HST.out ⟨h1, h2⟩⟩
          case measure => simp [intOf]; omega
        · have hV := HNj.out fun h => h2 h.2
          have h2' : m < x := by omega
          go_wp2
          go_ret
          exact ⟨by simp, rfl⟩
      · have hV := HNj.out fun h => h1 h.1
        have h1' : x < 0 := by omega
        go_wp2
        go_ret
        exact ⟨by simp, rfl⟩
    · have hlti : ¬ (j : Int) < (len : Int) := by omega
      obtain rfl : j = len := by omega
      have hV := HYES.out HALL.out
      go_wp2
      go_ret
      exact ⟨by simp, rfl⟩
end Go.Proofs.YtcpnfbjcgaonkafDoor
