/- Automata with outputs: what is wrong with one, what it says; mathematics. -/
import Derived.Test.YtcpnfbjcgaonkafDoorMa
import Derived.Test.YtcpnfbjcgaonkafDoorAc
import Derived.Test.YtcpnfbjcgaonkafDoorAm
import Derived.Test.YtcpnfbjcgaonkafDoorAt
import Derived.Test.YtcpnfbjcgaonkafDoorBf
import Derived.Test.YtcpnfbjcgaonkafDoorBk
import Derived.Test.YtcpnfbjcgaonkafDoorLb
import Derived.Test.YtcpnfbjcgaonkafDoorLc2
import Derived.Test.YtcpnfbjcgaonkafDoorNx
import Derived.Test.YtcpnfbjcgaonkafDoorP
import Derived.Test.YtcpnfbjcgaonkafDoorRe
import Derived.BigQuiet
import Derived.BigRegion
import Derived.Deep.AppendLies
import Derived.Deep.MidRow
import Derived.Deep.RegionHeldLaw
import Derived.Deep.RegionLaw
import Derived.Deep.RegionWith
import Derived.DeepKeys4
import Derived.Laws.AppendOwnNone
import Derived.Maps.OwnSet
import Derived.Shelf.Abstract
namespace Go.Proofs.YtcpnfbjcgaonkafDoor
open Go.RowKit

/-- What is wrong with one state; with all. -/
def outR (k n : Nat) (r : List Int) (o : Int) : Int := if rowC k n r = 0 then (if 0 ≤ o ∧ o ≤ 9 then 0 else 1) else rowC k n r
def outRs (k : Nat) (N : List (List Int)) (O : List Int) : List Int := (List.range N.length).map fun s => outR k N.length (N.getD s []) (O.getD s 0)
def outC (b : Int) (N : List (List Int)) (O : List Int) : Int :=
  if 1 ≤ b ∧ b ≤ 6 then (if N.length = 0 then 4 else if 20 < N.length then 3 else if O.length = N.length then firstC (outRs (kindsI b).toNat N O) else 2) else 1
theorem outRs_len (k : Nat) (N : List (List Int)) (O : List Int) : (outRs k N O).length = N.length := by simp [outRs]
theorem outRs_get {k : Nat} {N : List (List Int)} {O : List Int} {s : Nat} (hs : s < N.length) : (outRs k N O).getD s 0 = outR k N.length (N.getD s []) (O.getD s 0) := by simp [outRs, List.getD, hs]
theorem outR_zero {k n : Nat} {r : List Int} {o : Int} (h : outR k n r o = 0) : rowC k n r = 0 ∧ 0 ≤ o ∧ o ≤ 9 := by
  unfold outR at h
  by_cases h1 : rowC k n r = 0
  · rw [if_pos h1] at h
    by_cases h2 : 0 ≤ o ∧ o ≤ 9
    · exact ⟨h1, h2⟩
    · rw [if_neg h2] at h; omega
  · rw [if_neg h1] at h; exact absurd h h1
theorem kinds_nat {b : Int} (h1 : 1 ≤ b) (h2 : b ≤ 6) : 2 ≤ (kindsI b).toNat ∧ (kindsI b).toNat ≤ 6 ∧ ((kindsI b).toNat : Int) = kindsI b := by
  unfold kindsI; split <;> omega
theorem outC_zero {b : Int} {N : List (List Int)} {O : List Int} (h : outC b N O = 0) : 1 ≤ b ∧ b ≤ 6 ∧ N.length ≤ 20 ∧ O.length = N.length ∧ GoodN (kindsI b).toNat N.length N ∧ ∀ s, s < N.length → 0 ≤ O.getD s 0 ∧ O.getD s 0 ≤ 9 := by
  unfold outC at h
  by_cases hb : 1 ≤ b ∧ b ≤ 6
  · rw [if_pos hb] at h
    have hk := kinds_nat hb.1 hb.2
    by_cases h0 : N.length = 0
    · rw [if_pos h0] at h; omega
    · rw [if_neg h0] at h
      by_cases h20 : 20 < N.length
      · rw [if_pos h20] at h; omega
      · rw [if_neg h20] at h
        by_cases hl : O.length = N.length
        · rw [if_pos hl] at h
          have hs : ∀ s, s < N.length → rowC (kindsI b).toNat N.length (N.getD s []) = 0 ∧ 0 ≤ O.getD s 0 ∧ O.getD s 0 ≤ 9 := fun s hs => by
            have := firstC_get0 _ h s (by rw [outRs_len]; exact hs)
            rw [outRs_get hs] at this
            exact outR_zero this
          exact ⟨hb.1, hb.2, by omega, hl, ⟨rfl, by omega, by omega, by omega, by omega, fun s h => rowC_zero (hs s h).1⟩, fun s h => (hs s h).2⟩
        · rw [if_neg hl] at h; omega
  · rw [if_neg hb] at h; omega
/-- What is said behind a word; at a number. -/
def sayW (N : List (List Int)) (O : List Int) (w : List Int) : Int := O.getD (runL N w) 0
def sayN (b : Int) (N : List (List Int)) (O : List Int) (n : Int) : Int := sayW N O (dgs b n)
end Go.Proofs.YtcpnfbjcgaonkafDoor
