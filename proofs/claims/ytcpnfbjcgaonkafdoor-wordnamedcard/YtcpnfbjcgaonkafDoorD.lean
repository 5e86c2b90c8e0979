/- The contract of digit.Value. -/
import Derived.Test.YtcpnfbjcgaonkafDoorMa
import Derived.Test.YtcpnfbjcgaonkafDoorC
namespace Go.Proofs.YtcpnfbjcgaonkafDoor
open Go.RowKit

theorem slice37 (x : Int) (hx : 0 ≤ x) (hx' : x ≤ 60) : ∃ o : Nat, (∀ B W, (Instr.sliceAt 84 (.pointer (some ⟨B, 0, none⟩)) (some (.int .i64 x)) none none).run Tryd.prog W = .ok (.slice (some ⟨B, o, none⟩) (60 - x.toNat) (60 - x.toNat)) W) ∧ (x < 60 → o = x.toNat) := by
  have hal : Tryd.prog.arrayLen 84 = 60 := by kernel_rfl
  refine ⟨if 60 = x.toNat then 0 else x.toNat, fun B W => ?_, fun h => by rw [if_neg (by omega)]⟩
  rw [run_sliceAt_array_l W 84 ⟨B, 0, none⟩ (by kernel_rfl) .i64 x hx (by rw [hal]; omega)]
  by_cases e : 60 = x.toNat
  · rw [if_pos e]
    have e' : x = 60 := by omega
    subst e'
    go_simp
  · rw [if_neg e]
    go_simp

end Go.Proofs.YtcpnfbjcgaonkafDoor
