/- Package digit's contracts, whatever is handed in: one a function. -/
import Derived.Test.YtcpnfbjcgaonkafDoorO
import Derived.Test.YtcpnfbjcgaonkafDoorU
namespace Go.Proofs.YtcpnfbjcgaonkafDoor
open Go.RowKit

def errV (c : Int) : Value := if c = 0 then .nilIface else .iface 26 (.int .i64 c)
def codeN (b n : Int) : Int := if (1 ≤ b ∧ b ≤ 6) ∧ 0 ≤ n ∧ n ≤ 1099511627776 then 0 else 1
def numL (b n : Int) : List Int := if (1 ≤ b ∧ b ≤ 6) ∧ 0 ≤ n ∧ n ≤ 1099511627776 then dgs b n else []
def OfU (w : World) (l : List Int) (er : Value) (e : Ending) (w' : World) : Prop := ∃ a cap, e = .returned (.tuple #[.slice a l.length cap, er]) ∧ SlN w.heap.size w' a l.length l ∧ Below w.heap.size w w'
theorem of_u (b n : Int) (w : World) : Calls Tryd.prog 30 #[.int .i64 b, .int .i64 n] w (OfU w (numL b n) (errV (codeN b n))) := by
  unfold numL codeN
  by_cases h : (1 ≤ b ∧ b ≤ 6) ∧ 0 ≤ n ∧ n ≤ 1099511627776
  · rw [if_pos h, if_pos h]
    exact of_ok b n w h.1.1 h.1.2 h.2.1 h.2.2
  · rw [if_neg h, if_neg h]
    have hc : Calls Tryd.prog 30 #[.int .i64 b, .int .i64 n] w fun e w' => e = .returned (.tuple #[.slice none 0 0, .iface 26 (.int .i64 1)]) ∧ w' = w := by
      by_cases hb : 1 ≤ b ∧ b ≤ 6
      · exact of_far b n w hb.1 hb.2 (by omega)
      · exact of_range b n w (by omega)
    refine hc.mono ?_
    rintro e w' ⟨rfl, rfl⟩
    exact ⟨none, 0, rfl, ⟨sl_nil _, fun _ h => by cases h⟩, Below.refl _ _⟩

end Go.Proofs.YtcpnfbjcgaonkafDoor
