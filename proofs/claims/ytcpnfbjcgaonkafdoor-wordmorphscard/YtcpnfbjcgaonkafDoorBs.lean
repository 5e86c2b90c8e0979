/- filbertsame.Lists, Autos: two that read alike are the same; the reference's Alike: contracts. -/
import Derived.Test.YtcpnfbjcgaonkafDoorAc
import Derived.Test.YtcpnfbjcgaonkafDoorLc2
import Derived.Test.YtcpnfbjcgaonkafDoorRe
namespace Go.Proofs.YtcpnfbjcgaonkafDoor
open Go.RowKit

theorem sl_drew {w : World} {a : Option Addr} {len : Nat} {l : List Int} (h : Sl w a len l) (n : Nat) : Sl (w.drewN n) a len l := sl_below h (below_drewN (Below.refl _ _) n)

set_option maxHeartbeats 2000000 in
set_option maxRecDepth 4000 in
theorem lists_eq (a a' : Option Addr) (n cap cap' : Nat) (N : List (List Int)) (w : World) (hs : Sl2 w a n N) (hs' : Sl2 w a' n N) :
    Calls Tryd.prog 35 #[.slice a n cap, .slice a' n cap'] w fun e w' => e = .returned (.bool true) ∧ ∃ k, w' = w.drewN k := by
  have hm := hs.2.1
  unfold maxLen at hm
  have HS := hide hs
  have HS' := hide hs'
  have hnn : ((n : Int) != (n : Int)) = false := by simp
  have HI : Hid (∀ W (a1 a2 : Option Addr) (l1 c1 c2 : Nat) (r : List Int), Sl W a1 l1 r → Sl W a2 l1 r → Calls Tryd.prog 13 #[.slice a1 l1 c1, .slice a2 l1 c2] W fun e w' => e = .returned (.bool true) ∧ ∃ k, w' = W.drewN k) := by
    intro W a1 a2 l1 c1 c2 r h1 h2
    have := ints_long a1 a2 l1 c1 c2 r r W h1 h2
    rwa [decide_eq_true rfl] at this
  clear hs hs'
  go_enter Tryd.func35, Tryd.ntmps35
  go_wp2
  go_loopw [5] (fun i wx => ∃ k q : Nat, k ≤ n ∧ i = .int .i64 k ∧ wx = w.drewN q) (fun i _ => n - (intOf i).toNat)
  case atStart => exact ⟨0, 0, by omega, rfl, rfl⟩
  case round =>
    obtain ⟨k, q, hk, rfl, hwx⟩ := hrel
    have HWX := hide hwx
    by_cases hlt : k < n
    · have hlti : (k : Int) < (n : Int) := by omega
      obtain ⟨b1, o1, a1, c1, rfl, h1, s1⟩ := sl2_cell HS.out k hlt
      obtain ⟨b2, o2, a2, c2, rfl, h2, s2⟩ := sl2_cell HS'.out k hlt
      have g1 : wr.cell? ⟨b1, o1 + k, none⟩ = some (.slice a1 (N.getD k []).length c1) := by rw [hwx]; exact h1
      have g2 : wr.cell? ⟨b2, o2 + k, none⟩ = some (.slice a2 (N.getD k []).length c2) := by rw [hwx]; exact h2
      have HK := hide (fun j => HI.out (wr.drewN j) a1 a2 (N.getD k []).length c1 c2 (N.getD k []) (by rw [hwx, World.drewN_drewN]; exact sl_drew s1 _) (by rw [hwx, World.drewN_drewN]; exact sl_drew s2 _))
      clear h1 h2 s1 s2 hwx
      generalize (N.getD k []).length = rl at g1 g2 HK
      go_wp2
      go_quiet (first | (go_at_call 13; refine Calls.quiet_of (HK.out _)))
      go_wp2
      go_roundw
      case rel => exact ⟨k + 1, q + nq, by omega, by go_num, by rw [HWX.out, World.drewN_drewN]⟩
      case measure => simp [intOf]; omega
    · have hlti : ¬ ((k : Int) < (n : Int)) := by omega
      clear hwx
      go_wp2
      go_ret
      exact ⟨by simp, q, HWX.out⟩

end Go.Proofs.YtcpnfbjcgaonkafDoor
