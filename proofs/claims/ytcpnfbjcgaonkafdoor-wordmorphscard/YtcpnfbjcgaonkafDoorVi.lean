/- filbertsame.Outs at two that are the same; what package word's Check, At, Head, Is answer. -/
import Derived.Test.YtcpnfbjcgaonkafDoorMa
import Derived.Test.YtcpnfbjcgaonkafDoorAc
import Derived.Test.YtcpnfbjcgaonkafDoorBf
import Derived.Test.YtcpnfbjcgaonkafDoorBk
import Derived.Test.YtcpnfbjcgaonkafDoorBm
import Derived.Test.YtcpnfbjcgaonkafDoorBs
import Derived.Test.YtcpnfbjcgaonkafDoorCf
import Derived.Test.YtcpnfbjcgaonkafDoorDa
import Derived.Test.YtcpnfbjcgaonkafDoorLc2
import Derived.Test.YtcpnfbjcgaonkafDoorNx
import Derived.Test.YtcpnfbjcgaonkafDoorP
import Derived.Test.YtcpnfbjcgaonkafDoorRe
import Derived.Test.YtcpnfbjcgaonkafDoorVa
import Derived.Test.YtcpnfbjcgaonkafDoorVc
import Derived.ArgAppend
import Derived.BigRegion
import Derived.Deep.AppendLies
import Derived.Deep.MidRow
import Derived.Deep.RegionHeldLaw
import Derived.Deep.RegionLaw
import Derived.Deep.RegionWith
import Derived.DeepKeys4
import Derived.Laws.AppendOwnNone
import Derived.LoopIn
import Derived.LoopNIn
import Derived.Maps.OwnSet
import Derived.OwnWalkIn
import Derived.RangeFuncBound
import Derived.RangeFuncCalls
import Derived.RangeFuncLeaves
import Derived.RangeFuncNested
import Derived.Shelf.Abstract
import Derived.Shelf.RegionOpen
import Derived.Sort.LoopGhostIn
import Derived.TacticsInMore
import Derived.WalkKit
namespace Go.Proofs.YtcpnfbjcgaonkafDoor
open Go.RowKit

set_option maxHeartbeats 4000000 in
set_option maxRecDepth 4000 in
theorem outs_eq (b : Int) (a1 : Option Addr) (n c1 : Nat) (o1 : Option Addr) (k d1 : Nat) (a2 : Option Addr) (c2 : Nat) (o2 : Option Addr) (d2 : Nat) (N : List (List Int)) (O : List Int) (w : World) (h1 : Sl2 w a1 n N) (g1 : Sl w o1 k O) (h2 : Sl2 w a2 n N) (g2 : Sl w o2 k O) :
    Calls Tryd.prog 21 #[outV b a1 n c1 o1 k d1, outV b a2 n c2 o2 k d2] w fun e w' => e = .returned (.bool true) ∧ Below w.heap.size w w' := by
  have hB := below_two w (.cells #[.int .i64 b, .slice a1 n c1, .slice o1 k d1] 25) (.cells #[.int .i64 b, .slice a2 n c2, .slice o2 k d2] 25)
  have HB := hide hB
  have HX1 := hide (heap_alloc2_fst w (.cells #[.int .i64 b, .slice a1 n c1, .slice o1 k d1] 25) (.cells #[.int .i64 b, .slice a2 n c2, .slice o2 k d2] 25))
  have HX2 := hide (heap_alloc2_snd w (.cells #[.int .i64 b, .slice a1 n c1, .slice o1 k d1] 25) (.cells #[.int .i64 b, .slice a2 n c2, .slice o2 k d2] 25))
  generalize hW0 : (w.alloc (.cells #[.int .i64 b, .slice a1 n c1, .slice o1 k d1] 25)).alloc (.cells #[.int .i64 b, .slice a2 n c2, .slice o2 k d2] 25) = w0 at hB HB HX1 HX2
  have HL := hide (lists_eq a1 a2 n c1 c2 N w0 (sl2_below h1 hB) (sl2_below h2 hB))
  have HI := hide (fun W (h : Below w0.heap.size w0 W) => ints_eq o1 o2 k d1 d2 O W (sl_below (sl_below g1 hB) h) (sl_below (sl_below g2 hB) h))
  have HAB : Hid (∀ W, Below w0.heap.size w0 W → (W.cell? ⟨w.heap.size, 0, none⟩ = some (.int .i64 b) ∧ W.cell? ⟨w.heap.size, 1, none⟩ = some (.slice a1 n c1) ∧ W.cell? ⟨w.heap.size, 2, none⟩ = some (.slice o1 k d1)) ∧ (W.cell? ⟨w.heap.size + 1, 0, none⟩ = some (.int .i64 b) ∧ W.cell? ⟨w.heap.size + 1, 1, none⟩ = some (.slice a2 n c2) ∧ W.cell? ⟨w.heap.size + 1, 2, none⟩ = some (.slice o2 k d2))) := fun W h => ⟨(box3_cells ((h.block _ (Array.getElem?_eq_some_iff.1 HX1.out).1).trans HX1.out)).1, (box3_cells ((h.block _ (Array.getElem?_eq_some_iff.1 HX2.out).1).trans HX2.out)).1⟩
  clear h1 h2 g1 g2 hB
  unfold outV
  obtain ⟨⟨p0, p1, p2⟩, q0, q1, q2⟩ := HAB.out w0 (Below.refl _ _)
  go_enter Tryd.func21, Tryd.ntmps21
  go_wp2_with fail
  clear hW0 p0 p1 p2 q0 q1 q2
  refine HL.out.mono ?_
  rintro e w1 ⟨rfl, k1, hw1⟩
  have hb1 : Below w0.heap.size w0 w1 := by rw [hw1]; exact below_drewN (Below.refl _ _) k1
  obtain ⟨⟨p0, p1, p2⟩, q0, q1, q2⟩ := HAB.out w1 hb1
  have HB1 := hide hb1
  clear hw1 hb1
  go_wp2_with fail
  clear p0 p1 p2 q0 q1 q2
  refine (HI.out w1 HB1.out).mono ?_
  rintro e w2 ⟨rfl, hb2⟩
  have hbw := below_step HB1.out hb2
  obtain ⟨⟨p0, p1, p2⟩, q0, q1, q2⟩ := HAB.out w2 hbw
  have HBF := hide (below_step HB.out hbw)
  have hbb : (b == b) = true := by simp
  clear hb2 hbw
  go_wp2
  go_ret
  exact ⟨rfl, HBF.out⟩
/-- What Check, At, Head, Is answer. -/
def atF (b : Int) (N : List (List Int)) (O : List Int) (x hi : Int) : Int := if outC b N O = 0 then (if 0 ≤ x ∧ x ≤ hi then 0 else 1) else outC b N O
def atV (b : Int) (N : List (List Int)) (O : List Int) (x : Int) : Int := if atF b N O x 1099511627776 = 0 then sayN b N O x else 0
def CheckSays : Prop := ∀ (b : Int) (a : Option Addr) (n cap : Nat) (ao : Option Addr) (no co : Nat) (N : List (List Int)) (O : List Int) (W : World), Sl2 W a n N → Sl W ao no O → Calls Tryd.prog 9 #[outV b a n cap ao no co] W fun e w' => e = .returned (errV (outC b N O)) ∧ Below W.heap.size W w'
def AtSays : Prop := ∀ (b : Int) (a : Option Addr) (n cap : Nat) (ao : Option Addr) (no co : Nat) (N : List (List Int)) (O : List Int) (x : Int) (W : World), Sl2 W a n N → Sl W ao no O → Calls Tryd.prog 11 #[outV b a n cap ao no co, .int .i64 x] W fun e w' => e = .returned (.tuple #[.int .i64 (atV b N O x), errV (atF b N O x 1099511627776)]) ∧ Below W.heap.size W w'
end Go.Proofs.YtcpnfbjcgaonkafDoor
