/- filbertsame.Lists, Autos: two that read alike are the same; the reference's Alike: contracts. -/
import Derived.Test.YtokcejakjaimlaeRows
import Derived.Below
import Derived.LaidEql
import Derived.OwnWalk
import Derived.RowKitTokens
import Derived.Stop.Asserts
import Derived.WalkKit
import Derived.Test.YtokcejakjaimlaeMa
import Derived.Test.YtokcejakjaimlaeZNx
import Derived.Test.YtokcejakjaimlaeB
import Derived.Test.YtokcejakjaimlaeZG
import Derived.Test.YtokcejakjaimlaeZF
namespace Go.Proofs.Ytokcejakjaimlae
open Go.RowKit

theorem sl_drew {w : World} {a : Option Addr} {len : Nat} {l : List Int} (h : Sl w a len l) (n : Nat) : Sl (w.drewN n) a len l := sl_below h (below_drewN (Below.refl _ _) n)

set_option maxHeartbeats 2000000 in
set_option maxRecDepth 4000 in
theorem lists_eq (a a' : Option Addr) (n cap cap' : Nat) (N : List (List Int)) (w : World) (hs : Sl2 w a n N) (hs' : Sl2 w a' n N) :
    Calls Try.prog 13 #[.slice a n cap, .slice a' n cap'] w fun e w' => e = .returned (.bool true) ∧ ∃ k, w' = w.drewN k := by
  have hm := hs.2.1
  unfold maxLen at hm
  have HS := hide hs
  have HS' := hide hs'
  have hnn : ((n : Int) != (n : Int)) = false := by simp
  have HI : Hid (∀ W (a1 a2 : Option Addr) (l1 c1 c2 : Nat) (r : List Int), Sl W a1 l1 r → Sl W a2 l1 r → Calls Try.prog 23 #[.slice a1 l1 c1, .slice a2 l1 c2] W fun e w' => e = .returned (.bool true) ∧ ∃ k, w' = W.drewN k) := by
    intro W a1 a2 l1 c1 c2 r h1 h2
    have := ints_long a1 a2 l1 c1 c2 r r W h1 h2
    rwa [decide_eq_true rfl] at this
  clear hs hs'
  go_enter Try.func13, Try.ntmps13
  go_wp2
  go_loopw [5] (fun i wx => ∃ k q : Nat, k ≤ n ∧ i = .int .i64 k ∧ wx = w.drewN q) (fun i _ => n - (intOf i).toNat)
  case atStart => exact ⟨0, 0, by omega, rfl, rfl⟩
  case round =>
    obtain ⟨k, q, hk, rfl, hwx⟩ := hrel
    have HWX := hide hwx
    by_cases hlt : k < n
    · have hlti : (k : Int) < (n : Int) := by omega
      obtain ⟨b1, o1, a1, c1, rfl, h1, s1⟩ := sl2_cell HS.out k hlt
      obtain ⟨b2, o2, a2, c2, rfl, h2, s2⟩ := sl2_cell HS'.out k hlt
      have g1 : wr.cell? ⟨b1, o1 + k, none⟩ = some (.slice a1 (N.getD k []).length c1) := by rw [hwx]; exact h1
      have g2 : wr.cell? ⟨b2, o2 + k, none⟩ = some (.slice a2 (N.getD k []).length c2) := by rw [hwx]; exact h2
      have HK := hide (fun j => HI.out (wr.drewN j) a1 a2 (N.getD k []).length c1 c2 (N.getD k []) (by rw [hwx, World.drewN_drewN]; exact sl_drew s1 _) (by rw [hwx, World.drewN_drewN]; exact sl_drew s2 _))
      clear h1 h2 s1 s2 hwx
      generalize (N.getD k []).length = rl at g1 g2 HK
      go_wp2
      go_quiet (first | (go_at_call 23; refine Calls.quiet_of (HK.out _)))
      go_wp2
      go_roundw
      case rel => exact ⟨k + 1, q + nq, by omega, by go_num, by rw [HWX.out, World.drewN_drewN]⟩
      case measure => simp [intOf]; omega
    · have hlti : ¬ ((k : Int) < (n : Int)) := by omega
      clear hwx
      go_wp2
      go_ret
      exact ⟨by simp, q, HWX.out⟩

/-- Two automata in their boxes, one behind the other. -/
theorem two_boxes {w w' : World} {v0 v1 v2 v3 u0 u1 u2 u3 : Value} {T : TypeId} (hb : Below ((w.alloc (.cells #[v0, v1, v2, v3] T)).alloc (.cells #[u0, u1, u2, u3] T)).heap.size ((w.alloc (.cells #[v0, v1, v2, v3] T)).alloc (.cells #[u0, u1, u2, u3] T)) w') :
    (w'.cell? ⟨w.heap.size, 0, none⟩ = some v0 ∧ w'.cell? ⟨w.heap.size, 1, none⟩ = some v1 ∧ w'.cell? ⟨w.heap.size, 2, none⟩ = some v2 ∧ w'.cell? ⟨w.heap.size, 3, none⟩ = some v3) ∧
    (w'.cell? ⟨w.heap.size + 1, 0, none⟩ = some u0 ∧ w'.cell? ⟨w.heap.size + 1, 1, none⟩ = some u1 ∧ w'.cell? ⟨w.heap.size + 1, 2, none⟩ = some u2 ∧ w'.cell? ⟨w.heap.size + 1, 3, none⟩ = some u3) := by
  have h2 := box4 hb
  rw [World.size_alloc] at h2
  exact ⟨box4 (below_step ((Below.refl _ _).alloc (Nat.le_refl _) _) hb), h2⟩

set_option maxHeartbeats 4000000 in
set_option maxRecDepth 4000 in
theorem autos_eq (b t : Int) (a1 : Option Addr) (n c1 : Nat) (e1 : Option Addr) (k d1 : Nat) (a2 : Option Addr) (c2 : Nat) (e2 : Option Addr) (d2 : Nat) (N : List (List Int)) (E : List Bool) (w : World) (h1 : Sl2 w a1 n N) (g1 : SlB w e1 k E) (h2 : Sl2 w a2 n N) (g2 : SlB w e2 k E) :
    Calls Try.prog 7 #[.agg #[.int .i64 b, .int .i64 t, .slice a1 n c1, .slice e1 k d1], .agg #[.int .i64 b, .int .i64 t, .slice a2 n c2, .slice e2 k d2]] w fun e w' => e = .returned (.bool true) ∧ Below w.heap.size w w' := by
  have hB : Below w.heap.size w ((w.alloc (.cells #[.int .i64 b, .int .i64 t, .slice a1 n c1, .slice e1 k d1] 25)).alloc (.cells #[.int .i64 b, .int .i64 t, .slice a2 n c2, .slice e2 k d2] 25)) := ((Below.refl _ _).alloc (Nat.le_refl _) _).alloc (by simp) _
  have HB := hide hB
  have HL := hide (lists_eq a1 a2 n c1 c2 N _ (sl2_below h1 hB) (sl2_below h2 hB))
  have HG1 := hide (slB_below g1 hB)
  have HG2 := hide (slB_below g2 hB)
  have HBX := hide (two_boxes (Below.refl _ ((w.alloc (.cells #[.int .i64 b, .int .i64 t, .slice a1 n c1, .slice e1 k d1] 25)).alloc (.cells #[.int .i64 b, .int .i64 t, .slice a2 n c2, .slice e2 k d2] 25))))
  have hm := g1.2.1
  unfold maxLen at hm
  have hbb : (b != b) = false := by simp
  have htt : (t != t) = false := by simp
  have hkk : ((k : Int) != (k : Int)) = false := by simp
  clear h1 h2 g1 g2 hB
  go_enter Try.func7, Try.ntmps7
  obtain ⟨⟨p0, p1, p2, p3⟩, q0, q1, q2, q3⟩ := HBX.out
  go_wp2_with fail
  generalize (w.alloc (.cells #[.int .i64 b, .int .i64 t, .slice a1 n c1, .slice e1 k d1] 25)).alloc (.cells #[.int .i64 b, .int .i64 t, .slice a2 n c2, .slice e2 k d2] 25) = W at HB HL HG1 HG2 HBX p0 p1 p2 p3 q0 q1 q2 q3 ⊢
  clear p0 p1 p2 p3 q0 q1 q2 q3
  refine HL.out.mono ?_
  rintro e w1 ⟨rfl, k1, hw1⟩
  have HW1 := hide hw1
  obtain ⟨⟨p0, p1, p2, p3⟩, q0, q1, q2, q3⟩ := HBX.out
  replace p0 : w1.cell? ⟨w.heap.size, 0, none⟩ = some (.int .i64 b) := by rw [hw1]; exact p0
  replace p1 : w1.cell? ⟨w.heap.size, 1, none⟩ = some (.int .i64 t) := by rw [hw1]; exact p1
  replace p3 : w1.cell? ⟨w.heap.size, 3, none⟩ = some (.slice e1 k d1) := by rw [hw1]; exact p3
  replace q0 : w1.cell? ⟨w.heap.size + 1, 0, none⟩ = some (.int .i64 b) := by rw [hw1]; exact q0
  replace q1 : w1.cell? ⟨w.heap.size + 1, 1, none⟩ = some (.int .i64 t) := by rw [hw1]; exact q1
  replace q3 : w1.cell? ⟨w.heap.size + 1, 3, none⟩ = some (.slice e2 k d2) := by rw [hw1]; exact q3
  clear p2 q2 hw1
  go_wp2
  have HP3 := hide p3
  have HQ3 := hide q3
  clear p0 p1 p3 q0 q1 q3
  go_loopw [6] (fun i wx => ∃ j q : Nat, j ≤ k ∧ i = .int .i64 j ∧ wx = w1.drewN q) (fun i _ => k - (intOf i).toNat)
  case atStart => exact ⟨0, 0, by omega, rfl, rfl⟩
  case round =>
    obtain ⟨j, q, hj, rfl, hwx⟩ := hrel
    have HWX := hide hwx
    have p3 : wr.cell? ⟨w.heap.size, 3, none⟩ = some (.slice e1 k d1) := by rw [hwx]; exact HP3.out
    have q3 : wr.cell? ⟨w.heap.size + 1, 3, none⟩ = some (.slice e2 k d2) := by rw [hwx]; exact HQ3.out
    clear hwx
    by_cases hlt : j < k
    · have hlti : (j : Int) < (k : Int) := by omega
      obtain ⟨b1, o1, rfl, h1⟩ := slB_cell HG1.out j hlt
      obtain ⟨b2, o2, rfl, h2⟩ := slB_cell HG2.out j hlt
      have r1 : wr.cell? ⟨b1, o1 + j, none⟩ = some (.bool (E.getD j false)) := by rw [HWX.out, HW1.out]; exact h1
      have r2 : wr.cell? ⟨b2, o2 + j, none⟩ = some (.bool (E.getD j false)) := by rw [HWX.out, HW1.out]; exact h2
      clear h1 h2
      generalize E.getD j false = x at r1 r2
      have hxx : (x != x) = false := by simp
      go_wp2
      go_quiet (fail)
      go_wp2
      go_roundw
      case rel => exact ⟨j + 1, q + nq, by omega, by go_num, by rw [HWX.out, World.drewN_drewN]⟩
      case measure => simp [intOf]; omega
    · have hlti : ¬ ((j : Int) < (k : Int)) := by omega
      have HE : Hid (Below w.heap.size w wr) := by rw [HWX.out, HW1.out]; exact below_drewN (below_drewN HB.out _) _
      go_wp2
      go_ret
      exact ⟨by simp, HE.out⟩

end Go.Proofs.Ytokcejakjaimlae
