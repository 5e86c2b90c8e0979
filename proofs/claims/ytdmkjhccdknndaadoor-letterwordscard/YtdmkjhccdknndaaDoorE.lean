/- The contracts of digit.Right and digit.Less. -/
import Derived.Test.YtdmkjhccdknndaaDoorD
namespace Go.Proofs.YtdmkjhccdknndaaDoor
open Go.RowKit

def rightB (b : Int) (l : List Int) : Bool := b != 1 || !onesB l

theorem right_range (b : Int) (a : Option Addr) (len cap : Nat) (w : World) (h : b < 1 ∨ 6 < b) :
    Calls Tryd.prog 11 #[.int .i64 b, .slice a len cap] w fun e w' => e = .returned (.tuple #[.bool false, .iface 27 (.int .i64 1)]) ∧ w' = w := by
  go_enter Tryd.func11, Tryd.ntmps11
  go_wp2_with (go_at_call 35; refine (check_range _ _ _ _ _ h).mono ?_; rintro e w' ⟨rfl, rfl⟩)
  go_ret2
  exact ⟨by simp, rfl⟩

theorem right_full (b : Int) (a : Option Addr) (len cap : Nat) (w : World) (h1 : 1 ≤ b) (h2 : b ≤ 6) (h : 60 < len) (hm : len ≤ maxLen) :
    Calls Tryd.prog 11 #[.int .i64 b, .slice a len cap] w fun e w' => e = .returned (.tuple #[.bool false, .iface 27 (.int .i64 3)]) ∧ w' = w := by
  go_enter Tryd.func11, Tryd.ntmps11
  go_wp2_with (go_at_call 35; refine (check_full _ _ _ _ _ h1 h2 h hm).mono ?_; rintro e w' ⟨rfl, rfl⟩)
  go_ret2
  exact ⟨by simp, rfl⟩

theorem right_bad (b : Int) (a : Option Addr) (len cap : Nat) (l : List Int) (w : World) (h1 : 1 ≤ b) (h2 : b ≤ 6) (h : len ≤ 60) (hs : Sl w a len l) (hd : digB b l = false) :
    Calls Tryd.prog 11 #[.int .i64 b, .slice a len cap] w fun e w' => e = .returned (.tuple #[.bool false, .iface 27 (.int .i64 1)]) ∧ w' = w := by
  have hv : chkV b l = .iface 27 (.int .i64 1) := by simp [chkV, hd]
  have hc := hide (check_ok b a len cap l w h1 h2 h hs)
  rw [hv] at hc
  clear hv hs hd
  go_enter Tryd.func11, Tryd.ntmps11
  go_wp2_with (go_at_call 35; refine hc.out.mono ?_; rintro e w' ⟨rfl, rfl⟩)
  go_ret2
  exact ⟨by simp, rfl⟩

theorem right_ok (b : Int) (a : Option Addr) (len cap : Nat) (l : List Int) (w : World) (h1 : 1 ≤ b) (h2 : b ≤ 6) (h : len ≤ 60) (hs : Sl w a len l) (hd : digB b l = true) :
    Calls Tryd.prog 11 #[.int .i64 b, .slice a len cap] w fun e w' => e = .returned (.tuple #[.bool (rightB b l), .nilIface]) ∧ w' = w := by
  have hv : chkV b l = .nilIface := by simp [chkV, hd]
  have hc := hide (check_ok b a len cap l w h1 h2 h hs)
  have ho := hide (ones_any a len cap l w hs)
  rw [hv] at hc
  clear hv hs hd
  by_cases hb : b = 1
  · have hb' : (b != 1) = false := by simp [hb]
    have HR : Hid (rightB b l = !onesB l) := by show _ = _; simp [rightB, hb]
    clear hb
    generalize onesB l = t at ho HR
    go_enter Tryd.func11, Tryd.ntmps11
    go_wp2_with (first
      | (go_at_call 35; refine hc.out.mono ?_; rintro e w' ⟨rfl, rfl⟩)
      | (go_at_call 36; refine ho.out.mono ?_; rintro e w' ⟨rfl, rfl⟩))
    go_ret2
    exact ⟨by rw [HR.out]; simp, rfl⟩
  · have hb' : (b != 1) = true := by simp [hb]
    have HR : Hid (rightB b l = true) := by show _ = _; simp [rightB, hb]
    clear hb
    go_enter Tryd.func11, Tryd.ntmps11
    go_wp2_with (first
      | (go_at_call 35; refine hc.out.mono ?_; rintro e w' ⟨rfl, rfl⟩)
      | (go_at_call 36; refine ho.out.mono ?_; rintro e w' ⟨rfl, rfl⟩))
    go_ret2
    exact ⟨by rw [HR.out]; simp, rfl⟩

/-- Less, out of what Value answers of both: the first fails. -/
theorem less_fst (b : Int) (a a' : Option Addr) (len cap len' cap' : Nat) (w : World) (c : Int)
    (hv : Calls Tryd.prog 14 #[.int .i64 b, .slice a len cap] w fun e w' => e = .returned (.tuple #[.int .i64 0, .iface 27 (.int .i64 c)]) ∧ Below w.heap.size w w') :
    Calls Tryd.prog 15 #[.int .i64 b, .slice a len cap, .slice a' len' cap'] w fun e w' => e = .returned (.tuple #[.bool false, .iface 27 (.int .i64 c)]) ∧ Below w.heap.size w w' := by
  have hc := hide hv
  clear hv
  go_enter Tryd.func15, Tryd.ntmps15
  go_wp2_with fail
  refine hc.out.mono ?_
  rintro e w1 ⟨rfl, hb⟩
  go_wp2
  go_ret2
  exact ⟨by simp, hb⟩

theorem less_snd (b : Int) (a a' : Option Addr) (len cap len' cap' : Nat) (w : World) (x c : Int)
    (hv : Calls Tryd.prog 14 #[.int .i64 b, .slice a len cap] w fun e w' => e = .returned (.tuple #[.int .i64 x, .nilIface]) ∧ Below w.heap.size w w')
    (hv' : ∀ W, Below w.heap.size w W → Calls Tryd.prog 14 #[.int .i64 b, .slice a' len' cap'] W fun e w' => e = .returned (.tuple #[.int .i64 0, .iface 27 (.int .i64 c)]) ∧ Below W.heap.size W w') :
    Calls Tryd.prog 15 #[.int .i64 b, .slice a len cap, .slice a' len' cap'] w fun e w' => e = .returned (.tuple #[.bool false, .iface 27 (.int .i64 c)]) ∧ Below w.heap.size w w' := by
  have hc := hide hv
  have hc' := hide hv'
  clear hv hv'
  go_enter Tryd.func15, Tryd.ntmps15
  go_wp2_with fail
  refine hc.out.mono ?_
  rintro e w1 ⟨rfl, hb⟩
  go_wp2_with fail
  refine (hc'.out w1 hb).mono ?_
  rintro e w2 ⟨rfl, hb2⟩
  go_wp2
  go_ret2
  exact ⟨by simp, hb.trans (hb2.mono hb.size)⟩

theorem less_ok (b : Int) (a a' : Option Addr) (len cap len' cap' : Nat) (w : World) (x y : Int)
    (hv : Calls Tryd.prog 14 #[.int .i64 b, .slice a len cap] w fun e w' => e = .returned (.tuple #[.int .i64 x, .nilIface]) ∧ Below w.heap.size w w')
    (hv' : ∀ W, Below w.heap.size w W → Calls Tryd.prog 14 #[.int .i64 b, .slice a' len' cap'] W fun e w' => e = .returned (.tuple #[.int .i64 y, .nilIface]) ∧ Below W.heap.size W w') :
    Calls Tryd.prog 15 #[.int .i64 b, .slice a len cap, .slice a' len' cap'] w fun e w' => e = .returned (.tuple #[.bool (decide (x < y)), .nilIface]) ∧ Below w.heap.size w w' := by
  have hc := hide hv
  have hc' := hide hv'
  clear hv hv'
  go_enter Tryd.func15, Tryd.ntmps15
  go_wp2_with fail
  refine hc.out.mono ?_
  rintro e w1 ⟨rfl, hb⟩
  go_wp2_with fail
  refine (hc'.out w1 hb).mono ?_
  rintro e w2 ⟨rfl, hb2⟩
  go_wp2
  go_ret2
  exact ⟨by simp, hb.trans (hb2.mono hb.size)⟩
end Go.Proofs.YtdmkjhccdknndaaDoor
