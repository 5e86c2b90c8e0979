/- The contract of digit.Of. -/
import Derived.Test.YtcpnfbjcgaonkafDoorF
import Derived.RegionTactic
namespace Go.Proofs.YtcpnfbjcgaonkafDoor
open Go.RowKit

/-- What is left of n behind k places. -/
def remN (b n : Int) : Nat → Int
  | 0 => n
  | k + 1 => remN b n k % cnt b (59 - k)
def dgt (b n : Int) (k : Nat) : Int := remN b n k / cnt b (59 - k)
/-- The digits of n, k of them laid. -/
def dList (b n : Int) (k : Nat) : List Int := (List.range 60).map fun j => if j < k then dgt b n j else 0

theorem dList_length (b n : Int) (k : Nat) : (dList b n k).length = 60 := by simp [dList]
theorem dList_get (b n : Int) (k j : Nat) (h : j < 60) : (dList b n k).getD j 0 = if j < k then dgt b n j else 0 := by simp [dList, List.getD, h]
theorem dList_zero (b n : Int) : dList b n 0 = List.replicate 60 0 := by
  rfl
theorem iArr_zero (b n : Int) : iArr (dList b n 0) = (#[.int .i64 0, .int .i64 0, .int .i64 0, .int .i64 0, .int .i64 0, .int .i64 0, .int .i64 0, .int .i64 0, .int .i64 0, .int .i64 0, .int .i64 0, .int .i64 0, .int .i64 0, .int .i64 0, .int .i64 0, .int .i64 0, .int .i64 0, .int .i64 0, .int .i64 0, .int .i64 0, .int .i64 0, .int .i64 0, .int .i64 0, .int .i64 0, .int .i64 0, .int .i64 0, .int .i64 0, .int .i64 0, .int .i64 0, .int .i64 0, .int .i64 0, .int .i64 0, .int .i64 0, .int .i64 0, .int .i64 0, .int .i64 0, .int .i64 0, .int .i64 0, .int .i64 0, .int .i64 0, .int .i64 0, .int .i64 0, .int .i64 0, .int .i64 0, .int .i64 0, .int .i64 0, .int .i64 0, .int .i64 0, .int .i64 0, .int .i64 0, .int .i64 0, .int .i64 0, .int .i64 0, .int .i64 0, .int .i64 0, .int .i64 0, .int .i64 0, .int .i64 0, .int .i64 0, .int .i64 0] : Array Value) := by
  rw [dList_zero]; rfl
theorem dList_set (b n : Int) (k : Nat) (h : k < 60) : (iArr (dList b n k)).setIfInBounds k (.int .i64 (dgt b n k)) = iArr (dList b n (k + 1)) := by
  apply Array.ext_getElem?
  intro j
  rw [Array.getElem?_setIfInBounds]
  by_cases hj : j < 60
  · rw [iArr_get _ _ (by rw [dList_length]; exact hj), iArr_get _ _ (by rw [dList_length]; exact hj), dList_get _ _ _ _ hj, dList_get _ _ _ _ hj]
    by_cases e : k = j
    · subst e
      rw [if_pos rfl, if_pos (by rw [iArr_size, dList_length]; exact hj), if_pos (by omega)]
    · rw [if_neg e]
      by_cases h1 : j < k
      · rw [if_pos h1, if_pos (by omega)]
      · rw [if_neg h1, if_neg (by omega)]
  · rw [if_neg (by omega), Array.getElem?_eq_none (by rw [iArr_size, dList_length]; omega), Array.getElem?_eq_none (by rw [iArr_size, dList_length]; omega)]

theorem remN_bd (b n : Int) (h1 : 1 ≤ b) (h2 : b ≤ 6) (hn : 0 ≤ n) (k : Nat) : 0 ≤ remN b n k ∧ remN b n k ≤ n := by
  induction k with
  | zero => exact ⟨hn, Int.le_refl _⟩
  | succ k ih =>
    have hc := (cnt_bd b h1 h2 (59 - k)).1
    simp only [remN]
    have e1 := Int.emod_nonneg (remN b n k) (b := cnt b (59 - k)) (by omega)
    have e2 : remN b n k % cnt b (59 - k) ≤ remN b n k := by
      have := Int.emod_add_mul_ediv (remN b n k) (cnt b (59 - k))
      have := Int.ediv_nonneg ih.1 (b := cnt b (59 - k)) (by omega)
      have := Int.mul_nonneg (a := cnt b (59 - k)) (b := remN b n k / cnt b (59 - k)) (by omega) this
      omega
    omega

theorem dgt_bd (b n : Int) (h1 : 1 ≤ b) (h2 : b ≤ 6) (hn : 0 ≤ n) (k : Nat) : 0 ≤ dgt b n k ∧ dgt b n k ≤ n := by
  have hc := (cnt_bd b h1 h2 (59 - k)).1
  have hr := remN_bd b n h1 h2 hn k
  unfold dgt
  have e1 := Int.ediv_nonneg hr.1 (b := cnt b (59 - k)) (by omega)
  have e2 := Int.ediv_le_self (cnt b (59 - k)) hr.1
  omega

theorem of_range (b n : Int) (w : World) (h : b < 1 ∨ 6 < b) :
    Calls Tryd.prog 30 #[.int .i64 b, .int .i64 n] w fun e w' => e = .returned (.tuple #[.slice none 0 0, .iface 26 (.int .i64 1)]) ∧ w' = w := by
  go_enter Tryd.func30, Tryd.ntmps30
  go_wp2_with (go_at_call 26; refine (isBase_no _ _ h).mono ?_; rintro e w' ⟨rfl, rfl⟩)
  go_ret2
  exact ⟨by simp, rfl⟩

theorem of_far (b n : Int) (w : World) (h1 : 1 ≤ b) (h2 : b ≤ 6) (h : n < 0 ∨ 1099511627776 < n) :
    Calls Tryd.prog 30 #[.int .i64 b, .int .i64 n] w fun e w' => e = .returned (.tuple #[.slice none 0 0, .iface 26 (.int .i64 1)]) ∧ w' = w := by
  rcases h with h | h
  · go_enter Tryd.func30, Tryd.ntmps30
    go_wp2_with (go_at_call 26; refine (isBase_yes _ _ h1 h2).mono ?_; rintro e w' ⟨rfl, rfl⟩)
    go_ret2
    exact ⟨by simp, rfl⟩
  · have h' : 0 ≤ n := by omega
    go_enter Tryd.func30, Tryd.ntmps30
    go_wp2_with (go_at_call 26; refine (isBase_yes _ _ h1 h2).mono ?_; rintro e w' ⟨rfl, rfl⟩)
    go_ret2
    exact ⟨by simp, rfl⟩

def OfGives (w : World) (l : List Int) (e : Ending) (w' : World) : Prop := ∃ a cap, e = .returned (.tuple #[.slice a l.length cap, .nilIface]) ∧ SlN w.heap.size w' a l.length l ∧ Below w.heap.size w w'


theorem index37 (C : Array Value) (k : Nat) (hk : k < 60) (v : Value) (hv : C[k]? = some v) (W : World) : (Instr.index 84 (.agg C) (.int .i64 k)).run Tryd.prog W = .ok v W := by
  simp [Instr.index, asIntOf, run_underlying Tryd.underlying84, part, Tryd.isAgg3, Tryd.sizeOf3, hv]
  omega

theorem heap_alloc3_fst (w : World) (o o' o'' : Obj) : (((w.alloc o).alloc o').alloc o'').heap[w.heap.size]? = some o := by
  rw [Below.heap_alloc _ _ _ (by simp; omega), heap_alloc2_fst]

theorem heap_setCell_at {w : World} {g k : Nat} {cs : Array Value} {t : TypeId} {v : Value} (h : w.heap[g]? = some (.cells cs t (0, 0))) : (w.setCell ⟨g, k, none⟩ v).heap[g]? = some (.cells (cs.setIfInBounds k v) t (0, 0)) := by
  simp only [World.setCell, Array.getElem?_modify]
  simp [h]

/-- The loop of Of, behind k rounds. -/
def OfAt (b n : Int) (w : World) (k : Nat) (wx : World) : Prop := wx.heap[w.heap.size]? = some (.cells (iArr (dList b n k)) 84 (0, 0)) ∧ Below w.heap.size w wx

set_option maxHeartbeats 1000000 in
set_option maxRecDepth 4000 in
theorem of_ok (b n : Int) (w : World) (h1 : 1 ≤ b) (h2 : b ≤ 6) (hn : 0 ≤ n) (hn' : n ≤ 1099511627776) :
    Calls Tryd.prog 30 #[.int .i64 b, .int .i64 n] w (OfGives w (dropZ (dList b n 60))) := by
  have hd1 : decide (n < 0) = false := by simp; omega
  have hd2 : decide (1099511627776 < n) = false := by simp; omega
  go_enter Tryd.func30, Tryd.ntmps30
  go_wp2_with (first
    | (go_at_call 26; refine (isBase_yes _ _ h1 h2).mono ?_; rintro e w' ⟨rfl, hw⟩; rw [hw]; clear hw w')
    | (go_at_call 45; refine (counts_any _ _ h1 h2).mono ?_; rintro e w' ⟨rfl, rfl⟩))
  rw [← iArr_zero b n]
  have H0 : Hid (OfAt b n w 0 (((w.alloc (Obj.cells (iArr (dList b n 0)) 84)).alloc (Obj.cells (cArr b 60) 84)).alloc (Obj.cells (cArr b 60) 84))) :=
    ⟨heap_alloc3_fst _ _ _ _, (((Below.refl _ _).alloc (Nat.le_refl _) _).alloc (by simp) _).alloc (by simp; omega) _⟩
  generalize ((w.alloc (Obj.cells (iArr (dList b n 0)) 84)).alloc (Obj.cells (cArr b 60) 84)).alloc (Obj.cells (cArr b 60) 84) = W at H0 ⊢
  go_loopw [1, 23] (fun s i wx => ∃ k : Nat, k ≤ 60 ∧ i = .int .i64 k ∧ s = .int .i64 (remN b n k) ∧ OfAt b n w k wx) (fun _ i _ => 60 - (intOf i).toNat)
  case atStart => exact ⟨0, by omega, rfl, rfl, H0.out⟩
  case round =>
    obtain ⟨k, hk, rfl, rfl, ho⟩ := hrel
    have HA := hide ho
    clear ho
    by_cases hlt : k < 60
    · have hlti : (k : Int) < 60 := by omega
      have hcn := cArr_get b 60 k hlt
      rw [if_pos (by omega)] at hcn
      have hix := index37 _ _ hlt _ hcn
      have HD : Hid (dgt b n k = remN b n k / cnt b (59 - k)) := rfl
      have HR : Hid (remN b n (k + 1) = remN b n k % cnt b (59 - k)) := rfl
      have hrb := remN_bd b n h1 h2 hn k
      obtain ⟨hr1, hr2⟩ := hrb
      have hcb := (cnt_bd b h1 h2 (59 - k)).1
      obtain ⟨hc1, hc2⟩ := hcb
      have hcell : wr.cell? ⟨w.heap.size, k, none⟩ = some (.int .i64 0) := by
        rw [cell_of_row _ _ k _ _ _ HA.out.1, iArr_get _ _ (by rw [dList_length]; exact hlt), dList_get _ _ _ _ hlt, if_neg (by omega)]
      have hfz : wr.frozen? ⟨w.heap.size, k, none⟩ = false := by
        simp [World.frozen?, HA.out.1]
      generalize cnt b (59 - k) = c at hcn hix HD HR hc1 hc2
      generalize remN b n k = r at HD HR hr1 hr2 ⊢
      have hc0 : (c == 0) = false := by simp; omega
      clear hcn
      go_wp2
      go_region
      all_goals go_wp2
      all_goals
        go_roundw
        case rel =>
          refine ⟨k + 1, by omega, by go_num, by rw [HR.out], ?_⟩
          have hs : wr.heap[w.heap.size]? = some (.cells (iArr (dList b n k)) 84 (0, 0)) := HA.out.1
          have h3 := heap_setCell_at (k := k) (v := .int .i64 (r / c)) hs
          rw [← HD.out, dList_set b n k hlt, HD.out] at h3
          exact ⟨h3, (HA.out.2.setCell (Nat.le_refl _) _).drew⟩
        case measure => simp [intOf]; omega
    · have hlti : ¬ ((k : Int) < 60) := by omega
      obtain rfl : k = 60 := by omega
      have HI : Hid ((Tryd.prog.info? 84).map (·.size) = some (iArr (dList b n 60)).size) := by rw [iArr_size, dList_length]; exact info37
      have HW : Hid (∀ W, Below w.heap.size w W → Calls Tryd.prog 46 #[.agg (iArr (dList b n 60))] W (GivesRow W (dropZ (dList b n 60)))) := fun W _ =>
        without_any _ (dList_length b n 60) (fun x hx => by
          simp only [dList, List.mem_map, List.mem_range] at hx
          obtain ⟨j, hj, rfl⟩ := hx
          rw [if_pos hj]
          have := dgt_bd b n h1 h2 hn j
          exact Go.WalkArith.wf_i64 (by omega)) W
      go_wp2_with (refine wpList_load_row rfl 84 _ rfl _ rfl _ _ _ _ _ HA.out.1 Tryd.underlying84 HI.out ?_)
      refine (HW.out wr HA.out.2).mono ?_
      rintro e w' ⟨a, cap, rfl, hs, hb⟩
      have HS := hide hs
      clear hs
      go_wp2
      go_ret2
      exact ⟨a, cap, rfl, HS.out.mono HA.out.2.size, HA.out.2.trans (hb.mono HA.out.2.size)⟩
end Go.Proofs.YtcpnfbjcgaonkafDoor
