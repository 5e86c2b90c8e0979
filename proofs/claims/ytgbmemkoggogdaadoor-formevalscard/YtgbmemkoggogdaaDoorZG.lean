/- 8 texts in one. -/
import Derived.RegionTactic
import Derived.OwnWalk
import Derived.Test.YtgbmemkoggogdaaDoorZF
import Derived.Test.YtgbmemkoggogdaaDoorZC
/- The contract of digit.Of. -/
namespace Go.Proofs.YtgbmemkoggogdaaDoor
open Go.RowKit

/-- What is left of n behind k places. -/
def remN (b n : Int) : Nat → Int
  | 0 => n
  | k + 1 => remN b n k % cnt b (59 - k)
def dgt (b n : Int) (k : Nat) : Int := remN b n k / cnt b (59 - k)
/-- The digits of n, k of them laid. -/
def dList (b n : Int) (k : Nat) : List Int := (List.range 60).map fun j => if j < k then dgt b n j else 0

theorem dList_length (b n : Int) (k : Nat) : (dList b n k).length = 60 := by simp [dList]
theorem dList_get (b n : Int) (k j : Nat) (h : j < 60) : (dList b n k).getD j 0 = if j < k then dgt b n j else 0 := by simp [dList, List.getD, h]
theorem dList_zero (b n : Int) : dList b n 0 = List.replicate 60 0 := by
  rfl
theorem iArr_zero (b n : Int) : iArr (dList b n 0) = (#[.int .i64 0, .int .i64 0, .int .i64 0, .int .i64 0, .int .i64 0, .int .i64 0, .int .i64 0, .int .i64 0, .int .i64 0, .int .i64 0, .int .i64 0, .int .i64 0, .int .i64 0, .int .i64 0, .int .i64 0, .int .i64 0, .int .i64 0, .int .i64 0, .int .i64 0, .int .i64 0, .int .i64 0, .int .i64 0, .int .i64 0, .int .i64 0, .int .i64 0, .int .i64 0, .int .i64 0, .int .i64 0, .int .i64 0, .int .i64 0, .int .i64 0, .int .i64 0, .int .i64 0, .int .i64 0, .int .i64 0, .int .i64 0, .int .i64 0, .int .i64 0, .int .i64 0, .int .i64 0, .int .i64 0, .int .i64 0, .int .i64 0, .int .i64 0, .int .i64 0, .int .i64 0, .int .i64 0, .int .i64 0, .int .i64 0, .int .i64 0, .int .i64 0, .int .i64 0, .int .i64 0, .int .i64 0, .int .i64 0, .int .i64 0, .int .i64 0, .int .i64 0, .int .i64 0, .int .i64 0] : Array Value) := by
  rw [dList_zero]; rfl
theorem dList_set (b n : Int) (k : Nat) (h : k < 60) : (iArr (dList b n k)).setIfInBounds k (.int .i64 (dgt b n k)) = iArr (dList b n (k + 1)) := by
  apply Array.ext_getElem?
  intro j
  rw [Array.getElem?_setIfInBounds]
  by_cases hj : j < 60
  · rw [iArr_get _ _ (by rw [dList_length]; exact hj), iArr_get _ _ (by rw [dList_length]; exact hj), dList_get _ _ _ _ hj, dList_get _ _ _ _ hj]
    by_cases e : k = j
    · subst e
      rw [if_pos rfl, if_pos (by rw [iArr_size, dList_length]; exact hj), if_pos (by omega)]
    · rw [if_neg e]
      by_cases h1 : j < k
      · rw [if_pos h1, if_pos (by omega)]
      · rw [if_neg h1, if_neg (by omega)]
  · rw [if_neg (by omega), Array.getElem?_eq_none (by rw [iArr_size, dList_length]; omega), Array.getElem?_eq_none (by rw [iArr_size, dList_length]; omega)]

theorem remN_bd (b n : Int) (h1 : 1 ≤ b) (h2 : b ≤ 6) (hn : 0 ≤ n) (k : Nat) : 0 ≤ remN b n k ∧ remN b n k ≤ n := by
  induction k with
  | zero => exact ⟨hn, Int.le_refl _⟩
  | succ k ih =>
    have hc := (cnt_bd b h1 h2 (59 - k)).1
    simp only [remN]
    have e1 := Int.emod_nonneg (remN b n k) (b := cnt b (59 - k)) (by omega)
    have e2 : remN b n k % cnt b (59 - k) ≤ remN b n k := by
      have := Int.emod_add_mul_ediv (remN b n k) (cnt b (59 - k))
      have := Int.ediv_nonneg ih.1 (b := cnt b (59 - k)) (by omega)
      have := Int.mul_nonneg (a := cnt b (59 - k)) (b := remN b n k / cnt b (59 - k)) (by omega) this
      omega
    omega

theorem dgt_bd (b n : Int) (h1 : 1 ≤ b) (h2 : b ≤ 6) (hn : 0 ≤ n) (k : Nat) : 0 ≤ dgt b n k ∧ dgt b n k ≤ n := by
  have hc := (cnt_bd b h1 h2 (59 - k)).1
  have hr := remN_bd b n h1 h2 hn k
  unfold dgt
  have e1 := Int.ediv_nonneg hr.1 (b := cnt b (59 - k)) (by omega)
  have e2 := Int.ediv_le_self (cnt b (59 - k)) hr.1
  omega

theorem of_range (b n : Int) (w : World) (h : b < 1 ∨ 6 < b) :
    Calls Tryd.prog 80 #[.int .i64 b, .int .i64 n] w fun e w' => e = .returned (.tuple #[.slice none 0 0, .iface 26 (.int .i64 1)]) ∧ w' = w := by
  go_enter Tryd.func80, Tryd.ntmps80
  go_wp2_with (go_at_call 57; refine (isBase_no _ _ h).mono ?_; rintro e w' ⟨rfl, rfl⟩)
  go_ret2
  exact ⟨by simp, rfl⟩

theorem of_far (b n : Int) (w : World) (h1 : 1 ≤ b) (h2 : b ≤ 6) (h : n < 0 ∨ 1099511627776 < n) :
    Calls Tryd.prog 80 #[.int .i64 b, .int .i64 n] w fun e w' => e = .returned (.tuple #[.slice none 0 0, .iface 26 (.int .i64 1)]) ∧ w' = w := by
  rcases h with h | h
  · go_enter Tryd.func80, Tryd.ntmps80
    go_wp2_with (go_at_call 57; refine (isBase_yes _ _ h1 h2).mono ?_; rintro e w' ⟨rfl, rfl⟩)
    go_ret2
    exact ⟨by simp, rfl⟩
  · have h' : 0 ≤ n := by omega
    go_enter Tryd.func80, Tryd.ntmps80
    go_wp2_with (go_at_call 57; refine (isBase_yes _ _ h1 h2).mono ?_; rintro e w' ⟨rfl, rfl⟩)
    go_ret2
    exact ⟨by simp, rfl⟩

def OfGives (w : World) (l : List Int) (e : Ending) (w' : World) : Prop := ∃ a cap, e = .returned (.tuple #[.slice a l.length cap, .nilIface]) ∧ SlN w.heap.size w' a l.length l ∧ Below w.heap.size w w'


theorem index37 (C : Array Value) (k : Nat) (hk : k < 60) (v : Value) (hv : C[k]? = some v) (W : World) : (Instr.index 155 (.agg C) (.int .i64 k)).run Tryd.prog W = .ok v W := by
  simp [Instr.index, asIntOf, run_underlying Tryd.underlying155, part, Tryd.isAgg3, Tryd.sizeOf3, hv]
  omega

theorem heap_alloc3_fst (w : World) (o o' o'' : Obj) : (((w.alloc o).alloc o').alloc o'').heap[w.heap.size]? = some o := by
  rw [Below.heap_alloc _ _ _ (by simp; omega), heap_alloc2_fst]

theorem heap_setCell_at {w : World} {g k : Nat} {cs : Array Value} {t : TypeId} {v : Value} (h : w.heap[g]? = some (.cells cs t (0, 0))) : (w.setCell ⟨g, k, none⟩ v).heap[g]? = some (.cells (cs.setIfInBounds k v) t (0, 0)) := by
  simp only [World.setCell, Array.getElem?_modify]
  simp [h]

/-- The loop of Of, behind k rounds. -/
def OfAt (b n : Int) (w : World) (k : Nat) (wx : World) : Prop := wx.heap[w.heap.size]? = some (.cells (iArr (dList b n k)) 155 (0, 0)) ∧ Below w.heap.size w wx

set_option maxHeartbeats 1000000 in
set_option maxRecDepth 4000 in
theorem of_ok (b n : Int) (w : World) (h1 : 1 ≤ b) (h2 : b ≤ 6) (hn : 0 ≤ n) (hn' : n ≤ 1099511627776) :
    Calls Tryd.prog 80 #[.int .i64 b, .int .i64 n] w (OfGives w (dropZ (dList b n 60))) := by
  have hd1 : decide (n < 0) = false := by simp; omega
  have hd2 : decide (1099511627776 < n) = false := by simp; omega
  go_enter Tryd.func80, Tryd.ntmps80
  go_wp2_with (first
    | (go_at_call 57; refine (isBase_yes _ _ h1 h2).mono ?_; rintro e w' ⟨rfl, hw⟩; rw [hw]; clear hw w')
    | (go_at_call 90; refine (counts_any _ _ h1 h2).mono ?_; rintro e w' ⟨rfl, rfl⟩))
  rw [← iArr_zero b n]
  have H0 : Hid (OfAt b n w 0 (((w.alloc (Obj.cells (iArr (dList b n 0)) 155)).alloc (Obj.cells (cArr b 60) 155)).alloc (Obj.cells (cArr b 60) 155))) :=
    ⟨heap_alloc3_fst _ _ _ _, (((Below.refl _ _).alloc (Nat.le_refl _) _).alloc (by simp) _).alloc (by simp; omega) _⟩
  generalize ((w.alloc (Obj.cells (iArr (dList b n 0)) 155)).alloc (Obj.cells (cArr b 60) 155)).alloc (Obj.cells (cArr b 60) 155) = W at H0 ⊢
  go_loopw [1, 23] (fun s i wx => ∃ k : Nat, k ≤ 60 ∧ i = .int .i64 k ∧ s = .int .i64 (remN b n k) ∧ OfAt b n w k wx) (fun _ i _ => 60 - (intOf i).toNat)
  case atStart => exact ⟨0, by omega, rfl, rfl, H0.out⟩
  case round =>
    obtain ⟨k, hk, rfl, rfl, ho⟩ := hrel
    have HA := hide ho
    clear ho
    by_cases hlt : k < 60
    · have hlti : (k : Int) < 60 := by omega
      have hcn := cArr_get b 60 k hlt
      rw [if_pos (by omega)] at hcn
      have hix := index37 _ _ hlt _ hcn
      have HD : Hid (dgt b n k = remN b n k / cnt b (59 - k)) := rfl
      have HR : Hid (remN b n (k + 1) = remN b n k % cnt b (59 - k)) := rfl
      have hrb := remN_bd b n h1 h2 hn k
      obtain ⟨hr1, hr2⟩ := hrb
      have hcb := (cnt_bd b h1 h2 (59 - k)).1
      obtain ⟨hc1, hc2⟩ := hcb
      have hcell : wr.cell? ⟨w.heap.size, k, none⟩ = some (.int .i64 0) := by
        rw [cell_of_row _ _ k _ _ _ HA.out.1, iArr_get _ _ (by rw [dList_length]; exact hlt), dList_get _ _ _ _ hlt, if_neg (by omega)]
      have hfz : wr.frozen? ⟨w.heap.size, k, none⟩ = false := by
        simp [World.frozen?, HA.out.1]
      generalize cnt b (59 - k) = c at hcn hix HD HR hc1 hc2
      generalize remN b n k = r at HD HR hr1 hr2 ⊢
      have hc0 : (c == 0) = false := by simp; omega
      clear hcn
      go_wp2
      go_region
      all_goals go_wp2
      all_goals
        go_roundw
        case rel =>
          refine ⟨k + 1, by omega, by go_num, by rw [HR.out], ?_⟩
          have hs : wr.heap[w.heap.size]? = some (.cells (iArr (dList b n k)) 155 (0, 0)) := HA.out.1
          have h3 := heap_setCell_at (k := k) (v := .int .i64 (r / c)) hs
          rw [← HD.out, dList_set b n k hlt, HD.out] at h3
          exact ⟨h3, (HA.out.2.setCell (Nat.le_refl _) _).drew⟩
        case measure => simp [intOf]; omega
    · have hlti : ¬ ((k : Int) < 60) := by omega
      obtain rfl : k = 60 := by omega
      have HI : Hid ((Tryd.prog.info? 155).map (·.size) = some (iArr (dList b n 60)).size) := by rw [iArr_size, dList_length]; exact info37
      have HW : Hid (∀ W, Below w.heap.size w W → Calls Tryd.prog 91 #[.agg (iArr (dList b n 60))] W (GivesRow W (dropZ (dList b n 60)))) := fun W _ =>
        without_any _ (dList_length b n 60) (fun x hx => by
          simp only [dList, List.mem_map, List.mem_range] at hx
          obtain ⟨j, hj, rfl⟩ := hx
          rw [if_pos hj]
          have := dgt_bd b n h1 h2 hn j
          exact Go.WalkArith.wf_i64 (by omega)) W
      go_wp2_with (refine wpList_load_row rfl 155 _ rfl _ rfl _ _ _ _ _ HA.out.1 Tryd.underlying155 HI.out ?_)
      refine (HW.out wr HA.out.2).mono ?_
      rintro e w' ⟨a, cap, rfl, hs, hb⟩
      have HS := hide hs
      clear hs
      go_wp2
      go_ret2
      exact ⟨a, cap, rfl, HS.out.mono HA.out.2.size, HA.out.2.trans (hb.mono HA.out.2.size)⟩
end Go.Proofs.YtgbmemkoggogdaaDoor

/- Plain mathematics: the digits that are written count the number, are right, and are the only such. -/
namespace Go.Proofs.YtgbmemkoggogdaaDoor

theorem getD_eq (l : List Int) (k : Nat) (h : k < l.length) : l.getD k 0 = l[k] := by simp [List.getD, h]

theorem cnt_60 (b : Int) (h1 : 1 ≤ b) (h2 : b ≤ 6) : cnt b 60 = 1099511627777 := by
  have : b = 1 ∨ b = 2 ∨ b = 3 ∨ b = 4 ∨ b = 5 ∨ b = 6 := by omega
  rcases this with rfl | rfl | rfl | rfl | rfl | rfl <;> decide +kernel

theorem ahd_le (b : Int) (h1 : 1 ≤ b) (h2 : b ≤ 6) (k : Nat) : ahd b k ≤ cnt b k := by
  cases k with
  | zero => simp [ahd_zero, cnt_zero]
  | succ k =>
    rw [ahd_succ, cnt_succ]
    obtain ⟨⟨a1, a2⟩, a3, a4⟩ := cnt_bd b h1 h2 k
    have : cnt b k ≤ if b = 1 then cnt b k + ahd b k else cnt b k * b := by
      split
      · omega
      · have := Int.mul_le_mul_of_nonneg_left h1 (show 0 ≤ cnt b k by omega)
        omega
    omega

theorem cnt_mono1 (b : Int) (h1 : 1 ≤ b) (h2 : b ≤ 6) (k : Nat) : cnt b k ≤ cnt b (k + 1) := by
  have := ahd_le b h1 h2 (k + 1)
  rwa [ahd_succ] at this

theorem cnt_mono (b : Int) (h1 : 1 ≤ b) (h2 : b ≤ 6) (j k : Nat) (h : j ≤ k) : cnt b j ≤ cnt b k := by
  induction k with
  | zero => have : j = 0 := by omega
            subst this; exact Int.le_refl _
  | succ k ih =>
    by_cases e : j = k + 1
    · subst e; exact Int.le_refl _
    · exact Int.le_trans (ih (by omega)) (cnt_mono1 b h1 h2 k)

theorem cnt_le_kinds (b : Int) (h1 : 1 ≤ b) (h2 : b ≤ 6) (k : Nat) : cnt b (k + 1) ≤ kindsI b * cnt b k := by
  have ha := ahd_le b h1 h2 k
  rw [cnt_succ]
  by_cases e : b = 1
  · rw [if_pos e]
    have : kindsI b = 2 := by unfold kindsI; rw [if_pos (by omega)]
    rw [this]
    omega
  · rw [if_neg e]
    have : kindsI b = b := by unfold kindsI; split <;> omega
    rw [this, Int.mul_comm b]
    omega

theorem remN_lt (b n : Int) (h1 : 1 ≤ b) (h2 : b ≤ 6) (hn' : n ≤ 1099511627776) (k : Nat) (hk : k ≤ 60) : remN b n k < cnt b (60 - k) := by
  cases k with
  | zero => simp only [remN, Nat.sub_zero, cnt_60 b h1 h2]; omega
  | succ k =>
    have hc := (cnt_bd b h1 h2 (59 - k)).1
    simp only [remN]
    rw [show 60 - (k + 1) = 59 - k by omega]
    exact Int.emod_lt_of_pos _ (by omega)

theorem dgt_lt (b n : Int) (h1 : 1 ≤ b) (h2 : b ≤ 6) (hn' : n ≤ 1099511627776) (k : Nat) (hk : k < 60) : dgt b n k < kindsI b := by
  have hr := remN_lt b n h1 h2 hn' k (by omega)
  have hc := (cnt_bd b h1 h2 (59 - k)).1
  rw [show 60 - k = (59 - k) + 1 by omega] at hr
  have := cnt_le_kinds b h1 h2 (59 - k)
  unfold dgt
  apply Int.ediv_lt_of_lt_mul (by omega)
  omega

theorem dgt_split (b n : Int) (k : Nat) : remN b n k = dgt b n k * cnt b (59 - k) + remN b n (k + 1) := by
  simp only [dgt, remN]
  have := Int.emod_add_mul_ediv (remN b n k) (cnt b (59 - k))
  rw [Int.mul_comm] at this
  omega

theorem dropZ_suffix (l : List Int) : ∃ k, k ≤ l.length ∧ dropZ l = l.drop k ∧ (∀ j, j < k → l.getD j 0 = 0) ∧ (k < l.length → l.getD k 0 ≠ 0) := by
  induction l with
  | nil => exact ⟨0, by simp, rfl, by omega, by simp⟩
  | cons x r ih =>
    obtain ⟨k, h1, h2, h3, h4⟩ := ih
    by_cases h : x = 0
    · refine ⟨k + 1, by simpa using h1, by unfold dropZ at h2 ⊢; simp [h, h2], ?_, fun hh => by simpa using h4 (by simpa using hh)⟩
      intro j hj
      cases j with
      | zero => simpa using h
      | succ j => simpa using h3 j (by omega)
    · exact ⟨0, by simp, by simp [dropZ, h], by omega, fun _ => by simpa using h⟩

theorem digB_drop {b : Int} {l : List Int} (h : digB b l = true) (k : Nat) : digB b (l.drop k) = true := by
  unfold digB at h ⊢
  rw [List.all_eq_true] at h ⊢
  exact fun x hx => h x (List.mem_of_mem_drop hx)

theorem dList_digB (b n : Int) (h1 : 1 ≤ b) (h2 : b ≤ 6) (hn : 0 ≤ n) (hn' : n ≤ 1099511627776) : digB b (dList b n 60) = true := by
  unfold digB
  rw [List.all_eq_true]
  intro x hx
  simp only [dList, List.mem_map, List.mem_range] at hx
  obtain ⟨j, hj, rfl⟩ := hx
  rw [if_pos hj]
  have := (dgt_bd b n h1 h2 hn j).1
  have := dgt_lt b n h1 h2 hn' j hj
  simp [*]

/-- The digits of n. -/
def dgs (b n : Int) : List Int := dropZ (dList b n 60)

theorem dgs_length (b n : Int) : (dgs b n).length ≤ 60 := by
  obtain ⟨k, h1, h2, _⟩ := dropZ_suffix (dList b n 60)
  unfold dgs
  rw [h2, List.length_drop, dList_length]
  omega
theorem dgs_digB (b n : Int) (h1 : 1 ≤ b) (h2 : b ≤ 6) (hn : 0 ≤ n) (hn' : n ≤ 1099511627776) : digB b (dgs b n) = true := by
  obtain ⟨k, _, h, _⟩ := dropZ_suffix (dList b n 60)
  unfold dgs
  rw [h]
  exact digB_drop (dList_digB b n h1 h2 hn hn') k
theorem remN_zeros (b n : Int) (k : Nat) (hk : k ≤ 60) (h : ∀ j, j < k → dgt b n j = 0) : remN b n k = n := by
  induction k with
  | zero => rfl
  | succ k ih =>
    have h' := ih (by omega) (fun j hj => h j (by omega))
    have := dgt_split b n k
    rw [h k (by omega), h'] at this
    omega

end Go.Proofs.YtgbmemkoggogdaaDoor

/- Package digit's contracts, whatever is handed in: one a function. -/
namespace Go.Proofs.YtgbmemkoggogdaaDoor
open Go.RowKit

def errV (c : Int) : Value := if c = 0 then .nilIface else .iface 26 (.int .i64 c)
def codeN (b n : Int) : Int := if (1 ≤ b ∧ b ≤ 6) ∧ 0 ≤ n ∧ n ≤ 1099511627776 then 0 else 1
def numL (b n : Int) : List Int := if (1 ≤ b ∧ b ≤ 6) ∧ 0 ≤ n ∧ n ≤ 1099511627776 then dgs b n else []
def OfU (w : World) (l : List Int) (er : Value) (e : Ending) (w' : World) : Prop := ∃ a cap, e = .returned (.tuple #[.slice a l.length cap, er]) ∧ SlN w.heap.size w' a l.length l ∧ Below w.heap.size w w'
theorem of_u (b n : Int) (w : World) : Calls Tryd.prog 80 #[.int .i64 b, .int .i64 n] w (OfU w (numL b n) (errV (codeN b n))) := by
  unfold numL codeN
  by_cases h : (1 ≤ b ∧ b ≤ 6) ∧ 0 ≤ n ∧ n ≤ 1099511627776
  · rw [if_pos h, if_pos h]
    exact of_ok b n w h.1.1 h.1.2 h.2.1 h.2.2
  · rw [if_neg h, if_neg h]
    have hc : Calls Tryd.prog 80 #[.int .i64 b, .int .i64 n] w fun e w' => e = .returned (.tuple #[.slice none 0 0, .iface 26 (.int .i64 1)]) ∧ w' = w := by
      by_cases hb : 1 ≤ b ∧ b ≤ 6
      · exact of_far b n w hb.1 hb.2 (by omega)
      · exact of_range b n w (by omega)
    refine hc.mono ?_
    rintro e w' ⟨rfl, rfl⟩
    exact ⟨none, 0, rfl, ⟨sl_nil _, fun _ h => by cases h⟩, Below.refl _ _⟩

end Go.Proofs.YtgbmemkoggogdaaDoor

/- Letters, counted: mathematics. -/
namespace Go.Proofs.YtgbmemkoggogdaaDoor
open Go.RowKit

/-- The first code that is none of OK. -/
def firstC : List Int → Int
  | [] => 0
  | c :: r => if c = 0 then firstC r else c
theorem firstC_pre (l : List Int) (k : Nat) (h : ∀ j, j < k → l.getD j 0 = 0) (hk : k < l.length) (hc : l.getD k 0 ≠ 0) : firstC l = l.getD k 0 := by
  induction l generalizing k with
  | nil => simp at hk
  | cons c r ih =>
    cases k with
    | zero => simp at hc; simp [firstC, hc]
    | succ k =>
      have h0 : c = 0 := by simpa using h 0 (by omega)
      simp only [firstC, h0, if_true]
      have := ih k (fun j hj => by simpa using h (j + 1) (by omega)) (by simpa using hk) (by simpa using hc)
      rw [this]; simp
theorem firstC_all (l : List Int) (h : ∀ j, j < l.length → l.getD j 0 = 0) : firstC l = 0 := by
  induction l with
  | nil => rfl
  | cons c r ih =>
    have h0 : c = 0 := by simpa using h 0 (by simp)
    simp only [firstC, h0, if_true]
    exact ih fun j hj => by simpa using h (j + 1) (by simpa using hj)
theorem firstC_get0 (l : List Int) (h : firstC l = 0) : ∀ j, j < l.length → l.getD j 0 = 0 := by
  induction l with
  | nil => intro j hj; simp at hj
  | cons c r ih =>
    intro j hj
    by_cases hc : c = 0
    · simp only [firstC, hc, if_true] at h
      cases j with
      | zero => simpa using hc
      | succ j => simpa using ih h j (by simpa using hj)
    · simp only [firstC, hc, if_false] at h
end Go.Proofs.YtgbmemkoggogdaaDoor

/- Automata: what is wrong with one, where words lead, which states are met: mathematics. -/
namespace Go.Proofs.YtgbmemkoggogdaaDoor
open Go.RowKit

/-- What is wrong with one state's nexts; with all; with an automaton. -/
def rowC (m n : Nat) (r : List Int) : Int := if r.length = m then (if r.all (fun x => decide (0 ≤ x ∧ x < (n : Int))) = true then 0 else 1) else 2
def stepL (N : List (List Int)) (s : Nat) (x : Int) : Nat := ((N.getD s []).getD x.toNat 0).toNat
def runL (N : List (List Int)) (w : List Int) : Nat := w.foldl (stepL N) 0

/-- n states of m nexts each, each a state. -/
def GoodN (m n : Nat) (N : List (List Int)) : Prop := N.length = n ∧ 1 ≤ n ∧ n ≤ 4000000 ∧ m ≤ 36 ∧ 1 ≤ m ∧ ∀ s, s < n → (N.getD s []).length = m ∧ ∀ j, j < m → 0 ≤ (N.getD s []).getD j 0 ∧ (N.getD s []).getD j 0 < (n : Int)

theorem all_getD {l : List Int} {n : Nat} (h : l.all (fun x => decide (0 ≤ x ∧ x < (n : Int))) = true) (j : Nat) (hj : j < l.length) : 0 ≤ l.getD j 0 ∧ l.getD j 0 < (n : Int) := by
  rw [List.all_eq_true] at h
  have := h (l.getD j 0) (by simp [List.getD, hj])
  simpa using this
theorem all_of_getD {l : List Int} {n : Nat} (h : ∀ j, j < l.length → 0 ≤ l.getD j 0 ∧ l.getD j 0 < (n : Int)) : l.all (fun x => decide (0 ≤ x ∧ x < (n : Int))) = true := by
  rw [List.all_eq_true]
  intro x hx
  obtain ⟨j, hj, rfl⟩ := List.getElem_of_mem hx
  have := h j hj
  simpa [List.getD, hj] using this
theorem all_not {l : List Int} {n : Nat} (k : Nat) (hk : k < l.length) (h : ¬ (0 ≤ l.getD k 0 ∧ l.getD k 0 < (n : Int))) : l.all (fun x => decide (0 ≤ x ∧ x < (n : Int))) = false := by
  cases e : l.all (fun x => decide (0 ≤ x ∧ x < (n : Int))) with
  | false => rfl
  | true => exact absurd (all_getD e k hk) h

theorem rowC_long {m n : Nat} {r : List Int} (h : r.length ≠ m) : rowC m n r = 2 := by unfold rowC; rw [if_neg h]
theorem rowC_bad {m n : Nat} {r : List Int} (h : r.length = m) (k : Nat) (hk : k < m) (hx : ¬ (0 ≤ r.getD k 0 ∧ r.getD k 0 < (n : Int))) : rowC m n r = 1 := by
  unfold rowC; rw [if_pos h, if_neg (by rw [all_not k (by omega) hx]; decide)]
theorem rowC_good {m n : Nat} {r : List Int} (h : r.length = m) (hx : ∀ k, k < m → 0 ≤ r.getD k 0 ∧ r.getD k 0 < (n : Int)) : rowC m n r = 0 := by
  unfold rowC; rw [if_pos h, if_pos (all_of_getD (by rw [h]; exact hx))]
theorem rowC_zero {m n : Nat} {r : List Int} (h : rowC m n r = 0) : r.length = m ∧ ∀ k, k < m → 0 ≤ r.getD k 0 ∧ r.getD k 0 < (n : Int) := by
  unfold rowC at h
  split at h
  · split at h
    · refine ⟨by assumption, fun k hk => all_getD (by assumption) k (by omega)⟩
    · cases h
  · cases h
theorem goodN_step {m n : Nat} {N : List (List Int)} (h : GoodN m n N) (s : Nat) (hs : s < n) (x : Int) (hx : 0 ≤ x ∧ x < (m : Int)) : stepL N s x < n ∧ ((stepL N s x : Nat) : Int) = (N.getD s []).getD x.toNat 0 := by
  have := (h.2.2.2.2.2 s hs).2 x.toNat (by omega)
  unfold stepL
  omega
theorem runL_take_succ (N : List (List Int)) (w : List Int) (k : Nat) (hk : k < w.length) : runL N (w.take (k + 1)) = stepL N (runL N (w.take k)) (w.getD k 0) := by
  unfold runL
  rw [List.take_succ_eq_append_getElem hk, List.foldl_append]
  simp [List.getD, hk]
theorem runL_lt {m n : Nat} {N : List (List Int)} (h : GoodN m n N) (w : List Int) (k : Nat) (hk : k ≤ w.length) (hw : ∀ j, j < k → 0 ≤ w.getD j 0 ∧ w.getD j 0 < (m : Int)) : runL N (w.take k) < n := by
  induction k with
  | zero => simp [runL]; have := h.2.1; omega
  | succ k ih =>
    rw [runL_take_succ N w k (by omega)]
    exact (goodN_step h _ (ih (by omega) (fun j hj => hw j (by omega))) _ (hw k (by omega))).1
theorem getD_at (l : List Int) (j : Nat) (hj : j < l.length) : l.getD j 0 = l[j] := by simp [List.getD, hj]
end Go.Proofs.YtgbmemkoggogdaaDoor

/- Plain mathematics: the places' counts as the document has them (not cut off), held against those of the program. -/
namespace Go.Proofs.YtgbmemkoggogdaaDoor

def wtP (b : Int) : Nat → Int × Int
  | 0 => (1, 1)
  | k + 1 => (if b = 1 then (wtP b k).1 + (wtP b k).2 else (wtP b k).1 * b, (wtP b k).1)
def wt (b : Int) (k : Nat) : Int := (wtP b k).1
def wta (b : Int) (k : Nat) : Int := (wtP b k).2
theorem wt_zero (b : Int) : wt b 0 = 1 := rfl
theorem wta_zero (b : Int) : wta b 0 = 1 := rfl
theorem wta_succ (b : Int) (k : Nat) : wta b (k + 1) = wt b k := rfl
theorem wt_succ (b : Int) (k : Nat) : wt b (k + 1) = if b = 1 then wt b k + wta b k else wt b k * b := rfl
def wtL (b : Int) (n : Nat) : List Int := (List.range n).map (wt b)
theorem wtL_length (b : Int) (n : Nat) : (wtL b n).length = n := by simp [wtL]
theorem wtL_get (b : Int) (n i : Nat) (h : i < n) : (wtL b n).getD i 0 = wt b i := by simp [wtL, List.getD, h]
theorem wtL_succ (b : Int) (n : Nat) : wtL b (n + 1) = wtL b n ++ [wt b n] := by simp [wtL, List.range_succ]

/-- As many places as count at most MaxNum, and one more. -/
def Wts (b : Int) (n : Nat) : Prop := 1 ≤ n ∧ n ≤ 60 ∧ (∀ i, i + 1 < n → wt b i ≤ 1099511627776) ∧ 1099511627776 < wt b (n - 1)

theorem wt_59 (b : Int) (h1 : 1 ≤ b) (h2 : b ≤ 6) (hb : 2 ≤ b ∨ b = 1) : 1099511627776 < wt b 59 := by
  have : b = 1 ∨ b = 2 ∨ b = 3 ∨ b = 4 ∨ b = 5 ∨ b = 6 := by omega
  rcases this with rfl | rfl | rfl | rfl | rfl | rfl <;> decide +kernel

theorem wt_pos (b : Int) (h1 : 1 ≤ b) (k : Nat) : 1 ≤ wt b k ∧ 1 ≤ wta b k := by
  induction k with
  | zero => simp [wt_zero, wta_zero]
  | succ k ih =>
    rw [wta_succ, wt_succ]
    refine ⟨?_, ih.1⟩
    split
    · omega
    · have := Int.mul_le_mul ih.1 h1 (by omega) (by omega)
      omega

/-- As long as no place counts more than MaxNum the counts are those of the program. -/
theorem cnt_wt (b : Int) (m : Nat) (h : ∀ i, i < m → wt b i ≤ 1099511627776) : cnt b m = min (wt b m) 1099511627777 ∧ ahd b m = wta b m := by
  induction m with
  | zero => exact ⟨by rw [cnt_zero, wt_zero]; omega, rfl⟩
  | succ m ih =>
    obtain ⟨e1, e2⟩ := ih (fun i hi => h i (by omega))
    have hm := h m (by omega)
    have e3 : cnt b m = wt b m := by omega
    rw [cnt_succ, wt_succ, ahd_succ, wta_succ, e3, e2]
    exact ⟨rfl, rfl⟩

theorem cnt_eq_wt {b : Int} {n : Nat} (hw : Wts b n) (i : Nat) (hi : i + 1 < n) : cnt b i = wt b i := by
  have := (cnt_wt b i (fun j hj => hw.2.2.1 j (by omega))).1
  have := hw.2.2.1 i hi
  omega
theorem cnt_top {b : Int} {n : Nat} (h1 : 1 ≤ b) (h2 : b ≤ 6) (hw : Wts b n) (i : Nat) (hi : n ≤ i + 1) : cnt b i = 1099511627777 := by
  have e := (cnt_wt b (n - 1) (fun j hj => hw.2.2.1 j (by omega))).1
  have hl := hw.2.2.2
  have hm := cnt_mono b h1 h2 (n - 1) i (by omega)
  have hb := (cnt_bd b h1 h2 i).1
  omega

/-- The next digit, and what is left, are the same. -/
theorem wt_step {b : Int} {n : Nat} (h1 : 1 ≤ b) (h2 : b ≤ 6) (hw : Wts b n) (i : Nat) (hi : i < n) (r : Int) (hr : 0 ≤ r) (hr' : r ≤ 1099511627776) : r / wt b i = r / cnt b i ∧ r - r / wt b i * wt b i = r % cnt b i := by
  by_cases e : i + 1 < n
  · rw [cnt_eq_wt hw i e]
    have := Int.emod_add_mul_ediv r (wt b i)
    rw [Int.mul_comm] at this
    exact ⟨rfl, by omega⟩
  · have hl := hw.2.2.2
    rw [cnt_top h1 h2 hw i (by omega)]
    have e' : i = n - 1 := by omega
    subst e'
    rw [Int.ediv_eq_zero_of_lt hr (by omega), Int.ediv_eq_zero_of_lt hr (by omega), Int.emod_eq_of_lt hr (by omega)]
    omega

theorem dropZ_snoc (p : List Int) (d : Int) : dropZ (p ++ [d]) = if dropZ p = [] then (if d = 0 then [] else [d]) else dropZ p ++ [d] := by
  induction p with
  | nil =>
    by_cases h : d = 0
    · simp [dropZ, h]
    · simp [dropZ, h]
  | cons x r ih =>
    by_cases h : x = 0
    · have e1 : dropZ (x :: r) = dropZ r := by simp [dropZ, h]
      have e2 : dropZ (x :: r ++ [d]) = dropZ (r ++ [d]) := by simp [dropZ, h]
      rw [e1, e2, ih]
    · simp [dropZ, h]

/-- The digits that are written behind k places. -/
def pre (b n : Int) (k : Nat) : List Int := dropZ ((dList b n 60).take k)
theorem pre_all (b n : Int) : pre b n 60 = dgs b n := by unfold pre dgs; rw [List.take_of_length_le (by rw [dList_length]; omega)]
theorem pre_succ (b n : Int) (k : Nat) (hk : k < 60) : pre b n (k + 1) = if pre b n k = [] then (if dgt b n k = 0 then [] else [dgt b n k]) else pre b n k ++ [dgt b n k] := by
  unfold pre
  have hl : k < (dList b n 60).length := by rw [dList_length]; exact hk
  rw [List.take_succ_eq_append_getElem hl, dropZ_snoc, ← getD_eq _ _ hl, dList_get _ _ _ _ hk, if_pos hk]
theorem pre_length (b n : Int) (k : Nat) : (pre b n k).length ≤ k := by
  obtain ⟨j, _, h, _⟩ := dropZ_suffix ((dList b n 60).take k)
  unfold pre
  rw [h, List.length_drop, List.length_take]
  omega
theorem pre_zeros (b n : Int) (k : Nat) (hk : k ≤ 60) (h : ∀ j, j < k → dgt b n j = 0) : pre b n k = [] := by
  induction k with
  | zero => simp [pre, dropZ]
  | succ k ih =>
    rw [pre_succ b n k (by omega), ih (by omega) (fun j hj => h j (by omega)), if_pos rfl, if_pos (h k (by omega))]
theorem dgt_top {b n : Int} {m : Nat} (h1 : 1 ≤ b) (h2 : b ≤ 6) (hw : Wts b m) (hn : 0 ≤ n) (hn' : n ≤ 1099511627776) : ∀ j, j < 60 - m → dgt b n j = 0 := by
  intro j hj
  have hr := remN_bd b n h1 h2 hn j
  unfold dgt
  rw [cnt_top h1 h2 hw (59 - j) (by omega)]
  exact Int.ediv_eq_zero_of_lt hr.1 (by omega)
theorem pre_start {b n : Int} {m : Nat} (h1 : 1 ≤ b) (h2 : b ≤ 6) (hw : Wts b m) (hn : 0 ≤ n) (hn' : n ≤ 1099511627776) : pre b n (60 - m) = [] ∧ remN b n (60 - m) = n :=
  ⟨pre_zeros b n _ (by omega) (dgt_top h1 h2 hw hn hn'), remN_zeros b n _ (by omega) (dgt_top h1 h2 hw hn hn')⟩

end Go.Proofs.YtgbmemkoggogdaaDoor

/- The contract of the document's Weights. -/
namespace Go.Proofs.YtgbmemkoggogdaaDoor
open Go.RowKit

/-- The row of k + 1 places in the loop of Weights. -/
def WtAt (b : Int) (w : World) (k : Nat) (v : Value) (wr : World) : Prop :=
  (∀ i, i + 1 < k + 1 → wt b i ≤ 1099511627776) ∧ wr.ownsRow w.heap.size 3 1 v (k + 1) ((wtL b (k + 1)).map (Value.int .i64)) ∧ Below w.heap.size w wr

def WGives (b : Int) (w : World) (e : Ending) (w' : World) : Prop := ∃ n, Wts b n ∧ GivesRow w (wtL b n) e w'

theorem wtAt_step {b : Int} {w wr w3 : World} {k g cap : Nat} {v' : Value} {o : Obj} (hat : WtAt b w k (.slice (some ⟨g, 0, none⟩) (k + 1) cap) wr) (hle : wt b k ≤ 1099511627776) (hg : w.heap.size ≤ g) (hb : Below w.heap.size w wr)
    (hown : w3.ownsRow w.heap.size 3 1 v' (k + 1 + 1) ((wtL b (k + 1)).map (Value.int .i64) ++ [.int .i64 (wt b (k + 1))])) (hgrow : (wr.alloc o).grownBy w3 (some g)) : WtAt b w (k + 1) v' w3 := by
  refine ⟨fun i hi => ?_, by rw [wtL_succ, List.map_append]; exact hown, ?_⟩
  · by_cases e : i = k
    · subst e; exact hle
    · exact hat.1 i (by omega)
  · exact Below.grown (hb.alloc hb.size o) hgrow (by have := hb.size; simp; omega) (fun j h => by cases h; exact hg)

theorem wtAt_end {b : Int} {w wr : World} {k : Nat} {v : Value} (h1 : 1 ≤ b) (h2 : b ≤ 6) (hk : k ≤ 59) (hat : WtAt b w k v wr) (hgt : 1099511627776 < wt b k) : WGives b w (.returned v) wr := by
  refine ⟨k + 1, ⟨by omega, by omega, hat.1, hgt⟩, ?_⟩
  have hwf : ∀ x ∈ wtL b (k + 1), (Lit.int .i64 x).wf = true := fun x hx => by
    simp only [wtL, List.mem_map, List.mem_range] at hx
    obtain ⟨j, hj, rfl⟩ := hx
    have hp := wt_pos b h1 j
    have hu : wt b j ≤ 1099511627776 * 6 := by
      by_cases e : j = 0
      · subst e; rw [wt_zero]; omega
      · obtain ⟨i, rfl⟩ : ∃ i, j = i + 1 := ⟨j - 1, by omega⟩
        have hi := hat.1 i (by omega)
        have hpi := wt_pos b h1 i
        have hai : wta b i ≤ 1099511627776 := by
          cases i with
          | zero => rw [wta_zero]; omega
          | succ i => rw [wta_succ]; exact hat.1 i (by omega)
        rw [wt_succ]
        split
        · omega
        · have := Int.mul_le_mul hi h2 (by omega) (by omega)
          omega
    exact Go.WalkArith.wf_i64 (by omega)
  obtain ⟨a, cap, rfl, hs⟩ := sl_of_owns (wtL_length b (k + 1)) (by unfold maxLen; omega) hwf hat.2.1
  exact ⟨a, cap, by rw [wtL_length], by rw [wtL_length]; exact hs, hat.2.2⟩

set_option maxHeartbeats 1000000 in
set_option maxRecDepth 4000 in
theorem weights_any (b : Int) (w : World) (h1 : 1 ≤ b) (h2 : b ≤ 6) :
    Calls Tryd.prog 87 #[.int .i64 b] w (WGives b w) := by
  obtain ⟨i0, hi, hz0, hz1, hz2⟩ := info_parts info3
  have H59 := hide (wt_59 b h1 h2 (by omega))
  go_enter Tryd.func87, Tryd.ntmps87
  go_wp2
  go_loopg [3] 59 (fun g v wr => ∃ k : Nat, k + g = 59 ∧ WtAt b w k v wr)
  case atStart =>
    refine ⟨0, by omega, by omega, ⟨rfl, Or.inr ⟨w.heap.size, 1, #[.int .i64 1], rfl, Nat.le_refl _, heap_alloc_last w _, by omega, by decide, rfl, rfl⟩⟩, (Below.refl _ _).alloc (Nat.le_refl _) _⟩
  case round =>
    obtain ⟨k, hkg, hat⟩ := hrel
    obtain ⟨g, cap, rfl, hgw, hcs⟩ := owns_at (wtL_length b (k + 1)) hat.2.1
    have hck := hcs k (by omega)
    rw [wtL_get _ _ _ (by omega)] at hck
    have HA := hide hat
    clear hat
    by_cases hle : wt b k ≤ 1099511627776
    · have hp := wt_pos b h1 k
      obtain ⟨hp1, hp2⟩ := hp
      have HK : Hid (k ≠ 59) := fun e => by subst e; have := H59.out; omega
      have HS := hide (fun v' w3 o wr' => @wtAt_step b w wr' w3 k g cap v' o)
      cases gk with
      | zero => exact absurd (show k = 59 by omega) HK.out
      | succ gg =>
        have hk59 : k < 59 := by omega
        by_cases hb : b = 1
        · have hb' : (b == 1) = true := by simp [hb]
          have HL := hide hle
          cases k with
          | zero =>
            have HW : Hid (wt b (0 + 1) = 2) := by show _ = _; rw [wt_succ, if_pos hb, wt_zero, wta_zero]; rfl
            clear hb hcs
            rw [wt_zero] at hck hp1 hle
            go_wp2_with (at_builtin; refine wpList_append_own _ rfl _ _ 23 rfl w.heap.size 3 i0 (.int .i64 0) 1 8 Tryd.underlying23 hi hz0 hz1 hz2 rfl (by decide) _ _ _ rfl (HA.out.2.1.alloc _) ⟨wr.heap.size, 0, none⟩ 1 1 [.int .i64 2] rfl rfl (one_new _ _ _) (fun u hu => by simp at hu; subst hu; rfl) (by unfold maxLen; omega) (by omega) (by have := HA.out.2.2.size; simp; omega) ?_; intro v' w3 hown hgrow hnil)
            go_roundg gg
            case measure => omega
            case rel =>
              rw [← HW.out] at hown
              exact ⟨0 + 1, by omega, wtAt_step HA.out HL.out hgw HA.out.2.2 hown hgrow⟩
          | succ j =>
            have HW : Hid (wt b (j + 1 + 1) = wt b (j + 1) + wt b j) := by show _ = _; rw [wt_succ b (j + 1), if_pos hb, wta_succ]
            have hcj := hcs j (by omega)
            rw [wtL_get _ _ _ (by omega)] at hcj
            have hj1 := (wt_pos b h1 j).1
            have hj2 := HA.out.1 j (by omega)
            have hjb : (1 : Int) < (j : Int) + 1 + 1 := by omega
            clear hb hcs
            generalize hx : wt b (j + 1) = x at hck hp1 hle HW HL
            have HX := hide hx
            clear hx
            generalize wt b j = y at hcj hj1 hj2 HW
            have hjj : (j : Int) + 1 + 1 - 2 = (j : Int) := by omega
            go_wp2
            go_quiet (fail)
            go_wp2_with (at_builtin; refine wpList_append_own _ rfl _ _ 23 rfl w.heap.size 3 i0 (.int .i64 0) 1 8 Tryd.underlying23 hi hz0 hz1 hz2 rfl (by decide) _ _ _ rfl (World.ownsRow.alloc (w := wr.drewN nq) HA.out.2.1 _) ⟨wr.heap.size, 0, none⟩ 1 1 [.int .i64 (x + y)] rfl rfl (one_new _ _ _) (fun u hu => by simp at hu; subst hu; rfl) (by unfold maxLen; omega) (by omega) (by have := HA.out.2.2.size; simp; omega) ?_; intro v' w3 hown hgrow hnil)
            go_roundg gg
            case measure => omega
            case rel =>
              rw [← HW.out] at hown
              exact ⟨j + 1 + 1, by omega, wtAt_step (wr := wr.drewN nq) ⟨HA.out.1, HA.out.2.1, below_drewN HA.out.2.2 nq⟩ (by rw [HX.out]; exact HL.out) hgw (below_drewN HA.out.2.2 nq) hown hgrow⟩
        · have hb' : (b == 1) = false := by simp [hb]
          have HW : Hid (wt b (k + 1) = wt b k * b) := by show _ = _; rw [wt_succ, if_neg hb]
          have hm1 : 1 ≤ wt b k * b := by have := Int.mul_le_mul hp1 h1 (by omega) (by omega); omega
          have hm2 : wt b k * b ≤ 1099511627776 * 6 := Int.mul_le_mul hle h2 (by omega) (by omega)
          have HL := hide hle
          clear hb hcs
          generalize hx : wt b k = x at hck hp1 hle hm1 hm2 HW
          have HX := hide hx
          clear hx
          go_wp2_with (at_builtin; refine wpList_append_own _ rfl _ _ 23 rfl w.heap.size 3 i0 (.int .i64 0) 1 8 Tryd.underlying23 hi hz0 hz1 hz2 rfl (by decide) _ _ _ rfl (HA.out.2.1.alloc _) ⟨wr.heap.size, 0, none⟩ 1 1 [.int .i64 (x * b)] rfl rfl (one_new _ _ _) (fun u hu => by simp at hu; subst hu; rfl) (by unfold maxLen; omega) (by omega) (by have := HA.out.2.2.size; simp; omega) ?_; intro v' w3 hown hgrow hnil)
          go_roundg gg
          case measure => omega
          case rel =>
            rw [← HW.out] at hown
            exact ⟨k + 1, by omega, wtAt_step HA.out HL.out hgw HA.out.2.2 hown hgrow⟩
    · have hgt : 1099511627776 < wt b k := by omega
      have HE := hide (wtAt_end h1 h2 (by omega) HA.out hgt)
      clear hle hcs
      generalize wt b k = x at hck hgt
      go_wp2
      go_ret
      exact HE.out
end Go.Proofs.YtgbmemkoggogdaaDoor

/- The contract of the document's DigitsOf. -/
namespace Go.Proofs.YtgbmemkoggogdaaDoor
open Go.RowKit

theorem digitsOf_range (b n : Int) (w : World) (h : b < 1 ∨ 6 < b) :
    Calls Tryd.prog 71 #[.int .i64 b, .int .i64 n] w fun e w' => e = .returned (.tuple #[.slice none 0 0, .int .i64 1]) ∧ w' = w := by
  go_enter Tryd.func71, Tryd.ntmps71
  go_wp2_with (go_at_call 12; refine (radix_no _ _ h).mono ?_; rintro e w' ⟨rfl, rfl⟩)
  go_ret2
  exact ⟨by simp, rfl⟩

theorem digitsOf_far (b n : Int) (w : World) (h1 : 1 ≤ b) (h2 : b ≤ 6) (h : n < 0 ∨ 1099511627776 < n) :
    Calls Tryd.prog 71 #[.int .i64 b, .int .i64 n] w fun e w' => e = .returned (.tuple #[.slice none 0 0, .int .i64 1]) ∧ w' = w := by
  have hk0 : (kindsI b == 0) = false := by have := kinds_bd b h2; simp; omega
  rcases h with h | h
  · go_enter Tryd.func71, Tryd.ntmps71
    go_wp2_with (go_at_call 12; refine (radix_yes _ _ h1 h2).mono ?_; rintro e w' ⟨rfl, rfl⟩)
    go_ret2
    exact ⟨by simp, rfl⟩
  · have h' : 0 ≤ n := by omega
    go_enter Tryd.func71, Tryd.ntmps71
    go_wp2_with (go_at_call 12; refine (radix_yes _ _ h1 h2).mono ?_; rintro e w' ⟨rfl, rfl⟩)
    go_ret2
    exact ⟨by simp, rfl⟩

/-- A slice with the numbers l, and no fault. -/
def RefGives (w : World) (l : List Int) (e : Ending) (w' : World) : Prop := ∃ a cap, e = .returned (.tuple #[.slice a l.length cap, .int .i64 0]) ∧ SlN w.heap.size w' a l.length l ∧ Below w.heap.size w w'

/-- The loop of DigitsOf: the row that grows. -/
def Grows (w1 : World) (l : List Int) (v : Value) (wr : World) : Prop := (∃ ao cv, v = .slice ao l.length cv) ∧ wr.ownsRow w1.heap.size 3 1 v l.length (l.map (Value.int .i64)) ∧ Below w1.heap.size w1 wr

theorem grows_nil (w1 : World) : Grows w1 [] (.slice none 0 0) w1 := ⟨⟨none, 0, rfl⟩, World.ownsRow_nil _ _ _ _, Below.refl _ _⟩
theorem grows_snoc {w1 wr w3 : World} {l : List Int} {v v' : Value} {x : Int} {o : Obj} (h : Grows w1 l v wr) (hown : w3.ownsRow w1.heap.size 3 1 v' (l.length + 1) (l.map (Value.int .i64) ++ [.int .i64 x])) (hgrow : (wr.alloc o).grownBy w3 v.ownBlock) : Grows w1 (l ++ [x]) v' w3 := by
  have hl : (l ++ [x]).length = l.length + 1 := by simp
  refine ⟨?_, ?_, ?_⟩
  · rw [hl]
    rcases hown.2 with ⟨rfl, h0⟩ | ⟨g, cap, cur, rfl, _⟩
    · omega
    · exact ⟨_, _, rfl⟩
  · rw [hl, List.map_append]; exact hown
  · refine Below.grown (h.2.2.alloc h.2.2.size o) hgrow (by have := h.2.2.size; simp; omega) (fun k hk => ?_)
    rcases h.2.1.2 with ⟨rfl, h0⟩ | ⟨g, cap, cur, rfl, hg, _⟩
    · cases hk
    · cases hk; exact hg

theorem pre_wf {b n : Int} (h1 : 1 ≤ b) (h2 : b ≤ 6) (hn : 0 ≤ n) (hn' : n ≤ 1099511627776) : ∀ x ∈ dgs b n, (Lit.int .i64 x).wf = true := by
  intro x hx
  obtain ⟨k, _, h, _⟩ := dropZ_suffix (dList b n 60)
  unfold dgs at hx
  rw [h] at hx
  have hx := List.mem_of_mem_drop hx
  simp only [dList, List.mem_map, List.mem_range] at hx
  obtain ⟨j, hj, rfl⟩ := hx
  rw [if_pos hj]
  have := dgt_bd b n h1 h2 hn j
  exact Go.WalkArith.wf_i64 (by omega)

theorem grows_end {w w1 wr : World} {b n : Int} {v : Value} (h1 : 1 ≤ b) (h2 : b ≤ 6) (hn : 0 ≤ n) (hn' : n ≤ 1099511627776) (hb : Below w.heap.size w w1) (h : Grows w1 (dgs b n) v wr) : RefGives w (dgs b n) (.returned (.tuple #[v, .int .i64 0])) wr := by
  obtain ⟨a, cap, rfl, hs⟩ := sl_of_owns rfl (by have := dgs_length b n; unfold maxLen; omega) (pre_wf h1 h2 hn hn') h.2.1
  exact ⟨a, cap, rfl, hs.mono hb.size, below_step hb h.2.2⟩

set_option maxHeartbeats 1000000 in
set_option maxRecDepth 4000 in
theorem digitsOf_ok (b n : Int) (w : World) (h1 : 1 ≤ b) (h2 : b ≤ 6) (hn : 0 ≤ n) (hn' : n ≤ 1099511627776) :
    Calls Tryd.prog 71 #[.int .i64 b, .int .i64 n] w (RefGives w (dgs b n)) := by
  have hk0 : (kindsI b == 0) = false := by have := kinds_bd b h2; simp; omega
  have hd1 : decide (n < 0) = false := by simp; omega
  have hd2 : decide (1099511627776 < n) = false := by simp; omega
  obtain ⟨i0, hi, hz0, hz1, hz2⟩ := info_parts info3
  go_enter Tryd.func71, Tryd.ntmps71
  go_wp2_with (go_at_call 12; refine (radix_yes _ _ h1 h2).mono ?_; rintro e w' ⟨rfl, hw⟩; rw [hw]; clear hw w')
  refine (weights_any b w h1 h2).mono ?_
  rintro e w1 ⟨m, hwts, a1, cap1, rfl, hs1, hb1⟩
  rw [wtL_length] at hs1 ⊢
  have HW := hide hwts
  have HS1 := hide hs1.1
  have HB1 := hide hb1
  have hm60 : m ≤ 60 := hwts.2.1
  have hps := pre_start h1 h2 hwts hn hn'
  have HP := hide hps
  clear hwts hs1 hb1 hps
  go_wp2
  go_loopg [1, 7, 8] m (fun g s1 s7 s8 wr => g ≤ m ∧ s1 = .int .i64 (remN b n (60 - g)) ∧ s8 = .int .i64 ((g : Int) - 1) ∧ Grows w1 (pre b n (60 - g)) s7 wr)
  case atStart =>
    refine ⟨Nat.le_refl _, by rw [HP.out.2], rfl, ?_⟩
    rw [HP.out.1]
    exact grows_nil w1
  case round =>
    obtain ⟨hgm, rfl, rfl, hgr⟩ := hrel
    have HG := hide hgr
    clear hgr
    cases gk with
    | zero =>
      have HE : Hid (Grows w1 (dgs b n) u7 wr) := by
        have := HG.out
        rw [Nat.sub_zero, pre_all] at this
        exact this
      have HE' := hide (grows_end h1 h2 hn hn' HB1.out HE.out)
      clear HE HG
      go_wp2
      go_ret2
      exact HE'.out
    | succ i =>
      have hsub : 60 - (i + 1) = 59 - i := by omega
      rw [hsub] at HG ⊢
      obtain ⟨bb, o, rfl, hci⟩ := sl_cell (sl_below HS1.out HG.out.2.2) i (by omega)
      rw [wtL_get _ _ _ (by omega)] at hci
      obtain ⟨hr1, hr2⟩ := remN_bd b n h1 h2 hn (59 - i)
      have hst := wt_step h1 h2 HW.out i (by omega) (remN b n (59 - i)) hr1 (by omega)
      have hwp := (wt_pos b h1 i).1
      have HQ : Hid (remN b n (59 - i) / wt b i = dgt b n (59 - i)) := by
        show _ = _
        rw [hst.1]
        unfold dgt
        rw [show 59 - (59 - i) = i by omega]
      have HR : Hid (remN b n (59 - i) - remN b n (59 - i) / wt b i * wt b i = remN b n (59 - i + 1)) := by
        show _ = _
        rw [hst.2]
        simp only [remN]
        rw [show 59 - (59 - i) = i by omega]
      have HPS := hide (pre_succ b n (59 - i) (by omega))
      rw [show 59 - i + 1 = 60 - i by omega] at HR HPS
      have hq1 := Int.ediv_nonneg hr1 (b := wt b i) (by omega)
      have hq2 := Int.mul_nonneg hq1 (show 0 ≤ wt b i by omega)
      have hq3 : remN b n (59 - i) / wt b i * wt b i ≤ remN b n (59 - i) := Int.ediv_mul_le _ (by omega)
      have hx0 : (wt b i == 0) = false := by simp; omega
      have hq4 : remN b n (59 - i) / wt b i ≤ remN b n (59 - i) := Int.ediv_le_self _ hr1
      clear hst
      obtain ⟨ao, cv, rfl⟩ := HG.out.1
      have hpl := pre_length b n (59 - i)
      have hib : (i : Int) < (m : Int) := by omega
      have hcase : (dgt b n (59 - i) = 0 ∧ (pre b n (59 - i)).length = 0 ∧ pre b n (60 - i) = pre b n (59 - i)) ∨ (0 < dgt b n (59 - i) ∧ pre b n (60 - i) = pre b n (59 - i) ++ [dgt b n (59 - i)]) ∨ (dgt b n (59 - i) = 0 ∧ 0 < (pre b n (59 - i)).length ∧ pre b n (60 - i) = pre b n (59 - i) ++ [dgt b n (59 - i)]) := by
        have h3 := HPS.out
        have h4 := (dgt_bd b n h1 h2 hn (59 - i)).1
        by_cases e : pre b n (59 - i) = []
        · rw [if_pos e] at h3
          by_cases f : dgt b n (59 - i) = 0
          · rw [if_pos f] at h3
            exact Or.inl ⟨f, by rw [e]; rfl, by rw [h3, e]⟩
          · rw [if_neg f] at h3
            exact Or.inr (Or.inl ⟨by omega, by rw [h3, e]; rfl⟩)
        · rw [if_neg e] at h3
          have hl : 0 < (pre b n (59 - i)).length := by
            cases h : pre b n (59 - i) with
            | nil => exact absurd h e
            | cons _ _ => simp
          by_cases f : dgt b n (59 - i) = 0
          · exact Or.inr (Or.inr ⟨f, hl, h3⟩)
          · exact Or.inr (Or.inl ⟨by omega, h3⟩)
      have HNX : Hid (∀ l, pre b n (60 - i) = l → ∀ v W, Grows w1 l v W → Grows w1 (pre b n (60 - i)) v W) := fun l e v W h => by rw [e]; exact h
      clear HPS HP
      generalize pre b n (59 - i) = p at HG hpl hcase ⊢
      generalize dgt b n (59 - i) = q at HQ hcase
      generalize wt b i = x at hci hwp HQ HR hq1 hq2 hq3 hx0 hq4
      generalize remN b n (59 - i) = r at HQ HR hr1 hr2 hq1 hq2 hq3 hq4 ⊢
      have hq := HQ.out
      rw [hq] at HR hq1 hq2 hq3 hq4
      clear HQ
      rcases hcase with ⟨hqz, hlz, hpe⟩ | ⟨hqz, hpe⟩ | ⟨hqz, hlz, hpe⟩
      · have HPE := hide hpe
        have hlz' : ¬ ((0 : Int) < (p.length : Int)) := by omega
        have hqz' : ¬ (0 < q) := by omega
        clear hpe hqz hlz
        go_wp2
        go_roundg i
        case measure => omega
        case rel => exact ⟨by omega, by rw [HR.out], by go_num, HNX.out _ HPE.out _ _ HG.out⟩
      · have HPE := hide hpe
        clear hpe
        go_wp2_with (at_builtin; refine wpList_append_own _ rfl _ _ 23 rfl w1.heap.size 3 i0 (.int .i64 0) 1 8 Tryd.underlying23 hi hz0 hz1 hz2 rfl (by decide) _ _ _ rfl (HG.out.2.1.alloc _) ⟨wr.heap.size, 0, none⟩ 1 1 [.int .i64 q] rfl rfl (one_new _ _ _) (fun u hu => by simp at hu; subst hu; rfl) (by unfold maxLen; omega) (by omega) (by have := HG.out.2.2.size; simp; omega) ?_; intro v' w3 hown hgrow hnil)
        go_roundg i
        case measure => omega
        case rel => exact ⟨by omega, by rw [HR.out], by go_num, HNX.out _ HPE.out _ _ (grows_snoc HG.out hown hgrow)⟩
      · have HPE := hide hpe
        have hlz' : (0 : Int) < (p.length : Int) := by omega
        have hqz' : ¬ (0 < q) := by omega
        clear hpe hqz
        go_wp2_with (at_builtin; refine wpList_append_own _ rfl _ _ 23 rfl w1.heap.size 3 i0 (.int .i64 0) 1 8 Tryd.underlying23 hi hz0 hz1 hz2 rfl (by decide) _ _ _ rfl (HG.out.2.1.alloc _) ⟨wr.heap.size, 0, none⟩ 1 1 [.int .i64 q] rfl rfl (one_new _ _ _) (fun u hu => by simp at hu; subst hu; rfl) (by unfold maxLen; omega) (by omega) (by have := HG.out.2.2.size; simp; omega) ?_; intro v' w3 hown hgrow hnil)
        go_roundg i
        case measure => omega
        case rel => exact ⟨by omega, by rw [HR.out], by go_num, HNX.out _ HPE.out _ _ (grows_snoc HG.out hown hgrow)⟩
end Go.Proofs.YtgbmemkoggogdaaDoor
