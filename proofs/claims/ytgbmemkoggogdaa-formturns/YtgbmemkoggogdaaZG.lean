/- 6 texts in one. -/
import Derived.RegionTactic
import Derived.Test.YtgbmemkoggogdaaZF
import Derived.Test.YtgbmemkoggogdaaZC
/- The contract of digit.Of. -/
namespace Go.Proofs.Ytgbmemkoggogdaa
open Go.RowKit

/-- What is left of n behind k places. -/
def remN (b n : Int) : Nat → Int
  | 0 => n
  | k + 1 => remN b n k % cnt b (59 - k)
def dgt (b n : Int) (k : Nat) : Int := remN b n k / cnt b (59 - k)
/-- The digits of n, k of them laid. -/
def dList (b n : Int) (k : Nat) : List Int := (List.range 60).map fun j => if j < k then dgt b n j else 0

theorem dList_length (b n : Int) (k : Nat) : (dList b n k).length = 60 := by simp [dList]
theorem dList_get (b n : Int) (k j : Nat) (h : j < 60) : (dList b n k).getD j 0 = if j < k then dgt b n j else 0 := by simp [dList, List.getD, h]
theorem dList_zero (b n : Int) : dList b n 0 = List.replicate 60 0 := by
  rfl
theorem iArr_zero (b n : Int) : iArr (dList b n 0) = (#[.int .i64 0, .int .i64 0, .int .i64 0, .int .i64 0, .int .i64 0, .int .i64 0, .int .i64 0, .int .i64 0, .int .i64 0, .int .i64 0, .int .i64 0, .int .i64 0, .int .i64 0, .int .i64 0, .int .i64 0, .int .i64 0, .int .i64 0, .int .i64 0, .int .i64 0, .int .i64 0, .int .i64 0, .int .i64 0, .int .i64 0, .int .i64 0, .int .i64 0, .int .i64 0, .int .i64 0, .int .i64 0, .int .i64 0, .int .i64 0, .int .i64 0, .int .i64 0, .int .i64 0, .int .i64 0, .int .i64 0, .int .i64 0, .int .i64 0, .int .i64 0, .int .i64 0, .int .i64 0, .int .i64 0, .int .i64 0, .int .i64 0, .int .i64 0, .int .i64 0, .int .i64 0, .int .i64 0, .int .i64 0, .int .i64 0, .int .i64 0, .int .i64 0, .int .i64 0, .int .i64 0, .int .i64 0, .int .i64 0, .int .i64 0, .int .i64 0, .int .i64 0, .int .i64 0, .int .i64 0] : Array Value) := by
  rw [dList_zero]; rfl
theorem dList_set (b n : Int) (k : Nat) (h : k < 60) : (iArr (dList b n k)).setIfInBounds k (.int .i64 (dgt b n k)) = iArr (dList b n (k + 1)) := by
  apply Array.ext_getElem?
  intro j
  rw [Array.getElem?_setIfInBounds]
  by_cases hj : j < 60
  · rw [iArr_get _ _ (by rw [dList_length]; exact hj), iArr_get _ _ (by rw [dList_length]; exact hj), dList_get _ _ _ _ hj, dList_get _ _ _ _ hj]
    by_cases e : k = j
    · subst e
      rw [if_pos rfl, if_pos (by rw [iArr_size, dList_length]; exact hj), if_pos (by omega)]
    · rw [if_neg e]
      by_cases h1 : j < k
      · rw [if_pos h1, if_pos (by omega)]
      · rw [if_neg h1, if_neg (by omega)]
  · rw [if_neg (by omega), Array.getElem?_eq_none (by rw [iArr_size, dList_length]; omega), Array.getElem?_eq_none (by rw [iArr_size, dList_length]; omega)]

theorem remN_bd (b n : Int) (h1 : 1 ≤ b) (h2 : b ≤ 6) (hn : 0 ≤ n) (k : Nat) : 0 ≤ remN b n k ∧ remN b n k ≤ n := by
  induction k with
  | zero => exact ⟨hn, Int.le_refl _⟩
  | succ k ih =>
    have hc := (cnt_bd b h1 h2 (59 - k)).1
    simp only [remN]
    have e1 := Int.emod_nonneg (remN b n k) (b := cnt b (59 - k)) (by omega)
    have e2 : remN b n k % cnt b (59 - k) ≤ remN b n k := by
      have := Int.emod_add_mul_ediv (remN b n k) (cnt b (59 - k))
      have := Int.ediv_nonneg ih.1 (b := cnt b (59 - k)) (by omega)
      have := Int.mul_nonneg (a := cnt b (59 - k)) (b := remN b n k / cnt b (59 - k)) (by omega) this
      omega
    omega

theorem dgt_bd (b n : Int) (h1 : 1 ≤ b) (h2 : b ≤ 6) (hn : 0 ≤ n) (k : Nat) : 0 ≤ dgt b n k ∧ dgt b n k ≤ n := by
  have hc := (cnt_bd b h1 h2 (59 - k)).1
  have hr := remN_bd b n h1 h2 hn k
  unfold dgt
  have e1 := Int.ediv_nonneg hr.1 (b := cnt b (59 - k)) (by omega)
  have e2 := Int.ediv_le_self (cnt b (59 - k)) hr.1
  omega

theorem of_range (b n : Int) (w : World) (h : b < 1 ∨ 6 < b) :
    Calls Try.prog 17 #[.int .i64 b, .int .i64 n] w fun e w' => e = .returned (.tuple #[.slice none 0 0, .iface 54 (.int .i64 1)]) ∧ w' = w := by
  go_enter Try.func17, Try.ntmps17
  go_wp2_with (go_at_call 37; refine (isBase_no _ _ h).mono ?_; rintro e w' ⟨rfl, rfl⟩)
  go_ret2
  exact ⟨by simp, rfl⟩

theorem of_far (b n : Int) (w : World) (h1 : 1 ≤ b) (h2 : b ≤ 6) (h : n < 0 ∨ 1099511627776 < n) :
    Calls Try.prog 17 #[.int .i64 b, .int .i64 n] w fun e w' => e = .returned (.tuple #[.slice none 0 0, .iface 54 (.int .i64 1)]) ∧ w' = w := by
  rcases h with h | h
  · go_enter Try.func17, Try.ntmps17
    go_wp2_with (go_at_call 37; refine (isBase_yes _ _ h1 h2).mono ?_; rintro e w' ⟨rfl, rfl⟩)
    go_ret2
    exact ⟨by simp, rfl⟩
  · have h' : 0 ≤ n := by omega
    go_enter Try.func17, Try.ntmps17
    go_wp2_with (go_at_call 37; refine (isBase_yes _ _ h1 h2).mono ?_; rintro e w' ⟨rfl, rfl⟩)
    go_ret2
    exact ⟨by simp, rfl⟩

def OfGives (w : World) (l : List Int) (e : Ending) (w' : World) : Prop := ∃ a cap, e = .returned (.tuple #[.slice a l.length cap, .nilIface]) ∧ SlN w.heap.size w' a l.length l ∧ Below w.heap.size w w'


theorem index37 (C : Array Value) (k : Nat) (hk : k < 60) (v : Value) (hv : C[k]? = some v) (W : World) : (Instr.index 77 (.agg C) (.int .i64 k)).run Try.prog W = .ok v W := by
  simp [Instr.index, asIntOf, run_underlying Try.underlying77, part, Try.isAgg3, Try.sizeOf3, hv]
  omega

theorem heap_alloc3_fst (w : World) (o o' o'' : Obj) : (((w.alloc o).alloc o').alloc o'').heap[w.heap.size]? = some o := by
  rw [Below.heap_alloc _ _ _ (by simp; omega), heap_alloc2_fst]

theorem heap_setCell_at {w : World} {g k : Nat} {cs : Array Value} {t : TypeId} {v : Value} (h : w.heap[g]? = some (.cells cs t (0, 0))) : (w.setCell ⟨g, k, none⟩ v).heap[g]? = some (.cells (cs.setIfInBounds k v) t (0, 0)) := by
  simp only [World.setCell, Array.getElem?_modify]
  simp [h]

/-- The loop of Of, behind k rounds. -/
def OfAt (b n : Int) (w : World) (k : Nat) (wx : World) : Prop := wx.heap[w.heap.size]? = some (.cells (iArr (dList b n k)) 77 (0, 0)) ∧ Below w.heap.size w wx

set_option maxHeartbeats 1000000 in
set_option maxRecDepth 4000 in
theorem of_ok (b n : Int) (w : World) (h1 : 1 ≤ b) (h2 : b ≤ 6) (hn : 0 ≤ n) (hn' : n ≤ 1099511627776) :
    Calls Try.prog 17 #[.int .i64 b, .int .i64 n] w (OfGives w (dropZ (dList b n 60))) := by
  have hd1 : decide (n < 0) = false := by simp; omega
  have hd2 : decide (1099511627776 < n) = false := by simp; omega
  go_enter Try.func17, Try.ntmps17
  go_wp2_with (first
    | (go_at_call 37; refine (isBase_yes _ _ h1 h2).mono ?_; rintro e w' ⟨rfl, hw⟩; rw [hw]; clear hw w')
    | (go_at_call 39; refine (counts_any _ _ h1 h2).mono ?_; rintro e w' ⟨rfl, rfl⟩))
  rw [← iArr_zero b n]
  have H0 : Hid (OfAt b n w 0 (((w.alloc (Obj.cells (iArr (dList b n 0)) 77)).alloc (Obj.cells (cArr b 60) 77)).alloc (Obj.cells (cArr b 60) 77))) :=
    ⟨heap_alloc3_fst _ _ _ _, (((Below.refl _ _).alloc (Nat.le_refl _) _).alloc (by simp) _).alloc (by simp; omega) _⟩
  generalize ((w.alloc (Obj.cells (iArr (dList b n 0)) 77)).alloc (Obj.cells (cArr b 60) 77)).alloc (Obj.cells (cArr b 60) 77) = W at H0 ⊢
  go_loopw [1, 23] (fun s i wx => ∃ k : Nat, k ≤ 60 ∧ i = .int .i64 k ∧ s = .int .i64 (remN b n k) ∧ OfAt b n w k wx) (fun _ i _ => 60 - (intOf i).toNat)
  case atStart => exact ⟨0, by omega, rfl, rfl, H0.out⟩
  case round =>
    obtain ⟨k, hk, rfl, rfl, ho⟩ := hrel
    have HA := hide ho
    clear ho
    by_cases hlt : k < 60
    · have hlti : (k : Int) < 60 := by omega
      have hcn := cArr_get b 60 k hlt
      rw [if_pos (by omega)] at hcn
      have hix := index37 _ _ hlt _ hcn
      have HD : Hid (dgt b n k = remN b n k / cnt b (59 - k)) := rfl
      have HR : Hid (remN b n (k + 1) = remN b n k % cnt b (59 - k)) := rfl
      have hrb := remN_bd b n h1 h2 hn k
      obtain ⟨hr1, hr2⟩ := hrb
      have hcb := (cnt_bd b h1 h2 (59 - k)).1
      obtain ⟨hc1, hc2⟩ := hcb
      have hcell : wr.cell? ⟨w.heap.size, k, none⟩ = some (.int .i64 0) := by
        rw [cell_of_row _ _ k _ _ _ HA.out.1, iArr_get _ _ (by rw [dList_length]; exact hlt), dList_get _ _ _ _ hlt, if_neg (by omega)]
      have hfz : wr.frozen? ⟨w.heap.size, k, none⟩ = false := by
        simp [World.frozen?, HA.out.1]
      generalize cnt b (59 - k) = c at hcn hix HD HR hc1 hc2
      generalize remN b n k = r at HD HR hr1 hr2 ⊢
      have hc0 : (c == 0) = false := by simp; omega
      clear hcn
      go_wp2
      go_region
      all_goals go_wp2
      all_goals
        go_roundw
        case rel =>
          refine ⟨k + 1, by omega, by go_num, by rw [HR.out], ?_⟩
          have hs : wr.heap[w.heap.size]? = some (.cells (iArr (dList b n k)) 77 (0, 0)) := HA.out.1
          have h3 := heap_setCell_at (k := k) (v := .int .i64 (r / c)) hs
          rw [← HD.out, dList_set b n k hlt, HD.out] at h3
          exact ⟨h3, (HA.out.2.setCell (Nat.le_refl _) _).drew⟩
        case measure => simp [intOf]; omega
    · have hlti : ¬ ((k : Int) < 60) := by omega
      obtain rfl : k = 60 := by omega
      have HI : Hid ((Try.prog.info? 77).map (·.size) = some (iArr (dList b n 60)).size) := by rw [iArr_size, dList_length]; exact info37
      have HW : Hid (∀ W, Below w.heap.size w W → Calls Try.prog 40 #[.agg (iArr (dList b n 60))] W (GivesRow W (dropZ (dList b n 60)))) := fun W _ =>
        without_any _ (dList_length b n 60) (fun x hx => by
          simp only [dList, List.mem_map, List.mem_range] at hx
          obtain ⟨j, hj, rfl⟩ := hx
          rw [if_pos hj]
          have := dgt_bd b n h1 h2 hn j
          exact Go.WalkArith.wf_i64 (by omega)) W
      go_wp2_with (refine wpList_load_row rfl 77 _ rfl _ rfl _ _ _ _ _ HA.out.1 Try.underlying77 HI.out ?_)
      refine (HW.out wr HA.out.2).mono ?_
      rintro e w' ⟨a, cap, rfl, hs, hb⟩
      have HS := hide hs
      clear hs
      go_wp2
      go_ret2
      exact ⟨a, cap, rfl, HS.out.mono HA.out.2.size, HA.out.2.trans (hb.mono HA.out.2.size)⟩
end Go.Proofs.Ytgbmemkoggogdaa

/- Plain mathematics: the digits that are written count the number, are right, and are the only such. -/
namespace Go.Proofs.Ytgbmemkoggogdaa

theorem cnt_60 (b : Int) (h1 : 1 ≤ b) (h2 : b ≤ 6) : cnt b 60 = 1099511627777 := by
  have : b = 1 ∨ b = 2 ∨ b = 3 ∨ b = 4 ∨ b = 5 ∨ b = 6 := by omega
  rcases this with rfl | rfl | rfl | rfl | rfl | rfl <;> decide +kernel

theorem ahd_le (b : Int) (h1 : 1 ≤ b) (h2 : b ≤ 6) (k : Nat) : ahd b k ≤ cnt b k := by
  cases k with
  | zero => simp [ahd_zero, cnt_zero]
  | succ k =>
    rw [ahd_succ, cnt_succ]
    obtain ⟨⟨a1, a2⟩, a3, a4⟩ := cnt_bd b h1 h2 k
    have : cnt b k ≤ if b = 1 then cnt b k + ahd b k else cnt b k * b := by
      split
      · omega
      · have := Int.mul_le_mul_of_nonneg_left h1 (show 0 ≤ cnt b k by omega)
        omega
    omega

theorem cnt_le_kinds (b : Int) (h1 : 1 ≤ b) (h2 : b ≤ 6) (k : Nat) : cnt b (k + 1) ≤ kindsI b * cnt b k := by
  have ha := ahd_le b h1 h2 k
  rw [cnt_succ]
  by_cases e : b = 1
  · rw [if_pos e]
    have : kindsI b = 2 := by unfold kindsI; rw [if_pos (by omega)]
    rw [this]
    omega
  · rw [if_neg e]
    have : kindsI b = b := by unfold kindsI; split <;> omega
    rw [this, Int.mul_comm b]
    omega

theorem remN_lt (b n : Int) (h1 : 1 ≤ b) (h2 : b ≤ 6) (hn' : n ≤ 1099511627776) (k : Nat) (hk : k ≤ 60) : remN b n k < cnt b (60 - k) := by
  cases k with
  | zero => simp only [remN, Nat.sub_zero, cnt_60 b h1 h2]; omega
  | succ k =>
    have hc := (cnt_bd b h1 h2 (59 - k)).1
    simp only [remN]
    rw [show 60 - (k + 1) = 59 - k by omega]
    exact Int.emod_lt_of_pos _ (by omega)

theorem dgt_lt (b n : Int) (h1 : 1 ≤ b) (h2 : b ≤ 6) (hn' : n ≤ 1099511627776) (k : Nat) (hk : k < 60) : dgt b n k < kindsI b := by
  have hr := remN_lt b n h1 h2 hn' k (by omega)
  have hc := (cnt_bd b h1 h2 (59 - k)).1
  rw [show 60 - k = (59 - k) + 1 by omega] at hr
  have := cnt_le_kinds b h1 h2 (59 - k)
  unfold dgt
  apply Int.ediv_lt_of_lt_mul (by omega)
  omega

theorem dropZ_suffix (l : List Int) : ∃ k, k ≤ l.length ∧ dropZ l = l.drop k ∧ (∀ j, j < k → l.getD j 0 = 0) ∧ (k < l.length → l.getD k 0 ≠ 0) := by
  induction l with
  | nil => exact ⟨0, by simp, rfl, by omega, by simp⟩
  | cons x r ih =>
    obtain ⟨k, h1, h2, h3, h4⟩ := ih
    by_cases h : x = 0
    · refine ⟨k + 1, by simpa using h1, by unfold dropZ at h2 ⊢; simp [h, h2], ?_, fun hh => by simpa using h4 (by simpa using hh)⟩
      intro j hj
      cases j with
      | zero => simpa using h
      | succ j => simpa using h3 j (by omega)
    · exact ⟨0, by simp, by simp [dropZ, h], by omega, fun _ => by simpa using h⟩

theorem digB_drop {b : Int} {l : List Int} (h : digB b l = true) (k : Nat) : digB b (l.drop k) = true := by
  unfold digB at h ⊢
  rw [List.all_eq_true] at h ⊢
  exact fun x hx => h x (List.mem_of_mem_drop hx)

theorem dList_digB (b n : Int) (h1 : 1 ≤ b) (h2 : b ≤ 6) (hn : 0 ≤ n) (hn' : n ≤ 1099511627776) : digB b (dList b n 60) = true := by
  unfold digB
  rw [List.all_eq_true]
  intro x hx
  simp only [dList, List.mem_map, List.mem_range] at hx
  obtain ⟨j, hj, rfl⟩ := hx
  rw [if_pos hj]
  have := (dgt_bd b n h1 h2 hn j).1
  have := dgt_lt b n h1 h2 hn' j hj
  simp [*]

/-- The digits of n. -/
def dgs (b n : Int) : List Int := dropZ (dList b n 60)

theorem dgs_length (b n : Int) : (dgs b n).length ≤ 60 := by
  obtain ⟨k, h1, h2, _⟩ := dropZ_suffix (dList b n 60)
  unfold dgs
  rw [h2, List.length_drop, dList_length]
  omega
theorem dgs_digB (b n : Int) (h1 : 1 ≤ b) (h2 : b ≤ 6) (hn : 0 ≤ n) (hn' : n ≤ 1099511627776) : digB b (dgs b n) = true := by
  obtain ⟨k, _, h, _⟩ := dropZ_suffix (dList b n 60)
  unfold dgs
  rw [h]
  exact digB_drop (dList_digB b n h1 h2 hn hn') k
end Go.Proofs.Ytgbmemkoggogdaa

/- Package digit's contracts, whatever is handed in: one a function. -/
namespace Go.Proofs.Ytgbmemkoggogdaa
open Go.RowKit

def errV (c : Int) : Value := if c = 0 then .nilIface else .iface 54 (.int .i64 c)
def codeN (b n : Int) : Int := if (1 ≤ b ∧ b ≤ 6) ∧ 0 ≤ n ∧ n ≤ 1099511627776 then 0 else 1
def numL (b n : Int) : List Int := if (1 ≤ b ∧ b ≤ 6) ∧ 0 ≤ n ∧ n ≤ 1099511627776 then dgs b n else []
def OfU (w : World) (l : List Int) (er : Value) (e : Ending) (w' : World) : Prop := ∃ a cap, e = .returned (.tuple #[.slice a l.length cap, er]) ∧ SlN w.heap.size w' a l.length l ∧ Below w.heap.size w w'
theorem of_u (b n : Int) (w : World) : Calls Try.prog 17 #[.int .i64 b, .int .i64 n] w (OfU w (numL b n) (errV (codeN b n))) := by
  unfold numL codeN
  by_cases h : (1 ≤ b ∧ b ≤ 6) ∧ 0 ≤ n ∧ n ≤ 1099511627776
  · rw [if_pos h, if_pos h]
    exact of_ok b n w h.1.1 h.1.2 h.2.1 h.2.2
  · rw [if_neg h, if_neg h]
    have hc : Calls Try.prog 17 #[.int .i64 b, .int .i64 n] w fun e w' => e = .returned (.tuple #[.slice none 0 0, .iface 54 (.int .i64 1)]) ∧ w' = w := by
      by_cases hb : 1 ≤ b ∧ b ≤ 6
      · exact of_far b n w hb.1 hb.2 (by omega)
      · exact of_range b n w (by omega)
    refine hc.mono ?_
    rintro e w' ⟨rfl, rfl⟩
    exact ⟨none, 0, rfl, ⟨sl_nil _, fun _ h => by cases h⟩, Below.refl _ _⟩

end Go.Proofs.Ytgbmemkoggogdaa

/- Letters, counted: mathematics. -/
namespace Go.Proofs.Ytgbmemkoggogdaa
open Go.RowKit

/-- The first code that is none of OK. -/
def firstC : List Int → Int
  | [] => 0
  | c :: r => if c = 0 then firstC r else c
theorem firstC_pre (l : List Int) (k : Nat) (h : ∀ j, j < k → l.getD j 0 = 0) (hk : k < l.length) (hc : l.getD k 0 ≠ 0) : firstC l = l.getD k 0 := by
  induction l generalizing k with
  | nil => simp at hk
  | cons c r ih =>
    cases k with
    | zero => simp at hc; simp [firstC, hc]
    | succ k =>
      have h0 : c = 0 := by simpa using h 0 (by omega)
      simp only [firstC, h0, if_true]
      have := ih k (fun j hj => by simpa using h (j + 1) (by omega)) (by simpa using hk) (by simpa using hc)
      rw [this]; simp
theorem firstC_all (l : List Int) (h : ∀ j, j < l.length → l.getD j 0 = 0) : firstC l = 0 := by
  induction l with
  | nil => rfl
  | cons c r ih =>
    have h0 : c = 0 := by simpa using h 0 (by simp)
    simp only [firstC, h0, if_true]
    exact ih fun j hj => by simpa using h (j + 1) (by simpa using hj)
theorem firstC_get0 (l : List Int) (h : firstC l = 0) : ∀ j, j < l.length → l.getD j 0 = 0 := by
  induction l with
  | nil => intro j hj; simp at hj
  | cons c r ih =>
    intro j hj
    by_cases hc : c = 0
    · simp only [firstC, hc, if_true] at h
      cases j with
      | zero => simpa using hc
      | succ j => simpa using ih h j (by simpa using hj)
    · simp only [firstC, hc, if_false] at h
end Go.Proofs.Ytgbmemkoggogdaa

/- Automata: what is wrong with one, where words lead, which states are met: mathematics. -/
namespace Go.Proofs.Ytgbmemkoggogdaa
open Go.RowKit

/-- What is wrong with one state's nexts; with all; with an automaton. -/
def rowC (m n : Nat) (r : List Int) : Int := if r.length = m then (if r.all (fun x => decide (0 ≤ x ∧ x < (n : Int))) = true then 0 else 1) else 2
def stepL (N : List (List Int)) (s : Nat) (x : Int) : Nat := ((N.getD s []).getD x.toNat 0).toNat
def runL (N : List (List Int)) (w : List Int) : Nat := w.foldl (stepL N) 0

/-- n states of m nexts each, each a state. -/
def GoodN (m n : Nat) (N : List (List Int)) : Prop := N.length = n ∧ 1 ≤ n ∧ n ≤ 4000000 ∧ m ≤ 36 ∧ 1 ≤ m ∧ ∀ s, s < n → (N.getD s []).length = m ∧ ∀ j, j < m → 0 ≤ (N.getD s []).getD j 0 ∧ (N.getD s []).getD j 0 < (n : Int)

theorem all_getD {l : List Int} {n : Nat} (h : l.all (fun x => decide (0 ≤ x ∧ x < (n : Int))) = true) (j : Nat) (hj : j < l.length) : 0 ≤ l.getD j 0 ∧ l.getD j 0 < (n : Int) := by
  rw [List.all_eq_true] at h
  have := h (l.getD j 0) (by simp [List.getD, hj])
  simpa using this
theorem rowC_long {m n : Nat} {r : List Int} (h : r.length ≠ m) : rowC m n r = 2 := by unfold rowC; rw [if_neg h]
theorem rowC_zero {m n : Nat} {r : List Int} (h : rowC m n r = 0) : r.length = m ∧ ∀ k, k < m → 0 ≤ r.getD k 0 ∧ r.getD k 0 < (n : Int) := by
  unfold rowC at h
  split at h
  · split at h
    · refine ⟨by assumption, fun k hk => all_getD (by assumption) k (by omega)⟩
    · cases h
  · cases h
theorem goodN_step {m n : Nat} {N : List (List Int)} (h : GoodN m n N) (s : Nat) (hs : s < n) (x : Int) (hx : 0 ≤ x ∧ x < (m : Int)) : stepL N s x < n ∧ ((stepL N s x : Nat) : Int) = (N.getD s []).getD x.toNat 0 := by
  have := (h.2.2.2.2.2 s hs).2 x.toNat (by omega)
  unfold stepL
  omega
theorem runL_take_succ (N : List (List Int)) (w : List Int) (k : Nat) (hk : k < w.length) : runL N (w.take (k + 1)) = stepL N (runL N (w.take k)) (w.getD k 0) := by
  unfold runL
  rw [List.take_succ_eq_append_getElem hk, List.foldl_append]
  simp [List.getD, hk]
theorem runL_lt {m n : Nat} {N : List (List Int)} (h : GoodN m n N) (w : List Int) (k : Nat) (hk : k ≤ w.length) (hw : ∀ j, j < k → 0 ≤ w.getD j 0 ∧ w.getD j 0 < (m : Int)) : runL N (w.take k) < n := by
  induction k with
  | zero => simp [runL]; have := h.2.1; omega
  | succ k ih =>
    rw [runL_take_succ N w k (by omega)]
    exact (goodN_step h _ (ih (by omega) (fun j hj => hw j (by omega))) _ (hw k (by omega))).1
theorem getD_at (l : List Int) (j : Nat) (hj : j < l.length) : l.getD j 0 = l[j] := by simp [List.getD, hj]
end Go.Proofs.Ytgbmemkoggogdaa

/- Plain mathematics: the places' counts as the document has them (not cut off), held against those of the program. -/
namespace Go.Proofs.Ytgbmemkoggogdaa

/-- The digits that are written behind k places. -/
def pre (b n : Int) (k : Nat) : List Int := dropZ ((dList b n 60).take k)
end Go.Proofs.Ytgbmemkoggogdaa
