/- The contract of the document's DigitsOf. -/
import Derived.Test.YtcpnfbjcgaonkafDoorRb
namespace Go.Proofs.YtcpnfbjcgaonkafDoor
open Go.RowKit

theorem digitsOf_range (b n : Int) (w : World) (h : b < 1 ∨ 6 < b) :
    Calls Tryd.prog 23 #[.int .i64 b, .int .i64 n] w fun e w' => e = .returned (.tuple #[.slice none 0 0, .int .i64 1]) ∧ w' = w := by
  go_enter Tryd.func23, Tryd.ntmps23
  go_wp2_with (go_at_call 24; refine (radix_no _ _ h).mono ?_; rintro e w' ⟨rfl, rfl⟩)
  go_ret2
  exact ⟨by simp, rfl⟩

theorem digitsOf_far (b n : Int) (w : World) (h1 : 1 ≤ b) (h2 : b ≤ 6) (h : n < 0 ∨ 1099511627776 < n) :
    Calls Tryd.prog 23 #[.int .i64 b, .int .i64 n] w fun e w' => e = .returned (.tuple #[.slice none 0 0, .int .i64 1]) ∧ w' = w := by
  have hk0 : (kindsI b == 0) = false := by have := kinds_bd b h2; simp; omega
  rcases h with h | h
  · go_enter Tryd.func23, Tryd.ntmps23
    go_wp2_with (go_at_call 24; refine (radix_yes _ _ h1 h2).mono ?_; rintro e w' ⟨rfl, rfl⟩)
    go_ret2
    exact ⟨by simp, rfl⟩
  · have h' : 0 ≤ n := by omega
    go_enter Tryd.func23, Tryd.ntmps23
    go_wp2_with (go_at_call 24; refine (radix_yes _ _ h1 h2).mono ?_; rintro e w' ⟨rfl, rfl⟩)
    go_ret2
    exact ⟨by simp, rfl⟩

/-- A slice with the numbers l, and no fault. -/
def RefGives (w : World) (l : List Int) (e : Ending) (w' : World) : Prop := ∃ a cap, e = .returned (.tuple #[.slice a l.length cap, .int .i64 0]) ∧ SlN w.heap.size w' a l.length l ∧ Below w.heap.size w w'

/-- The loop of DigitsOf: the row that grows. -/
def Grows (w1 : World) (l : List Int) (v : Value) (wr : World) : Prop := (∃ ao cv, v = .slice ao l.length cv) ∧ wr.ownsRow w1.heap.size 3 1 v l.length (l.map (Value.int .i64)) ∧ Below w1.heap.size w1 wr

theorem grows_nil (w1 : World) : Grows w1 [] (.slice none 0 0) w1 := ⟨⟨none, 0, rfl⟩, World.ownsRow_nil _ _ _ _, Below.refl _ _⟩
theorem grows_snoc {w1 wr w3 : World} {l : List Int} {v v' : Value} {x : Int} {o : Obj} (h : Grows w1 l v wr) (hown : w3.ownsRow w1.heap.size 3 1 v' (l.length + 1) (l.map (Value.int .i64) ++ [.int .i64 x])) (hgrow : (wr.alloc o).grownBy w3 v.ownBlock) : Grows w1 (l ++ [x]) v' w3 := by
  have hl : (l ++ [x]).length = l.length + 1 := by simp
  refine ⟨?_, ?_, ?_⟩
  · rw [hl]
    rcases hown.2 with ⟨rfl, h0⟩ | ⟨g, cap, cur, rfl, _⟩
    · omega
    · exact ⟨_, _, rfl⟩
  · rw [hl, List.map_append]; exact hown
  · refine Below.grown (h.2.2.alloc h.2.2.size o) hgrow (by have := h.2.2.size; simp; omega) (fun k hk => ?_)
    rcases h.2.1.2 with ⟨rfl, h0⟩ | ⟨g, cap, cur, rfl, hg, _⟩
    · cases hk
    · cases hk; exact hg

theorem pre_wf {b n : Int} (h1 : 1 ≤ b) (h2 : b ≤ 6) (hn : 0 ≤ n) (hn' : n ≤ 1099511627776) : ∀ x ∈ dgs b n, (Lit.int .i64 x).wf = true := by
  intro x hx
  obtain ⟨k, _, h, _⟩ := dropZ_suffix (dList b n 60)
  unfold dgs at hx
  rw [h] at hx
  have hx := List.mem_of_mem_drop hx
  simp only [dList, List.mem_map, List.mem_range] at hx
  obtain ⟨j, hj, rfl⟩ := hx
  rw [if_pos hj]
  have := dgt_bd b n h1 h2 hn j
  exact Go.WalkArith.wf_i64 (by omega)

theorem grows_end {w w1 wr : World} {b n : Int} {v : Value} (h1 : 1 ≤ b) (h2 : b ≤ 6) (hn : 0 ≤ n) (hn' : n ≤ 1099511627776) (hb : Below w.heap.size w w1) (h : Grows w1 (dgs b n) v wr) : RefGives w (dgs b n) (.returned (.tuple #[v, .int .i64 0])) wr := by
  obtain ⟨a, cap, rfl, hs⟩ := sl_of_owns rfl (by have := dgs_length b n; unfold maxLen; omega) (pre_wf h1 h2 hn hn') h.2.1
  exact ⟨a, cap, rfl, hs.mono hb.size, below_step hb h.2.2⟩

set_option maxHeartbeats 1000000 in
set_option maxRecDepth 4000 in
theorem digitsOf_ok (b n : Int) (w : World) (h1 : 1 ≤ b) (h2 : b ≤ 6) (hn : 0 ≤ n) (hn' : n ≤ 1099511627776) :
    Calls Tryd.prog 23 #[.int .i64 b, .int .i64 n] w (RefGives w (dgs b n)) := by
  have hk0 : (kindsI b == 0) = false := by have := kinds_bd b h2; simp; omega
  have hd1 : decide (n < 0) = false := by simp; omega
  have hd2 : decide (1099511627776 < n) = false := by simp; omega
  obtain ⟨i0, hi, hz0, hz1, hz2⟩ := info_parts info3
  go_enter Tryd.func23, Tryd.ntmps23
  go_wp2_with (go_at_call 24; refine (radix_yes _ _ h1 h2).mono ?_; rintro e w' ⟨rfl, hw⟩; rw [hw]; clear hw w')
  refine (weights_any b w h1 h2).mono ?_
  rintro e w1 ⟨m, hwts, a1, cap1, rfl, hs1, hb1⟩
  rw [wtL_length] at hs1 ⊢
  have HW := hide hwts
  have HS1 := hide hs1.1
  have HB1 := hide hb1
  have hm60 : m ≤ 60 := hwts.2.1
  have hps := pre_start h1 h2 hwts hn hn'
  have HP := hide hps
  clear hwts hs1 hb1 hps
  go_wp2
  go_loopg [1, 7, 8] m (fun g s1 s7 s8 wr => g ≤ m ∧ s1 = .int .i64 (remN b n (60 - g)) ∧ s8 = .int .i64 ((g : Int) - 1) ∧ Grows w1 (pre b n (60 - g)) s7 wr)
  case atStart =>
    refine ⟨Nat.le_refl _, by rw [HP.out.2], rfl, ?_⟩
    rw [HP.out.1]
    exact grows_nil w1
  case round =>
    obtain ⟨hgm, rfl, rfl, hgr⟩ := hrel
    have HG := hide hgr
    clear hgr
    cases gk with
    | zero =>
      have HE : Hid (Grows w1 (dgs b n) u7 wr) := by
        have := HG.out
        rw [Nat.sub_zero, pre_all] at this
        exact this
      have HE' := hide (grows_end h1 h2 hn hn' HB1.out HE.out)
      clear HE HG
      go_wp2
      go_ret2
      exact HE'.out
    | succ i =>
      have hsub : 60 - (i + 1) = 59 - i := by omega
      rw [hsub] at HG ⊢
      obtain ⟨bb, o, rfl, hci⟩ := sl_cell (sl_below HS1.out HG.out.2.2) i (by omega)
      rw [wtL_get _ _ _ (by omega)] at hci
      obtain ⟨hr1, hr2⟩ := remN_bd b n h1 h2 hn (59 - i)
      have hst := wt_step h1 h2 HW.out i (by omega) (remN b n (59 - i)) hr1 (by omega)
      have hwp := (wt_pos b h1 i).1
      have HQ : Hid (remN b n (59 - i) / wt b i = dgt b n (59 - i)) := by
        show _ = _
        rw [hst.1]
        unfold dgt
        rw [show 59 - (59 - i) = i by omega]
      have HR : Hid (remN b n (59 - i) - remN b n (59 - i) / wt b i * wt b i = remN b n (59 - i + 1)) := by
        show _ = _
        rw [hst.2]
        simp only [remN]
        rw [show 59 - (59 - i) = i by omega]
      have HPS := hide (pre_succ b n (59 - i) (by omega))
      rw [show 59 - i + 1 = 60 - i by omega] at HR HPS
      have hq1 := Int.ediv_nonneg hr1 (b := wt b i) (by omega)
      have hq2 := Int.mul_nonneg hq1 (show 0 ≤ wt b i by omega)
      have hq3 : remN b n (59 - i) / wt b i * wt b i ≤ remN b n (59 - i) := Int.ediv_mul_le _ (by omega)
      have hx0 : (wt b i == 0) = false := by simp; omega
      have hq4 : remN b n (59 - i) / wt b i ≤ remN b n (59 - i) := Int.ediv_le_self _ hr1
      clear hst
      obtain ⟨ao, cv, rfl⟩ := HG.out.1
      have hpl := pre_length b n (59 - i)
      have hib : (i : Int) < (m : Int) := by omega
      have hcase : (dgt b n (59 - i) = 0 ∧ (pre b n (59 - i)).length = 0 ∧ pre b n (60 - i) = pre b n (59 - i)) ∨ (0 < dgt b n (59 - i) ∧ pre b n (60 - i) = pre b n (59 - i) ++ [dgt b n (59 - i)]) ∨ (dgt b n (59 - i) = 0 ∧ 0 < (pre b n (59 - i)).length ∧ pre b n (60 - i) = pre b n (59 - i) ++ [dgt b n (59 - i)]) := by
        have h3 := HPS.out
        have h4 := (dgt_bd b n h1 h2 hn (59 - i)).1
        by_cases e : pre b n (59 - i) = []
        · rw [if_pos e] at h3
          by_cases f : dgt b n (59 - i) = 0
          · rw [if_pos f] at h3
            exact Or.inl ⟨f, by rw [e]; rfl, by rw [h3, e]⟩
          · rw [if_neg f] at h3
            exact Or.inr (Or.inl ⟨by omega, by rw [h3, e]; rfl⟩)
        · rw [if_neg e] at h3
          have hl : 0 < (pre b n (59 - i)).length := by
            cases h : pre b n (59 - i) with
            | nil => exact absurd h e
            | cons _ _ => simp
          by_cases f : dgt b n (59 - i) = 0
          · exact Or.inr (Or.inr ⟨f, hl, h3⟩)
          · exact Or.inr (Or.inl ⟨by omega, h3⟩)
      have HNX : Hid (∀ l, pre b n (60 - i) = l → ∀ v W, Grows w1 l v W → Grows w1 (pre b n (60 - i)) v W) := fun l e v W h => by rw [e]; exact h
      clear HPS HP
      generalize pre b n (59 - i) = p at HG hpl hcase ⊢
      generalize dgt b n (59 - i) = q at HQ hcase
      generalize wt b i = x at hci hwp HQ HR hq1 hq2 hq3 hx0 hq4
      generalize remN b n (59 - i) = r at HQ HR hr1 hr2 hq1 hq2 hq3 hq4 ⊢
      have hq := HQ.out
      rw [hq] at HR hq1 hq2 hq3 hq4
      clear HQ
      rcases hcase with ⟨hqz, hlz, hpe⟩ | ⟨hqz, hpe⟩ | ⟨hqz, hlz, hpe⟩
      · have HPE := hide hpe
        have hlz' : ¬ ((0 : Int) < (p.length : Int)) := by omega
        have hqz' : ¬ (0 < q) := by omega
        clear hpe hqz hlz
        go_wp2
        go_roundg i
        case measure => omega
        case rel => exact ⟨by omega, by rw [HR.out], by go_num, HNX.out _ HPE.out _ _ HG.out⟩
      · have HPE := hide hpe
        clear hpe
        go_wp2_with (at_builtin; refine wpList_append_own _ rfl _ _ 23 rfl w1.heap.size 3 i0 (.int .i64 0) 1 8 Tryd.underlying23 hi hz0 hz1 hz2 rfl (by decide) _ _ _ rfl (HG.out.2.1.alloc _) ⟨wr.heap.size, 0, none⟩ 1 1 [.int .i64 q] rfl rfl (one_new _ _ _) (fun u hu => by simp at hu; subst hu; rfl) (by unfold maxLen; omega) (by omega) (by have := HG.out.2.2.size; simp; omega) ?_; intro v' w3 hown hgrow hnil)
        go_roundg i
        case measure => omega
        case rel => exact ⟨by omega, by rw [HR.out], by go_num, HNX.out _ HPE.out _ _ (grows_snoc HG.out hown hgrow)⟩
      · have HPE := hide hpe
        have hlz' : (0 : Int) < (p.length : Int) := by omega
        have hqz' : ¬ (0 < q) := by omega
        clear hpe hqz
        go_wp2_with (at_builtin; refine wpList_append_own _ rfl _ _ 23 rfl w1.heap.size 3 i0 (.int .i64 0) 1 8 Tryd.underlying23 hi hz0 hz1 hz2 rfl (by decide) _ _ _ rfl (HG.out.2.1.alloc _) ⟨wr.heap.size, 0, none⟩ 1 1 [.int .i64 q] rfl rfl (one_new _ _ _) (fun u hu => by simp at hu; subst hu; rfl) (by unfold maxLen; omega) (by omega) (by have := HG.out.2.2.size; simp; omega) ?_; intro v' w3 hown hgrow hnil)
        go_roundg i
        case measure => omega
        case rel => exact ⟨by omega, by rw [HR.out], by go_num, HNX.out _ HPE.out _ _ (grows_snoc HG.out hown hgrow)⟩
end Go.Proofs.YtcpnfbjcgaonkafDoor
