/- slices.Reverse of numbers: contract. -/
import Derived.Test.YtihhlddbppljpabDoorBt
namespace Go.Proofs.YtihhlddbppljpabDoor
open Go.RowKit

/-- k of them exchanged, from both ends. -/
def revF (f : Nat → Value) (n k i : Nat) : Value := if (i < k ∨ n < i + 1 + k) ∧ i < n then f (n - 1 - i) else f i
theorem revF_zero (f : Nat → Value) (n i : Nat) : revF f n 0 i = f i := by unfold revF; rw [if_neg (by omega)]
theorem revF_mid (f : Nat → Value) (n k i : Nat) (h1 : ¬ i < k) (h2 : i + 1 + k ≤ n) : revF f n k i = f i := by unfold revF; rw [if_neg (by omega)]
theorem revF_step (f : Nat → Value) (n k i : Nat) (h : k + 1 + k < n) : revF f n (k + 1) i = if i = n - 1 - k then f k else if i = k then f (n - 1 - k) else revF f n k i := by
  unfold revF
  by_cases e1 : i = n - 1 - k
  · rw [if_pos e1, if_pos (by omega), show n - 1 - i = k by omega]
  · rw [if_neg e1]
    by_cases e2 : i = k
    · rw [if_pos e2, if_pos (by omega), e2]
    · rw [if_neg e2]
      by_cases e3 : (i < k ∨ n < i + 1 + k) ∧ i < n
      · rw [if_pos (by omega), if_pos e3]
      · rw [if_neg (by omega), if_neg e3]
theorem revF_end (f : Nat → Value) (n k i : Nat) (h : n ≤ k + 1 + k) (hi : i < n) : revF f n k i = f (n - 1 - i) := by
  unfold revF
  by_cases e : (i < k ∨ n < i + 1 + k) ∧ i < n
  · rw [if_pos e]
  · rw [if_neg e, show n - 1 - i = i by omega]

def RevU (w : World) (base : Nat) (v : Value) (l : List Int) (e : Ending) (w' : World) : Prop :=
  e = .returned (.tuple #[]) ∧ w'.ownsRow base 3 1 v l.length (l.reverse.map (Value.int .i64)) ∧ ∀ (W0 : World) (b0 : Nat), b0 ≤ base → Below b0 W0 w → Below b0 W0 w'

set_option maxHeartbeats 4000000 in
set_option maxRecDepth 4000 in
theorem reverse_any (base : Nat) (v : Value) (l : List Int) (w : World) (hl : l.length ≤ 1000000) (hv : w.ownsRow base 3 1 v l.length (l.map (Value.int .i64))) :
    Calls Tryd.prog 57 #[v] w (RevU w base v l) := by
  unfold RevU
  obtain ⟨h0, h1⟩ := hv
  rcases h1 with ⟨rfl, hn⟩ | ⟨g, cap, cur, rfl, hg, hh, hc, hcm, hcs, ht⟩
  · have : l = [] := List.eq_nil_of_length_eq_zero hn
    subst this
    go_enter Tryd.func57, Tryd.ntmps57
    go_wp2
    refine wp_loop_rounds 1 ?_
    rw [rounds_succ]
    go_wp2
    exact bodyPost_end (v := .tuple #[]) (by simp [results, Tryd.results57]) rfl ⟨rfl, World.ownsRow_nil _ _ _ _, fun _ _ _ h => h⟩
  · obtain ⟨n, hn⟩ : ∃ n, n = l.length := ⟨_, rfl⟩
    rw [← hn] at hc ht hl ⊢
    have HF0 : Hid (∀ i, i < n → cur[i]? = some (.int .i64 (l.getD i 0))) := fun i hi => by
      have h3 : (cur.toList.take (n * 1))[i]? = (l.map (Value.int .i64))[i]? := by rw [ht]
      rw [List.getElem?_take, if_pos (by omega), Array.getElem?_toList] at h3
      rw [h3]
      simp [List.getD, show i < l.length by omega]
    have HR0 : Hid (w.rowIs g 3 cap (revF (fun i => cur.getD i undef) n 0)) := ⟨cur, hh, by omega, fun i hi => by rw [revF_zero]; simp [show i < cur.size by omega]⟩
    have HFI : Hid (∀ i, i < n → cur.getD i undef = .int .i64 (l.getD i 0)) := fun i hi => by
      have := HF0.out i hi
      simp [Array.getD_eq_getD_getElem?, this]
    have HST := hide (fun k i h => revF_step (fun i => cur.getD i undef) n k i h)
    have HMID := hide (fun k i h1 h2 => revF_mid (fun i => cur.getD i undef) n k i h1 h2)
    have HEND := hide (fun k i h1 h2 => revF_end (fun i => cur.getD i undef) n k i h1 h2)
    have HN := hide hn
    generalize (fun i => cur.getD i undef) = f at HR0 HFI HST HMID HEND
    clear hh hcs ht h0 hn HF0
    go_enter Tryd.func57, Tryd.ntmps57
    go_wp2
    go_loopw [2, 3] (fun i j wx => ∃ k : Nat, k ≤ n ∧ i = .int .i64 k ∧ j = .int .i64 ((n : Int) - 1 - k) ∧ (wx.rowIs g 3 cap (revF f n k)) ∧ ∀ (W0 : World) (b0 : Nat), b0 ≤ base → Below b0 W0 w → Below b0 W0 wx) (fun i _ _ => n - (intOf i).toNat)
    case atStart => exact ⟨0, by omega, rfl, by go_num, HR0.out, fun _ _ _ h => h⟩
    case round =>
      obtain ⟨k, hk, rfl, rfl, hrw, hbw⟩ := hrel
      have HRW := hide hrw
      have HBW := hide hbw
      clear hrw hbw
      by_cases hlt : k + 1 + k < n
      · have hlti : (k : Int) < (n : Int) - 1 - k := by omega
        obtain ⟨j, hj⟩ : ∃ j : Nat, (n : Int) - 1 - k = (j : Int) := ⟨n - 1 - k, by omega⟩
        rw [hj] at hlti ⊢
        have hjn : (j : Int) < (n : Int) := by omega
        have hkn : (k : Int) < (n : Int) := by omega
        have hjk : k ≠ j := by omega
        have c1 := HRW.out.cell (i := k) (by omega)
        have c2 := HRW.out.cell (i := j) (by omega)
        rw [HMID.out k k (by omega) (by omega), HFI.out k (by omega)] at c1
        rw [HMID.out k j (by omega) (by omega), HFI.out j (by omega)] at c2
        have f1 := HRW.out.frozen k
        have f2 := HRW.out.frozen j
        have HR2 : Hid (((wr.setCell ⟨g, k, none⟩ (.int .i64 (l.getD j 0))).setCell ⟨g, j, none⟩ (.int .i64 (l.getD k 0))).drew.rowIs g 3 cap (revF f n (k + 1))) := by
          refine ((HRW.out.set k (.int .i64 (l.getD j 0))).set j (.int .i64 (l.getD k 0))).congr fun i hi => ?_
          rw [HST.out k i hlt, show n - 1 - k = j by omega, HFI.out k (by omega), HFI.out j (by omega)]
        have HB2 : Hid (∀ (W0 : World) (b0 : Nat), b0 ≤ base → Below b0 W0 w → Below b0 W0 ((wr.setCell ⟨g, k, none⟩ (.int .i64 (l.getD j 0))).setCell ⟨g, j, none⟩ (.int .i64 (l.getD k 0))).drew) := fun W0 b0 h0 h => (((HBW.out W0 b0 h0 h).setCell (Nat.le_trans h0 hg) _).setCell (Nat.le_trans h0 hg) _).drew
        have HJ : Hid ((j : Int) - 1 = (n : Int) - 1 - ((k + 1 : Nat) : Int)) := by show _ = _; omega
        generalize l.getD k 0 = x at c1 HR2 HB2
        generalize l.getD j 0 = y at c2 HR2 HB2
        go_wp2
        go_region
        all_goals
          go_wp2
          go_roundw
          case rel => exact ⟨k + 1, by omega, by go_num, by rw [HJ.out], HR2.out, HB2.out⟩
          case measure => simp [intOf]; omega
      · have hlti : ¬ ((k : Int) < (n : Int) - 1 - k) := by omega
        go_wp2
        refine bodyPost_end (v := .tuple #[]) (by simp [results, Tryd.results57]) rfl ?_
        refine ⟨rfl, ⟨by simp [HN.out], Or.inr ?_⟩, HBW.out⟩
        obtain ⟨c, e1, e2, e3⟩ := HRW.out
        refine ⟨g, cap, c, rfl, hg, e1, hc, hcm, by omega, ?_⟩
        apply List.ext_getElem?
        intro i
        rw [List.getElem?_take]
        by_cases hi : i < n
        · rw [if_pos (by omega), Array.getElem?_toList, e3 i (by omega), HEND.out k i (by omega) hi, HFI.out _ (by omega)]
          have hn := HN.out
          rw [List.getElem?_reverse (by simp; omega), List.length_map, ← hn, List.getElem?_map, List.getElem?_eq_getElem (show n - 1 - i < l.length by omega), getD_at _ _ (show n - 1 - i < l.length by omega)]
          rfl
        · have hn := HN.out
          rw [if_neg (by omega), List.getElem?_eq_none (by simp; omega)]
end Go.Proofs.YtihhlddbppljpabDoor
