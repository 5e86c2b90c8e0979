/- The contract of letter.split: the digits of a letter. -/
import Derived.Deep.OwnRows
import Derived.Test.YthadkoplbgibgaeZG
namespace Go.Proofs.Ythadkoplbgibgae
open Go.RowKit

/-- A row of the call's own that reads as numbers. -/
theorem sl_of_rowIs {w : World} {g n : Nat} {l : List Int} (hl : l.length = n) (hm : n ≤ maxLen) (hw : ∀ x ∈ l, (Lit.int .i64 x).wf = true) (h : w.rowIs g 3 n fun i => .int .i64 (l.getD i 0)) : Sl w (some ⟨g, 0, none⟩) n l :=
  ⟨hl, hm, hw, Or.inr ⟨g, 0, rfl, fun i hi => by rw [Nat.zero_add]; exact h.cell hi⟩⟩

theorem make_ints (n : Nat) (hn : n ≤ 1000000000000) (w : World) : (Instr.makeSlice 26 (.int .i64 (n : Int)) (.int .i64 (n : Int))).run Try.prog w = .ok (.slice (some ⟨w.heap.size, 0, none⟩) n n) (w.alloc (.cells (madeCells #[.int .i64 0] n) 3)) :=
  run_make_row' 26 3 (.int .i64 0) 8 Try.underlying26 info3 rfl .i64 .i64 n (by omega) (by omega) w

/-- The loop of split, behind k rounds. -/
def SpAt (b : Int) (n : Nat) (l : Int) (w : World) (k : Nat) (wr : World) : Prop :=
  wr.rowIs w.heap.size 3 n (fun p => .int .i64 (if n ≤ p + k then dOf b n l p else 0)) ∧ Below w.heap.size w wr

theorem spAt_step {b : Int} {n : Nat} {l : Int} {w wr : World} {k m : Nat} (h : SpAt b n l w k wr) (hm : n = m + 1 + k) : SpAt b n l w (k + 1) (wr.setCell ⟨w.heap.size, m, none⟩ (.int .i64 (l / pw (kindsI b) k % kindsI b))) := by
  refine ⟨(h.1.set m _).congr fun p hp => ?_, h.2.setCell (Nat.le_refl _) _⟩
  by_cases e : p = m
  · subst e
    rw [if_pos rfl, if_pos (by omega)]
    unfold dOf
    rw [show n - 1 - p = k by omega]
  · rw [if_neg e]
    by_cases e2 : n ≤ p + k
    · rw [if_pos e2, if_pos (by omega)]
    · rw [if_neg e2, if_neg (by omega)]

theorem spAt_end {b : Int} {n : Nat} {l : Int} {w wr : World} (h2 : b ≤ 6) (hn : n ≤ 5) (h : SpAt b n l w n wr) : GivesRow w (splitL b n l) (.returned (.slice (some ⟨w.heap.size, 0, none⟩) n n)) wr := by
  refine ⟨some ⟨w.heap.size, 0, none⟩, n, by rw [splitL_length], ⟨?_, fun ad e => by cases e; exact Nat.le_refl _⟩, h.2⟩
  rw [splitL_length]
  refine sl_of_rowIs (splitL_length _ _ _) (by unfold maxLen; omega) (fun x hx => ?_) (h.1.congr fun i hi => ?_)
  · simp only [splitL, List.mem_map, List.mem_range] at hx
    obtain ⟨i, _, rfl⟩ := hx
    have := dOf_bd b h2 n l i
    have := kinds_bd2 b h2
    exact Go.WalkArith.wf_i64 (by omega)
  · rw [if_pos (by omega), splitL_get _ _ _ _ hi]

set_option maxHeartbeats 1000000 in
set_option maxRecDepth 4000 in
theorem split_any (b : Int) (n : Nat) (l : Int) (w : World) (h1 : 1 ≤ b) (h2 : b ≤ 6) (hn : n ≤ 5) (hl : 0 ≤ l) (hl' : l ≤ 100000000) :
    Calls Try.prog 79 #[.int .i64 b, .int .i64 n, .int .i64 l] w (GivesRow w (splitL b n l)) := by
  have hk := kinds_bd2 b h2
  obtain ⟨hk1, hk2⟩ := hk
  have HK := hide (fun w => kinds_any b w h1 h2)
  have hmk := make_ints n (by omega)
  have HE := hide (fun wr => @spAt_end b n l w wr h2 hn)
  have HST := hide (fun wr k m => @spAt_step b n l w wr k m)
  have HDB := hide (div_bd (kindsI b) hk1 l hl)
  have HDP := hide (div_pw (kindsI b) hk1 l)
  have hk0 : (kindsI b == 0) = false := by simp; omega
  have H0 : Hid (SpAt b n l w 0 (w.alloc (.cells (madeCells #[.int .i64 0] n) 3))) := by
    refine ⟨(World.rowIs_made w (.int .i64 0) n 3).congr fun p hp => ?_, (Below.refl _ _).alloc (Nat.le_refl _) _⟩
    rw [if_neg (by omega)]
  have HD0 : Hid (l / pw (kindsI b) 0 = l) := by show _ = _; simp [pw]
  go_enter Try.func79, Try.ntmps79
  go_wp2
  generalize w.alloc (.cells (madeCells #[.int .i64 0] n) 3) = W at H0 ⊢
  generalize kindsI b = K at hk1 hk2 HK HST HDB HDP hk0 HD0
  go_loopw [2, 12] (fun s i wx => ∃ k : Nat, k ≤ n ∧ i = .int .i64 k ∧ s = .int .i64 (l / pw K k) ∧ SpAt b n l w k wx) (fun _ i _ => n - (intOf i).toNat)
  case atStart => exact ⟨0, by omega, rfl, by rw [HD0.out], H0.out⟩
  case round =>
    obtain ⟨k, hk, rfl, rfl, ho⟩ := hrel
    have HA := hide ho
    clear ho
    by_cases hlt : k < n
    · have hlti : (k : Int) < (n : Int) := by omega
      obtain ⟨m, hm⟩ : ∃ m, n = m + 1 + k := ⟨n - 1 - k, by omega⟩
      have HM := hide hm
      have hmi : (n : Int) - 1 - (k : Int) = (m : Int) := by omega
      have hmn : m < n := by omega
      clear hm
      have HS' := hide (HST.out wr k m HA.out HM.out)
      have hdb := HDB.out k
      obtain ⟨hd1, hd2⟩ := hdb
      have HDP' := hide (HDP.out k)
      have hcell := HA.out.1.cell hmn
      have hfz := HA.out.1.frozen m
      have hmni : (m : Int) < (n : Int) := by omega
      generalize (Value.int IntKind.i64 (if n ≤ m + k then dOf b n l m else 0)) = old at hcell
      generalize l / pw K k = q at hd1 hd2 HDP' HS' ⊢
      go_wp2_with (go_at_call 66; refine (HK.out _).mono ?_; rintro e w' ⟨rfl, hw⟩; rw [hw]; clear hw w')
      go_roundw
      case rel => exact ⟨k + 1, by omega, by go_num, by rw [HDP'.out], HS'.out⟩
      case measure => simp [intOf]; omega
    · have hlti : ¬ ((k : Int) < (n : Int)) := by omega
      obtain rfl : k = n := by omega
      go_wp2
      go_ret
      exact HE.out wr HA.out
end Go.Proofs.Ythadkoplbgibgae
