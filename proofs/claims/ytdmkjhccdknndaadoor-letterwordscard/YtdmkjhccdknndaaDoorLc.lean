/- The contract of letter.apart: the digits of each track of a word. -/
import Derived.Test.YtdmkjhccdknndaaDoorNx
namespace Go.Proofs.YtdmkjhccdknndaaDoor
open Go.RowKit

theorem infoS : (Tryd.prog.info? 22).map (fun i => (i.zero, i.size, i.bytes)) = some (some (.slice none 0 0), 1, 24) := by kernel_rfl
theorem make_rows (n : Nat) (hn : n ≤ 1000000000000) (w : World) : (Instr.makeSlice 66 (.int .i64 (n : Int)) (.int .i64 (n : Int))).run Tryd.prog w = .ok (.slice (some ⟨w.heap.size, 0, none⟩) n n) (w.alloc (.cells (madeCells #[.slice none 0 0] n) 22)) :=
  run_make_row' 66 22 (.slice none 0 0) 24 Tryd.underlying66 infoS rfl .i64 .i64 n (by omega) (by omega) w

/-- The rows of all tracks. -/
def tracksL (b : Int) (t : Nat) (w : List Int) : List (List Int) := (List.range t).map (trackL b t w)

def ApGives (w : World) (ls : List (List Int)) (er : Value) (e : Ending) (w' : World) : Prop := ∃ a cap, e = .returned (.tuple #[.slice a ls.length cap, er]) ∧ Sl2 w' a ls.length ls ∧ Below w.heap.size w w'

theorem trackL_wf (b : Int) (h2 : b ≤ 6) (t : Nat) (w : List Int) (i : Nat) : ∀ x ∈ trackL b t w i, (Lit.int .i64 x).wf = true := by
  intro x hx
  simp only [trackL, List.mem_map] at hx
  obtain ⟨l, _, rfl⟩ := hx
  have := dOf_bd b h2 t l i
  have := kinds_bd2 b h2
  exact Go.WalkArith.wf_i64 (by omega)
theorem trackL_take_succ (b : Int) (t : Nat) (l : List Int) (k i : Nat) (h : k < l.length) : trackL b t (l.take (k + 1)) i = trackL b t (l.take k) i ++ [dOf b t (l.getD k 0) i] := by
  unfold trackL
  rw [List.take_succ_eq_append_getElem h, List.map_append]
  simp [List.getD, h]

/-- The outer loop, behind k letters. -/
def ApAt (b : Int) (n : Nat) (l : List Int) (w : World) (k : Nat) (wr : World) : Prop :=
  Own2 w.heap.size wr w.heap.size n (fun i => trackL b n (l.take k) i) (fun _ => False) ∧ Below w.heap.size w wr
/-- The inner loop, behind k letters and j tracks. -/
def ApIn (b : Int) (n : Nat) (l : List Int) (w : World) (k : Nat) (a : Option Addr) (j : Nat) (wr : World) : Prop :=
  Own2 w.heap.size wr w.heap.size n (fun i => if i < j then trackL b n (l.take (k + 1)) i else trackL b n (l.take k) i) (slB a n) ∧ Sl wr a n (splitL b n (l.getD k 0)) ∧ Below w.heap.size w wr

theorem apIn_start {b : Int} {n : Nat} {l : List Int} {w : World} {k : Nat} {a : Option Addr} {wo wr : World} (h : ApAt b n l w k wo) (hs : SlN wo.heap.size wr a n (splitL b n (l.getD k 0))) (hb : Below wo.heap.size wo wr) : ApIn b n l w k a 0 wr := by
  refine ⟨own2_congr (own2_below h.1 hb fun x hx => ⟨?_, slB_lt hs.1 hx⟩) (fun i _ => by simp), hs.1, below_step h.2 hb⟩
  obtain ⟨_, ad, e, rfl⟩ := hx
  exact hs.2 ad e

theorem apIn_end {b : Int} {n : Nat} {l : List Int} {w : World} {k : Nat} {a : Option Addr} {wr : World} (h : ApIn b n l w k a n wr) : ApAt b n l w (k + 1) wr :=
  ⟨own2_congr (own2_forget h.1) (fun i hi => by rw [if_pos hi]), h.2.2⟩

theorem apIn_step {b : Int} {n : Nat} {l : List Int} {w : World} {k : Nat} {a : Option Addr} {j : Nat} {wr : World} (hk : k < l.length) (hj : j < n) (h : ApIn b n l w k a j wr) :
    ∃ v m, wr.cell? ⟨w.heap.size, j, none⟩ = some v ∧ wr.ownsRow w.heap.size 3 1 v m ((trackL b n (l.take k) j).map (Value.int .i64)) ∧ m ≤ k ∧
      ∀ (w' : World) (o : Obj) (g' cap' : Nat), w'.ownsRow w.heap.size 3 1 (.slice (some ⟨g', 0, none⟩) (m + 1) cap') (m + 1) ((trackL b n (l.take k) j).map (Value.int .i64) ++ [.int .i64 (dOf b n (l.getD k 0) j)]) →
        (wr.alloc o).grownBy w' v.ownBlock → (v.ownBlock = some g' ∨ g' = (wr.alloc o).heap.size) → g' < w'.heap.size →
        w'.cell? ⟨w.heap.size, j, none⟩ = some v ∧ w'.frozen? ⟨w.heap.size, j, none⟩ = false ∧
        ApIn b n l w k a (j + 1) (w'.setCell ⟨w.heap.size, j, none⟩ (.slice (some ⟨g', 0, none⟩) (m + 1) cap')) := by
  obtain ⟨v, h1, h2, h3, h4⟩ := own2_push h.1 j hj
  simp only [Nat.lt_irrefl, if_false] at h2 h4
  refine ⟨v, (trackL b n (l.take k) j).length, h1, h2, by rw [trackL_length]; simp; omega, fun w' o g' cap' hown hgrow hat hlt => ?_⟩
  obtain ⟨c1, c2, c3, c4⟩ := h4 _ w' o g' cap' _ rfl hown hgrow hat hlt
  refine ⟨c1, c2, own2_congr c3 (fun i hi => ?_), sl_keep h.2.1 c4, ?_⟩
  · by_cases e : i = j
    · subst e
      rw [if_pos rfl, if_pos (by omega), trackL_take_succ _ _ _ _ _ hk]
    · simp only [if_neg e]
      by_cases e2 : i < j
      · rw [if_pos e2, if_pos (by omega)]
      · rw [if_neg e2, if_neg (by omega)]
  · exact (Below.grown (h.2.2.alloc h.2.2.size o) hgrow (by have := h.2.2.size; simp; omega) h3).setCell (Nat.le_refl _) _

theorem ap_end {b : Int} {n : Nat} {l : List Int} {w wr : World} (h2 : b ≤ 6) (hn : n ≤ 5) (hl : l.length ≤ 60) (h : ApAt b n l w l.length wr) : ApGives w (tracksL b n l) .nilIface (.returned (.tuple #[.slice (some ⟨w.heap.size, 0, none⟩) n n, .nilIface])) wr := by
  have hL : (tracksL b n l).length = n := by simp [tracksL]
  refine ⟨some ⟨w.heap.size, 0, none⟩, n, by rw [hL], ?_, h.2⟩
  rw [hL]
  have := own2_end h.1 (by unfold maxLen; omega) (fun i _ => by rw [trackL_length]; unfold maxLen; simp; omega) (fun i _ => trackL_wf b h2 n _ i)
  rw [List.take_of_length_le (Nat.le_refl _)] at this
  exact this

def ApPost (b : Int) (n : Nat) (l : List Int) (w : World) (e : Ending) (w' : World) : Prop := ApGives w (if letB b n l = true then tracksL b n l else []) (if letB b n l = true then .nilIface else .iface 27 (.int .i64 1)) e w'

set_option maxHeartbeats 2000000 in
set_option maxRecDepth 4000 in
theorem apart_ok (b : Int) (n : Nat) (a : Option Addr) (len cap : Nat) (l : List Int) (w : World) (hM : codeM b n = 0) (hlen : len ≤ 60) (hs : Sl w a len l) :
    Calls Tryd.prog 40 #[.int .i64 b, .int .i64 n, .slice a len cap] w (ApPost b n l w) := by
  obtain ⟨i0, hi, hz0, hz1, hz2⟩ := info_parts info3
  obtain ⟨h1, h2, hn0, hn5, hpw, hmany⟩ := codeM_zero hM
  have hn : n ≤ 5 := by omega
  have hlen' : ¬ (60 : Int) < (len : Int) := by omega
  have HL := hide hs.1
  have HS := hide hs
  clear hs
  have HMC : Hid (Calls Tryd.prog 16 #[.int .i64 b, .int .i64 n] w fun e w' => e = .returned (.tuple #[.int .i64 (manyU b n), .nilIface]) ∧ w' = w) := by
    have := many_u b n w
    rw [hM] at this
    show Calls _ _ _ _ _
    simpa [errV] using this
  have hmk := make_rows n (by omega)
  have HE := hide (fun wr => @ap_end b n l w wr h2 hn (by rw [HL.out]; omega))
  have HSP := hide (fun x W => split_any b n x W h1 h2 hn)
  have H0 : Hid (ApAt b n l w 0 (w.alloc (.cells (madeCells #[.slice none 0 0] n) 22))) :=
    ⟨own2_congr (own2_made w n) (fun i _ => by simp [trackL]), (Below.refl _ _).alloc (Nat.le_refl _) _⟩
  have hmb : manyU b n ≤ 36 := by rw [hmany]; exact hpw
  have HLT := hide (letB_take_succ b n l)
  have HLN := hide (letB_not b n l)
  have HG1 : Hid (letB b n l = true → ∀ e w', ApGives w (tracksL b n l) .nilIface e w' → ApPost b n l w e w') := by
    intro h e w' hg; unfold ApPost; rw [if_pos h, if_pos h]; exact hg
  have HG2 : Hid (letB b n l = false → ∀ w', Below w.heap.size w w' → ApPost b n l w (.returned (.tuple #[.slice none 0 0, .iface 27 (.int .i64 1)])) w') := by
    intro h w' hb
    unfold ApPost
    rw [if_neg (by simp [h]), if_neg (by simp [h])]
    exact ⟨none, 0, rfl, ⟨rfl, by decide, Or.inl rfl⟩, hb⟩
  generalize manyU b n = M at HMC hmany hmb HLT HLN
  clear hM hpw hmany
  go_enter Tryd.func40, Tryd.ntmps40
  go_wp2_with (go_at_call 16; refine HMC.out.mono ?_; rintro e w' ⟨rfl, hw⟩; rw [hw]; clear hw w')
  generalize w.alloc (.cells (madeCells #[.slice none 0 0] n) 22) = W at H0 ⊢
  clear HMC
  go_loopw [32] (fun i wx => ∃ k : Nat, k ≤ len ∧ i = .int .i64 k ∧ letB b n (l.take k) = true ∧ ApAt b n l w k wx) (fun i _ => len - (intOf i).toNat)
  case atStart => exact ⟨0, by omega, rfl, rfl, H0.out⟩
  case round =>
    obtain ⟨k, hk, rfl, hlb, hat⟩ := hrel
    have HLB := hide hlb
    have HA := hide hat
    clear hlb hat
    by_cases hlt : k < len
    · have hlti : (k : Int) < (len : Int) := by omega
      obtain ⟨bb, o, rfl, hck⟩ := sl_cell (sl_below HS.out HA.out.2) k hlt
      have HLT' := hide (HLT.out k (by rw [HL.out]; exact hlt))
      have HLN' := hide (HLN.out k (by rw [HL.out]; exact hlt))
      have HST := hide (fun a' wr' => @apIn_start b n l w k a' wr wr' HA.out)
      have HIS := hide (fun a' j wr' => @apIn_step b n l w k a' j wr' (by rw [HL.out]; exact hlt))
      have HIE := hide (fun a' wr' => @apIn_end b n l w k a' wr')
      have HSI : Hid (∀ a' j wr', ApIn b n l w k a' j wr' → Sl wr' a' n (splitL b n (l.getD k 0))) := fun _ _ _ h => h.2.1
      have HIB : Hid (∀ a' j wr', ApIn b n l w k a' j wr' → w.heap.size ≤ wr'.heap.size) := fun _ _ _ h => h.2.2.size
      have HSG := hide (splitL_get b n (l.getD k 0))
      generalize ApIn b n l w k = IN at HST HIS HIE HSI HIB
      generalize l.getD k 0 = x at hck HLT' HLN' HST HIS HSI HSG
      by_cases hx : 0 ≤ x ∧ x < M
      · obtain ⟨hx1, hx2⟩ := hx
        have hxm : decide (M ≤ x) = false := by simp; omega
        obtain ⟨wo, hwo⟩ : ∃ wo : World, wo = wr := ⟨_, rfl⟩
        rw [← hwo] at hck HA HST ⊢
        clear hwo wr
        go_wp2_with fail
        refine (HSP.out x wo hx1 (by omega)).mono ?_
        rintro e w1 ⟨a1, cap1, rfl, hs1, hb1⟩
        rw [splitL_length] at hs1 ⊢
        have HI0 := hide (HST.out a1 w1 hs1 hb1)
        clear hs1 hb1
        go_wp2
        go_loopw [49] (fun i wx => ∃ j : Nat, j ≤ n ∧ i = .int .i64 j ∧ IN a1 j wx) (fun i _ => n - (intOf i).toNat)
        case atStart => exact ⟨0, by omega, rfl, HI0.out⟩
        case round =>
          obtain ⟨j, hj, rfl, hin⟩ := hrel
          have HIN := hide hin
          clear hin
          by_cases hjt : j < n
          · have hjti : (j : Int) < (n : Int) := by omega
            obtain ⟨bs, os, rfl, hcs⟩ := sl_cell (HSI.out _ _ _ HIN.out) j hjt
            rw [HSG.out j hjt] at hcs
            obtain ⟨v, m, hcv, hown, hmk', hnext⟩ := HIS.out _ _ _ hjt HIN.out
            have HOWN := hide hown
            have HNX := hide hnext
            have HSZ := hide (HIB.out _ _ _ HIN.out)
            clear hown hnext
            generalize dOf b n x j = y at hcs HNX
            have HL1 : Hid ((trackL b n (l.take k) j).map (Value.int .i64) = (trackL b n (l.take k) j).map (Value.int .i64)) := rfl
            generalize (trackL b n (l.take k) j).map (Value.int .i64) = xs at HOWN HNX
            go_wp2_with (at_builtin; refine wpList_append_lies _ rfl _ _ 22 rfl w.heap.size 3 i0 (.int .i64 0) 1 8 Tryd.underlying22 hi hz0 hz1 hz2 rfl (by decide) v m xs rfl (HOWN.out.alloc _) ⟨wr.heap.size, 0, none⟩ 1 1 [.int .i64 y] rfl rfl (one_new _ _ _) (fun u hu => by simp at hu; subst hu; rfl) (by omega) (by unfold maxLen; omega) (by omega) (by have := HSZ.out; simp; omega) _ rfl ?_; intro g' cap' w3 hown3 hgrow3 hat3 hlt3; obtain ⟨hc3, hf3, hin3⟩ := HNX.out w3 _ g' cap' hown3 hgrow3 hat3 hlt3; have HIN3 := hide hin3; clear hin3 hown3 hgrow3 hat3)
            go_roundw
            case rel => exact ⟨j + 1, by omega, by go_num, HIN3.out⟩
            case measure => simp [intOf]; omega
          · have hjti : ¬ ((j : Int) < (n : Int)) := by omega
            obtain rfl : j = n := by omega
            have HEN := hide (HIE.out _ _ HIN.out)
            go_wp2
            go_roundw
            case rel => exact ⟨k + 1, by omega, by go_num, by rw [HLT'.out, HLB.out]; simp [hx1, hx2], HEN.out⟩
            case measure => simp [intOf]; omega
      · have HF := hide (HLN'.out hx)
        have hx' : x < 0 ∨ (0 ≤ x ∧ M ≤ x) := by omega
        clear hx
        rcases hx' with hx | ⟨hx1, hx2⟩
        all_goals
          go_wp2
          go_ret2
          exact HG2.out HF.out _ HA.out.2
    · have hlti : ¬ ((k : Int) < (len : Int)) := by omega
      obtain rfl : k = len := by omega
      go_wp2
      go_ret2
      rw [List.take_of_length_le (by rw [HL.out]; omega)] at HLB
      exact HG1.out HLB.out _ _ (HE.out wr (by rw [HL.out]; exact HA.out))
end Go.Proofs.YtdmkjhccdknndaaDoor
