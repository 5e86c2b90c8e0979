/- The contract of letter.Nums. -/
import Derived.Test.YtdmkjhccdknndaaDoorLc2
namespace Go.Proofs.YtdmkjhccdknndaaDoor
open Go.RowKit

def numC (b : Int) (n : Nat) (l : List Int) : List Int := (List.range n).map fun i => codeV b (trackL b n l i)
def numsL (b : Int) (n : Nat) (l : List Int) : List Int := (List.range n).map fun i => valU b (trackL b n l i)
def codeNm (b t : Int) (l : List Int) : Int := if codeW b t l = 0 then firstC (numC b t.toNat l) else codeW b t l
theorem numC_length (b : Int) (n : Nat) (l : List Int) : (numC b n l).length = n := by simp [numC]
theorem numC_get (b : Int) (n : Nat) (l : List Int) (i : Nat) (h : i < n) : (numC b n l).getD i 0 = codeV b (trackL b n l i) := by simp [numC, List.getD, h]
theorem numsL_length (b : Int) (n : Nat) (l : List Int) : (numsL b n l).length = n := by simp [numsL]
theorem numsL_get (b : Int) (n : Nat) (l : List Int) (i : Nat) (h : i < n) : (numsL b n l).getD i 0 = valU b (trackL b n l i) := by simp [numsL, List.getD, h]

theorem val_nonneg (b : Int) (h1 : 1 ≤ b) (h2 : b ≤ 6) (l : List Int) (hd : digB b l = true) : 0 ≤ val b l := by
  have := valTo_bd b h1 h2 l (fun j hj => digB_get h2 hd j hj) l.length (Nat.le_refl _)
  rw [valTo_all] at this
  exact this.1
theorem valU_bd (b : Int) (l : List Int) : 0 ≤ valU b l ∧ valU b l ≤ 1099511627776 := by
  unfold valU
  split
  · rename_i h
    have h' := h
    unfold codeV at h
    split at h
    · rename_i hd
      split at h
      · rename_i hv
        refine ⟨?_, hv⟩
        unfold codeD at hd
        split at hd
        · rename_i hb
          split at hd
          · split at hd
            · rename_i hdig
              exact val_nonneg b hb.1 hb.2 l hdig
            · cases hd
          · cases hd
        · cases hd
      · cases h
    · contradiction
  · omega

/-- The loop of Nums, behind k tracks. -/
def NmAt (b : Int) (n : Nat) (l : List Int) (w : World) (k : Nat) (wr : World) : Prop :=
  wr.rowIs w.heap.size 3 n (fun p => .int .i64 (if p < k then valU b (trackL b n l p) else 0)) ∧ Below w.heap.size w wr

theorem nmAt_step {b : Int} {n : Nat} {l : List Int} {w wr w2 : World} {k : Nat} (h : NmAt b n l w k wr) (hk : k < n) (hb : Below wr.heap.size wr w2) :
    w2.cell? ⟨w.heap.size, k, none⟩ = some (.int .i64 0) ∧ w2.frozen? ⟨w.heap.size, k, none⟩ = false ∧ Below w.heap.size w w2 ∧ ∀ x, x = valU b (trackL b n l k) → NmAt b n l w (k + 1) (w2.setCell ⟨w.heap.size, k, none⟩ (.int .i64 x)) := by
  have h1 := h.1.of_block (hb.block _ h.1.lt)
  refine ⟨?_, h1.frozen k, below_step h.2 hb, fun x hx => ⟨(h1.set k _).congr fun p hp => ?_, (below_step h.2 hb).setCell (Nat.le_refl _) _⟩⟩
  · rw [h1.cell hk, if_neg (by omega)]
  · by_cases e : p = k
    · subst e; rw [if_pos rfl, if_pos (by omega), hx]
    · rw [if_neg e]
      by_cases e2 : p < k
      · rw [if_pos e2, if_pos (by omega)]
      · rw [if_neg e2, if_neg (by omega)]

theorem nmAt_end {b : Int} {n : Nat} {l : List Int} {w0 w wr : World} (hn : n ≤ 5) (hb : Below w0.heap.size w0 w) (h : NmAt b n l w n wr) : OfU w0 (numsL b n l) .nilIface (.returned (.tuple #[.slice (some ⟨w.heap.size, 0, none⟩) n n, .nilIface])) wr := by
  refine ⟨some ⟨w.heap.size, 0, none⟩, n, by rw [numsL_length], ⟨?_, fun ad e => by cases e; exact hb.size⟩, below_step hb h.2⟩
  rw [numsL_length]
  refine sl_of_rowIs (numsL_length _ _ _) (by unfold maxLen; omega) (fun x hx => ?_) (h.1.congr fun i hi => ?_)
  · simp only [numsL, List.mem_map, List.mem_range] at hx
    obtain ⟨i, _, rfl⟩ := hx
    have := valU_bd b (trackL b n l i)
    exact Go.WalkArith.wf_i64 (by omega)
  · rw [if_pos hi, numsL_get _ _ _ _ hi]

theorem ofU_none (w w' : World) (er : Value) (hb : Below w.heap.size w w') : OfU w [] er (.returned (.tuple #[.slice none 0 0, er])) w' := ⟨none, 0, rfl, ⟨sl_nil _, fun _ h => by cases h⟩, hb⟩

set_option maxHeartbeats 1000000 in
set_option maxRecDepth 4000 in
theorem nums_err (b t : Int) (a : Option Addr) (len cap : Nat) (l : List Int) (w : World) (hs : Sl w a len l) (hc : codeW b t l ≠ 0) :
    Calls Tryd.prog 29 #[.int .i64 b, .int .i64 t, .slice a len cap] w (OfU w [] (errV (codeW b t l))) := by
  have HA := hide (apart_u b t a len cap l w hs)
  unfold ApU at HA
  rw [if_neg hc, errV_ne hc] at HA
  rw [errV_ne hc]
  generalize codeW b t l = c at HA ⊢
  clear hs hc
  go_enter Tryd.func29, Tryd.ntmps29
  go_wp2_with fail
  refine HA.out.mono ?_
  rintro e w1 ⟨a1, cap1, rfl, hs1, hb1⟩
  have HB1 := hide hb1
  clear hs1 hb1 HA
  go_wp2
  go_ret2
  exact ofU_none _ _ _ HB1.out

/-- What Nums gives of a word without fault. -/
def NmU (b : Int) (n : Nat) (l : List Int) (w : World) (e : Ending) (w' : World) : Prop := OfU w (if firstC (numC b n l) = 0 then numsL b n l else []) (errV (firstC (numC b n l))) e w'

set_option maxHeartbeats 1000000 in
set_option maxRecDepth 4000 in
theorem nums_ok (b : Int) (n : Nat) (a : Option Addr) (len cap : Nat) (l : List Int) (w : World) (hs : Sl w a len l) (hc : codeW b n l = 0) :
    Calls Tryd.prog 29 #[.int .i64 b, .int .i64 n, .slice a len cap] w (NmU b n l w) := by
  have HA := hide (apart_u b n a len cap l w hs)
  unfold ApU at HA
  rw [if_pos hc, hc, errV_zero, Int.toNat_natCast] at HA
  obtain ⟨hM, hl, hlet⟩ := codeW_zero hc
  obtain ⟨h1, h2, h3, h4, _, _⟩ := codeM_zero hM
  have hn : n ≤ 5 := by omega
  have HTG := hide (tracksL_get b n l)
  have HCG := hide (numC_get b n l)
  have HG1 : Hid ((∀ j, j < n → codeV b (trackL b n l j) = 0) → ∀ e w', OfU w (numsL b n l) .nilIface e w' → NmU b n l w e w') := by
    intro h e w' hg
    have : firstC (numC b n l) = 0 := firstC_all _ fun j hj => by rw [numC_length] at hj; rw [numC_get _ _ _ _ hj]; exact h j hj
    unfold NmU
    rw [this, if_pos rfl, errV_zero]
    exact hg
  have HG2 : Hid (∀ k, k < n → (∀ j, j < k → codeV b (trackL b n l j) = 0) → codeV b (trackL b n l k) ≠ 0 → ∀ w', Below w.heap.size w w' → NmU b n l w (.returned (.tuple #[.slice none 0 0, errV (codeV b (trackL b n l k))])) w') := by
    intro k hk h hck w' hb
    have : firstC (numC b n l) = codeV b (trackL b n l k) := by
      rw [firstC_pre (numC b n l) k (fun j hj => by rw [numC_get _ _ _ _ (by omega)]; exact h j hj) (by rw [numC_length]; exact hk) (by rw [numC_get _ _ _ _ hk]; exact hck), numC_get _ _ _ _ hk]
    unfold NmU
    rw [this, if_neg hck]
    exact ofU_none _ _ _ hb
  have hmk := make_ints n (by omega)
  clear hs hc hM hlet hl
  go_enter Tryd.func29, Tryd.ntmps29
  go_wp2_with fail
  refine HA.out.mono ?_
  rintro e w1 ⟨a1, cap1, rfl, hs1, hb1⟩
  rw [tracksL_length] at hs1 ⊢
  have HB1 := hide hb1
  have HS1 := hide hs1
  have HEND := hide (fun wr => @nmAt_end b n l w w1 wr hn hb1)
  have H0 : Hid (NmAt b n l w1 0 (w1.alloc (.cells (madeCells #[.int .i64 0] n) 3))) := by
    refine ⟨(World.rowIs_made w1 (.int .i64 0) n 3).congr fun p hp => ?_, (Below.refl _ _).alloc (Nat.le_refl _) _⟩
    rw [if_neg (by omega)]
  clear hs1 hb1 HA
  go_wp2
  generalize w1.alloc (.cells (madeCells #[.int .i64 0] n) 3) = W at H0 ⊢
  go_loopw [9, 27] (fun s i wx => ∃ k : Nat, k ≤ n ∧ i = .int .i64 k ∧ s = .nilIface ∧ (∀ j, j < k → codeV b (trackL b n l j) = 0) ∧ NmAt b n l w1 k wx) (fun _ i _ => n - (intOf i).toNat)
  case atStart => exact ⟨0, by omega, rfl, rfl, by omega, H0.out⟩
  case round =>
    obtain ⟨k, hk, rfl, rfl, hd, hat⟩ := hrel
    have HD := hide hd
    have HAT := hide hat
    clear hd hat
    by_cases hlt : k < n
    · have hlti : (k : Int) < (n : Int) := by omega
      obtain ⟨bb, o, a2, cap2, rfl, hck, hs2⟩ := sl2_cell (sl2_below HS1.out HAT.out.2) k hlt
      rw [HTG.out k hlt] at hck hs2
      have HV := hide (value_u b a2 _ cap2 _ wr hs2)
      have HSTEP := hide (fun w2 => @nmAt_step b n l w1 wr w2 k HAT.out hlt)
      have HG2' := hide (HG2.out k hlt HD.out)
      have HX : Hid (codeV b (trackL b n l k) = 0 → ∀ j, j < k + 1 → codeV b (trackL b n l j) = 0) := by
        intro h j hj
        by_cases e : j = k
        · subst e; exact h
        · exact HD.out j (by omega)
      clear hs2
      generalize (trackL b n l k).length = m at hck HV
      generalize codeV b (trackL b n l k) = c at HV HG2' HX
      generalize hv : valU b (trackL b n l k) = v at HV
      have HVV := hide hv
      clear hv
      go_wp2_with fail
      refine HV.out.mono ?_
      rintro e w2 ⟨rfl, hb2⟩
      obtain ⟨hc2, hf2, hb3, hn2⟩ := HSTEP.out w2 hb2
      have HN2 := hide (hn2 v HVV.out.symm)
      have HB3 := hide (below_step HB1.out hb3)
      clear hn2 hb2 hb3 HV HSTEP
      by_cases hc : c = 0
      · replace HX := hide (HX.out hc)
        subst hc
        rw [errV_zero]
        go_wp2
        go_roundw
        case rel => exact ⟨k + 1, by omega, by go_num, rfl, HX.out, HN2.out⟩
        case measure => simp [intOf]; omega
      · replace HG2' := hide (HG2'.out hc)
        rw [errV_ne hc] at HG2' ⊢
        clear hc HX
        have HB4 := hide (HB3.out.setCell (p := ⟨w1.heap.size, k, none⟩) HB1.out.size (.int .i64 v))
        go_wp2
        go_ret2
        exact HG2'.out _ HB4.out
    · have hlti : ¬ ((k : Int) < (n : Int)) := by omega
      obtain rfl : k = n := by omega
      go_wp2
      go_ret2
      exact HG1.out HD.out _ _ (HEND.out wr HAT.out)

def NumsU (b t : Int) (l : List Int) (w : World) (e : Ending) (w' : World) : Prop := OfU w (if codeNm b t l = 0 then numsL b t.toNat l else []) (errV (codeNm b t l)) e w'
theorem nums_u (b t : Int) (a : Option Addr) (len cap : Nat) (l : List Int) (w : World) (hs : Sl w a len l) :
    Calls Tryd.prog 29 #[.int .i64 b, .int .i64 t, .slice a len cap] w (NumsU b t l w) := by
  unfold NumsU codeNm
  by_cases hc : codeW b t l = 0
  · obtain ⟨h1, h2, h3, h4, _, _⟩ := codeM_zero (codeW_zero hc).1
    obtain ⟨n, rfl⟩ : ∃ n : Nat, t = n := ⟨t.toNat, by omega⟩
    have := nums_ok b n a len cap l w hs hc
    rw [if_pos hc, Int.toNat_natCast]
    exact this
  · have := nums_err b t a len cap l w hs hc
    rw [if_neg hc, if_neg hc]
    exact this
end Go.Proofs.YtdmkjhccdknndaaDoor
