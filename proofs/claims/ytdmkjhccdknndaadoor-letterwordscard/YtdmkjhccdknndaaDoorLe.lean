/- The contract of letter.Word. -/
import Derived.Test.YtdmkjhccdknndaaDoorLb
import Derived.Test.YtdmkjhccdknndaaDoorLd
import Derived.Test.YtdmkjhccdknndaaDoorP
namespace Go.Proofs.YtdmkjhccdknndaaDoor
open Go.RowKit

def rowsL (b : Int) (nums : List Int) : List (List Int) := nums.map (numL b)
def longL (rows : List (List Int)) : Nat := rows.foldl (fun m d => max m d.length) 0
def wordL (b : Int) (nums : List Int) : List Int := sideL b (longL (rowsL b nums)) (rowsL b nums)
def codeWd (b : Int) (nums : List Int) : Int := if codeM b nums.length = 0 then firstC (nums.map (codeN b)) else codeM b nums.length

theorem rowsL_length (b : Int) (nums : List Int) : (rowsL b nums).length = nums.length := by simp [rowsL]
theorem rowsL_get (b : Int) (nums : List Int) (i : Nat) (h : i < nums.length) : (rowsL b nums).getD i [] = numL b (nums.getD i 0) := by simp [rowsL, List.getD, h]
theorem longL_snoc (rows : List (List Int)) (d : List Int) : longL (rows ++ [d]) = max (longL rows) d.length := by simp [longL, List.foldl_append]
theorem longL_take_succ (b : Int) (nums : List Int) (k : Nat) (h : k < nums.length) : longL ((rowsL b nums).take (k + 1)) = max (longL ((rowsL b nums).take k)) (numL b (nums.getD k 0)).length := by
  have h' : k < (rowsL b nums).length := by rw [rowsL_length]; exact h
  rw [List.take_succ_eq_append_getElem h', longL_snoc]
  congr 2
  simp [rowsL, List.getD, h]
theorem numL_length (b n : Int) : (numL b n).length ≤ 60 := by
  unfold numL; split
  · exact dgs_length b n
  · simp
theorem numL_digB (b n : Int) : digB b (numL b n) = true := by
  unfold numL; split
  · rename_i h; exact dgs_digB b n h.1.1 h.1.2 h.2.1 h.2.2
  · rfl
theorem longL_le (b : Int) (nums : List Int) (k : Nat) (hk : k ≤ nums.length) : longL ((rowsL b nums).take k) ≤ 60 := by
  induction k with
  | zero => simp [longL]
  | succ k ih =>
    rw [longL_take_succ b nums k (by omega)]
    have := ih (by omega)
    have := numL_length b (nums.getD k 0)
    omega

/-- Behind k numbers. -/
def WdAt (b : Int) (nums : List Int) (w : World) (k : Nat) (wr : World) : Prop :=
  ∃ V : Nat → Value, wr.rowIs w.heap.size 22 nums.length V ∧ (∀ j, j < k → ∃ a cap, V j = .slice a (numL b (nums.getD j 0)).length cap ∧ SlN (w.heap.size + 1) wr a (numL b (nums.getD j 0)).length (numL b (nums.getD j 0))) ∧ Below w.heap.size w wr

theorem wdAt_step {b : Int} {nums : List Int} {w wr w2 : World} {k : Nat} {a : Option Addr} {cap : Nat} (h : WdAt b nums w k wr) (hk : k < nums.length) (hb : Below wr.heap.size wr w2) (hs : SlN wr.heap.size w2 a (numL b (nums.getD k 0)).length (numL b (nums.getD k 0))) :
    ∃ v, w2.cell? ⟨w.heap.size, k, none⟩ = some v ∧ w2.frozen? ⟨w.heap.size, k, none⟩ = false ∧ WdAt b nums w (k + 1) (w2.setCell ⟨w.heap.size, k, none⟩ (.slice a (numL b (nums.getD k 0)).length cap)) := by
  obtain ⟨V, h1, h2, h3⟩ := h
  have r := h1.of_block (hb.block _ h1.lt)
  have keep : ∀ {a' len' l'}, SlN (w.heap.size + 1) w2 a' len' l' → SlN (w.heap.size + 1) (w2.setCell ⟨w.heap.size, k, none⟩ (.slice a (numL b (nums.getD k 0)).length cap)) a' len' l' := fun {a' len' l'} hs' => ⟨sl_keep hs'.1 (fun x hx => by
    obtain ⟨_, ad, e, rfl⟩ := hx
    have := hs'.2 ad e
    exact Below.heap_setCell _ _ _ _ (by simp; omega)), hs'.2⟩
  refine ⟨V k, r.cell hk, r.frozen k, fun j => if j = k then .slice a (numL b (nums.getD k 0)).length cap else V j, r.set k _, fun j hj => ?_, (below_step h3 hb).setCell (Nat.le_refl _) _⟩
  by_cases e : j = k
  · subst e
    exact ⟨a, cap, if_pos rfl, keep (hs.mono h1.lt)⟩
  · obtain ⟨a', cap', e1, e2⟩ := h2 j (by omega)
    exact ⟨a', cap', by simp only [if_neg e]; exact e1, keep ⟨sl_below e2.1 hb, e2.2⟩⟩

theorem wdAt_end {b : Int} {nums : List Int} {w wr : World} (hn : nums.length ≤ 5) (h : WdAt b nums w nums.length wr) : Sl2 wr (some ⟨w.heap.size, 0, none⟩) nums.length (rowsL b nums) := by
  obtain ⟨V, h1, h2, h3⟩ := h
  refine ⟨rowsL_length _ _, by unfold maxLen; omega, Or.inr ⟨w.heap.size, 0, rfl, fun i hi => ?_⟩⟩
  obtain ⟨a, cap, e1, e2⟩ := h2 i hi
  rw [rowsL_get _ _ _ hi, Nat.zero_add, h1.cell hi]
  exact ⟨a, cap, by rw [e1], e2.1⟩

def WordU (b : Int) (nums : List Int) (w : World) (e : Ending) (w' : World) : Prop := OfU w (if codeWd b nums = 0 then wordL b nums else []) (errV (codeWd b nums)) e w'

set_option maxHeartbeats 1000000 in
set_option maxRecDepth 4000 in
theorem word_many (b : Int) (a : Option Addr) (len cap : Nat) (w : World) (hM : codeM b len ≠ 0) :
    Calls Tryd.prog 23 #[.int .i64 b, .slice a len cap] w fun e w' => e = .returned (.tuple #[.slice none 0 0, errV (codeM b len)]) ∧ w' = w := by
  have HMC := hide (many_u b len w)
  rw [errV_ne hM] at HMC ⊢
  generalize codeM b len = c at HMC ⊢
  generalize manyU b len = M at HMC
  clear hM
  go_enter Tryd.func23, Tryd.ntmps23
  go_wp2_with (go_at_call 16; refine HMC.out.mono ?_; rintro e w' ⟨rfl, hw⟩; rw [hw]; clear hw w')
  go_ret2
  exact ⟨by simp, rfl⟩

set_option maxHeartbeats 1000000 in
set_option maxRecDepth 4000 in
theorem word_ok (b : Int) (a : Option Addr) (len cap : Nat) (nums : List Int) (w : World) (hM : codeM b len = 0) (hs : Sl w a len nums) :
    Calls Tryd.prog 23 #[.int .i64 b, .slice a len cap] w (WordU b nums w) := by
  obtain ⟨h1, h2, h3, h4, _, _⟩ := codeM_zero hM
  have hn : len ≤ 5 := by omega
  have HL := hide hs.1
  have HS := hide hs
  have HMC := hide (many_u b len w)
  rw [hM, errV_zero] at HMC
  generalize manyU b len = M at HMC
  have hmk := make_rows len (by omega)
  have HSTEP := hide (fun wr w2 k a cap => @wdAt_step b nums w wr w2 k a cap)
  have HLT := hide (longL_take_succ b nums)
  have HLE := hide (longL_le b nums)
  have HNL := hide (numL_length b)
  have HSIDE : Hid (∀ wr, WdAt b nums w len wr → Calls Tryd.prog 39 #[.int .i64 b, .slice (some ⟨w.heap.size, 0, none⟩) len len, .int .i64 (longL (rowsL b nums) : Nat)] wr (GivesRow wr (wordL b nums))) := by
    intro wr h
    have hL := hs.1
    subst hL
    refine side_any b _ _ _ _ (rowsL b nums) wr h1 h2 hn ?_ ?_ ?_ (wdAt_end hn h)
    · have := longL_le b nums nums.length (Nat.le_refl _)
      rw [List.take_of_length_le (by rw [rowsL_length]; omega)] at this
      exact this
    · intro d hd
      simp only [rowsL, List.mem_map] at hd
      obtain ⟨x, _, rfl⟩ := hd
      exact numL_digB b x
    · intro d hd
      simp only [rowsL, List.mem_map] at hd
      obtain ⟨x, _, rfl⟩ := hd
      exact numL_length b x
  have H0 : Hid (WdAt b nums w 0 (w.alloc (.cells (madeCells #[.slice none 0 0] len) 22))) := by
    refine ⟨_, by rw [hs.1]; exact World.rowIs_made w _ len _, fun j hj => by omega, (Below.refl _ _).alloc (Nat.le_refl _) _⟩
  have HG1 : Hid ((∀ j, j < len → codeN b (nums.getD j 0) = 0) → ∀ e w', OfU w (wordL b nums) .nilIface e w' → WordU b nums w e w') := by
    intro h e w' hg
    have : codeWd b nums = 0 := by
      unfold codeWd
      rw [hs.1, if_pos hM]
      refine firstC_all _ fun j hj => ?_
      have hj' : j < nums.length := by simpa using hj
      have := h j (by rw [← hs.1]; exact hj')
      simpa [List.getD, hj'] using this
    unfold WordU
    rw [this, if_pos rfl, errV_zero]
    exact hg
  have HG2 : Hid (∀ k, k < len → (∀ j, j < k → codeN b (nums.getD j 0) = 0) → codeN b (nums.getD k 0) ≠ 0 → ∀ w', Below w.heap.size w w' → WordU b nums w (.returned (.tuple #[.slice none 0 0, errV (codeN b (nums.getD k 0))])) w') := by
    intro k hk h hck w' hb
    have hk' : k < nums.length := by rw [hs.1]; exact hk
    have hg : ∀ j, j < nums.length → (nums.map (codeN b)).getD j 0 = codeN b (nums.getD j 0) := fun j hj => by simp [List.getD, hj]
    have : codeWd b nums = codeN b (nums.getD k 0) := by
      unfold codeWd
      rw [hs.1, if_pos hM, firstC_pre (nums.map (codeN b)) k (fun j hj => by rw [hg j (by omega)]; exact h j hj) (by simpa using hk') (by rw [hg k hk']; exact hck), hg k hk']
    unfold WordU
    rw [this, if_neg hck]
    exact ofU_none _ _ _ hb
  clear hs hM
  go_enter Tryd.func23, Tryd.ntmps23
  go_wp2_with (go_at_call 16; refine HMC.out.mono ?_; rintro e w' ⟨rfl, hw⟩; rw [hw]; clear hw w')
  generalize w.alloc (.cells (madeCells #[.slice none 0 0] len) 22) = W at H0 ⊢
  clear HMC
  go_loopw [9, 29] (fun s i wx => ∃ k : Nat, k ≤ len ∧ i = .int .i64 k ∧ s = .int .i64 (longL ((rowsL b nums).take k) : Nat) ∧ (∀ j, j < k → codeN b (nums.getD j 0) = 0) ∧ WdAt b nums w k wx) (fun _ i _ => len - (intOf i).toNat)
  case atStart => exact ⟨0, by omega, rfl, rfl, by omega, H0.out⟩
  case round =>
    obtain ⟨k, hk, rfl, rfl, hd, hat⟩ := hrel
    have HD := hide hd
    have HAT := hide hat
    have HBA : Hid (Below w.heap.size w wr) := by obtain ⟨_, _, _, h⟩ := hat; exact h
    clear hd hat
    have hle := HLE.out k (by rw [HL.out]; exact hk)
    by_cases hlt : k < len
    · have hlti : (k : Int) < (len : Int) := by omega
      obtain ⟨bb, o, rfl, hck⟩ := sl_cell (sl_below HS.out HBA.out) k hlt
      have HLT' := hide (HLT.out k (by rw [HL.out]; exact hlt))
      have HST' := hide (fun w2 a cap => HSTEP.out wr w2 k a cap HAT.out (by rw [HL.out]; exact hlt))
      have hnl := HNL.out (nums.getD k 0)
      have HG2' := hide (HG2.out k hlt HD.out)
      have HX : Hid (codeN b (nums.getD k 0) = 0 → ∀ j, j < k + 1 → codeN b (nums.getD j 0) = 0) := by
        intro h j hj
        by_cases e : j = k
        · subst e; exact h
        · exact HD.out j (by omega)
      have HOF := hide (of_u b (nums.getD k 0) wr)
      generalize codeN b (nums.getD k 0) = c at HG2' HX HOF
      generalize hgl : numL b (nums.getD k 0) = dl at HLT' HST' hnl HOF
      clear hgl
      generalize nums.getD k 0 = x at hck HOF
      generalize longL ((rowsL b nums).take k) = L at hle HLT' ⊢
      go_wp2_with fail
      refine HOF.out.mono ?_
      rintro e w2 ⟨a2, cap2, rfl, hs2, hb2⟩
      obtain ⟨v, hcv, hfv, hnx⟩ := HST'.out w2 a2 cap2 hb2 hs2
      have HNX := hide hnx
      have HB2 := hide (below_step HBA.out hb2)
      clear hnx hb2 hs2 HOF HST'
      by_cases hc : c = 0
      · replace HX := hide (HX.out hc)
        subst hc
        rw [errV_zero]
        go_wp2
        go_roundw
        case rel => exact ⟨k + 1, by omega, by go_num, by rw [HLT'.out]; congr 1; split <;> omega, HX.out, HNX.out⟩
        case measure => simp [intOf]; omega
      · replace HG2' := hide (HG2'.out hc)
        rw [errV_ne hc] at HG2' ⊢
        clear hc HX
        go_wp2
        go_ret2
        exact HG2'.out _ HB2.out
    · have hlti : ¬ ((k : Int) < (len : Int)) := by omega
      obtain rfl : k = len := by omega
      have HALL : Hid ((rowsL b nums).take k = rowsL b nums) := List.take_of_length_le (by rw [rowsL_length, HL.out]; omega)
      rw [HALL.out] at hle ⊢
      have HSD := hide (HSIDE.out wr HAT.out)
      generalize longL (rowsL b nums) = L at hle HSD ⊢
      go_wp2_with fail
      refine HSD.out.mono ?_
      rintro e w2 ⟨a2, cap2, rfl, hs2, hb2⟩
      have HF := hide (HG1.out HD.out _ _ ⟨a2, cap2, rfl, hs2.mono HBA.out.size, below_step HBA.out hb2⟩)
      clear hs2 hb2 HSD
      go_wp2
      go_ret2
      exact HF.out

theorem word_u (b : Int) (a : Option Addr) (len cap : Nat) (nums : List Int) (w : World) (hs : Sl w a len nums) :
    Calls Tryd.prog 23 #[.int .i64 b, .slice a len cap] w (WordU b nums w) := by
  by_cases hM : codeM b len = 0
  · exact word_ok b a len cap nums w hM hs
  · refine (word_many b a len cap w hM).mono ?_
    rintro e w' ⟨rfl, rfl⟩
    have hc : codeWd b nums = codeM b len := by unfold codeWd; rw [hs.1, if_neg hM]
    unfold WordU
    rw [hc, if_neg hM]
    exact ofU_none _ _ _ (Below.refl _ _)
end Go.Proofs.YtdmkjhccdknndaaDoor
