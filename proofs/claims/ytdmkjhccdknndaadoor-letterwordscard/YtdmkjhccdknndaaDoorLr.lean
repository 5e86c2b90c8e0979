/- The reference's WordOf: contract. -/
import Derived.Test.YtdmkjhccdknndaaDoorLq
import Derived.Test.YtdmkjhccdknndaaDoorLf
namespace Go.Proofs.YtdmkjhccdknndaaDoor
open Go.RowKit

/-- Rows gathered by append, behind k numbers. -/
def RwAt (w : World) (ls : Nat → List Int) (k : Nat) (v : Value) (wr : World) : Prop :=
  ∃ vals : List Value, wr.ownsRow w.heap.size 22 1 v k vals ∧ (∀ j, j < k → ∃ a cap, vals[j]? = some (.slice a (ls j).length cap) ∧ Sl wr a (ls j).length (ls j) ∧ ∀ x, slB a (ls j).length x → v.ownBlock ≠ some x) ∧ Below w.heap.size w wr

theorem rwAt_nil (w : World) (ls : Nat → List Int) : RwAt w ls 0 (.slice none 0 0) w := ⟨[], World.ownsRow_nil _ _ _ _, fun j hj => by omega, Below.refl _ _⟩

theorem rwAt_push {w wr w2 : World} {ls : Nat → List Int} {k : Nat} {v : Value} {a : Option Addr} {cap : Nat} (h : RwAt w ls k v wr) (hb : Below wr.heap.size wr w2) (hs : SlN wr.heap.size w2 a (ls k).length (ls k)) :
    ∃ vals : List Value, w2.ownsRow w.heap.size 22 1 v k vals ∧ w.heap.size ≤ w2.heap.size ∧
      ∀ (w3 : World) (o : Obj) (g' cap' : Nat), w3.ownsRow w.heap.size 22 1 (.slice (some ⟨g', 0, none⟩) (k + 1) cap') (k + 1) (vals ++ [.slice a (ls k).length cap]) → (w2.alloc o).grownBy w3 v.ownBlock → (v.ownBlock = some g' ∨ g' = (w2.alloc o).heap.size) → RwAt w ls (k + 1) (.slice (some ⟨g', 0, none⟩) (k + 1) cap') w3 := by
  obtain ⟨vals, h1, h2, h3⟩ := h
  have h1' : w2.ownsRow w.heap.size 22 1 v k vals := ownsRow_of_block h1 (fun x hx => hb.block _ (h1.lt x hx).2)
  have hvl : vals.length = k := by have := h1.1; omega
  refine ⟨vals, h1', Nat.le_trans h3.size hb.size, fun w3 o g' cap' hown hgrow hat => ?_⟩
  have hsz : (w2.alloc o).heap.size = w2.heap.size + 1 := by simp
  have keep : ∀ {a' len' l'}, Sl w2 a' len' l' → (∀ x, slB a' len' x → v.ownBlock ≠ some x) → Sl w3 a' len' l' := fun {a' len' l'} hs' hne => sl_keep hs' fun x hx => by
    have hlt := slB_lt hs' hx
    rw [hgrow.block x (by omega) (fun e => hne x hx e.symm), Below.heap_alloc _ _ _ hlt]
  have far : ∀ {a' len' l'}, Sl w2 a' len' l' → (∀ x, slB a' len' x → v.ownBlock ≠ some x) → ∀ x, slB a' len' x → Value.ownBlock (.slice (some ⟨g', 0, none⟩) (k + 1) cap') ≠ some x := fun {a' len' l'} hs' hne x hx e => by
    have hlt := slB_lt hs' hx
    have e' : g' = x := by simpa [Value.ownBlock] using e
    subst e'
    rcases hat with h | h
    · exact hne _ hx h
    · omega
  have hnew : ∀ x, slB a (ls k).length x → v.ownBlock ≠ some x := fun x hx e => by
    obtain ⟨_, ad, e1, rfl⟩ := hx
    have := hs.2 ad e1
    have := (h1.lt _ e).2
    omega
  refine ⟨vals ++ [.slice a (ls k).length cap], hown, fun j hj => ?_, Below.grown ((below_step h3 hb).alloc (below_step h3 hb).size o) hgrow (by have := (below_step h3 hb).size; omega) (fun x hx => (h1.lt x hx).1)⟩
  by_cases e : j = k
  · subst e
    exact ⟨a, cap, by rw [List.getElem?_append_right (by omega), hvl]; simp, keep hs.1 hnew, far hs.1 hnew⟩
  · obtain ⟨a', cap', e1, e2, e3⟩ := h2 j (by omega)
    exact ⟨a', cap', by rw [List.getElem?_append_left (by omega)]; exact e1, keep (sl_below e2 hb) e3, far (sl_below e2 hb) e3⟩

theorem rwAt_end {w wr : World} {ls : Nat → List Int} {k : Nat} {v : Value} (h : RwAt w ls k v wr) (hk : k ≤ maxLen) (L : List (List Int)) (hL : L.length = k) (hl : ∀ j, j < k → L.getD j [] = ls j) : ∃ a cap, v = .slice a k cap ∧ Sl2 wr a k L := by
  obtain ⟨vals, ⟨h0, h1⟩, h2, h3⟩ := h
  rcases h1 with ⟨rfl, rfl⟩ | ⟨g, cap, cur, rfl, hg, hh, hc, hcm, hcs, ht⟩
  · exact ⟨none, 0, rfl, hL, hk, Or.inl rfl⟩
  · refine ⟨_, cap, rfl, hL, hk, Or.inr ⟨g, 0, rfl, fun i hi => ?_⟩⟩
    obtain ⟨a', cap', e1, e2, _⟩ := h2 i hi
    rw [hl i hi]
    refine ⟨a', cap', ?_, e2⟩
    rw [cell_of_row wr g (0 + i) cur 22 (0, 0) hh, Nat.zero_add]
    have h3 : (cur.toList.take (k * 1))[i]? = vals[i]? := by rw [ht]
    rw [List.getElem?_take, if_pos (by omega), Array.getElem?_toList] at h3
    rw [h3, e1]

set_option maxHeartbeats 1000000 in
set_option maxRecDepth 4000 in
theorem wordOf_many (b : Int) (a : Option Addr) (len cap : Nat) (w : World) (hM : codeM b len ≠ 0) :
    Calls Tryd.prog 24 #[.int .i64 b, .slice a len cap] w fun e w' => e = .returned (.tuple #[.slice none 0 0, .int .i64 (codeM b len)]) ∧ w' = w := by
  have HMC := hide (letters_u b len w)
  have hM' : (codeM b len != 0) = true := by simpa using hM
  generalize codeM b len = c at HMC hM' ⊢
  generalize manyU b len = M at HMC
  clear hM
  go_enter Tryd.func24, Tryd.ntmps24
  go_wp2_with (go_at_call 17; refine HMC.out.mono ?_; rintro e w' ⟨rfl, hw⟩; rw [hw]; clear hw w')
  go_ret2
  exact ⟨by simp, rfl⟩

def WdR (b : Int) (nums : List Int) (w : World) (e : Ending) (w' : World) : Prop := OfU w (if codeWd b nums = 0 then wordL b nums else []) (.int .i64 (codeWd b nums)) e w'

theorem sideL_take_succ (b : Int) (long : Nat) (rows : List (List Int)) (p : Nat) (hp : p < long) : (sideL b long rows).take (p + 1) = (sideL b long rows).take p ++ [letAt b long rows p] := by
  rw [List.take_succ_eq_append_getElem (by rw [sideL_length]; exact hp)]
  congr 2
  simp [sideL]
theorem map_take_succ {rows : List (List Int)} (f : List Int → Int) (r : Nat) (hr : r < rows.length) : (rows.take (r + 1)).map f = (rows.take r).map f ++ [f (rows.getD r [])] := by
  rw [List.take_succ_eq_append_getElem hr, List.map_append]
  simp [List.getD, hr]

set_option maxHeartbeats 4000000 in
set_option maxRecDepth 4000 in
theorem wordOf_ok (b : Int) (a : Option Addr) (len cap : Nat) (nums : List Int) (w : World) (hM : codeM b len = 0) (hs : Sl w a len nums) :
    Calls Tryd.prog 24 #[.int .i64 b, .slice a len cap] w (WdR b nums w) := by
  obtain ⟨i0, hi0, hz0, hz1, hz2⟩ := info_parts info3
  obtain ⟨j0, hj0, hy0, hy1, hy2⟩ := info_parts infoS
  obtain ⟨h1, h2, h3, h4, _, _⟩ := codeM_zero hM
  have hn : len ≤ 5 := by omega
  have HL := hide hs.1
  have HS := hide hs
  have HMC := hide (letters_u b len w)
  rw [hM] at HMC
  generalize manyU b len = M at HMC
  have HLT := hide (longL_take_succ b nums)
  have HLE := hide (longL_le b nums)
  have HNL := hide (numL_length b)
  have HPUSH := hide (fun wr w2 k v a cap => @rwAt_push w wr w2 (fun j => numL b (nums.getD j 0)) k v a cap)
  have HREND : Hid (∀ v wr, RwAt w (fun j => numL b (nums.getD j 0)) len v wr → ∃ a cap, v = .slice a len cap ∧ Sl2 wr a len (rowsL b nums)) := fun v wr h =>
    rwAt_end h (by unfold maxLen; omega) (rowsL b nums) (by rw [rowsL_length, hs.1]) (fun j hj => rowsL_get b nums j (by rw [hs.1]; exact hj))
  have HRB : Hid (∀ k v wr, RwAt w (fun j => numL b (nums.getD j 0)) k v wr → Below w.heap.size w wr) := fun k v wr h => by obtain ⟨_, _, _, h⟩ := h; exact h
  have HR0 := hide (rwAt_nil w (fun j => numL b (nums.getD j 0)))
  have HG2 : Hid (∀ k, k < len → (∀ j, j < k → codeN b (nums.getD j 0) = 0) → codeN b (nums.getD k 0) ≠ 0 → ∀ w', Below w.heap.size w w' → WdR b nums w (.returned (.tuple #[.slice none 0 0, .int .i64 (codeN b (nums.getD k 0))])) w') := by
    intro k hk h hck w' hb
    have hk' : k < nums.length := by rw [hs.1]; exact hk
    have hg : ∀ j, j < nums.length → (nums.map (codeN b)).getD j 0 = codeN b (nums.getD j 0) := fun j hj => by simp [List.getD, hj]
    have : codeWd b nums = codeN b (nums.getD k 0) := by
      unfold codeWd
      rw [hs.1, if_pos hM, firstC_pre (nums.map (codeN b)) k (fun j hj => by rw [hg j (by omega)]; exact h j hj) (by simpa using hk') (by rw [hg k hk']; exact hck), hg k hk']
    unfold WdR
    rw [this, if_neg hck]
    exact ofU_none _ _ _ hb
  have HWF : Hid (∀ x ∈ wordL b nums, (Lit.int .i64 x).wf = true) := by
    intro x hx
    simp only [wordL, sideL, List.mem_map, List.mem_range] at hx
    obtain ⟨p, _, rfl⟩ := hx
    have := letAt_bd b h2 (longL (rowsL b nums)) (rowsL b nums) (by rw [rowsL_length, hs.1]; omega) (fun d hd => by
      simp only [rowsL, List.mem_map] at hd
      obtain ⟨x, _, rfl⟩ := hd
      exact numL_digB b x) (rowsL b nums).length (Nat.le_refl _) p
    rw [List.take_of_length_le (Nat.le_refl _)] at this
    exact Go.WalkArith.wf_i64 (by omega)
  have HG1 : Hid ((∀ j, j < len → codeN b (nums.getD j 0) = 0) → ∀ w1 v wr, Below w.heap.size w w1 → Grow w1 (wordL b nums) v wr → WdR b nums w (.returned (.tuple #[v, .int .i64 0])) wr) := by
    intro h w1 v wr hb hgr
    have hc : codeWd b nums = 0 := by
      unfold codeWd
      rw [hs.1, if_pos hM]
      refine firstC_all _ fun j hj => ?_
      have hj' : j < nums.length := by simpa using hj
      have := h j (by rw [← hs.1]; exact hj')
      simpa [List.getD, hj'] using this
    unfold WdR
    rw [hc, if_pos rfl]
    obtain ⟨a', cap', rfl, hs'⟩ := sl_of_owns rfl (by
      unfold wordL; rw [sideL_length]
      have := longL_le b nums nums.length (Nat.le_refl _)
      rw [List.take_of_length_le (by rw [rowsL_length]; omega)] at this
      unfold maxLen; omega) HWF.out hgr.1
    exact ⟨a', cap', rfl, hs'.mono hb.size, below_step hb hgr.2⟩
  have HROW : Hid (∀ r, r < len → (rowsL b nums).getD r [] ∈ rowsL b nums) := fun r hr => by
    rw [List.getD, List.getElem?_eq_getElem (by rw [rowsL_length, hs.1]; exact hr)]; exact List.getElem_mem _
  have HRD : Hid (∀ d ∈ rowsL b nums, digB b d = true ∧ d.length ≤ 60) := by
    intro d hd
    simp only [rowsL, List.mem_map] at hd
    obtain ⟨x, _, rfl⟩ := hd
    exact ⟨numL_digB b x, numL_length b x⟩
  have HRGE := hide (longL_ge (rowsL b nums))
  have HRL : Hid ((rowsL b nums).length = len) := by show _ = _; rw [rowsL_length, hs.1]
  have HPO : Hid (∀ p, ∀ W a' cap', Sl W a' len ((rowsL b nums).map (digAt (longL (rowsL b nums)) p)) → Calls Tryd.prog 21 #[.int .i64 b, .slice a' len cap'] W fun e w' => e = .returned (.int .i64 (letAt b (longL (rowsL b nums)) (rowsL b nums) p)) ∧ ∃ n, w' = W.drewN n) := by
    intro p W a' cap' h
    refine packOf_any b a' len cap' _ W h1 h2 hn ?_ h
    unfold digB
    rw [List.all_eq_true]
    intro x hx
    simp only [List.mem_map] at hx
    obtain ⟨d, hd, rfl⟩ := hx
    have := digAt_bd b h2 (longL (rowsL b nums)) p d (HRD.out d hd).1
    simp [this]
  have HDGW : Hid (∀ p, ∀ x ∈ (rowsL b nums).map (digAt (longL (rowsL b nums)) p), (Lit.int .i64 x).wf = true) := by
    intro p x hx
    simp only [List.mem_map] at hx
    obtain ⟨d, hd, rfl⟩ := hx
    have := digAt_bd b h2 (longL (rowsL b nums)) p d (HRD.out d hd).1
    have := kinds_bd2 b h2
    exact Go.WalkArith.wf_i64 (by omega)
  have HLONG : Hid (longL (rowsL b nums) ≤ 60) := by
    have := longL_le b nums nums.length (Nat.le_refl _)
    rw [List.take_of_length_le (by rw [rowsL_length]; omega)] at this
    exact this
  have HSTS := hide (sideL_take_succ b (longL (rowsL b nums)) (rowsL b nums))
  have HWDL : Hid (wordL b nums = sideL b (longL (rowsL b nums)) (rowsL b nums)) := rfl
  clear hs hM
  go_enter Tryd.func24, Tryd.ntmps24
  go_wp2_with (go_at_call 17; refine HMC.out.mono ?_; rintro e w' ⟨rfl, hw⟩; rw [hw]; clear hw w')
  clear HMC
  go_loopw [8, 9, 10] (fun s v i wx => ∃ k : Nat, k ≤ len ∧ i = .int .i64 k ∧ s = .int .i64 (longL ((rowsL b nums).take k) : Nat) ∧ (∀ j, j < k → codeN b (nums.getD j 0) = 0) ∧ RwAt w (fun j => numL b (nums.getD j 0)) k v wx) (fun _ _ i _ => len - (intOf i).toNat)
  case atStart => exact ⟨0, by omega, rfl, rfl, by omega, HR0.out⟩
  case round =>
    obtain ⟨k, hk, rfl, rfl, hd, hat⟩ := hrel
    have HD := hide hd
    have HAT := hide hat
    have HBA := hide (HRB.out _ _ _ hat)
    clear hd hat
    have hle := HLE.out k (by rw [HL.out]; exact hk)
    by_cases hlt : k < len
    · have hlti : (k : Int) < (len : Int) := by omega
      obtain ⟨bb, o, rfl, hck⟩ := sl_cell (sl_below HS.out HBA.out) k hlt
      have HLT' := hide (HLT.out k (by rw [HL.out]; exact hlt))
      have HPU' := hide (fun w2 a cap => HPUSH.out wr w2 k u9 a cap HAT.out)
      have hnl := HNL.out (nums.getD k 0)
      have HG2' := hide (HG2.out k hlt HD.out)
      have HX : Hid (codeN b (nums.getD k 0) = 0 → ∀ j, j < k + 1 → codeN b (nums.getD j 0) = 0) := by
        intro h j hj
        by_cases e : j = k
        · subst e; exact h
        · exact HD.out j (by omega)
      have HOF := hide (digitsOf_u b (nums.getD k 0) wr)
      generalize codeN b (nums.getD k 0) = c at HG2' HX HOF
      generalize hgl : numL b (nums.getD k 0) = dl at HLT' HPU' hnl HOF
      clear hgl
      generalize nums.getD k 0 = x at hck HOF
      generalize longL ((rowsL b nums).take k) = L at hle HLT' ⊢
      go_wp2_with fail
      refine HOF.out.mono ?_
      rintro e w2 ⟨a2, cap2, rfl, hs2, hb2⟩
      obtain ⟨vals, hown2, hsz2, hnx⟩ := HPU'.out w2 a2 cap2 hb2 hs2
      have HNX := hide hnx
      have HOWN := hide hown2
      have HSZ2 := hide hsz2
      have HB2 := hide (below_step HBA.out hb2)
      clear hnx hown2 hsz2 hb2 hs2 HOF HPU'
      by_cases hc : c = 0
      · replace HX := hide (HX.out hc)
        subst hc
        by_cases hmx : L < dl.length
        · have hmx' : (L : Int) < (dl.length : Int) := by omega
          have HM : Hid (max L dl.length = dl.length) := by show _ = _; omega
          go_wp2_with (at_builtin; refine wpList_append_lies _ rfl _ _ 66 rfl w.heap.size 22 j0 (.slice none 0 0) 1 24 Tryd.underlying66 hj0 hy0 hy1 hy2 rfl (by decide) u9 k vals rfl (HOWN.out.alloc _) ⟨w2.heap.size, 0, none⟩ 1 1 [.slice a2 dl.length cap2] rfl rfl (one_new _ _ _) (fun u hu => by simp at hu; subst hu; rfl) (by omega) (by unfold maxLen; omega) (by omega) (by have := HSZ2.out; simp; omega) _ rfl ?_; intro g' cap' w3 hown3 hgrow3 hat3 hlt3; have HN3 := hide (HNX.out w3 _ g' cap' hown3 hgrow3 hat3); clear hown3 hgrow3 hat3)
          go_roundw
          case rel => exact ⟨k + 1, by omega, by go_num, by rw [HLT'.out, HM.out], HX.out, HN3.out⟩
          case measure => simp [intOf]; omega
        · have hmx' : (dl.length : Int) ≤ (L : Int) := by omega
          have HM : Hid (max L dl.length = L) := by show _ = _; omega
          go_wp2_with (at_builtin; refine wpList_append_lies _ rfl _ _ 66 rfl w.heap.size 22 j0 (.slice none 0 0) 1 24 Tryd.underlying66 hj0 hy0 hy1 hy2 rfl (by decide) u9 k vals rfl (HOWN.out.alloc _) ⟨w2.heap.size, 0, none⟩ 1 1 [.slice a2 dl.length cap2] rfl rfl (one_new _ _ _) (fun u hu => by simp at hu; subst hu; rfl) (by omega) (by unfold maxLen; omega) (by omega) (by have := HSZ2.out; simp; omega) _ rfl ?_; intro g' cap' w3 hown3 hgrow3 hat3 hlt3; have HN3 := hide (HNX.out w3 _ g' cap' hown3 hgrow3 hat3); clear hown3 hgrow3 hat3)
          go_roundw
          case rel => exact ⟨k + 1, by omega, by go_num, by rw [HLT'.out, HM.out], HX.out, HN3.out⟩
          case measure => simp [intOf]; omega
      · replace HG2' := hide (HG2'.out hc)
        have hc' : (c != 0) = true := by simpa using hc
        clear hc HX
        go_wp2
        go_ret2
        exact HG2'.out _ HB2.out
    · have hlti : ¬ ((k : Int) < (len : Int)) := by omega
      obtain rfl : k = len := by omega
      have HALL : Hid ((rowsL b nums).take k = rowsL b nums) := List.take_of_length_le (by rw [HRL.out]; omega)
      rw [HALL.out] at hle ⊢
      obtain ⟨a9, cap9, hu9, hs9⟩ := HREND.out _ _ HAT.out
      subst hu9
      have HS9 := hide hs9
      have HG1' := hide (fun v wx => HG1.out HD.out wr v wx HBA.out)
      clear hs9 HAT HREND HRB HR0 HG1 HG2 HPUSH HLT HLE HNL HALL
      have HRN : Hid (∀ r, r < k → ((rowsL b nums).getD r []).length ≤ 60) := fun r hr => (HRD.out _ (HROW.out r hr)).2
      generalize wordL b nums = WD at HWDL HG1'
      generalize rowsL b nums = R at HRL HROW HRGE HPO HDGW HLONG HSTS HWDL HS9 HRN hle ⊢
      generalize longL R = L at HRGE HPO HDGW HLONG HSTS HWDL hle ⊢
      have HRGE' : Hid (∀ r, r < k → (R.getD r []).length ≤ L) := fun r hr => HRGE.out _ (HROW.out r hr)
      clear HRD HRGE HROW HLONG
      obtain ⟨wo, hwo⟩ : ∃ wo : World, wo = wr := ⟨_, rfl⟩
      rw [← hwo] at HS9 HBA HG1' ⊢
      clear hwo wr
      go_wp2
      go_loopw [13, 14] (fun v i wx => ∃ p : Nat, p ≤ L ∧ i = .int .i64 p ∧ Grow wo ((sideL b L R).take p) v wx) (fun _ i _ => L - (intOf i).toNat)
      case atStart => exact ⟨0, by omega, rfl, grow_nil wo⟩
      case round =>
        obtain ⟨p, hp, rfl, hgr⟩ := hrel
        have HGR := hide hgr
        clear hgr
        by_cases hpt : p < L
        · have hpti : (p : Int) < (L : Int) := by omega
          have HST' := hide (HSTS.out p hpt)
          have HPO' := hide (HPO.out p)
          have HDW' := hide (HDGW.out p)
          obtain ⟨wi, hwi⟩ : ∃ wi : World, wi = wr := ⟨_, rfl⟩
          rw [← hwi] at HGR ⊢
          clear hwi wr
          go_wp2
          go_loopw [15, 16] (fun v i wx => ∃ r : Nat, r ≤ k ∧ i = .int .i64 r ∧ Grow wi ((R.take r).map (digAt L p)) v wx) (fun _ i _ => k - (intOf i).toNat)
          case atStart => exact ⟨0, by omega, rfl, grow_nil wi⟩
          case round =>
            obtain ⟨r, hr, rfl, hgi⟩ := hrel
            have HGI := hide hgi
            clear hgi
            by_cases hrt : r < k
            · have hrti : (r : Int) < (k : Int) := by omega
              have HBO := hide (below_step HGR.out.2 HGI.out.2)
              obtain ⟨bb, o, ad, capd, ha9, hck, hsd⟩ := sl2_cell (sl2_below HS9.out HBO.out) r hrt
              subst ha9
              have hdl := HRN.out r hrt
              have HMT := hide (map_take_succ (digAt L p) r (by rw [HRL.out]; exact hrt))
              have HXL : Hid (((R.take r).map (digAt L p)).length = r) := by show _ = _; rw [List.length_map, List.length_take, HRL.out]; omega
              have HSD := hide hsd
              clear hsd
              generalize R.getD r [] = d at hck hdl HMT HSD
              generalize (R.take r).map (digAt L p) = xs at HGI HMT HXL
              have HOWN := hide HGI.out.1
              rw [HXL.out] at HOWN
              have HSZ := hide (grow_size HGI.out)
              by_cases hge : L ≤ p + d.length
              · obtain ⟨m, hm⟩ : ∃ m : Nat, p + d.length = L + m := ⟨p + d.length - L, by omega⟩
                have hmi : (p : Int) - (L : Int) + (d.length : Int) = (m : Int) := by omega
                have hml : m < d.length := by omega
                have hmli : (m : Int) < (d.length : Int) := by omega
                have hgei : (L : Int) - (d.length : Int) ≤ (p : Int) := by omega
                have HDA : Hid (digAt L p d = d.getD m 0) := by
                  show _ = _
                  unfold digAt
                  rw [if_pos hge, hm, Nat.add_sub_cancel_left]
                obtain ⟨bs, os, rfl, hcd⟩ := sl_cell HSD.out m hml
                rw [HDA.out] at HMT
                generalize d.getD m 0 = y at hcd HMT
                clear hm hge HDA HSD
                go_wp2
                go_quiet (fail)
                go_wp2_with (at_builtin; refine wpList_append_own _ rfl _ _ 22 rfl wi.heap.size 3 i0 (.int .i64 0) 1 8 Tryd.underlying22 hi0 hz0 hz1 hz2 rfl (by decide) _ r (xs.map (Value.int .i64)) rfl (World.ownsRow.alloc (w := wr.drewN nq) HOWN.out _) ⟨wr.heap.size, 0, none⟩ 1 1 [.int .i64 y] rfl rfl (one_new _ _ _) (fun u hu => by simp at hu; subst hu; rfl) (by unfold maxLen; omega) (by omega) (by have := HSZ.out; simp; omega) ?_; intro v' w3 hown hgrow hnil)
                go_roundw
                case rel =>
                  rw [← HXL.out] at hown
                  exact ⟨r + 1, by omega, by go_num, by rw [HMT.out]; exact grow_push (wr := wr.drewN nq) ⟨HGI.out.1, below_drewN HGI.out.2 nq⟩ hown hgrow⟩
                case measure => simp [intOf]; omega
              · have hgei : (p : Int) < (L : Int) - (d.length : Int) := by omega
                have HDA : Hid (digAt L p d = 0) := by
                  show _ = _
                  unfold digAt
                  rw [if_neg hge]
                rw [HDA.out] at HMT
                clear hge HDA HSD
                go_wp2_with (at_builtin; refine wpList_append_own _ rfl _ _ 22 rfl wi.heap.size 3 i0 (.int .i64 0) 1 8 Tryd.underlying22 hi0 hz0 hz1 hz2 rfl (by decide) _ r (xs.map (Value.int .i64)) rfl (HOWN.out.alloc _) ⟨wr.heap.size, 0, none⟩ 1 1 [.int .i64 0] rfl rfl (one_new _ _ _) (fun u hu => by simp at hu; subst hu; rfl) (by unfold maxLen; omega) (by omega) (by have := HSZ.out; simp; omega) ?_; intro v' w3 hown hgrow hnil)
                go_roundw
                case rel =>
                  rw [← HXL.out] at hown
                  exact ⟨r + 1, by omega, by go_num, by rw [HMT.out]; exact grow_push HGI.out hown hgrow⟩
                case measure => simp [intOf]; omega
            · have hrti : ¬ ((r : Int) < (k : Int)) := by omega
              obtain rfl : r = k := by omega
              have HALL : Hid (R.take r = R) := List.take_of_length_le (by rw [HRL.out]; omega)
              rw [HALL.out] at HGI
              have HML : Hid ((R.map (digAt L p)).length = r) := by show _ = _; rw [List.length_map, HRL.out]
              obtain ⟨a15, cap15, hu15, hs15⟩ := sl_of_owns (l := R.map (digAt L p)) rfl (by rw [HML.out]; unfold maxLen; omega) HDW'.out HGI.out.1
              rw [HML.out] at hs15 hu15
              subst hu15
              have HPK := hide (HPO'.out wr a15 cap15 hs15.1)
              have HBI := hide HGI.out.2
              have HXL : Hid (((sideL b L R).take p).length = p) := by show _ = _; rw [List.length_take, sideL_length]; omega
              clear hs15 HGI HPO' HDW' HALL
              generalize letAt b L R p = y at HPK HST'
              generalize (sideL b L R).take p = xs at HGR HST' HXL
              go_wp2_with fail
              refine HPK.out.mono ?_
              rintro e w6 ⟨rfl, m6, hw6⟩
              have HB6 : Hid (Below wi.heap.size wi w6) := by rw [hw6]; exact below_drewN HBI.out m6
              have HG6 := hide (grow_below HGR.out HB6.out)
              have HOWN := hide HG6.out.1
              rw [HXL.out] at HOWN
              have HSZ := hide (grow_size HG6.out)
              clear hw6 HPK HBI HB6
              go_wp2_with (at_builtin; refine wpList_append_own _ rfl _ _ 22 rfl wo.heap.size 3 i0 (.int .i64 0) 1 8 Tryd.underlying22 hi0 hz0 hz1 hz2 rfl (by decide) _ p (xs.map (Value.int .i64)) rfl (HOWN.out.alloc _) ⟨w6.heap.size, 0, none⟩ 1 1 [.int .i64 y] rfl rfl (one_new _ _ _) (fun u hu => by simp at hu; subst hu; rfl) (by unfold maxLen; omega) (by omega) (by have := HSZ.out; simp; omega) ?_; intro v' w3 hown hgrow hnil)
              go_roundw
              case rel =>
                rw [← HXL.out] at hown
                exact ⟨p + 1, by omega, by go_num, by rw [HST'.out]; exact grow_push HG6.out hown hgrow⟩
              case measure => simp [intOf]; omega
        · have hpti : ¬ ((p : Int) < (L : Int)) := by omega
          obtain rfl : p = L := by omega
          have HALL : Hid ((sideL b p R).take p = sideL b p R) := List.take_of_length_le (by rw [sideL_length]; omega)
          rw [HALL.out, ← HWDL.out] at HGR
          have HE := hide (HG1'.out _ _ HGR.out)
          go_wp2
          go_ret2
          exact HE.out

theorem wordOf_u (b : Int) (a : Option Addr) (len cap : Nat) (nums : List Int) (w : World) (hs : Sl w a len nums) :
    Calls Tryd.prog 24 #[.int .i64 b, .slice a len cap] w (WdR b nums w) := by
  by_cases hM : codeM b len = 0
  · exact wordOf_ok b a len cap nums w hM hs
  · refine (wordOf_many b a len cap w hM).mono ?_
    rintro e w' ⟨rfl, rfl⟩
    have hc : codeWd b nums = codeM b len := by unfold codeWd; rw [hs.1, if_neg hM]
    unfold WdR
    rw [hc, if_neg hM]
    exact ofU_none _ _ _ (Below.refl _ _)
end Go.Proofs.YtdmkjhccdknndaaDoor
