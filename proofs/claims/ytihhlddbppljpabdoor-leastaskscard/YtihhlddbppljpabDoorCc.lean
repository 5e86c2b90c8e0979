/- least.wordTo: contract. -/
import Derived.Test.YtihhlddbppljpabDoorCa
import Derived.Test.YtihhlddbppljpabDoorCb
namespace Go.Proofs.YtihhlddbppljpabDoor
open Go.RowKit

theorem zero_step (w : World) : (zeroValue 84).run Tryd.prog w = .ok (.agg #[.int .i64 0, .int .i64 0, .int .i64 0]) w := by kernel_rfl
theorem field_letter (x y z : Int) (w : World) : (Instr.field 84 (.agg #[.int .i64 x, .int .i64 y, .int .i64 z]) 1).run Tryd.prog w = .ok (.int .i64 z) w := by kernel_rfl
theorem field_from (x y z : Int) (w : World) : (Instr.field 84 (.agg #[.int .i64 x, .int .i64 y, .int .i64 z]) 0).run Tryd.prog w = .ok (.agg #[.int .i64 x, .int .i64 y]) w := by kernel_rfl
/-- At j of the word's letters: the spot, and the letters behind it, the last one first. -/
def BkwAt (N : List (List Int)) (M : Nat) (u : List Int) (w : World) (j : Nat) (v : Value) (wx : World) : Prop :=
  wx.heap[w.heap.size]? = some (.cells #[.int .i64 (hiI M (runL N (u.take j))), .int .i64 (loI M (runL N (u.take j)))] 67 (0, 0)) ∧
  wx.heap[w.heap.size + 1]? = some (.cells #[.int .i64 0, .int .i64 0] 67 (0, 0)) ∧
  wx.ownsRow (w.heap.size + 2) 3 1 v ((u.drop j).reverse).length (((u.drop j).reverse).map (Value.int .i64)) ∧ Below w.heap.size w wx ∧ w.heap.size + 2 ≤ wx.heap.size
theorem drop_rev (u : List Int) (j : Nat) (hj : j < u.length) : (u.drop j).reverse = (u.drop (j + 1)).reverse ++ [u.getD j 0] := by
  rw [List.drop_eq_getElem_cons hj, List.reverse_cons, getD_at _ j hj]
theorem set_two {W : World} {B : Nat} {u0 u1 v0 v1 : Value} {T : TypeId} (h : W.heap[B]? = some (.cells #[u0, u1] T (0, 0))) : ((W.setCell ⟨B, 0, none⟩ v0).setCell ⟨B, 1, none⟩ v1).heap[B]? = some (.cells #[v0, v1] T (0, 0)) := by
  simp [World.setCell, Array.getElem?_modify, h]
theorem bkwAt_step {N : List (List Int)} {M : Nat} {u : List Int} {w : World} {j : Nat} {v v' : Value} {wx w3 : World} {o : Obj} (h : BkwAt N M u w (j + 1) v wx) (hj : j < u.length)
    (hown : w3.ownsRow (w.heap.size + 2) 3 1 v' (((u.drop (j + 1)).reverse).length + 1) (((u.drop (j + 1)).reverse).map (Value.int .i64) ++ [.int .i64 (u.getD j 0)])) (hgrow : (wx.alloc o).grownBy w3 v.ownBlock) :
    w3.heap[w.heap.size]? = some (.cells #[.int .i64 (hiI M (runL N (u.take (j + 1)))), .int .i64 (loI M (runL N (u.take (j + 1))))] 67 (0, 0)) ∧ Below w.heap.size w w3 ∧
    BkwAt N M u w j v' ((w3.setCell ⟨w.heap.size, 0, none⟩ (.int .i64 (hiI M (runL N (u.take j))))).setCell ⟨w.heap.size, 1, none⟩ (.int .i64 (loI M (runL N (u.take j))))) := by
  obtain ⟨h1, h2, h3, h4, h5⟩ := h
  have hsz := hgrow.size
  rw [World.size_alloc] at hsz
  have hne : ∀ x, x < w.heap.size + 2 → v.ownBlock ≠ some x := fun x hx e => by have := (h3.lt _ e).1; omega
  have hk : ∀ x, x < w.heap.size + 2 → w3.heap[x]? = wx.heap[x]? := fun x hx => by
    rw [hgrow.block x (by simp; omega) (fun e => hne x hx e.symm), Below.heap_alloc _ _ _ (by omega)]
  have k1 := (hk w.heap.size (by omega)).trans h1
  have k2 := (hk (w.heap.size + 1) (by omega)).trans h2
  have hB3 : Below w.heap.size w w3 := Below.grown (h4.alloc h4.size o) hgrow (by have := h4.size; simp; omega) (fun k hk => by have := (h3.lt k hk).1; omega)
  refine ⟨k1, hB3, set_two k1, ?_, ?_, (hB3.setCell (Nat.le_refl _) _).setCell (Nat.le_refl _) _, by simp [World.setCell]; omega⟩
  · rw [Below.heap_setCell _ _ _ _ (by simp), Below.heap_setCell _ _ _ _ (by simp)]; exact k2
  · rw [drop_rev u j hj, List.length_append, List.length_singleton, List.map_append]
    have hne' : v'.ownBlock ≠ some w.heap.size := fun e => by have := (hown.lt _ e).1; omega
    exact ownsRow_setCell_other (ownsRow_setCell_other hown hne' _) hne' _

set_option maxHeartbeats 8000000 in
set_option maxRecDepth 8000 in
theorem wordTo_any (N : List (List Int)) (m n M : Nat) (o : List (Int × List Int)) (mb : Nat) (p : Int × List Int) (w : World) (hO : OkP N m o) (hB : BackP o) (hL : p.2.length ≤ 100000) (hN : OkO n (o.map Prod.fst)) (hn : n ≤ 6400) (hm : m ≤ 36) (hp : p ∈ o) (hmp : MapAt Tryd.prog 67 w mb (stF N M o)) :
    Calls Tryd.prog 46 #[spotV M p.1, .map (some mb)] w (GivesRow w p.2) := by
  obtain ⟨i0, hi0, hz0, hz1, hz2⟩ := info_parts info3
  have hrun := (hO.run p hp)
  have HU : Hid (∀ x ∈ p.2, (Lit.int .i64 x).wf = true) := fun x hx => WalkArith.wf_i64 (by have := hrun.1 x hx; omega)
  have HWZ := hide (fun j hj h => @way_zero N m o hO hB p hp j hj h)
  have HWS := hide (fun j hj => @way_step N m o hO hB M p hp j hj)
  have HLT : Hid (∀ j, j ≤ p.2.length → runL N (p.2.take j) < n) := fun j hj => by
    have h1 := way_at hO hB hp hj
    have h2 := hN.2 _ (List.mem_map_of_mem h1)
    show _ < _
    omega
  have hsp : spotV M p.1 = .agg #[.int .i64 (hiI M (runL N p.2)), .int .i64 (loI M (runL N p.2))] := by unfold spotV; rw [hrun.2.2]
  rw [hsp]
  have HMP := hide hmp
  obtain ⟨u, hu⟩ : ∃ u, u = p.2 := ⟨_, rfl⟩
  rw [← hu] at HU HWZ HWS HLT hL ⊢
  have H0 : Hid (BkwAt N M u w u.length (.slice none 0 0) ((w.alloc (.cells #[.int .i64 (hiI M (runL N u)), .int .i64 (loI M (runL N u))] 67)).alloc (.cells #[.int .i64 0, .int .i64 0] 67))) := by
    refine ⟨by rw [List.take_length]; exact heap_alloc2_fst _ _ _, heap_alloc2_snd _ _ _, by simpa using World.ownsRow_nil _ _ _ _, ((Below.refl _ _).alloc (Nat.le_refl _) _).alloc (by simp) _, by simp⟩
  unfold GivesRow
  clear hO hB hp hmp hN hrun hsp hu
  go_enter Tryd.func46, Tryd.ntmps46
  go_wp2
  generalize (w.alloc (.cells #[.int .i64 (hiI M (runL N u)), .int .i64 (loI M (runL N u))] 67)).alloc (.cells #[.int .i64 0, .int .i64 0] 67) = w0 at H0 ⊢
  go_loopg [6] u.length (fun g v wx => ∃ j : Nat, g = j ∧ j ≤ u.length ∧ BkwAt N M u w j v wx)
  case atStart => exact ⟨u.length, rfl, Nat.le_refl _, H0.out⟩
  case round =>
    obtain ⟨j, hgj, hj, hwt⟩ := hrel
    have HGJ := hide hgj
    clear hgj
    have HWT := hide hwt
    obtain ⟨h1, h2, h3, h4, h5⟩ := hwt
    have H3 := hide h3
    have H4 := hide h4
    have H5 := hide h5
    have c0 : wr.cell? ⟨w.heap.size, 0, none⟩ = some (.int .i64 (hiI M (runL N (u.take j)))) := by simp [World.cell?, h1]
    have c1 : wr.cell? ⟨w.heap.size, 1, none⟩ = some (.int .i64 (loI M (runL N (u.take j)))) := by simp [World.cell?, h1]
    have c2 : wr.cell? ⟨w.heap.size + 1, 0, none⟩ = some (.int .i64 0) := by simp [World.cell?, h2]
    have c3 : wr.cell? ⟨w.heap.size + 1, 1, none⟩ = some (.int .i64 0) := by simp [World.cell?, h2]
    clear h1 h2 h3 h4 h5
    by_cases hj0 : j = 0
    · subst hj0
      have e0 : hiI M (runL N (u.take 0)) = 0 := by simp [runL, hiI]
      have e1 : loI M (runL N (u.take 0)) = 0 := by simp [runL, loI]
      rw [e0] at c0
      rw [e1] at c1
      have HRV := hide (fun v (h : wr.ownsRow (w.heap.size + 2) 3 1 v u.reverse.length (u.reverse.map (Value.int .i64))) => reverse_any (w.heap.size + 2) v u.reverse wr (by rw [List.length_reverse]; omega) h)
      unfold RevU at HRV
      rw [List.reverse_reverse, List.length_reverse] at HRV
      rw [List.drop_zero, List.length_reverse] at H3
      clear e0 e1
      go_wp2_with (go_at_call 57; refine (HRV.out _ H3.out).mono ?_; rintro e w4 ⟨rfl, hown4, hb4⟩; have HO4 := hide hown4; have HB4 := hide (hb4 w w.heap.size (by omega) H4.out); clear hown4 hb4)
      obtain ⟨a4, cap4, rfl, hs4⟩ := sl_of_owns rfl (by unfold maxLen; omega) HU.out HO4.out
      go_wp2
      go_ret
      exact ⟨a4, cap4, rfl, hs4.mono (by omega), HB4.out⟩
    · obtain ⟨j', hj'⟩ : ∃ j', j = j' + 1 := ⟨j - 1, by omega⟩
      rw [hj'] at hj HWT H3 c0 c1
      have HENT : Hid ((Value.agg #[.int .i64 (hiI M (runL N (u.take (j' + 1)))), .int .i64 (loI M (runL N (u.take (j' + 1))))], Value.agg #[.int .i64 (hiI M (runL N (u.take j'))), .int .i64 (loI M (runL N (u.take j'))), .int .i64 (u.getD j' 0)]) ∈ stF N M o) := HWS.out j' hj
      obtain ⟨kl, hkl⟩ := spotV_key M ((runL N (u.take (j' + 1)) : Nat) : Int) (by rw [Int.toNat_natCast]; have := HLT.out (j' + 1) hj; omega)
      have HKL : Hid (keyOf Tryd.prog 67 (Value.agg #[.int .i64 (hiI M (runL N (u.take (j' + 1)))), .int .i64 (loI M (runL N (u.take (j' + 1))))]) = some kl) := hkl
      have HST := hide (fun v' w3 ob h1 h2 => @bkwAt_step N M u w j' _ v' wr w3 ob HWT.out hj h1 h2)
      have hcase : ¬ hiI M (runL N (u.take (j' + 1))) = 0 ∨ (hiI M (runL N (u.take (j' + 1))) = 0 ∧ ¬ loI M (runL N (u.take (j' + 1))) = 0) := by
        by_cases e0 : hiI M (runL N (u.take (j' + 1))) = 0
        · refine Or.inr ⟨e0, fun e1 => ?_⟩
          have h1 : runL N (u.take (j' + 1)) / M = 0 := by unfold hiI at e0; omega
          have h2 : runL N (u.take (j' + 1)) % M = 0 := by unfold loI at e1; omega
          have h3 := Nat.div_add_mod (runL N (u.take (j' + 1))) M
          rw [h1, h2] at h3
          have := HWZ.out (j' + 1) hj (by omega)
          omega
        · exact Or.inl e0
      have HLN : Hid (((u.drop (j' + 1)).reverse).length ≤ 100000) := by show _ ≤ _; simp; omega
      clear hkl hj0 HWT
      generalize hiI M (runL N (u.take (j' + 1))) = x0 at c0 HENT HKL HST hcase
      generalize loI M (runL N (u.take (j' + 1))) = x1 at c1 HENT HKL HST hcase
      have HJ := hide hj'
      clear hj'
      generalize hiI M (runL N (u.take j')) = y0 at HENT HST
      generalize loI M (runL N (u.take j')) = y1 at HENT HST
      generalize u.getD j' 0 = z at HENT HST
      generalize (u.drop (j' + 1)).reverse = acc at H3 HST HLN
      have hfl := field_letter y0 y1 z
      have hff := field_from y0 y1 z
      rcases hcase with hx | ⟨rfl, hx⟩
      all_goals
        go_wp2_with (first
          | (at_lookup; refine wpList_look_in _ rfl _ _ 85 rfl 67 84 spot_law Tryd.underlying85 (zero_step _) mb _ rfl (HMP.out.below (by first | exact H4.out | exact HB3.out)) _ kl rfl HKL.out _ HENT.out ?_)
          | (at_builtin; refine wpList_append_own _ rfl _ _ 26 rfl (w.heap.size + 2) 3 i0 (.int .i64 0) 1 8 Tryd.underlying26 hi0 hz0 hz1 hz2 rfl (by decide) _ acc.length (acc.map (Value.int .i64)) rfl (H3.out.alloc _) ⟨wr.heap.size, 0, none⟩ 1 1 [.int .i64 z] rfl rfl (one_new _ _ _) (fun u hu => by simp at hu; subst hu; rfl) (by unfold maxLen; have := HLN.out; omega) (by have := HLN.out; omega) (by have := H5.out; simp; omega) ?_; intro v' w3 hown hgrow hnil; obtain ⟨k1, kB, kW⟩ := HST.out v' w3 _ hown hgrow; have HB3 := hide kB; have HKW := hide kW; have d0 : w3.cell? ⟨w.heap.size, 0, none⟩ = some (.int .i64 _) := (by simp only [World.cell?, k1]; rfl); have d1 : w3.cell? ⟨w.heap.size, 1, none⟩ = some (.int .i64 x1) := (by simp only [World.cell?, k1]; rfl); have d2 : ∀ i, w3.frozen? ⟨w.heap.size, i, none⟩ = false := (fun i => by simp [World.frozen?, k1]); clear k1 kB kW hown hgrow hnil))
        go_roundg j'
        case rel => exact ⟨j', rfl, by omega, HKW.out⟩
        case measure => have h1 := HGJ.out; have h2 := HJ.out; omega
end Go.Proofs.YtihhlddbppljpabDoor
