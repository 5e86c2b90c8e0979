/- The reference's Product: contract. -/
import Derived.Deep.RegionHeldLaw
import Derived.Test.YtklejobfnofbaaeDoorBk
import Derived.Test.YtklejobfnofbaaeDoorZLp
import Derived.Test.YtklejobfnofbaaeDoorCf
namespace Go.Proofs.YtklejobfnofbaaeDoor
open Go.RowKit

/-- Rows and ends that a call builds in two slices of its own. -/
def PrAt (wb : World) (rows : Nat → List Int) (es : Nat → Bool) (qn qe : Nat) (vN vE : Value) (W : World) : Prop :=
  ∃ vals : List Value, W.ownsRow wb.heap.size 41 1 vN qn vals ∧ W.ownsRow wb.heap.size 4 1 vE qe ((List.range qe).map fun j => Value.bool (es j)) ∧
    (∀ j, j < qn → ∃ a cap, vals[j]? = some (.slice a (rows j).length cap) ∧ SlN wb.heap.size W a (rows j).length (rows j) ∧ ∀ x, slB a (rows j).length x → vN.ownBlock ≠ some x ∧ vE.ownBlock ≠ some x) ∧ Below wb.heap.size wb W
theorem prAt_start (wb : World) (rows : Nat → List Int) (es : Nat → Bool) : PrAt wb rows es 0 0 (.slice none 0 0) (.slice none 0 0) wb :=
  ⟨[], World.ownsRow_nil _ _ _ _, World.ownsRow_nil _ _ _ _, fun j hj => by omega, Below.refl _ _⟩
theorem prAt_below {wb : World} {rows : Nat → List Int} {es : Nat → Bool} {qn qe : Nat} {vN vE : Value} {W W2 : World} (h : PrAt wb rows es qn qe vN vE W) (hb : Below W.heap.size W W2) : PrAt wb rows es qn qe vN vE W2 := by
  obtain ⟨vals, h2, h3, h4, h5⟩ := h
  refine ⟨vals, ownsRow_of_block h2 (fun x hx => hb.block _ (h2.lt x hx).2), ownsRow_of_block h3 (fun x hx => hb.block _ (h3.lt x hx).2), fun j hj => ?_, below_step h5 hb⟩
  obtain ⟨a, cap, e1, e2, e3⟩ := h4 j hj
  exact ⟨a, cap, e1, ⟨sl_below e2.1 hb, e2.2⟩, e3⟩
/-- One row more. -/
theorem prAt_N {wb : World} {rows : Nat → List Int} {es : Nat → Bool} {q qe : Nat} {vN vE : Value} {W W2 : World} {ar : Option Addr} {cr : Nat} (h : PrAt wb rows es q qe vN vE W) (hb : Below W.heap.size W W2) (hs : SlN W.heap.size W2 ar (rows q).length (rows q)) :
    ∃ vals : List Value, W2.ownsRow wb.heap.size 41 1 vN q vals ∧ wb.heap.size ≤ W2.heap.size ∧
      ∀ (w3 : World) (o : Obj) (g' cap' : Nat), w3.ownsRow wb.heap.size 41 1 (.slice (some ⟨g', 0, none⟩) (q + 1) cap') (q + 1) (vals ++ [.slice ar (rows q).length cr]) → (W2.alloc o).grownBy w3 vN.ownBlock → (vN.ownBlock = some g' ∨ g' = W2.heap.size + 1) →
        PrAt wb rows es (q + 1) qe (.slice (some ⟨g', 0, none⟩) (q + 1) cap') vE w3 := by
  have hsz2 := hb.size
  have hOld := h
  obtain ⟨vals, h2, h3, h4, h5⟩ := prAt_below h hb
  have hvl : vals.length = q := by have := h2.1; omega
  have hnew : ∀ x, slB ar (rows q).length x → vN.ownBlock ≠ some x ∧ vE.ownBlock ≠ some x := by
    obtain ⟨us, g2, g3, _, _⟩ := hOld
    rintro x ⟨_, ad, e, rfl⟩
    have hge := hs.2 ad e
    exact ⟨fun e' => by have := (g2.lt _ e').2; omega, fun e' => by have := (g3.lt _ e').2; omega⟩
  have hbs : wb.heap.size ≤ W.heap.size := by obtain ⟨_, _, _, _, h⟩ := hOld; exact h.size
  refine ⟨vals, h2, by omega, fun w3 o g' cap' hown hgrow hat => ?_⟩
  have hsz : (W2.alloc o).heap.size = W2.heap.size + 1 := by simp
  have hkeep : ∀ x, x < W2.heap.size → vN.ownBlock ≠ some x → w3.heap[x]? = W2.heap[x]? := fun x hx hne => by
    rw [hgrow.block x (by omega) (fun e => hne e.symm), Below.heap_alloc _ _ _ hx]
  have hE3 : w3.ownsRow wb.heap.size 4 1 vE qe ((List.range qe).map fun j => Value.bool (es j)) := ownsRow_of_block h3 (fun x hx => hkeep x (h3.lt x hx).2 (fun e => owns_apart t_sb h2 h3 e hx))
  have row3 : ∀ {a' len' l'}, SlN wb.heap.size W2 a' len' l' → (∀ x, slB a' len' x → vN.ownBlock ≠ some x ∧ vE.ownBlock ≠ some x) → SlN wb.heap.size w3 a' len' l' ∧ ∀ x, slB a' len' x → Value.ownBlock (.slice (some ⟨g', 0, none⟩) (q + 1) cap') ≠ some x ∧ vE.ownBlock ≠ some x := by
    intro a' len' l' hs' hne
    refine ⟨⟨sl_keep hs'.1 fun x hx => ?_, hs'.2⟩, fun x hx => ⟨fun e => ?_, (hne x hx).2⟩⟩
    · exact hkeep x (slB_lt hs'.1 hx) (hne x hx).1
    · have hlt := slB_lt hs'.1 hx
      have e' : g' = x := by simpa [Value.ownBlock] using e
      subst e'
      rcases hat with h | h
      · exact (hne _ hx).1 h
      · omega
  refine ⟨vals ++ [.slice ar (rows q).length cr], hown, hE3, fun j hj => ?_, ?_⟩
  · by_cases e : j = q
    · subst e
      have := row3 (hs.mono hbs) hnew
      exact ⟨ar, cr, by rw [List.getElem?_append_right (by omega), hvl]; simp, this.1, this.2⟩
    · obtain ⟨a', c', e1, e2, e3⟩ := h4 j (by omega)
      have := row3 e2 e3
      exact ⟨a', c', by rw [List.getElem?_append_left (by omega)]; exact e1, this.1, this.2⟩
  · exact Below.grown (h5.alloc h5.size o) hgrow (by have := h5.size; omega) (fun x hx => by have := (h2.lt x hx).1; omega)
/-- One end more. -/
theorem prAt_E {wb : World} {rows : Nat → List Int} {es : Nat → Bool} {qn q : Nat} {vN vE : Value} {W2 : World} (h : PrAt wb rows es qn q vN vE W2) :
    W2.ownsRow wb.heap.size 4 1 vE q ((List.range q).map fun j => Value.bool (es j)) ∧ wb.heap.size ≤ W2.heap.size ∧
      ∀ (w3 : World) (o : Obj) (g' cap' : Nat), w3.ownsRow wb.heap.size 4 1 (.slice (some ⟨g', 0, none⟩) (q + 1) cap') (q + 1) (((List.range q).map fun j => Value.bool (es j)) ++ [.bool (es q)]) → (W2.alloc o).grownBy w3 vE.ownBlock → (vE.ownBlock = some g' ∨ g' = W2.heap.size + 1) →
        PrAt wb rows es qn (q + 1) vN (.slice (some ⟨g', 0, none⟩) (q + 1) cap') w3 := by
  obtain ⟨vals, h2, h3, h4, h5⟩ := h
  refine ⟨h3, h5.size, fun w3 o g' cap' hown hgrow hat => ?_⟩
  have hsz : (W2.alloc o).heap.size = W2.heap.size + 1 := by simp
  have hkeep : ∀ x, x < W2.heap.size → vE.ownBlock ≠ some x → w3.heap[x]? = W2.heap[x]? := fun x hx hne => by
    rw [hgrow.block x (by omega) (fun e => hne e.symm), Below.heap_alloc _ _ _ hx]
  have hN3 : w3.ownsRow wb.heap.size 41 1 vN qn vals := ownsRow_of_block h2 (fun x hx => hkeep x (h2.lt x hx).2 (fun e => owns_apart t_sb h2 h3 hx e))
  refine ⟨vals, hN3, ?_, fun j hj => ?_, ?_⟩
  · rw [List.range_succ, List.map_append]
    exact hown
  · obtain ⟨a', c', e1, e2, e3⟩ := h4 j hj
    refine ⟨a', c', e1, ⟨sl_keep e2.1 fun x hx => hkeep x (slB_lt e2.1 hx) (e3 x hx).2, e2.2⟩, fun x hx => ⟨(e3 x hx).1, fun e => ?_⟩⟩
    have hlt := slB_lt e2.1 hx
    have e' : g' = x := by simpa [Value.ownBlock] using e
    subst e'
    rcases hat with h | h
    · exact (e3 _ hx).2 h
    · omega
  · exact Below.grown (h5.alloc h5.size o) hgrow (by have := h5.size; omega) (fun x hx => by have := (h3.lt x hx).1; omega)
/-- What they are in the end. -/
theorem prAt_end {wb : World} {rows : Nat → List Int} {es : Nat → Bool} {k : Nat} {vN vE : Value} {W : World} (h : PrAt wb rows es k k vN vE W) (hk : k ≤ maxLen) (N : List (List Int)) (hN : N.length = k) (hr : ∀ j, j < k → N.getD j [] = rows j) (E : List Bool) (hE : E.length = k) (he : ∀ j, j < k → E.getD j false = es j) :
    ∃ a c a' c', vN = .slice a k c ∧ vE = .slice a' k c' ∧ Sl2 W a k N ∧ SlB W a' k E ∧ Below wb.heap.size wb W := by
  obtain ⟨vals, h2, h3, h4, h5⟩ := h
  have hNv : ∃ a c, vN = .slice a k c ∧ Sl2 W a k N := by
    obtain ⟨h0, h1⟩ := h2
    rcases h1 with ⟨rfl, rfl⟩ | ⟨g, cap, cur, rfl, hg, hh, hc, hcm, hcs, ht⟩
    · exact ⟨none, 0, rfl, hN, hk, Or.inl rfl⟩
    · refine ⟨_, cap, rfl, hN, hk, Or.inr ⟨g, 0, rfl, fun i hi => ?_⟩⟩
      obtain ⟨a', cap', e1, e2, _⟩ := h4 i hi
      rw [hr i hi]
      refine ⟨a', cap', ?_, e2.1⟩
      rw [cell_of_row W g (0 + i) cur 41 (0, 0) hh, Nat.zero_add]
      have h3 : (cur.toList.take (k * 1))[i]? = vals[i]? := by rw [ht]
      rw [List.getElem?_take, if_pos (by omega), Array.getElem?_toList] at h3
      rw [h3, e1]
  have hEv : ∃ a c, vE = .slice a k c ∧ SlB W a k E := by
    obtain ⟨h0, h1⟩ := h3
    rcases h1 with ⟨rfl, rfl⟩ | ⟨g, cap, cur, rfl, hg, hh, hc, hcm, hcs, ht⟩
    · exact ⟨none, 0, rfl, hE, hk, Or.inl rfl⟩
    · refine ⟨_, cap, rfl, hE, hk, Or.inr ⟨g, 0, rfl, fun i hi => ?_⟩⟩
      rw [cell_of_row W g (0 + i) cur 4 (0, 0) hh, Nat.zero_add]
      have h3 : (cur.toList.take (k * 1))[i]? = ((List.range k).map fun j => Value.bool (es j))[i]? := by rw [ht]
      rw [List.getElem?_take, if_pos (by omega), Array.getElem?_toList] at h3
      rw [h3, he i hi]
      simp [hi]
  obtain ⟨a, c, rfl, hs⟩ := hNv
  obtain ⟨a', c', rfl, hs'⟩ := hEv
  exact ⟨a, c, a', c', rfl, rfl, hs, hs', h5⟩

theorem wrap_small {x : Int} (h0 : 0 ≤ x) (h1 : x ≤ 1000000) : IntKind.i64.wrap x = x := by rw [IntKind.wrap_i64]; omega
def ProdU (w : World) (N : List (List Int)) (E : List Bool) (e : Ending) (w' : World) : Prop := ∃ a c a' c', e = .returned (.tuple #[.slice a N.length c, .slice a' N.length c']) ∧ Sl2 w' a N.length N ∧ SlB w' a' N.length E ∧ Below w.heap.size w w'

set_option maxHeartbeats 8000000 in
set_option maxRecDepth 8000 in
theorem product_any (b t : Int) (a : Option Addr) (n cap : Nat) (a' : Option Addr) (cap' m : Nat) (N : List (List Int)) (E : List Bool) (b2 t2 : Int) (a2 : Option Addr) (n2 cap2 : Nat) (a2' : Option Addr) (cap2' : Nat) (N2 : List (List Int)) (E2 : List Bool) (how : Int) (w : World)
    (hs : Sl2 w a n N) (he : SlB w a' n E) (hG : GoodN m n N) (hs2 : Sl2 w a2 n2 N2) (he2 : SlB w a2' n2 E2) (hG2 : GoodN m n2 N2) (hnn : n * n2 ≤ 6400) (hhow : 0 ≤ how ∧ how ≤ 15) :
    Calls Tryd.prog 33 #[.agg #[.int .i64 b, .int .i64 t, .slice a n cap, .slice a' n cap'], .agg #[.int .i64 b2, .int .i64 t2, .slice a2 n2 cap2, .slice a2' n2 cap2'], .int .i64 how] w (ProdU w (prodN N N2 m) (prodE how n n2 E E2)) := by
  obtain ⟨i0, hi0, hz0, hz1, hz2⟩ := info_parts info3
  obtain ⟨j0, hj0, hy0, hy1, hy2⟩ := info_parts infoS2
  obtain ⟨l0, hl0, hv0, hv1, hv2⟩ := info_parts infoBo
  have hB := below_two w (.cells #[.int .i64 b, .int .i64 t, .slice a n cap, .slice a' n cap'] 25) (.cells #[.int .i64 b2, .int .i64 t2, .slice a2 n2 cap2, .slice a2' n2 cap2'] 25)
  have HB := hide hB
  have HBX := hide (fun w' => @two_boxes w w' (.int .i64 b) (.int .i64 t) (.slice a n cap) (.slice a' n cap') (.int .i64 b2) (.int .i64 t2) (.slice a2 n2 cap2) (.slice a2' n2 cap2') 25)
  have HS := hide (sl2_below hs hB)
  have HE := hide (slB_below he hB)
  have HS2 := hide (sl2_below hs2 hB)
  have HE2 := hide (slB_below he2 hB)
  have HG := hide hG
  have HG2 := hide hG2
  have hn1 := hG.2.1
  have hn64 := hG.2.2.1
  have hm36 := hG.2.2.2.1
  have hn21 := hG2.2.1
  have hn264 := hG2.2.2.1
  have HPG := hide (fun s h => @prodN_get N N2 m s h)
  have HPE := hide (fun s h => @prodE_get how n n2 E E2 s h)
  have HPC := hide (fun s l h1 h2 => @prod_cell m n n2 N N2 hG hG2 s l h1 h2)
  have HLN : Hid ((prodN N N2 m).length = n * n2) := by show _ = _; simp [prodN, hG.1, hG2.1]
  have HLE : Hid ((prodE how n n2 E E2).length = n * n2) := by show _ = _; simp [prodE]
  have HGP := hide (prod_good hG hG2 hnn)
  clear hs he hs2 he2 hG hG2 hB
  generalize hPN : prodN N N2 m = PN at HPG HPC HLN HGP ⊢
  generalize hPE : prodE how n n2 E E2 = PE at HPE HLE ⊢
  clear hPN hPE
  generalize hW0 : (w.alloc (.cells #[.int .i64 b, .int .i64 t, .slice a n cap, .slice a' n cap'] 25)).alloc (.cells #[.int .i64 b2, .int .i64 t2, .slice a2 n2 cap2, .slice a2' n2 cap2'] 25) = wb at HB HBX HS HE HS2 HE2
  have HP0 := hide (prAt_start wb (fun s => PN.getD s []) (fun s => PE.getD s false))
  obtain ⟨⟨p0, p1, p2, p3⟩, q0, q1, q2, q3⟩ := HBX.out wb (Below.refl _ _)
  go_enter Tryd.func33, Tryd.ntmps33
  go_wp2
  clear hW0 p0 p1 p2 p3 q0 q1 q2 q3
  go_loopw [11, 9, 10] (fun xv vN vE wx => ∃ x : Nat, x ≤ n ∧ xv = .int .i64 x ∧ PrAt wb (fun s => PN.getD s []) (fun s => PE.getD s false) (x * n2) (x * n2) vN vE wx) (fun xv _ _ _ => n - (intOf xv).toNat)
  case atStart => exact ⟨0, by omega, rfl, by rw [Nat.zero_mul]; exact HP0.out⟩
  case round =>
    obtain ⟨x, hx, rfl, hpr⟩ := hrel
    have HPR := hide hpr
    have HBW : Hid (Below wb.heap.size wb wr) := by obtain ⟨_, _, _, _, h⟩ := hpr; exact h
    obtain ⟨⟨p0, p1, p2, p3⟩, -⟩ := HBX.out wr HBW.out
    clear hpr
    by_cases hxl : x < n
    · have hxi : (x : Int) < (n : Int) := by omega
      have hxs := Nat.mul_le_mul_right n2 (show x + 1 ≤ n from hxl)
      rw [Nat.add_mul, Nat.one_mul] at hxs
      go_wp2
      clear p0 p1 p2 p3 HBW
      go_loopw [12, 9, 10] (fun yv vN vE wx => ∃ y : Nat, y ≤ n2 ∧ yv = .int .i64 y ∧ PrAt wb (fun s => PN.getD s []) (fun s => PE.getD s false) (x * n2 + y) (x * n2 + y) vN vE wx) (fun yv _ _ _ => n2 - (intOf yv).toNat)
      case atStart => exact ⟨0, by omega, rfl, HPR.out⟩
      case round =>
        obtain ⟨y, hy, rfl, hpr⟩ := hrel
        have HPR2 := hide hpr
        have HBW : Hid (Below wb.heap.size wb wr) := by obtain ⟨_, _, _, _, h⟩ := hpr; exact h
        clear hpr
        by_cases hyl : y < n2
        · have hyi : (y : Int) < (n2 : Int) := by omega
          have hsl : x * n2 + y < n * n2 := by omega
          have hparts := pair_parts hxl hyl
          have HPE1 := hide (HPE.out _ hsl)
          rw [hparts.1, hparts.2] at HPE1
          have HPC1 : Hid (∀ l, l < m → (PN.getD (x * n2 + y) []).getD l 0 = ((nxt N x l * n2 + nxt N2 y l : Nat) : Int)) := fun l hl => by
            have := HPC.out _ l hsl hl
            rwa [hparts.1, hparts.2] at this
          have HRL : Hid ((PN.getD (x * n2 + y) []).length = m) := (HGP.out.2.2.2.2.2 _ hsl).1
          obtain ⟨bn, on, an, cn, rfl, hcn, hsn⟩ := sl2_cell HS.out x hxl
          rw [(HG.out.2.2.2.2.2 x hxl).1] at hcn hsn
          obtain ⟨bn2, on2, an2, cn2, rfl, hcn2, hsn2⟩ := sl2_cell HS2.out y hyl
          rw [(HG2.out.2.2.2.2.2 y hyl).1] at hcn2 hsn2
          have HCN := hide hcn
          have HCN2 := hide hcn2
          have HSN := hide hsn
          have HSN2 := hide hsn2
          clear hparts hcn hcn2 hsn hsn2
          generalize hsq : x * n2 + y = sq at HPE1 HPC1 HRL HPR2 hsl
          have HSQ := hide hsq
          clear hsq
          obtain ⟨row, hrow⟩ : ∃ row, row = PN.getD sq [] := ⟨_, rfl⟩
          rw [← hrow] at HPC1 HRL
          have HROW := hide hrow
          clear hrow
          have HG0 : Hid (GrowR wr (row.take 0) (.slice none 0 0) wr) := ⟨World.ownsRow_nil _ _ _ _, Below.refl _ _⟩
          go_wp2
          obtain ⟨wq, hwq⟩ : ∃ wq : World, wq = wr := ⟨_, rfl⟩
          rw [← hwq] at HPR2 HBW HG0 ⊢
          clear hwq wr
          go_loopw [13, 14] (fun v lv wx => ∃ l : Nat, l ≤ m ∧ lv = .int .i64 l ∧ GrowR wq (row.take l) v wx) (fun _ lv _ => m - (intOf lv).toNat)
          case atStart => exact ⟨0, by omega, rfl, HG0.out⟩
          case round =>
            obtain ⟨l, hl, rfl, hgr⟩ := hrel
            have HGR := hide hgr
            have HBL := hide (HBW.out.trans (hgr.2.mono HBW.out.size))
            obtain ⟨⟨p0, p1, p2, p3⟩, q0, q1, q2, q3⟩ := HBX.out wr HBL.out
            have hcn : wr.cell? ⟨bn, on + x, none⟩ = some (.slice an m cn) := (HBL.out.cell (p := ⟨bn, on + x, none⟩) (World.block_lt_of_cell? _ _ HCN.out)).trans HCN.out
            have hcn2 : wr.cell? ⟨bn2, on2 + y, none⟩ = some (.slice an2 m cn2) := (HBL.out.cell (p := ⟨bn2, on2 + y, none⟩) (World.block_lt_of_cell? _ _ HCN2.out)).trans HCN2.out
            clear hgr p0 p1 p3 q0 q1 q3
            by_cases hlm : l < m
            · have hlmi : (l : Int) < (m : Int) := by omega
              obtain ⟨b1, o1, rfl, hcx⟩ := sl_cell (sl_below HSN.out HBL.out) l hlm
              obtain ⟨b3, o3, rfl, hcy⟩ := sl_cell (sl_below HSN2.out HBL.out) l hlm
              have hnx := nxt_cell HG.out hxl hlm
              have hny := nxt_cell HG2.out hyl hlm
              rw [hnx.2] at hcx
              rw [hny.2] at hcy
              have hz := HPC1.out l hlm
              have hbd := pair_lt hnx.1 hny.1
              have HTS : Hid (row.take (l + 1) = row.take l ++ [row.getD l 0]) := by show _ = _; rw [List.take_succ_eq_append_getElem (by have := HRL.out; omega), getD_at _ l (by have := HRL.out; omega)]
              rw [hz, show ((nxt N x l * n2 + nxt N2 y l : Nat) : Int) = (nxt N x l : Int) * (n2 : Int) + (nxt N2 y l : Int) by simp] at HTS
              have HTL : Hid ((row.take l).length = l) := by show _ = _; rw [List.length_take]; have := HRL.out; omega
              have HOWN := hide HGR.out.1
              rw [HTL.out] at HOWN
              have HSZ := hide HGR.out.2.size
              have hul := hnx.1
              have hvl := hny.1
              clear hz hnx hny
              generalize nxt N x l = u at hcx HTS hbd hul
              generalize nxt N2 y l = v at hcy HTS hbd hvl
              obtain ⟨pr, hpr⟩ : ∃ pr : Nat, (u : Int) * (n2 : Int) = (pr : Int) := ⟨u * n2, by simp⟩
              have hpb : pr + v < 6400 := by
                have h1 : ((u * n2 : Nat) : Int) = (pr : Int) := by rw [← hpr]; simp
                omega
              rw [hpr] at HTS
              have hwp : IntKind.i64.wrap (pr : Int) = (pr : Int) := wrap_small (by omega) (by omega)
              have hws : IntKind.i64.wrap ((pr : Int) + (v : Int)) = (pr : Int) + (v : Int) := wrap_small (by omega) (by omega)
              clear hbd
              have HKEEP : Hid (∀ (w3 : World) (o : Obj) (vr : Value), wr.ownsRow wq.heap.size 3 1 vr l ((row.take l).map (Value.int .i64)) → (wr.alloc o).drew.grownBy w3 vr.ownBlock → w3.cell? ⟨w.heap.size, 2, none⟩ = some (.slice (some ⟨bn, on, none⟩) n cap) ∧ w3.cell? ⟨w.heap.size + 1, 2, none⟩ = some (.slice (some ⟨bn2, on2, none⟩) n2 cap2) ∧ w3.cell? ⟨bn, on + x, none⟩ = some (.slice (some ⟨b1, o1, none⟩) m cn) ∧ w3.cell? ⟨bn2, on2 + y, none⟩ = some (.slice (some ⟨b3, o3, none⟩) m cn2) ∧ w3.cell? ⟨b1, o1 + l, none⟩ = some (.int .i64 (u : Int)) ∧ w3.cell? ⟨b3, o3 + l, none⟩ = some (.int .i64 (v : Int))) := by
                intro w3 o vr hr hg
                have hB3 : Below wq.heap.size wq w3 := Below.grown ((HGR.out.2.alloc HSZ.out o).drew) hg (by have := HSZ.out; simp; omega) (fun k hk => (hr.lt k hk).1)
                have hBb := HBW.out.trans (hB3.mono HBW.out.size)
                obtain ⟨⟨-, -, e2, -⟩, -, -, f2, -⟩ := HBX.out w3 hBb
                refine ⟨e2, f2, (hBb.cell (p := ⟨bn, on + x, none⟩) (World.block_lt_of_cell? _ _ HCN.out)).trans HCN.out, (hBb.cell (p := ⟨bn2, on2 + y, none⟩) (World.block_lt_of_cell? _ _ HCN2.out)).trans HCN2.out, ?_, ?_⟩
                · obtain ⟨b1', o1', e, hc⟩ := sl_cell (sl_below HSN.out hBb) l hlm
                  obtain ⟨b1'', o1'', e', hc'⟩ := sl_cell (sl_below HSN.out HBL.out) l hlm
                  cases e
                  cases e'
                  rw [hc, ← hc', hcx]
                · obtain ⟨b1', o1', e, hc⟩ := sl_cell (sl_below HSN2.out hBb) l hlm
                  obtain ⟨b1'', o1'', e', hc'⟩ := sl_cell (sl_below HSN2.out HBL.out) l hlm
                  cases e
                  cases e'
                  rw [hc, ← hc', hcy]
              go_wp2
              go_region_held_law (fun W => W.cell? ⟨w.heap.size, 2, none⟩ = some (.slice (some ⟨bn, on, none⟩) n cap) ∧ W.cell? ⟨w.heap.size + 1, 2, none⟩ = some (.slice (some ⟨bn2, on2, none⟩) n2 cap2) ∧ W.cell? ⟨bn, on + x, none⟩ = some (.slice (some ⟨b1, o1, none⟩) m cn) ∧ W.cell? ⟨bn2, on2 + y, none⟩ = some (.slice (some ⟨b3, o3, none⟩) m cn2) ∧ W.cell? ⟨b1, o1 + l, none⟩ = some (.int .i64 (u : Int)) ∧ W.cell? ⟨b3, o3 + l, none⟩ = some (.int .i64 (v : Int))) (first | go_keep | exact HKEEP.out _ _ _ HOWN.out hgrow5)
                (first | (refine step_append_lies _ rfl (.tmp 41) (.tmp 61) 41 rfl wq.heap.size 3 i0 (.int .i64 0) 1 8 Tryd.underlying41 hi0 hz0 hz1 hz2 rfl (by decide) _ l _ rfl (World.ownsRow.alloc (w := wr) HOWN.out _) ⟨wr.heap.size, 0, none⟩ 1 1 [.int .i64 ((pr : Int) + (v : Int))] (by simp [Act.eval]) rfl (one_new wr _ _) (fun u hu => by simp at hu; subst hu; rfl) (by omega) (by unfold maxLen; omega) (by omega) (by have := HSZ.out; simp; omega) (wr.heap.size + 1) (by simp) ?_; intro g5 cg5 w6 hown5 hgrow5 hat5 hlt5; have HO5 := hide hown5; have HG5 := hide hgrow5))
              all_goals
                go_wp2
                go_roundw
                case rel =>
                  refine ⟨l + 1, by omega, by go_num, ?_⟩
                  rw [HTS.out]
                  exact growR_push (o := .cells #[.int .i64 ((pr : Int) + (v : Int))] 3) HGR.out (by rw [HTL.out]; exact HO5.out) ⟨HG5.out.os, HG5.out.tape, HG5.out.output, HG5.out.size, HG5.out.block⟩
                case measure => simp [intOf]; omega
            · have hlmi : ¬ ((l : Int) < (m : Int)) := by omega
              obtain rfl : m = l := by omega
              have HFULL : Hid (row.take m = row) := List.take_of_length_le (by have := HRL.out; omega)
              rw [HFULL.out] at HGR
              have hwf : ∀ z ∈ row, (Lit.int .i64 z).wf = true := fun z hz => by
                obtain ⟨i, hi, rfl⟩ := List.getElem_of_mem hz
                have hi2 : i < m := by have := HRL.out; omega
                have h1 := HPC1.out i hi2
                rw [getD_at _ i hi] at h1
                rw [h1]
                have h2 := pair_lt (nxt_cell HG.out hxl hi2).1 (nxt_cell HG2.out hyl hi2).1
                exact WalkArith.wf_i64 (by omega)
              obtain ⟨ar, cr, rfl, hsr⟩ := sl_of_owns rfl (by unfold maxLen; have := HRL.out; omega) hwf HGR.out.1
              have HON := hide (@prAt_N wb (fun s => PN.getD s []) (fun s => PE.getD s false) sq sq _ _ wq wr ar cr HPR2.out HGR.out.2 (by simp only [← HROW.out]; exact hsr))
              simp only [← HROW.out] at HON
              rw [HRL.out] at HON
              obtain ⟨vals, hoN, hszN, hnx⟩ := HON.out
              have HNX := hide hnx
              have HOWN := hide hoN
              have HSZ := hide hszN
              obtain ⟨be, oe, rfl, hce⟩ := slB_cell (slB_below HE.out HBL.out) x hxl
              obtain ⟨be2, oe2, rfl, hce2⟩ := slB_cell (slB_below HE2.out HBL.out) y hyl
              obtain ⟨⟨-, -, -, p3⟩, -, -, -, q3⟩ := HBX.out wr HBL.out
              have hrlm := HRL.out
              clear hnx hoN hszN HON hsr hwf
              rw [HRL.out]
              have HPX := hide (fun (w3 : World) v3 (h : PrAt wb (fun s => PN.getD s []) (fun s => PE.getD s false) (sq + 1) sq v3 u10 w3) => prAt_E h)
              simp only [HPE1.out] at HPX
              generalize E.getD x false = ex at hce HPE1 HPX
              generalize E2.getD y false = ey at hce2 HPE1 HPX
              obtain ⟨hh0, hh15⟩ := hhow
              rcases ex with _ | _ <;> rcases ey with _ | _
              all_goals
                simp only [howB] at HPX
                go_wp2_with (first
                  | (at_builtin; refine wpList_append_lies _ rfl _ _ 22 rfl wb.heap.size 41 j0 (.slice none 0 0) 1 24 Tryd.underlying22 hj0 hy0 hy1 hy2 rfl (by decide) u9 sq vals rfl (HOWN.out.alloc _) ⟨wr.heap.size, 0, none⟩ 1 1 [.slice ar m cr] rfl rfl (one_new _ _ _) (fun u hu => by simp at hu; subst hu; rfl) (by omega) (by unfold maxLen; omega) (by omega) (by have := HSZ.out; simp; omega) (wr.heap.size + 1) (by simp) ?_; intro g' cg w3 hown3 hgrow3 hat3 hlt3; have HN3 := hide (HNX.out w3 _ g' cg hown3 hgrow3 hat3); obtain ⟨hoE, hszE, hnxE⟩ := HPX.out w3 _ HN3.out; have HOE := hide hoE; have HSE := hide hszE; have HNE := hide hnxE; clear hown3 hgrow3 hat3 hlt3 hoE hszE hnxE)
                  | (at_builtin; refine wpList_append_lies _ rfl _ _ 23 rfl wb.heap.size 4 l0 (.bool false) 1 1 Tryd.underlying23 hl0 hv0 hv1 hv2 rfl (by decide) u10 sq _ rfl (HOE.out.alloc _) ⟨w3.heap.size, 0, none⟩ 1 1 [_] rfl rfl (one_new _ _ _) (fun u hu => by simp at hu; subst hu; rfl) (by omega) (by unfold maxLen; omega) (by omega) (by have := HSE.out; simp; omega) (w3.heap.size + 1) (by simp) ?_; intro g5 cg5 w6 hown5 hgrow5 hat5 hlt5; have HM3 := hide (HNE.out w6 _ g5 cg5 hown5 hgrow5 hat5); clear hown5 hgrow5 hat5 hlt5))
                go_roundw
                case rel => exact ⟨y + 1, by omega, by go_num, by rw [← Nat.add_assoc, HSQ.out]; exact HM3.out⟩
                case measure => simp [intOf]; omega
        · have hyi : ¬ ((y : Int) < (n2 : Int)) := by omega
          obtain rfl : y = n2 := by omega
          go_wp2
          go_roundw
          case rel => exact ⟨x + 1, by omega, by go_num, by rw [Nat.add_mul, Nat.one_mul]; exact HPR2.out⟩
          case measure => simp [intOf]; omega
    · have hxi : ¬ ((x : Int) < (n : Int)) := by omega
      obtain rfl : x = n := by omega
      obtain ⟨ax, cx, ax', cx', rfl, rfl, hf1, hf2, hf3⟩ := prAt_end HPR.out (by unfold maxLen; omega) PN HLN.out (fun _ _ => rfl) PE HLE.out (fun _ _ => rfl)
      have HF1 := hide hf1
      have HF2 := hide hf2
      have HF3 := hide (below_step HB.out hf3)
      clear hf1 hf2 hf3
      rw [← HLN.out] at HF1 HF2 ⊢
      go_wp2
      go_ret2
      exact ⟨ax, cx, ax', cx', by simp, HF1.out, HF2.out, HF3.out⟩
end Go.Proofs.YtklejobfnofbaaeDoor
