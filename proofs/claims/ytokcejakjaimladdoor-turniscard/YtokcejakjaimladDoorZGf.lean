/- 4 texts in one. -/
import Derived.Deep.RegionHeldLaw
import Derived.Deep.RegionLaw
import Derived.Deep.RegionWith
import Derived.Laws.AppendOwnNone
import Derived.Test.YtokcejakjaimladDoorMa
import Derived.Test.YtokcejakjaimladDoorZNx
import Derived.Test.YtokcejakjaimladDoorZLp
import Derived.Test.YtokcejakjaimladDoorB
import Derived.Test.YtokcejakjaimladDoorBp
import Derived.Test.YtokcejakjaimladDoorZCd
import Derived.Test.YtokcejakjaimladDoorZCf
import Derived.Test.YtokcejakjaimladDoorZMp
import Derived.Test.YtokcejakjaimladDoorDb
import Derived.Test.YtokcejakjaimladDoorZG
import Derived.Test.YtokcejakjaimladDoorLr
/- The reference's rows of sets; find, ended, single: contracts. -/
namespace Go.Proofs.YtokcejakjaimladDoor
open Go.RowKit

/-- Cell q of a row of sets. -/
def setC (l : List Nat) (q : Nat) : Value := .int .i64 (if q % 2 = 0 then loS (l.getD (q / 2) 0) else hiS (l.getD (q / 2) 0))
theorem setC_fst (l : List Nat) (j : Nat) : setC l (2 * j) = .int .i64 (loS (l.getD j 0)) := by unfold setC; rw [if_pos (by omega), show 2 * j / 2 = j by omega]
theorem setC_snd (l : List Nat) (j : Nat) : setC l (2 * j + 1) = .int .i64 (hiS (l.getD j 0)) := by unfold setC; rw [if_neg (by omega), show (2 * j + 1) / 2 = j by omega]
theorem setC_old (l : List Nat) (x : Nat) (q : Nat) (hq : q < 2 * l.length) : setC (l ++ [x]) q = setC l q := by
  unfold setC
  rw [pre_getN (List.prefix_append _ _) (by omega : q / 2 < l.length)]
theorem setC_new (l : List Nat) (x : Nat) : setC (l ++ [x]) (2 * l.length) = .int .i64 (loS x) ∧ setC (l ++ [x]) (2 * l.length + 1) = .int .i64 (hiS x) := by
  rw [setC_fst, setC_snd]
  simp [List.getD]
theorem info_set : (Tryd.prog.info? 49).map (fun i => (i.zero, i.size, i.bytes)) = some (some (.agg #[.int .i64 0, .int .i64 0]), 2, 16) := by kernel_rfl

/-- Block b holds the sets l, and room for cap of them. -/
def QueG (W : World) (b len cap : Nat) (l : List Nat) : Prop :=
  l.length = len ∧ len ≤ cap ∧ cap ≤ maxLen ∧ ∃ cur : Array Value, W.heap[b]? = some (.cells cur 49 (0, 0)) ∧ 2 * cap ≤ cur.size ∧ ∀ q, q < 2 * len → cur[q]? = some (setC l q)
theorem queG_kept {W W' : World} {b len cap : Nat} {l : List Nat} (h : QueG W b len cap l) (e : W'.heap[b]? = W.heap[b]?) : QueG W' b len cap l := by
  obtain ⟨h1, h2, h3, cur, h4, h5⟩ := h
  exact ⟨h1, h2, h3, cur, e.trans h4, h5⟩
theorem queG_lt {W : World} {b len cap : Nat} {l : List Nat} (h : QueG W b len cap l) : b < W.heap.size := by
  obtain ⟨h1, h2, h3, cur, h4, h5⟩ := h
  exact (Array.getElem?_eq_some_iff.1 h4).1
theorem queG_cell {W : World} {b len cap : Nat} {l : List Nat} (h : QueG W b len cap l) (q : Nat) (hq : q < 2 * len) : W.cell? ⟨b, q, none⟩ = some (setC l q) := by
  obtain ⟨h1, h2, h3, cur, h4, h5, h6⟩ := h
  simp only [World.cell?, h4]
  exact h6 q hq
theorem queG_at {W : World} {b len cap : Nat} {l : List Nat} (h : QueG W b len cap l) (i : Nat) (hi : i < len) : W.cell? ⟨b, i * 2, none⟩ = some (.int .i64 (loS (l.getD i 0))) ∧ W.cell? ⟨b, i * 2 + 1, none⟩ = some (.int .i64 (hiS (l.getD i 0))) := by
  have h0 := queG_cell h (2 * i) (by omega)
  have h1 := queG_cell h (2 * i + 1) (by omega)
  rw [setC_fst, Nat.mul_comm] at h0
  rw [setC_snd, Nat.mul_comm] at h1
  exact ⟨h0, h1⟩
theorem queG_push {W : World} {b len cap : Nat} {l : List Nat} (h : QueG W b len cap l) (hr : len + 1 ≤ cap) (x : Nat) : QueG (W.setCells b (0 + len * 2) [.int .i64 (loS x), .int .i64 (hiS x)]) b (len + 1) cap (l ++ [x]) := by
  obtain ⟨h1, h2, h3, cur, h4, h5, h6⟩ := h
  refine ⟨by rw [List.length_append, List.length_singleton]; omega, hr, h3, (cur.setIfInBounds (0 + len * 2) (.int .i64 (loS x))).setIfInBounds (0 + len * 2 + 1) (.int .i64 (hiS x)), ?_, by simpa using h5, fun q hq => ?_⟩
  · simp [World.setCells, World.setCell, Array.getElem?_modify, h4]
  · rw [Array.getElem?_setIfInBounds, Array.getElem?_setIfInBounds]
    have hn := setC_new l x
    rw [h1] at hn
    by_cases e1 : q = 2 * len + 1
    · subst e1
      rw [if_pos (by omega), if_pos (by simp; omega), hn.2]
    · rw [if_neg (by omega)]
      by_cases e0 : q = 2 * len
      · subst e0
        rw [if_pos (by omega), if_pos (by omega), hn.1]
      · rw [if_neg (by omega), setC_old l x q (by omega)]
        exact h6 q (by omega)
theorem wpList_append_queG (w : World) {ops : Array Oper} {rest : List Oper} {o : Oper} {a : Act} {Q : Exit → Act → World → Prop}
    (hg : o.guard = none) (s x : Operand) (hop : o.op = Op.call { callee := Callee.builtin Builtin.append, args := #[s, x], argTypes := #[45, 45] })
    (b len cap : Nat) (l : List Nat) (hs : a.eval s = .slice (some ⟨b, 0, none⟩) len cap) (hq : QueG w b len cap l) (ad : Addr) (y : Nat) (y0 y1 : Int) (hy0 : y0 = (loS y)) (hy1 : y1 = (hiS y)) (hx : a.eval x = .slice (some ad) 1 1)
    (hc : ∀ j u, [Value.int .i64 y0, .int .i64 y1][j]? = some u → w.cell? (ad.add j) = some u) (hlen : len ≤ 1000000)
    (hK : ∀ b' cap' w', QueG w' b' (len + 1) cap' (l ++ [y]) → w.grownBy w' (some b) → (b' = b ∨ w.heap.size ≤ b') → wpList Tryd.prog ops Q rest (a.put o.dst (.slice (some ⟨b', 0, none⟩) (len + 1) cap')) w') :
    wpList Tryd.prog ops Q (o :: rest) a w := by
  obtain ⟨i, hi, hz0, hz1, hz2⟩ := info_parts info_set
  refine wpList_plain hg fun K hK' => ?_
  by_cases hr : len + 1 ≤ cap
  · obtain ⟨off, hoff⟩ : ∃ off : Nat, off = 0 := ⟨_, rfl⟩
    have hs' : a.eval s = .slice (some ⟨b, off, none⟩) len cap := by rw [hoff]; exact hs
    have hlt : ∀ j, j < 2 → (w.cell? ⟨b, off + len * 2 + j, none⟩).isSome = true ∧ w.frozen? ⟨b, off + len * 2 + j, none⟩ = false := fun j hj => by
      obtain ⟨h1, h2, h3, cur, h4, h5, h6⟩ := hq
      simp only [World.cell?, World.frozen?, h4]
      have : off + len * 2 + j < cur.size := by omega
      simp [this]
    have hrun := run_append_room_cells (P := Tryd.prog) w 45 o.type 49 i Tryd.underlying45 hi b off len cap ad 1 1 [.int .i64 y0, .int .i64 y1] (by rw [hz1]; rfl) hc (fun u hu => by simp at hu; rcases hu with rfl | rfl <;> rfl) hr (by rw [hz1]; exact fun j hj => (hlt j hj).1) (by rw [hz1]; exact fun j hj => (hlt j hj).2)
    rw [hz1] at hrun
    unfold Oper.wp
    simp [execOp, hop, resolve, invoke, builtin, hs', hx, hrun, Result.andThen]
    subst hoff
    exact hK' _ _ (hK _ _ _ (by rw [hy0, hy1]; exact queG_push hq hr y) (grownBy_sets w _ _ _ _) (.inl rfl))
  · have hol : ((List.range (2 * len)).map (setC l)).length = len * 2 := by simp; omega
    have holds : ∀ j u, ((List.range (2 * len)).map (setC l))[j]? = some u → w.cell? ((⟨b, 0, none⟩ : Addr).add j) = some u := fun j u hj => by
      have hjl : j < 2 * len := by have := (List.getElem?_eq_some_iff.1 hj).1; simpa using this
      rw [Addr.add_lit, Nat.zero_add, queG_cell hq j hjl]
      simpa [hjl] using hj
    obtain ⟨v', w', hrun, r1, r2⟩ := run_append_arg_grows (P := Tryd.prog) w 45 o.type 49 i (.agg #[.int .i64 0, .int .i64 0]) 2 16 Tryd.underlying45 hi hz0 hz1 hz2 rfl (by decide) ⟨b, 0, none⟩ len cap _ hol holds ad 1 1 [.int .i64 y0, .int .i64 y1] rfl hc (by omega) (by unfold maxLen; omega) (by omega)
    obtain ⟨r3, r4⟩ := r1
    rcases r4 with ⟨_, r4⟩ | ⟨g', cap2, cur, rfl, hg', hh, hc1, hc2, hc3, ht⟩
    · omega
    · unfold Oper.wp
      simp [execOp, hop, resolve, invoke, builtin, hs, hx, hrun, Result.andThen]
      refine hK' _ _ (hK _ _ _ ⟨by rw [List.length_append, hq.1]; rfl, hc1, hc2, cur, hh, by omega, fun q hq2 => ?_⟩ ⟨r2.os, r2.tape, r2.output, r2.size, fun k hk _ => r2.block k hk (by simp)⟩ (.inr hg'))
      have h3 : (cur.toList.take ((len + 1) * 2))[q]? = ((List.range (2 * len)).map (setC l) ++ [.int .i64 y0, .int .i64 y1])[q]? := by rw [ht]
      rw [List.getElem?_take, if_pos (by omega), Array.getElem?_toList] at h3
      rw [h3]
      have hn := setC_new l y
      rw [hq.1, ← hy0, ← hy1] at hn
      by_cases e0 : q < 2 * len
      · rw [List.getElem?_append_left (by simpa using e0), setC_old l y q (by rw [hq.1]; exact e0)]
        simp [e0]
      · rw [List.getElem?_append_right (by simpa using Nat.le_of_not_lt e0)]
        by_cases e1 : q = 2 * len
        · subst e1; rw [hn.1]; simp
        · obtain rfl : q = 2 * len + 1 := by omega
          rw [hn.2]; simp

/-- Where a set stands among others; else -1. -/
def findI (l : List Nat) (x : Nat) : Int := if x ∈ l then ((l.idxOf x : Nat) : Int) else -1
theorem findG_at {l : List Nat} {x i : Nat} (hi : i < l.length) (h : l.getD i 0 = x) (hb : ∀ j, j < i → l.getD j 0 ≠ x) : findI l x = (i : Int) := by
  have hm : x ∈ l := by rw [← h]; exact getN_mem hi
  unfold findI
  rw [if_pos hm]
  have h1 := idx_get hm
  have h2 := List.idxOf_lt_length_of_mem hm
  have h3 : ¬ l.idxOf x < i := fun h => hb _ h h1
  have h4 : ¬ i < l.idxOf x := fun h4 => by
    have := List.not_of_lt_findIdx (p := fun y => y == x) (xs := l) (i := i) h4
    have e : l[i] = x := by rw [← h]; simp [List.getD, hi]
    simp [e] at this
  omega
theorem find_none {l : List Nat} {x : Nat} (hb : ∀ j, j < l.length → l.getD j 0 ≠ x) : findI l x = -1 := by
  unfold findI
  rw [if_neg]
  intro hm
  obtain ⟨i, hi, e⟩ := mem_getN hm
  exact hb i hi e

set_option maxHeartbeats 4000000 in
set_option maxRecDepth 4000 in
theorem find_any (b len cap : Nat) (l : List Nat) (x : Nat) (w : World) (hq : QueG w b len cap l) (hlen : len ≤ 1000000) :
    Calls Tryd.prog 31 #[.slice (some ⟨b, 0, none⟩) len cap, .agg #[.int .i64 (loS x), .int .i64 (hiS x)]] w fun e w' => e = .returned (.int .i64 (findI l x)) ∧ Below w.heap.size w w' := by
  have hL := hq.1
  have hB0 := (Below.refl w.heap.size w).alloc (Nat.le_refl _) (.cells #[.int .i64 (loS x), .int .i64 (hiS x)] 49)
  have hx := heap_alloc_last w (.cells #[.int .i64 (loS x), .int .i64 (hiS x)] 49)
  have HQ := hide (queG_kept hq (hB0.block _ (queG_lt hq)))
  have HAT := hide (fun i hi h hb => @findG_at l x i hi h hb)
  have HNO := hide (@find_none l x)
  rw [hL] at HAT HNO
  generalize hW0 : w.alloc (.cells #[.int .i64 (loS x), .int .i64 (hiS x)] 49) = wb at hB0 hx HQ
  have HB0 := hide hB0
  have HX := hide hx
  clear hB0 hx hq hL
  generalize findI l x = fi at HAT HNO ⊢
  go_enter Tryd.func31, Tryd.ntmps31
  go_wp2
  clear hW0
  go_loopw [5] (fun iv wx => ∃ i : Nat, i ≤ len ∧ iv = .int .i64 i ∧ (∀ j, j < i → l.getD j 0 ≠ x) ∧ Below wb.heap.size wb wx) (fun iv _ => len - (intOf iv).toNat)
  case atStart => exact ⟨0, by omega, rfl, fun j hj => by omega, Below.refl _ _⟩
  case round =>
    obtain ⟨i, hi, rfl, hne, hbw⟩ := hrel
    have HNE := hide hne
    have HBW := hide hbw
    have HBQ := hide (below_step HB0.out hbw)
    obtain ⟨⟨r0, r1⟩, -⟩ := box2_cells ((hbw.block _ (Array.getElem?_eq_some_iff.1 HX.out).1).trans HX.out)
    clear hne hbw
    by_cases hlt : i < len
    · have hlti : (i : Int) < (len : Int) := by omega
      obtain ⟨c0, c1⟩ := queG_at (queG_kept HQ.out (HBW.out.block _ (queG_lt HQ.out))) i hlt
      have HE := hide (fun h1 h2 => @set_eq (l.getD i 0) x h1 h2)
      have HAT1 := hide (fun h => HAT.out i hlt h HNE.out)
      have HNE1 : Hid (l.getD i 0 ≠ x → ∀ j, j < i + 1 → l.getD j 0 ≠ x) := fun h j hj => by
        by_cases e : j = i
        · subst e; exact h
        · exact HNE.out j (by omega)
      generalize l.getD i 0 = y at c0 c1 HE HAT1 HNE1
      by_cases e : y = x
      · subst e
        have HF := hide (HAT1.out rfl)
        go_wp2
        go_quiet (fail)
        go_wp2
        go_ret
        exact ⟨by rw [HF.out]; simp, below_drewN HBQ.out nq⟩
      · have hd : (loS y == loS x) = false ∨ ((loS y == loS x) = true ∧ (hiS y == hiS x) = false) := by
          by_cases e0 : loS y = loS x
          · exact .inr ⟨by simp [e0], by simp; exact fun e1 => e (HE.out e0 e1)⟩
          · exact .inl (by simp [e0])
        have HNX := hide (HNE1.out e)
        rcases hd with hd | ⟨hd, hd2⟩
        · go_wp2
          go_quiet (fail)
          go_wp2
          go_roundw
          case rel => exact ⟨i + 1, by omega, by go_num, HNX.out, below_drewN HBW.out nq⟩
          case measure => simp [intOf]; omega
        · go_wp2
          go_quiet (fail)
          go_wp2
          go_roundw
          case rel => exact ⟨i + 1, by omega, by go_num, HNX.out, below_drewN HBW.out nq⟩
          case measure => simp [intOf]; omega
    · have hlti : ¬ (i : Int) < (len : Int) := by omega
      obtain rfl : len = i := by omega
      have HF := hide (HNO.out HNE.out)
      go_wp2
      go_ret
      exact ⟨by rw [HF.out]; simp, HBQ.out⟩

end Go.Proofs.YtokcejakjaimladDoor

/- The reference's Grown: what holds between its rounds. -/
namespace Go.Proofs.YtokcejakjaimladDoor
open Go.RowKit

/-- Rows that were gathered, beside blocks that turn. -/
theorem rwAt_cells {w : World} {ls : Nat → List Int} {k : Nat} {v : Value} {W W2 : World} (h : RwAt w ls k v W) (hc : ∀ (x : Nat) (cs : Array Value) (T : TypeId) (f : Nat × Nat), W.heap[x]? = some (Obj.cells cs T f) → W2.heap[x]? = W.heap[x]?) (hb : Below w.heap.size w W2) : RwAt w ls k v W2 := by
  obtain ⟨vals, h1, h2, -⟩ := h
  refine ⟨vals, ownsRow_of_block h1 fun x hx => ?_, fun j hj => ?_, hb⟩
  · rcases h1.2 with ⟨rfl, _⟩ | ⟨g, cap, cur, rfl, _, hh, _⟩
    · simp [Value.ownBlock] at hx
    · simp [Value.ownBlock] at hx
      subst hx
      exact hc _ _ _ _ hh
  · obtain ⟨a, cap, e1, e2, e3⟩ := h2 j hj
    refine ⟨a, cap, e1, sl_keep e2 fun x hx => ?_, e3⟩
    obtain ⟨h0, ad, rfl, rfl⟩ := hx
    obtain ⟨b', o, e, hcl⟩ := sl_cell e2 0 h0
    cases e
    obtain ⟨cs, T, f, hh⟩ := cell_block hcl
    exact hc _ _ _ _ hh
def RwX (w : World) (ls : Nat → List Int) (k : Nat) (v : Value) (X : List Nat) (W : World) : Prop := RwAt w ls k v (maskW X W) ∧ Below w.heap.size w W ∧ ∀ x ∈ X, w.heap.size ≤ x
theorem rwX_turn {w : World} {ls : Nat → List Int} {k : Nat} {v : Value} {X X' : List Nat} {W W2 : World} (h : RwX w ls k v X W) (hk : ∀ x, x < W.heap.size → ¬ x ∈ X → W2.heap[x]? = W.heap[x]?) (hX : ∀ x ∈ X', x ∈ X ∨ W.heap.size ≤ x) (hb : Below w.heap.size w W2) (hX2 : ∀ x ∈ X', w.heap.size ≤ x) : RwX w ls k v X' W2 := by
  refine ⟨rwAt_cells h.1 (fun x cs T f hx => ?_) (mask_below hb hX2), hb, hX2⟩
  obtain ⟨h1, h2⟩ := mask_cells hx
  have hlt := (Array.getElem?_eq_some_iff.1 h2).1
  rw [mask_out (fun hx' => by rcases hX x hx' with h | h; exact h1 h; omega), mask_out h1, hk x hlt h1]
theorem rwX_nil (w W : World) (ls : Nat → List Int) (X : List Nat) (hb : Below w.heap.size w W) (hX : ∀ x ∈ X, w.heap.size ≤ x) : RwX w ls 0 (.slice none 0 0) X W := ⟨⟨[], World.ownsRow_nil _ _ _ _, fun j hj => by omega, mask_below hb hX⟩, hb, hX⟩
/-- One row more: X are the blocks that have turned since W. -/
theorem rwX_push {w : World} {ls : Nat → List Int} {k : Nat} {v : Value} {X : List Nat} {W W2 : World} {br cr : Nat} (h : RwX w ls k v X W) (hk : ∀ x, x < W.heap.size → ¬ x ∈ X → W2.heap[x]? = W.heap[x]?) (hsz : W.heap.size ≤ W2.heap.size) (hb : Below w.heap.size w W2) (hs : Sl W2 (some ⟨br, 0, none⟩) (ls k).length (ls k)) (hbr : W.heap.size ≤ br) (hbX : ¬ br ∈ X) (hXlt : ∀ x ∈ X, x < W2.heap.size) :
    ∃ vals : List Value, W2.ownsRow w.heap.size 37 1 v k vals ∧ (∀ x, v.ownBlock = some x → ¬ x ∈ X ∧ x < W.heap.size) ∧
      ∀ (w3 : World) (o : Obj) (g' cap' : Nat), w3.ownsRow w.heap.size 37 1 (.slice (some ⟨g', 0, none⟩) (k + 1) cap') (k + 1) (vals ++ [.slice (some ⟨br, 0, none⟩) (ls k).length cr]) → (W2.alloc o).grownBy w3 v.ownBlock → (v.ownBlock = some g' ∨ g' = W2.heap.size + 1) → RwX w ls (k + 1) (.slice (some ⟨g', 0, none⟩) (k + 1) cap') X w3 ∧ ∀ x ∈ X, w3.heap[x]? = W2.heap[x]? := by
  have hbm : Below (maskW X W).heap.size (maskW X W) (maskW X W2) := by
    rw [mask_size]
    exact mask_belows hsz (hb.os.trans h.2.1.os.symm) (hb.tape.trans h.2.1.tape.symm) (hb.output.trans h.2.1.output.symm) hk (Nat.le_refl _)
  obtain ⟨vals, c2, c3, c4⟩ := @rwAt_push w (maskW X W) (maskW X W2) ls k v (some ⟨br, 0, none⟩) cr h.1 hbm ⟨sl_keep hs (fun x hx => by obtain ⟨_, ad, e, rfl⟩ := hx; cases e; exact mask_out hbX _), fun ad e => by cases e; rw [mask_size]; exact hbr⟩
  obtain ⟨d2, d3⟩ := mask_owns c2
  have d4 : ∀ x, v.ownBlock = some x → x < W.heap.size := fun x hx => by
    obtain ⟨vals0, e1, -, -⟩ := h.1
    have := (e1.lt x hx).2
    rwa [mask_size] at this
  refine ⟨vals, d2, fun x hx => ⟨d3 x hx, d4 x hx⟩, fun w3 o g' cap' hown hgrow hat => ?_⟩
  have hg' : ¬ g' ∈ X := by
    rcases hat with e | e
    · exact d3 g' e
    · intro hx; have := hXlt g' hx; omega
  have f3 := c4 (maskW X w3) o g' cap' (owns_mask hown (fun x hx => by simp [Value.ownBlock] at hx; subst hx; exact hg')) (mask_grown hXlt hgrow) (by rw [World.size_alloc, mask_size]; exact hat)
  have hbel : Below w.heap.size w w3 := Below.grown (hb.alloc hb.size o) hgrow (by have := hb.size; simp; omega) (fun x hx => (d2.lt x hx).1)
  refine ⟨⟨f3, hbel, h.2.2⟩, fun x hx => ?_⟩
  rw [hgrow.block x (by have := hXlt x hx; simp; omega) (fun e => d3 x e.symm hx), Below.heap_alloc _ _ _ (hXlt x hx)]
theorem rwX_end {w : World} {ls : Nat → List Int} {k : Nat} {v : Value} {X : List Nat} {W : World} (h : RwX w ls k v X W) (hk : k ≤ maxLen) (L : List (List Int)) (hL : L.length = k) (hl : ∀ j, j < k → L.getD j [] = ls j) : ∃ a cap, v = .slice a k cap ∧ Sl2 W a k L := by
  obtain ⟨a, cap, e, hs⟩ := rwAt_end h.1 hk L hL hl
  exact ⟨a, cap, e, mask_sl2 hs⟩

/-- Within a round: the sets that are found, and the row that is made, beside what was there at its beginning (all but the sets' old block). -/
structure GrI (w wq : World) (b : Nat) (L : List Nat) (row : List Int) (v v' : Value) (W : World) (b' cap : Nat) : Prop where
  val : v = .slice (some ⟨b', 0, none⟩) L.length cap
  que : QueG W b' L.length cap L
  at_ : b' = b ∨ wq.heap.size ≤ b'
  row_ : W.ownsRow wq.heap.size 3 1 v' row.length (row.map (Value.int .i64))
  far : v'.ownBlock ≠ some b'
  keep : ∀ x, x < wq.heap.size → x ≠ b → W.heap[x]? = wq.heap[x]?
  below : Below w.heap.size w W
  size : wq.heap.size ≤ W.heap.size
  base : w.heap.size ≤ b ∧ w.heap.size ≤ wq.heap.size
theorem grI_below {w wq : World} {b : Nat} {L : List Nat} {row : List Int} {v v' : Value} {W W2 : World} {b' cap : Nat} (h : GrI w wq b L row v v' W b' cap) (hb : Below W.heap.size W W2) : GrI w wq b L row v v' W2 b' cap :=
  ⟨h.val, queG_kept h.que (hb.block _ (queG_lt h.que)), h.at_, ownsRow_of_block h.row_ (fun x hx => hb.block _ (h.row_.lt x hx).2), h.far, fun x hx hne => (hb.block x (Nat.lt_of_lt_of_le hx h.size)).trans (h.keep x hx hne), below_step h.below hb, Nat.le_trans h.size hb.size, h.base⟩
theorem grI_set {w wq : World} {b : Nat} {L : List Nat} {row : List Int} {v v' : Value} {W w3 : World} {b' cap x : Nat} {o : Obj} {b2 cap2 : Nat} (h : GrI w wq b L row v v' W b' cap) (hq : QueG w3 b2 (L.length + 1) cap2 (L ++ [x])) (hg : (W.alloc o).grownBy w3 (some b')) (hb2 : b2 = b' ∨ (W.alloc o).heap.size ≤ b2) : GrI w wq b (L ++ [x]) row (.slice (some ⟨b2, 0, none⟩) (L.length + 1) cap2) v' w3 b2 cap2 := by
  have hsz := hg.size
  simp at hsz
  have hs0 := h.size
  have hkeep : ∀ z, z < W.heap.size → z ≠ b' → w3.heap[z]? = W.heap[z]? := fun z hz hne => by
    rw [hg.block z (by simp; omega) (fun e => hne (Option.some.inj e)), Below.heap_alloc _ _ _ hz]
  refine ⟨by rw [List.length_append, List.length_singleton], by rw [List.length_append, List.length_singleton]; exact hq, ?_, ownsRow_of_block h.row_ (fun z hz => hkeep z (h.row_.lt z hz).2 (fun e => h.far (e ▸ hz))), fun e => ?_, fun z hz hne => ?_, ?_, by omega, h.base⟩
  · rcases hb2 with rfl | hb2
    · exact h.at_
    · simp at hb2; exact .inr (by omega)
  · rcases hb2 with rfl | hb2
    · exact h.far e
    · have := (h.row_.lt _ e).2
      simp at hb2; omega
  · rw [hkeep z (by omega) (fun e => ?_), h.keep z hz hne]
    rcases h.at_ with e2 | e2
    · omega
    · omega
  · refine Below.grown (h.below.alloc h.below.size o) hg (by have := h.below.size; simp; omega) (fun k hk => ?_)
    cases hk
    rcases h.at_ with e2 | e2
    · rw [e2]; exact h.base.1
    · have := h.base.2; omega
theorem grI_row {w wq : World} {b : Nat} {L : List Nat} {row : List Int} {v v' v2 : Value} {W w3 : World} {b' cap : Nat} {o : Obj} {x : Int} (h : GrI w wq b L row v v' W b' cap) (hown : w3.ownsRow wq.heap.size 3 1 v2 (row.length + 1) (row.map (Value.int .i64) ++ [.int .i64 x])) (hg : (W.alloc o).grownBy w3 v'.ownBlock) (hat : v2.ownBlock = v'.ownBlock ∨ v2.ownBlock = some (W.alloc o).heap.size) : GrI w wq b L (row ++ [x]) v v2 w3 b' cap := by
  have hsz := hg.size
  simp at hsz
  have hs0 := h.size
  have hqlt := queG_lt h.que
  have hkeep : ∀ z, z < W.heap.size → v'.ownBlock ≠ some z → w3.heap[z]? = W.heap[z]? := fun z hz hne => by
    rw [hg.block z (by simp; omega) (fun e => hne e.symm), Below.heap_alloc _ _ _ hz]
  refine ⟨h.val, queG_kept h.que (hkeep _ hqlt h.far), h.at_, by rw [List.length_append, List.map_append]; exact hown, fun e => ?_, fun z hz hne => ?_, ?_, by omega, h.base⟩
  · rcases hat with e2 | e2
    · exact h.far (e2 ▸ e)
    · rw [e2] at e
      simp at e
      omega
  · rw [hkeep z (by omega) (fun e => ?_), h.keep z hz hne]
    have := (h.row_.lt z e).1
    omega
  · exact Below.grown (h.below.alloc h.below.size o) hg (by have := h.below.size; simp; omega) (fun k hk => by have := (h.row_.lt k hk).1; have := h.base.2; omega)
end Go.Proofs.YtokcejakjaimladDoor

/- Closed under 0s ahead: mathematics. -/
namespace Go.Proofs.YtokcejakjaimladDoor
open Go.RowKit

/-- Each letter read as itself. -/
def sglR (m : Nat) : List (List Int) := (List.range m).map fun l : Nat => [(l : Int)]
theorem sglR_len (m : Nat) : (sglR m).length = m := by simp [sglR]
theorem sglR_get {m l : Nat} (hl : l < m) : (sglR m).getD l [] = [(l : Int)] := by simp [sglR, List.getD, hl]
theorem sglR_ok (m : Nat) : ∀ l, l < m → ∀ x ∈ (sglR m).getD l [], 0 ≤ x ∧ x < (m : Int) := by
  intro l hl x hx
  rw [sglR_get hl] at hx
  simp at hx
  omega
end Go.Proofs.YtokcejakjaimladDoor

/- From behind: the sets that come up, the words that are taken; mathematics. -/
namespace Go.Proofs.YtokcejakjaimladDoor
open Go.RowKit

/-- All whose next with a letter is in a set; the set of those with an end. -/
def dB (N : List (List Int)) (n : Nat) (M l : Nat) : Nat := maskB n fun s => M.testBit (nxt N s l)
def fB (n : Nat) (E : List Bool) : Nat := maskB n fun s => E.getD s false
theorem dB_lt (N : List (List Int)) (n M l : Nat) : dB N n M l < 2 ^ n := maskB_lt _ _
theorem fB_lt (n : Nat) (E : List Bool) : fB n E < 2 ^ n := maskB_lt _ _
theorem dB_bit {N : List (List Int)} {n M l s : Nat} (hs : s < n) : (dB N n M l).testBit s = M.testBit (nxt N s l) := by
  unfold dB; rw [maskB_bit]; simp [hs]
/-- What comes up of sets from behind, and the automaton of them. -/
def tbL (N : List (List Int)) (E : List Bool) (n m : Nat) : List Nat := outG (dB N n) m (fB n E) 2000
def tbN (N : List (List Int)) (E : List Bool) (n m : Nat) : List (List Int) := gN (dB N n) m (tbL N E n m)
def tbE (N : List (List Int)) (E : List Bool) (n m : Nat) : List Bool := gE (fun M => M.testBit 0) (tbL N E n m)
theorem tb_first (N : List (List Int)) (E : List Bool) (n m : Nat) : 0 < (tbL N E n m).length ∧ (tbL N E n m).getD 0 0 = fB n E := outG_pos _ _ _ _
theorem tb_closed {N : List (List Int)} {E : List Bool} {n m : Nat} (h : (tbL N E n m).length ≤ 2000) : ClosedG (dB N n) m (tbL N E n m) := outG_closed h
theorem tb_good {N : List (List Int)} {E : List Bool} {n m : Nat} (h : (tbL N E n m).length ≤ 2000) (h1 : 1 ≤ m) (h36 : m ≤ 36) : GoodN m (tbL N E n m).length (tbN N E n m) := gN_good (tb_closed h) (tb_first _ _ _ _).1 (by omega) h1 h36
/-- Turn: the fault of the sets, how many they are; the fault of all, the automaton. -/
def tnL (b t : Int) (N : List (List Int)) (E : List Bool) : List Nat := tbL (leastN N E (manyU b t).toNat) (leastE N E (manyU b t).toNat) (leastK N E (manyU b t).toNat) (manyU b t).toNat
def tnGN (b t : Int) (N : List (List Int)) (E : List Bool) : List (List Int) := tbN (leastN N E (manyU b t).toNat) (leastE N E (manyU b t).toNat) (leastK N E (manyU b t).toNat) (manyU b t).toNat
def tnGE (b t : Int) (N : List (List Int)) (E : List Bool) : List Bool := tbE (leastN N E (manyU b t).toNat) (leastE N E (manyU b t).toNat) (leastK N E (manyU b t).toNat) (manyU b t).toNat
def tnS (b t : Int) (N : List (List Int)) (E : List Bool) (k : Nat) : Int := if autoC b t N k = 0 then (if 2000 < (tnL b t N E).length then 3 else 0) else autoC b t N k
def tnM (b t : Int) (N : List (List Int)) (E : List Bool) (k : Nat) : Int := if tnS b t N E k = 0 then ((tnL b t N E).length : Int) else 0
def tnC (b t : Int) (N : List (List Int)) (E : List Bool) (k : Nat) : Int := if tnS b t N E k = 0 then (if 80 < leastK (tnGN b t N E) (tnGE b t N E) (manyU b t).toNat then 3 else 0) else tnS b t N E k
def tnN (b t : Int) (N : List (List Int)) (E : List Bool) (k : Nat) : List (List Int) := if tnC b t N E k = 0 then leastN (tnGN b t N E) (tnGE b t N E) (manyU b t).toNat else []
def tnE (b t : Int) (N : List (List Int)) (E : List Bool) (k : Nat) : List Bool := if tnC b t N E k = 0 then leastE (tnGN b t N E) (tnGE b t N E) (manyU b t).toNat else []
theorem tnS_zero {b t : Int} {N : List (List Int)} {E : List Bool} {k : Nat} (h : tnS b t N E k = 0) : autoC b t N k = 0 ∧ (tnL b t N E).length ≤ 2000 := by
  unfold tnS at h
  split at h
  · split at h
    · cases h
    · exact ⟨by assumption, by omega⟩
  · rename_i h1; exact absurd h h1
theorem tn_good {b t : Int} {N : List (List Int)} {E : List Bool} {n : Nat} (hG : GoodN (manyU b t).toNat n N) (h : (tnL b t N E).length ≤ 2000) : GoodN (manyU b t).toNat (tnL b t N E).length (tnGN b t N E) := tb_good h hG.2.2.2.2.1 hG.2.2.2.1
end Go.Proofs.YtokcejakjaimladDoor
