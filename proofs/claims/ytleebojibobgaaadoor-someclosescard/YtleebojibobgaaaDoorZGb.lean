/- 6 texts in one. -/
import Derived.Deep.RegionHeldLaw
import Derived.Deep.RegionLaw
import Derived.Deep.RegionWith
import Derived.Test.YtleebojibobgaaaDoorMa
import Derived.Test.YtleebojibobgaaaDoorZLp
import Derived.Test.YtleebojibobgaaaDoorAx
import Derived.Test.YtleebojibobgaaaDoorB
import Derived.Test.YtleebojibobgaaaDoorBp
import Derived.Test.YtleebojibobgaaaDoorZCf
import Derived.Test.YtleebojibobgaaaDoorZCi
import Derived.Test.YtleebojibobgaaaDoorZMp
import Derived.Test.YtleebojibobgaaaDoorZG
import Derived.Test.YtleebojibobgaaaDoorZNx
import Derived.Test.YtleebojibobgaaaDoorLr
import Derived.Test.YtleebojibobgaaaDoorZCd
/- A track left out: the sets that come up, the words that are taken; mathematics. -/
namespace Go.Proofs.YtleebojibobgaaaDoor
open Go.RowKit

theorem runF_lt {m n : Nat} {N : List (List Int)} (hG : GoodN m n N) {s : Nat} (hs : s < n) {v : List Int} (hv : okW m v) : runF N s v < n := by
  induction v generalizing s with
  | nil => exact hs
  | cons x v ih => exact ih (goodN_step hG s hs x (hv x (by simp))).1 (fun y hy => hv y (by simp [hy]))
/-- The sets of an automaton that come up; of them the automaton. -/
def setsS (N : List (List Int)) (n : Nat) (read : List (List Int)) (ls : List Int) : List Nat := outG (dM N n read) read.length (cloM N n ls) 2000
def setN (N : List (List Int)) (n : Nat) (read : List (List Int)) (ls : List Int) : List (List Int) := gN (dM N n read) read.length (setsS N n read ls)
def setE (N : List (List Int)) (n : Nat) (E : List Bool) (read : List (List Int)) (ls : List Int) : List Bool := gE (endM n E) (setsS N n read ls)
theorem sets_closed {N : List (List Int)} {n : Nat} {read : List (List Int)} {ls : List Int} (h : (setsS N n read ls).length ≤ 2000) : ClosedG (dM N n read) read.length (setsS N n read ls) := outG_closed h
theorem sets_first (N : List (List Int)) (n : Nat) (read : List (List Int)) (ls : List Int) : 0 < (setsS N n read ls).length ∧ (setsS N n read ls).getD 0 0 = cloM N n ls := outG_pos _ _ _ _
end Go.Proofs.YtleebojibobgaaaDoor

/- The reference's rows of sets; find, ended, single: contracts. -/
namespace Go.Proofs.YtleebojibobgaaaDoor
open Go.RowKit

/-- Cell q of a row of sets. -/
def setC (l : List Nat) (q : Nat) : Value := .int .i64 (if q % 2 = 0 then loS (l.getD (q / 2) 0) else hiS (l.getD (q / 2) 0))
theorem setC_fst (l : List Nat) (j : Nat) : setC l (2 * j) = .int .i64 (loS (l.getD j 0)) := by unfold setC; rw [if_pos (by omega), show 2 * j / 2 = j by omega]
theorem setC_snd (l : List Nat) (j : Nat) : setC l (2 * j + 1) = .int .i64 (hiS (l.getD j 0)) := by unfold setC; rw [if_neg (by omega), show (2 * j + 1) / 2 = j by omega]
theorem setC_old (l : List Nat) (x : Nat) (q : Nat) (hq : q < 2 * l.length) : setC (l ++ [x]) q = setC l q := by
  unfold setC
  rw [pre_getN (List.prefix_append _ _) (by omega : q / 2 < l.length)]
theorem setC_new (l : List Nat) (x : Nat) : setC (l ++ [x]) (2 * l.length) = .int .i64 (loS x) ∧ setC (l ++ [x]) (2 * l.length + 1) = .int .i64 (hiS x) := by
  rw [setC_fst, setC_snd]
  simp [List.getD]
theorem info_set : (Tryd.prog.info? 45).map (fun i => (i.zero, i.size, i.bytes)) = some (some (.agg #[.int .i64 0, .int .i64 0]), 2, 16) := by kernel_rfl

/-- Block b holds the sets l, and room for cap of them. -/
def QueG (W : World) (b len cap : Nat) (l : List Nat) : Prop :=
  l.length = len ∧ len ≤ cap ∧ cap ≤ maxLen ∧ ∃ cur : Array Value, W.heap[b]? = some (.cells cur 45 (0, 0)) ∧ 2 * cap ≤ cur.size ∧ ∀ q, q < 2 * len → cur[q]? = some (setC l q)
theorem queG_kept {W W' : World} {b len cap : Nat} {l : List Nat} (h : QueG W b len cap l) (e : W'.heap[b]? = W.heap[b]?) : QueG W' b len cap l := by
  obtain ⟨h1, h2, h3, cur, h4, h5⟩ := h
  exact ⟨h1, h2, h3, cur, e.trans h4, h5⟩
theorem queG_lt {W : World} {b len cap : Nat} {l : List Nat} (h : QueG W b len cap l) : b < W.heap.size := by
  obtain ⟨h1, h2, h3, cur, h4, h5⟩ := h
  exact (Array.getElem?_eq_some_iff.1 h4).1
theorem queG_cell {W : World} {b len cap : Nat} {l : List Nat} (h : QueG W b len cap l) (q : Nat) (hq : q < 2 * len) : W.cell? ⟨b, q, none⟩ = some (setC l q) := by
  obtain ⟨h1, h2, h3, cur, h4, h5, h6⟩ := h
  simp only [World.cell?, h4]
  exact h6 q hq
theorem queG_at {W : World} {b len cap : Nat} {l : List Nat} (h : QueG W b len cap l) (i : Nat) (hi : i < len) : W.cell? ⟨b, i * 2, none⟩ = some (.int .i64 (loS (l.getD i 0))) ∧ W.cell? ⟨b, i * 2 + 1, none⟩ = some (.int .i64 (hiS (l.getD i 0))) := by
  have h0 := queG_cell h (2 * i) (by omega)
  have h1 := queG_cell h (2 * i + 1) (by omega)
  rw [setC_fst, Nat.mul_comm] at h0
  rw [setC_snd, Nat.mul_comm] at h1
  exact ⟨h0, h1⟩
theorem queG_push {W : World} {b len cap : Nat} {l : List Nat} (h : QueG W b len cap l) (hr : len + 1 ≤ cap) (x : Nat) : QueG (W.setCells b (0 + len * 2) [.int .i64 (loS x), .int .i64 (hiS x)]) b (len + 1) cap (l ++ [x]) := by
  obtain ⟨h1, h2, h3, cur, h4, h5, h6⟩ := h
  refine ⟨by rw [List.length_append, List.length_singleton]; omega, hr, h3, (cur.setIfInBounds (0 + len * 2) (.int .i64 (loS x))).setIfInBounds (0 + len * 2 + 1) (.int .i64 (hiS x)), ?_, by simpa using h5, fun q hq => ?_⟩
  · simp [World.setCells, World.setCell, Array.getElem?_modify, h4]
  · rw [Array.getElem?_setIfInBounds, Array.getElem?_setIfInBounds]
    have hn := setC_new l x
    rw [h1] at hn
    by_cases e1 : q = 2 * len + 1
    · subst e1
      rw [if_pos (by omega), if_pos (by simp; omega), hn.2]
    · rw [if_neg (by omega)]
      by_cases e0 : q = 2 * len
      · subst e0
        rw [if_pos (by omega), if_pos (by omega), hn.1]
      · rw [if_neg (by omega), setC_old l x q (by omega)]
        exact h6 q (by omega)
theorem wpList_append_queG (w : World) {ops : Array Oper} {rest : List Oper} {o : Oper} {a : Act} {Q : Exit → Act → World → Prop}
    (hg : o.guard = none) (s x : Operand) (hop : o.op = Op.call { callee := Callee.builtin Builtin.append, args := #[s, x], argTypes := #[41, 41] })
    (b len cap : Nat) (l : List Nat) (hs : a.eval s = .slice (some ⟨b, 0, none⟩) len cap) (hq : QueG w b len cap l) (ad : Addr) (y : Nat) (y0 y1 : Int) (hy0 : y0 = (loS y)) (hy1 : y1 = (hiS y)) (hx : a.eval x = .slice (some ad) 1 1)
    (hc : ∀ j u, [Value.int .i64 y0, .int .i64 y1][j]? = some u → w.cell? (ad.add j) = some u) (hlen : len ≤ 100000000)
    (hK : ∀ b' cap' w', QueG w' b' (len + 1) cap' (l ++ [y]) → w.grownBy w' (some b) → (b' = b ∨ w.heap.size ≤ b') → wpList Tryd.prog ops Q rest (a.put o.dst (.slice (some ⟨b', 0, none⟩) (len + 1) cap')) w') :
    wpList Tryd.prog ops Q (o :: rest) a w := by
  obtain ⟨i, hi, hz0, hz1, hz2⟩ := info_parts info_set
  refine wpList_plain hg fun K hK' => ?_
  by_cases hr : len + 1 ≤ cap
  · obtain ⟨off, hoff⟩ : ∃ off : Nat, off = 0 := ⟨_, rfl⟩
    have hs' : a.eval s = .slice (some ⟨b, off, none⟩) len cap := by rw [hoff]; exact hs
    have hlt : ∀ j, j < 2 → (w.cell? ⟨b, off + len * 2 + j, none⟩).isSome = true ∧ w.frozen? ⟨b, off + len * 2 + j, none⟩ = false := fun j hj => by
      obtain ⟨h1, h2, h3, cur, h4, h5, h6⟩ := hq
      simp only [World.cell?, World.frozen?, h4]
      have : off + len * 2 + j < cur.size := by omega
      simp [this]
    have hrun := run_append_room_cells (P := Tryd.prog) w 41 o.type 45 i Tryd.underlying41 hi b off len cap ad 1 1 [.int .i64 y0, .int .i64 y1] (by rw [hz1]; rfl) hc (fun u hu => by simp at hu; rcases hu with rfl | rfl <;> rfl) hr (by rw [hz1]; exact fun j hj => (hlt j hj).1) (by rw [hz1]; exact fun j hj => (hlt j hj).2)
    rw [hz1] at hrun
    unfold Oper.wp
    simp [execOp, hop, resolve, invoke, builtin, hs', hx, hrun, Result.andThen]
    subst hoff
    exact hK' _ _ (hK _ _ _ (by rw [hy0, hy1]; exact queG_push hq hr y) (grownBy_sets w _ _ _ _) (.inl rfl))
  · have hol : ((List.range (2 * len)).map (setC l)).length = len * 2 := by simp; omega
    have holds : ∀ j u, ((List.range (2 * len)).map (setC l))[j]? = some u → w.cell? ((⟨b, 0, none⟩ : Addr).add j) = some u := fun j u hj => by
      have hjl : j < 2 * len := by have := (List.getElem?_eq_some_iff.1 hj).1; simpa using this
      rw [Addr.add_lit, Nat.zero_add, queG_cell hq j hjl]
      simpa [hjl] using hj
    obtain ⟨v', w', hrun, r1, r2⟩ := run_append_arg_grows (P := Tryd.prog) w 41 o.type 45 i (.agg #[.int .i64 0, .int .i64 0]) 2 16 Tryd.underlying41 hi hz0 hz1 hz2 rfl (by decide) ⟨b, 0, none⟩ len cap _ hol holds ad 1 1 [.int .i64 y0, .int .i64 y1] rfl hc (by omega) (by unfold maxLen; omega) (by omega)
    obtain ⟨r3, r4⟩ := r1
    rcases r4 with ⟨_, r4⟩ | ⟨g', cap2, cur, rfl, hg', hh, hc1, hc2, hc3, ht⟩
    · omega
    · unfold Oper.wp
      simp [execOp, hop, resolve, invoke, builtin, hs, hx, hrun, Result.andThen]
      refine hK' _ _ (hK _ _ _ ⟨by rw [List.length_append, hq.1]; rfl, hc1, hc2, cur, hh, by omega, fun q hq2 => ?_⟩ ⟨r2.os, r2.tape, r2.output, r2.size, fun k hk _ => r2.block k hk (by simp)⟩ (.inr hg'))
      have h3 : (cur.toList.take ((len + 1) * 2))[q]? = ((List.range (2 * len)).map (setC l) ++ [.int .i64 y0, .int .i64 y1])[q]? := by rw [ht]
      rw [List.getElem?_take, if_pos (by omega), Array.getElem?_toList] at h3
      rw [h3]
      have hn := setC_new l y
      rw [hq.1, ← hy0, ← hy1] at hn
      by_cases e0 : q < 2 * len
      · rw [List.getElem?_append_left (by simpa using e0), setC_old l y q (by rw [hq.1]; exact e0)]
        simp [e0]
      · rw [List.getElem?_append_right (by simpa using Nat.le_of_not_lt e0)]
        by_cases e1 : q = 2 * len
        · subst e1; rw [hn.1]; simp
        · obtain rfl : q = 2 * len + 1 := by omega
          rw [hn.2]; simp

/-- Where a set stands among others; else -1. -/
def findI (l : List Nat) (x : Nat) : Int := if x ∈ l then ((l.idxOf x : Nat) : Int) else -1
theorem findG_at {l : List Nat} {x i : Nat} (hi : i < l.length) (h : l.getD i 0 = x) (hb : ∀ j, j < i → l.getD j 0 ≠ x) : findI l x = (i : Int) := by
  have hm : x ∈ l := by rw [← h]; exact getN_mem hi
  unfold findI
  rw [if_pos hm]
  have h1 := idx_get hm
  have h2 := List.idxOf_lt_length_of_mem hm
  have h3 : ¬ l.idxOf x < i := fun h => hb _ h h1
  have h4 : ¬ i < l.idxOf x := fun h4 => by
    have := List.not_of_lt_findIdx (p := fun y => y == x) (xs := l) (i := i) h4
    have e : l[i] = x := by rw [← h]; simp [List.getD, hi]
    simp [e] at this
  omega
theorem find_none {l : List Nat} {x : Nat} (hb : ∀ j, j < l.length → l.getD j 0 ≠ x) : findI l x = -1 := by
  unfold findI
  rw [if_neg]
  intro hm
  obtain ⟨i, hi, e⟩ := mem_getN hm
  exact hb i hi e

set_option maxHeartbeats 4000000 in
set_option maxRecDepth 4000 in
theorem find_any (b len cap : Nat) (l : List Nat) (x : Nat) (w : World) (hq : QueG w b len cap l) (hlen : len ≤ 100000000) :
    Calls Tryd.prog 26 #[.slice (some ⟨b, 0, none⟩) len cap, .agg #[.int .i64 (loS x), .int .i64 (hiS x)]] w fun e w' => e = .returned (.int .i64 (findI l x)) ∧ Below w.heap.size w w' := by
  have hL := hq.1
  have hB0 := (Below.refl w.heap.size w).alloc (Nat.le_refl _) (.cells #[.int .i64 (loS x), .int .i64 (hiS x)] 45)
  have hx := heap_alloc_last w (.cells #[.int .i64 (loS x), .int .i64 (hiS x)] 45)
  have HQ := hide (queG_kept hq (hB0.block _ (queG_lt hq)))
  have HAT := hide (fun i hi h hb => @findG_at l x i hi h hb)
  have HNO := hide (@find_none l x)
  rw [hL] at HAT HNO
  generalize hW0 : w.alloc (.cells #[.int .i64 (loS x), .int .i64 (hiS x)] 45) = wb at hB0 hx HQ
  have HB0 := hide hB0
  have HX := hide hx
  clear hB0 hx hq hL
  generalize findI l x = fi at HAT HNO ⊢
  go_enter Tryd.func26, Tryd.ntmps26
  go_wp2
  clear hW0
  go_loopw [5] (fun iv wx => ∃ i : Nat, i ≤ len ∧ iv = .int .i64 i ∧ (∀ j, j < i → l.getD j 0 ≠ x) ∧ Below wb.heap.size wb wx) (fun iv _ => len - (intOf iv).toNat)
  case atStart => exact ⟨0, by omega, rfl, fun j hj => by omega, Below.refl _ _⟩
  case round =>
    obtain ⟨i, hi, rfl, hne, hbw⟩ := hrel
    have HNE := hide hne
    have HBW := hide hbw
    have HBQ := hide (below_step HB0.out hbw)
    obtain ⟨⟨r0, r1⟩, -⟩ := box2_cells ((hbw.block _ (Array.getElem?_eq_some_iff.1 HX.out).1).trans HX.out)
    clear hne hbw
    by_cases hlt : i < len
    · have hlti : (i : Int) < (len : Int) := by omega
      obtain ⟨c0, c1⟩ := queG_at (queG_kept HQ.out (HBW.out.block _ (queG_lt HQ.out))) i hlt
      have HE := hide (fun h1 h2 => @set_eq (l.getD i 0) x h1 h2)
      have HAT1 := hide (fun h => HAT.out i hlt h HNE.out)
      have HNE1 : Hid (l.getD i 0 ≠ x → ∀ j, j < i + 1 → l.getD j 0 ≠ x) := fun h j hj => by
        by_cases e : j = i
        · subst e; exact h
        · exact HNE.out j (by omega)
      generalize l.getD i 0 = y at c0 c1 HE HAT1 HNE1
      by_cases e : y = x
      · subst e
        have HF := hide (HAT1.out rfl)
        go_wp2
        go_quiet (fail)
        go_wp2
        go_ret
        exact ⟨by rw [HF.out]; simp, below_drewN HBQ.out nq⟩
      · have hd : (loS y == loS x) = false ∨ ((loS y == loS x) = true ∧ (hiS y == hiS x) = false) := by
          by_cases e0 : loS y = loS x
          · exact .inr ⟨by simp [e0], by simp; exact fun e1 => e (HE.out e0 e1)⟩
          · exact .inl (by simp [e0])
        have HNX := hide (HNE1.out e)
        rcases hd with hd | ⟨hd, hd2⟩
        · go_wp2
          go_quiet (fail)
          go_wp2
          go_roundw
          case rel => exact ⟨i + 1, by omega, by go_num, HNX.out, below_drewN HBW.out nq⟩
          case measure => simp [intOf]; omega
        · go_wp2
          go_quiet (fail)
          go_wp2
          go_roundw
          case rel => exact ⟨i + 1, by omega, by go_num, HNX.out, below_drewN HBW.out nq⟩
          case measure => simp [intOf]; omega
    · have hlti : ¬ (i : Int) < (len : Int) := by omega
      obtain rfl : len = i := by omega
      have HF := hide (HNO.out HNE.out)
      go_wp2
      go_ret
      exact ⟨by rw [HF.out]; simp, HBQ.out⟩

set_option maxHeartbeats 4000000 in
set_option maxRecDepth 4000 in
theorem ended_any (b t : Int) (a : Option Addr) (n cap : Nat) (a' : Option Addr) (cap' : Nat) (E : List Bool) (M : Nat) (w : World) (he : SlB w a' n E) (hM : M < 2 ^ 80) (hn : n ≤ 80) :
    Calls Tryd.prog 14 #[.agg #[.int .i64 b, .int .i64 t, .slice a n cap, .slice a' n cap'], .agg #[.int .i64 (loS M), .int .i64 (hiS M)]] w fun e w' => e = .returned (.bool (endM n E M)) ∧ Below w.heap.size w w' := by
  have hB0 := below_two w (.cells #[.int .i64 b, .int .i64 t, .slice a n cap, .slice a' n cap'] 25) (.cells #[.int .i64 (loS M), .int .i64 (hiS M)] 45)
  have HX1 := hide (heap_alloc2_fst w (.cells #[.int .i64 b, .int .i64 t, .slice a n cap, .slice a' n cap'] 25) (.cells #[.int .i64 (loS M), .int .i64 (hiS M)] 45))
  have HX2 := hide (heap_alloc2_snd w (.cells #[.int .i64 b, .int .i64 t, .slice a n cap, .slice a' n cap'] 25) (.cells #[.int .i64 (loS M), .int .i64 (hiS M)] 45))
  have HE := hide (slB_below he hB0)
  have HIN := hide (fun s W (h : s < n) => in_any M s W hM (by omega))
  have HYES : Hid (∀ s, s < n → E.getD s false = true → M.testBit s = true → endM n E M = true) := fun s h1 h2 h3 => endM_iff.2 ⟨s, h1, h2, h3⟩
  have HNO : Hid ((∀ s, s < n → ¬ (E.getD s false = true ∧ M.testBit s = true)) → endM n E M = false) := fun h => by
    cases hh : endM n E M with
    | false => rfl
    | true =>
      obtain ⟨s, h1, h2, h3⟩ := endM_iff.1 hh
      exact absurd ⟨h2, h3⟩ (h s h1)
  generalize hW0 : (w.alloc (.cells #[.int .i64 b, .int .i64 t, .slice a n cap, .slice a' n cap'] 25)).alloc (.cells #[.int .i64 (loS M), .int .i64 (hiS M)] 45) = wb at hB0 HX1 HX2 HE
  have HB0 := hide hB0
  clear he hB0 hM
  generalize endM n E M = ev at HYES HNO ⊢
  go_enter Tryd.func14, Tryd.ntmps14
  go_wp2
  clear hW0
  go_loopw [5] (fun iv wx => ∃ i : Nat, i ≤ n ∧ iv = .int .i64 i ∧ (∀ s, s < i → ¬ (E.getD s false = true ∧ M.testBit s = true)) ∧ Below wb.heap.size wb wx) (fun iv _ => n - (intOf iv).toNat)
  case atStart => exact ⟨0, by omega, rfl, fun j hj => by omega, Below.refl _ _⟩
  case round =>
    obtain ⟨i, hi, rfl, hne, hbw⟩ := hrel
    have HNE := hide hne
    have HBW := hide hbw
    have HBQ := hide (below_step HB0.out hbw)
    obtain ⟨⟨p0, p1, p2, p3⟩, -⟩ := box_cells ((hbw.block _ (Array.getElem?_eq_some_iff.1 HX1.out).1).trans HX1.out)
    obtain ⟨⟨r0, r1⟩, -⟩ := box2_cells ((hbw.block _ (Array.getElem?_eq_some_iff.1 HX2.out).1).trans HX2.out)
    clear hne hbw
    by_cases hlt : i < n
    · have hlti : (i : Int) < (n : Int) := by omega
      obtain ⟨be, oe, rfl, hce⟩ := slB_cell (slB_below HE.out HBW.out) i hlt
      have HN1 : Hid (¬ (E.getD i false = true ∧ M.testBit i = true) → ∀ s, s < i + 1 → ¬ (E.getD s false = true ∧ M.testBit s = true)) := fun h s hs => by
        by_cases e : s = i
        · subst e; exact h
        · exact HNE.out s (by omega)
      have HY1 := hide (fun h1 h2 => HYES.out i hlt h1 h2)
      have HI1 := hide (fun W => HIN.out i W hlt)
      generalize E.getD i false = ee at hce HN1 HY1
      cases ee with
      | false =>
        have HN2 := hide (HN1.out (by simp))
        clear HN1 HY1
        go_wp2
        go_roundw
        case rel => exact ⟨i + 1, by omega, by go_num, HN2.out, HBW.out⟩
        case measure => simp [intOf]; omega
      | true =>
        cases hm : M.testBit i with
        | true =>
          have HF := hide (HY1.out rfl hm)
          rw [hm] at HI1
          clear HN1 HY1 hm
          go_wp2_with (go_at_call 24; refine (HI1.out _).mono ?_; rintro e w1 ⟨rfl, hb1⟩; have HB1 := hide (below_step HBQ.out hb1); clear hb1)
          go_ret
          exact ⟨by rw [HF.out]; simp, HB1.out⟩
        | false =>
          have HN2 := hide (HN1.out (by rw [hm]; simp))
          rw [hm] at HI1
          clear HN1 HY1 hm
          go_wp2_with (go_at_call 24; refine (HI1.out _).mono ?_; rintro e w1 ⟨rfl, hb1⟩; have HB1 := hide (below_step HBW.out hb1); clear hb1)
          go_roundw
          case rel => exact ⟨i + 1, by omega, by go_num, HN2.out, HB1.out⟩
          case measure => simp [intOf]; omega
    · have hlti : ¬ (i : Int) < (n : Int) := by omega
      obtain rfl : n = i := by omega
      have HF := hide (HNO.out HNE.out)
      go_wp2
      go_ret
      exact ⟨by rw [HF.out]; simp, HBQ.out⟩
end Go.Proofs.YtleebojibobgaaaDoor

/- The reference's Closed: contract. -/
namespace Go.Proofs.YtleebojibobgaaaDoor
open Go.RowKit

def SubM (x y : Nat) : Prop := ∀ s, x.testBit s = true → y.testBit s = true
theorem sub_le {x y : Nat} (h : SubM x y) : x ≤ y := by
  have e : y = x ||| y := by
    apply Nat.eq_of_testBit_eq
    intro i
    rw [Nat.testBit_or]
    cases hx : x.testBit i with
    | false => simp
    | true => rw [h i hx]; rfl
  rw [e]
  exact Nat.left_le_or
theorem sub_refl (x : Nat) : SubM x x := fun _ h => h
theorem sub_put (M t : Nat) : SubM M (putM M t) := fun s h => by rw [putM_bit, h]; rfl
theorem put_self (M t : Nat) : (putM M t).testBit t = true := by rw [putM_bit]; simp
theorem clo_zero {m n : Nat} {N : List (List Int)} (hG : GoodN m n N) {ls : List Int} (hl : ∀ x ∈ ls, 0 ≤ x ∧ x < (m : Int)) : (cloM N n ls).testBit 0 = true := (cloM_bit hG hl).2 ⟨[], by simp, rfl⟩
theorem clo_step {m n : Nat} {N : List (List Int)} (hG : GoodN m n N) {ls : List Int} (hl : ∀ x ∈ ls, 0 ≤ x ∧ x < (m : Int)) {s : Nat} (h : (cloM N n ls).testBit s = true) {x : Int} (hx : x ∈ ls) : (cloM N n ls).testBit (stepL N s x) = true := by
  obtain ⟨z, hz, rfl⟩ := (cloM_bit hG hl).1 h
  refine (cloM_bit hG hl).2 ⟨z ++ [x], fun y hy => ?_, by rw [runL_append]; rfl⟩
  rcases List.mem_append.1 hy with hy | hy
  · exact hz y hy
  · simp at hy; rw [hy]; exact hx

/-- Within a round of Closed: s states and i letters of the next one have been seen through. -/
structure CloI (N : List (List Int)) (n : Nat) (ls : List Int) (M0 M s i : Nat) : Prop where
  sub : SubM M0 M
  into : SubM M (cloM N n ls)
  zero : M0.testBit 0 = true
  done : ∀ s', s' < s → M0.testBit s' = true → ∀ j, j < ls.length → M.testBit (stepL N s' (ls.getD j 0)) = true
  now : M0.testBit s = true → ∀ j, j < i → M.testBit (stepL N s (ls.getD j 0)) = true
theorem cloI_lt {N : List (List Int)} {n : Nat} {ls : List Int} {M0 M s i : Nat} (h : CloI N n ls M0 M s i) : M < 2 ^ n := Nat.lt_of_le_of_lt (sub_le h.into) (cloM_lt _ _ _)
theorem cloI_start {N : List (List Int)} {n : Nat} {ls : List Int} {M : Nat} (h1 : SubM M (cloM N n ls)) (h2 : M.testBit 0 = true) : CloI N n ls M M 0 0 := ⟨sub_refl _, h1, h2, fun _ h => by omega, fun _ _ h => by omega⟩
theorem cloI_skip {N : List (List Int)} {n : Nat} {ls : List Int} {M0 M s : Nat} (h : CloI N n ls M0 M s 0) (hs : M.testBit s = false) : CloI N n ls M0 M (s + 1) 0 := ⟨h.sub, h.into, h.zero, fun s' h1 h2 j hj => by
  by_cases e : s' = s
  · subst e; rw [h.sub _ h2] at hs; cases hs
  · exact h.done s' (by omega) h2 j hj, fun _ _ h => by omega⟩
theorem cloI_put {m n : Nat} {N : List (List Int)} (hG : GoodN m n N) {ls : List Int} (hl : ∀ x ∈ ls, 0 ≤ x ∧ x < (m : Int)) {M0 M s i : Nat} (h : CloI N n ls M0 M s i) (hs : M.testBit s = true) (hi : i < ls.length) : CloI N n ls M0 (putM M (stepL N s (ls.getD i 0))) s (i + 1) := by
  have hm : ls.getD i 0 ∈ ls := by rw [getD_at _ i hi]; exact List.getElem_mem _
  refine ⟨fun t ht => sub_put _ _ t (h.sub t ht), fun t ht => ?_, h.zero, fun s' h1 h2 j hj => sub_put _ _ _ (h.done s' h1 h2 j hj), fun h2 j hj => ?_⟩
  · rw [putM_bit, Bool.or_eq_true, decide_eq_true_iff] at ht
    rcases ht with ht | rfl
    · exact h.into t ht
    · exact clo_step hG hl (h.into s hs) hm
  · by_cases e : j = i
    · subst e; exact put_self _ _
    · exact sub_put _ _ _ (h.now h2 j (by omega))
theorem cloI_row {N : List (List Int)} {n : Nat} {ls : List Int} {M0 M s : Nat} (h : CloI N n ls M0 M s ls.length) : CloI N n ls M0 M (s + 1) 0 := ⟨h.sub, h.into, h.zero, fun s' h1 h2 j hj => by
  by_cases e : s' = s
  · subst e; exact h.now h2 j hj
  · exact h.done s' (by omega) h2 j hj, fun _ _ h => by omega⟩
theorem cloI_end {m n : Nat} {N : List (List Int)} (hG : GoodN m n N) {ls : List Int} (hl : ∀ x ∈ ls, 0 ≤ x ∧ x < (m : Int)) {M0 : Nat} (h : CloI N n ls M0 M0 n 0) : M0 = cloM N n ls := by
  refine mask_ext (n := n) (cloI_lt h) (cloM_lt _ _ _) fun s _ => ?_
  have key : ∀ z : List Int, (∀ x ∈ z, x ∈ ls) → M0.testBit (runL N z) = true := fun z => by
    induction z using list_snoc_ind with
    | h0 => exact fun _ => h.zero
    | h1 z x ih =>
      intro hz
      have h1 := ih (fun y hy => hz y (by simp [hy]))
      have hx := hz x (by simp)
      have hs := bit_lt (cloI_lt h) h1
      obtain ⟨j, hj, e⟩ := List.getElem_of_mem hx
      have := h.done _ hs h1 j hj
      rw [getD_at _ j hj, e] at this
      rw [runL_append]
      exact this
  rw [Bool.eq_iff_iff]
  constructor
  · exact h.into s
  · intro hc
    obtain ⟨z, hz, rfl⟩ := (cloM_bit hG hl).1 hc
    exact key z hz
theorem cloI_more {N : List (List Int)} {n : Nat} {ls : List Int} {M0 M s i : Nat} (h : CloI N n ls M0 M s i) (hne : M ≠ M0) : M0 < M := Nat.lt_of_le_of_ne (sub_le h.sub) (Ne.symm hne)

set_option maxHeartbeats 16000000 in
set_option maxRecDepth 8000 in
theorem closed_any (b t : Int) (a : Option Addr) (n cap : Nat) (a' : Option Addr) (k' cap' : Nat) (m : Nat) (N : List (List Int)) (al : Option Addr) (ll cl : Nat) (ls : List Int) (w : World) (hs : Sl2 w a n N) (hG : GoodN m n N) (hn : n ≤ 80) (hls : Sl w al ll ls) (hl : ∀ x ∈ ls, 0 ≤ x ∧ x < (m : Int)) (hll : ll ≤ 1000) :
    Calls Tryd.prog 12 #[.agg #[.int .i64 b, .int .i64 t, .slice a n cap, .slice a' k' cap'], .slice al ll cl] w (GivesSet w (cloM N n ls)) := by
  have hL := hls.1
  have hn1 := hG.2.1
  have hB0 := below_two w (.cells #[.int .i64 b, .int .i64 t, .slice a n cap, .slice a' k' cap'] 25) (.cells #[.int .i64 0, .int .i64 0] 45)
  have HX1 := hide (heap_alloc2_fst w (.cells #[.int .i64 b, .int .i64 t, .slice a n cap, .slice a' k' cap'] 25) (.cells #[.int .i64 0, .int .i64 0] 45))
  have HX2 := hide (heap_alloc2_snd w (.cells #[.int .i64 b, .int .i64 t, .slice a n cap, .slice a' k' cap'] 25) (.cells #[.int .i64 0, .int .i64 0] 45))
  have HS := hide (sl2_below hs hB0)
  have HLS := hide (sl_below hls hB0)
  have HP0 := hide (fun W => put_any 0 0 W (by decide) (by decide))
  rw [show loS 0 = 0 from rfl, show hiS 0 = 0 from rfl] at HP0
  unfold GivesSet at HP0
  have HS0 : Hid (SubM (putM 0 0) (cloM N n ls) ∧ (putM 0 0).testBit 0 = true) := ⟨fun s h => by
    rw [putM_bit] at h
    simp at h
    subst h
    exact clo_zero hG hl, put_self _ _⟩
  have HPUT := hide (fun M s W h1 h2 => put_any M s W h1 h2)
  have HIN := hide (fun M s W h1 h2 => in_any M s W h1 h2)
  unfold GivesSet at HPUT
  have H80 : Hid (∀ M, M < 2 ^ n → M < 2 ^ 80) := fun M h => Nat.lt_of_lt_of_le h (Nat.pow_le_pow_right (by decide) hn)
  have HCP := hide (fun M0 M s i h h1 h2 => @cloI_put m n N hG ls hl M0 M s i h h1 h2)
  have HCE := hide (fun M0 h => @cloI_end m n N hG ls hl M0 h)
  have HG := hide hG
  have HL := hide hl
  have HK : Hid (∃ K, K = 2 ^ 80) := ⟨_, rfl⟩
  obtain ⟨K, hK⟩ := HK.out
  rw [← hK] at H80 HPUT HIN
  clear hK HK
  generalize hW0 : (w.alloc (.cells #[.int .i64 b, .int .i64 t, .slice a n cap, .slice a' k' cap'] 25)).alloc (.cells #[.int .i64 0, .int .i64 0] 45) = wb at hB0 HX1 HX2 HS HLS
  have HB0 := hide hB0
  have HSZ0 : Hid (wb.heap.size = w.heap.size + 2) := by show _ = _; rw [← hW0]; simp
  clear hs hls hl hG hB0
  go_enter Tryd.func12, Tryd.ntmps12
  go_wp2_with fail
  clear hW0
  refine (HP0.out wb).mono ?_
  rintro e w1 ⟨rfl, hb1⟩
  have HB1 := hide hb1
  have HO1 := hide (heap_alloc_last w1 (.cells #[.int .i64 (loS (putM 0 0)), .int .i64 (hiS (putM 0 0))] 45))
  have HBO := hide ((Below.refl w1.heap.size w1).alloc (Nat.le_refl _) (.cells #[.int .i64 (loS (putM 0 0)), .int .i64 (hiS (putM 0 0))] 45))
  clear hb1 HP0
  generalize putM 0 0 = M1 at HS0 HO1 HBO ⊢
  go_wp2
  generalize w1.alloc (.cells #[.int .i64 (loS M1), .int .i64 (hiS M1)] 45) = wA at HO1 HBO ⊢
  go_loopg [7] K (fun g v wx => ∃ M : Nat, K - M ≤ g ∧ (SubM M (cloM N n ls) ∧ M.testBit 0 = true) ∧ wx.heap[w1.heap.size]? = some (.cells #[.int .i64 (loS M), .int .i64 (hiS M)] 45 (0, 0)) ∧ Below w1.heap.size w1 wx ∧ v = v)
  case atStart => exact ⟨M1, Nat.sub_le _ _, HS0.out, HO1.out, HBO.out, rfl⟩
  case round =>
    obtain ⟨M0, hg0, hm0, ho0, hbw, -⟩ := hrel
    have HG0 := hide hg0
    have HM0 := hide hm0
    have HO0 := hide ho0
    have HBW := hide hbw
    obtain ⟨⟨o0, o1⟩, -⟩ := box2_cells ho0
    have HW := hide (heap_alloc_last wr (.cells #[.int .i64 (loS M0), .int .i64 (hiS M0)] 45))
    have HBA := hide (hbw.alloc hbw.size (.cells #[.int .i64 (loS M0), .int .i64 (hiS M0)] 45))
    have HOA := hide ((Below.heap_alloc wr (.cells #[.int .i64 (loS M0), .int .i64 (hiS M0)] 45) _ (Array.getElem?_eq_some_iff.1 ho0).1).trans ho0)
    have HOL : Hid (w1.heap.size < wr.heap.size) := (Array.getElem?_eq_some_iff.1 ho0).1
    clear hg0 hm0 ho0 hbw
    go_wp2
    clear o0 o1
    generalize wr.alloc (.cells #[.int .i64 (loS M0), .int .i64 (hiS M0)] 45) = wB at HW HBA HOA ⊢
    obtain ⟨wq, hwq⟩ : ∃ wq : World, wq = wr := ⟨_, rfl⟩
    rw [← hwq] at HBW HO0 HW HOL ⊢
    clear hwq wr
    go_loopw [7] (fun iv wx => ∃ s M : Nat, s ≤ n ∧ iv = .int .i64 s ∧ CloI N n ls M0 M s 0 ∧ wx.heap[w1.heap.size]? = some (.cells #[.int .i64 (loS M), .int .i64 (hiS M)] 45 (0, 0)) ∧ wx.heap[wq.heap.size]? = some (.cells #[.int .i64 (loS M0), .int .i64 (hiS M0)] 45 (0, 0)) ∧ Below w1.heap.size w1 wx) (fun iv _ => n - (intOf iv).toNat)
    case atStart => exact ⟨0, M0, by omega, rfl, cloI_start HM0.out.1 HM0.out.2, HOA.out, HW.out, HBA.out⟩
    case round =>
      obtain ⟨s, M, hsn, rfl, hci, hob, hwb, hbx⟩ := hrel
      have HCI := hide hci
      have HOB := hide hob
      have HWB := hide hwb
      have HBX := hide hbx
      have HBB := hide (below_step HB1.out hbx)
      obtain ⟨⟨p0, p1, p2, p3⟩, -⟩ := box_cells ((HBB.out.block _ (Array.getElem?_eq_some_iff.1 HX1.out).1).trans HX1.out)
      obtain ⟨⟨o0, o1⟩, -⟩ := box2_cells hob
      have HMK := hide (H80.out M (cloI_lt hci))
      clear hci hob hwb hbx
      by_cases hlt : s < n
      · have hlti : (s : Int) < (n : Int) := by omega
        have HC := hide (fun W => HIN.out M s W HMK.out (by omega))
        cases hm : M.testBit s with
        | false =>
          rw [hm] at HC
          have HCI2 := hide (cloI_skip HCI.out hm)
          clear hm
          go_wp2_with (go_at_call 24; refine (HC.out _).mono ?_; rintro e w2 ⟨rfl, hb2⟩; have HB2 := hide hb2; clear hb2)
          go_roundw
          case rel => exact ⟨s + 1, M, by omega, by go_num, HCI2.out, (HB2.out.block _ (Array.getElem?_eq_some_iff.1 HOB.out).1).trans HOB.out, (HB2.out.block _ (Array.getElem?_eq_some_iff.1 HWB.out).1).trans HWB.out, below_step HBX.out HB2.out⟩
          case measure => simp [intOf]; omega
        | true =>
          rw [hm] at HC
          have HMS := hide hm
          clear hm
          go_wp2_with (go_at_call 24; refine (HC.out _).mono ?_; rintro e w2 ⟨rfl, hb2⟩; have HB2 := hide hb2; clear hb2)
          clear p0 p1 p2 p3 o0 o1 HC
          have HOB2 := hide ((HB2.out.block _ (Array.getElem?_eq_some_iff.1 HOB.out).1).trans HOB.out)
          have HWB2 := hide ((HB2.out.block _ (Array.getElem?_eq_some_iff.1 HWB.out).1).trans HWB.out)
          have HBX2 := hide (below_step HBX.out HB2.out)
          clear HOB HWB HBX HBB HB2
          go_loopw [8] (fun jv wx => ∃ i M : Nat, i ≤ ll ∧ jv = .int .i64 i ∧ CloI N n ls M0 M s i ∧ M.testBit s = true ∧ wx.heap[w1.heap.size]? = some (.cells #[.int .i64 (loS M), .int .i64 (hiS M)] 45 (0, 0)) ∧ wx.heap[wq.heap.size]? = some (.cells #[.int .i64 (loS M0), .int .i64 (hiS M0)] 45 (0, 0)) ∧ Below w1.heap.size w1 wx) (fun jv _ => ll - (intOf jv).toNat)
          case atStart => exact ⟨0, M, by omega, rfl, HCI.out, HMS.out, HOB2.out, HWB2.out, HBX2.out⟩
          case round =>
            obtain ⟨i, M', hil, rfl, hci, hms, hob, hwb, hbx⟩ := hrel
            have HCI' := hide hci
            have HMS' := hide hms
            have HOB := hide hob
            have HWB := hide hwb
            have HBX := hide hbx
            have HBB := hide (below_step HB1.out hbx)
            have HMK' := hide (H80.out M' (cloI_lt hci))
            clear hci hms hwb hbx
            by_cases hil2 : i < ll
            · have hili : (i : Int) < (ll : Int) := by omega
              obtain ⟨⟨p0, p1, p2, p3⟩, -⟩ := box_cells ((HBB.out.block _ (Array.getElem?_eq_some_iff.1 HX1.out).1).trans HX1.out)
              obtain ⟨⟨o0, o1⟩, of⟩ := box2_cells hob
              obtain ⟨bn, on, an, cn, rfl, hcn, hsn2⟩ := sl2_cell HS.out s hlt
              rw [(HG.out.2.2.2.2.2 s hlt).1] at hcn hsn2
              obtain ⟨bl, ol, rfl, hcl⟩ := sl_cell HLS.out i hil2
              have hx := HL.out (ls.getD i 0) (by rw [getD_at _ i (by omega)]; exact List.getElem_mem _)
              have HNXT := hide (HCP.out M0 M' s i HCI'.out HMS'.out (by omega))
              have hst : stepL N s (ls.getD i 0) = nxt N s (ls.getD i 0).toNat := rfl
              rw [hst] at HNXT
              obtain ⟨x, hxe⟩ : ∃ x : Nat, ls.getD i 0 = (x : Int) := ⟨(ls.getD i 0).toNat, by omega⟩
              rw [hxe] at hcl hx HNXT
              rw [Int.toNat_natCast] at HNXT
              have hxm : x < m := by omega
              have hxi : (x : Int) < (m : Int) := by omega
              obtain ⟨b1, o1', rfl, hcx⟩ := sl_cell hsn2 x hxm
              obtain ⟨hy1, hy2⟩ := nxt_cell HG.out hlt hxm
              rw [hy2] at hcx
              have HMS2 : Hid ((putM M' (nxt N s x)).testBit s = true) := sub_put _ _ _ HMS'.out
              have HPC := hide (fun W => HPUT.out M' (nxt N s x) W HMK'.out (by omega))
              generalize nxt N s x = y at hcx hy1 HPC HNXT HMS2
              have HLT : Hid (bn < w1.heap.size ∧ bl < w1.heap.size ∧ b1 < w1.heap.size ∧ w.heap.size < w1.heap.size) := by
                have h0 := HB1.out.size
                have h1 := World.block_lt_of_cell? _ _ hcn
                have h2 := World.block_lt_of_cell? _ _ hcl
                have h3 := World.block_lt_of_cell? _ _ hcx
                have h4 := HSZ0.out
                exact ⟨Nat.lt_of_lt_of_le h1 h0, Nat.lt_of_lt_of_le h2 h0, Nat.lt_of_lt_of_le h3 h0, by omega⟩
              replace hcn := (HBB.out.cell (p := ⟨bn, on + s, none⟩) (World.block_lt_of_cell? _ _ hcn)).trans hcn
              replace hcl := (HBB.out.cell (p := ⟨bl, ol + i, none⟩) (World.block_lt_of_cell? _ _ hcl)).trans hcl
              replace hcx := (HBB.out.cell (p := ⟨b1, o1' + x, none⟩) (World.block_lt_of_cell? _ _ hcx)).trans hcx
              have HBS := hide (fun W (h : Below wr.heap.size wr W) => (h.block _ (Array.getElem?_eq_some_iff.1 HOB.out).1).trans HOB.out)
              have HC6 : Hid (∀ W, Below wr.heap.size wr W → W.cell? ⟨w1.heap.size, 0, none⟩ = some (.int .i64 (loS M')) ∧ W.cell? ⟨w1.heap.size, 1, none⟩ = some (.int .i64 (hiS M')) ∧ W.cell? ⟨w.heap.size, 2, none⟩ = some (.slice (some ⟨bn, on, none⟩) n cap) ∧ W.cell? ⟨bn, on + s, none⟩ = some (.slice (some ⟨b1, o1', none⟩) m cn) ∧ W.cell? ⟨bl, ol + i, none⟩ = some (.int .i64 (x : Int)) ∧ W.cell? ⟨b1, o1' + x, none⟩ = some (.int .i64 (y : Int))) := fun W hW => by
                have k := fun (p : Addr) v (h : wr.cell? p = some v) => (hW.cell (p := p) (World.block_lt_of_cell? _ _ h)).trans h
                exact ⟨k _ _ o0, k _ _ o1, k _ _ p2, k _ _ hcn, k _ _ hcl, k _ _ hcx⟩
              have HBR := hide (Below.refl wr.heap.size wr)
              clear hsn2 hst hxe hx hy2 hob
              go_wp2
              refine wp_region_held_drew (S := (fun W => W.cell? ⟨w.heap.size, 2, none⟩ = some (.slice (some ⟨bn, on, none⟩) n cap) ∧ W.cell? ⟨bn, on + s, none⟩ = some (.slice (some ⟨b1, o1', none⟩) m cn) ∧ W.cell? ⟨bl, ol + i, none⟩ = some (.int .i64 (x : Int)) ∧ W.cell? ⟨b1, o1' + x, none⟩ = some (.int .i64 (y : Int)))) (by kernel_rfl) ⟨p2, hcn, hcl, hcx⟩ (fun hHeld => ?_)
              refine wpAnyH_take (i := 1) (v := .pointer (some ⟨w.heap.size, 2, none⟩)) rfl (by kernel_rfl) (by kernel_rfl) (by kernel_rfl) (fun _ _ _ h => h) (Or.inl ⟨by rfl, fun W hSW => ?_⟩) hHeld ?_
              · obtain ⟨r1, r2, r3, r4⟩ := hSW; go_simp
              simp only [List.getElem_toArray, List.getElem_cons_zero, List.getElem_cons_succ, Act.put, List.setIfInBounds_toArray, List.set_cons_zero, List.set_cons_succ]
              refine wpAnyH_take (i := 2) (v := .slice (some ⟨bn, on, none⟩) n cap) rfl (by kernel_rfl) (by kernel_rfl) (by kernel_rfl) (fun _ _ _ h => h) (Or.inl ⟨by rfl, fun W hSW => ?_⟩) hHeld ?_
              · obtain ⟨r1, r2, r3, r4⟩ := hSW; go_simp
              simp only [List.getElem_toArray, List.getElem_cons_zero, List.getElem_cons_succ, Act.put, List.setIfInBounds_toArray, List.set_cons_zero, List.set_cons_succ]
              refine wpAnyH_take (i := 3) (v := .int .i64 (s : Int)) rfl (by kernel_rfl) (by kernel_rfl) (by kernel_rfl) (fun _ _ _ h => h) (Or.inl ⟨by rfl, fun W hSW => ?_⟩) hHeld ?_
              · obtain ⟨r1, r2, r3, r4⟩ := hSW; go_simp
              simp only [List.getElem_toArray, List.getElem_cons_zero, List.getElem_cons_succ, Act.put, List.setIfInBounds_toArray, List.set_cons_zero, List.set_cons_succ]
              refine wpAnyH_take (i := 4) (v := .pointer (some ⟨bn, on + s, none⟩)) rfl (by kernel_rfl) (by kernel_rfl) (by kernel_rfl) (fun _ _ _ h => h) (Or.inl ⟨by rfl, fun W hSW => ?_⟩) hHeld ?_
              · obtain ⟨r1, r2, r3, r4⟩ := hSW; go_simp
              simp only [List.getElem_toArray, List.getElem_cons_zero, List.getElem_cons_succ, Act.put, List.setIfInBounds_toArray, List.set_cons_zero, List.set_cons_succ]
              refine wpAnyH_take (i := 5) (v := .slice (some ⟨b1, o1', none⟩) m cn) rfl (by kernel_rfl) (by kernel_rfl) (by kernel_rfl) (fun _ _ _ h => h) (Or.inl ⟨by rfl, fun W hSW => ?_⟩) hHeld ?_
              · obtain ⟨r1, r2, r3, r4⟩ := hSW; go_simp
              simp only [List.getElem_toArray, List.getElem_cons_zero, List.getElem_cons_succ, Act.put, List.setIfInBounds_toArray, List.set_cons_zero, List.set_cons_succ]
              refine wpAnyH_take (i := 6) (v := .slice (some ⟨bl, ol, none⟩) ll cl) rfl (by kernel_rfl) (by kernel_rfl) (by kernel_rfl) (fun _ _ _ h => h) (Or.inl ⟨by rfl, fun W hSW => ?_⟩) hHeld ?_
              · obtain ⟨r1, r2, r3, r4⟩ := hSW; go_simp
              simp only [List.getElem_toArray, List.getElem_cons_zero, List.getElem_cons_succ, Act.put, List.setIfInBounds_toArray, List.set_cons_zero, List.set_cons_succ]
              refine wpAnyH_take (i := 7) (v := .int .i64 (i : Int)) rfl (by kernel_rfl) (by kernel_rfl) (by kernel_rfl) (fun _ _ _ h => h) (Or.inl ⟨by rfl, fun W hSW => ?_⟩) hHeld ?_
              · obtain ⟨r1, r2, r3, r4⟩ := hSW; go_simp
              simp only [List.getElem_toArray, List.getElem_cons_zero, List.getElem_cons_succ, Act.put, List.setIfInBounds_toArray, List.set_cons_zero, List.set_cons_succ]
              refine wpAnyH_take (i := 8) (v := .pointer (some ⟨bl, ol + i, none⟩)) rfl (by kernel_rfl) (by kernel_rfl) (by kernel_rfl) (fun _ _ _ h => h) (Or.inl ⟨by rfl, fun W hSW => ?_⟩) hHeld ?_
              · obtain ⟨r1, r2, r3, r4⟩ := hSW; go_simp
              simp only [List.getElem_toArray, List.getElem_cons_zero, List.getElem_cons_succ, Act.put, List.setIfInBounds_toArray, List.set_cons_zero, List.set_cons_succ]
              refine wpAnyH_take (i := 9) (v := .int .i64 (x : Int)) rfl (by kernel_rfl) (by kernel_rfl) (by kernel_rfl) (fun _ _ _ h => h) (Or.inl ⟨by rfl, fun W hSW => ?_⟩) hHeld ?_
              · obtain ⟨r1, r2, r3, r4⟩ := hSW; go_simp
              simp only [List.getElem_toArray, List.getElem_cons_zero, List.getElem_cons_succ, Act.put, List.setIfInBounds_toArray, List.set_cons_zero, List.set_cons_succ]
              refine wpAnyH_take (i := 10) (v := .pointer (some ⟨b1, o1' + x, none⟩)) rfl (by kernel_rfl) (by kernel_rfl) (by kernel_rfl) (fun _ _ _ h => h) (Or.inl ⟨by rfl, fun W hSW => ?_⟩) hHeld ?_
              · obtain ⟨r1, r2, r3, r4⟩ := hSW; go_simp
              simp only [List.getElem_toArray, List.getElem_cons_zero, List.getElem_cons_succ, Act.put, List.setIfInBounds_toArray, List.set_cons_zero, List.set_cons_succ]
              refine wpAnyH_take (i := 11) (v := .int .i64 (y : Int)) rfl (by kernel_rfl) (by kernel_rfl) (by kernel_rfl) (fun _ _ _ h => h) (Or.inl ⟨by rfl, fun W hSW => ?_⟩) hHeld ?_
              · obtain ⟨r1, r2, r3, r4⟩ := hSW; go_simp
              simp only [List.getElem_toArray, List.getElem_cons_zero, List.getElem_cons_succ, Act.put, List.setIfInBounds_toArray, List.set_cons_zero, List.set_cons_succ]
              refine wpAnyH_ready (rs := [0]) (by kernel_rfl) (by simp) (AllReadyH.cons rfl (fun K hK => ?_) AllReadyH.nil)
              go_simp
              refine hK.out _ _ hHeld (fun _ => ?_)
              clear hK K
              refine wpAnyH_ready (rs := [12]) (by kernel_rfl) (by simp) (AllReadyH.cons rfl (fun K hK => ?_) AllReadyH.nil)
              go_simp
              go_wp2_with (go_at_call 25; refine (HPC.out _).mono ?_; rintro e w2 ⟨rfl, hb2⟩; have HB2 := hide hb2; obtain ⟨⟨s0, s1⟩, sf⟩ := box2_cells (HBS.out _ (below_step HBR.out.drew hb2)); clear hb2)
              have hS2 := HC6.out w2 (below_step HBR.out.drew HB2.out)
              have hob2 := HBS.out w2 (below_step HBR.out.drew HB2.out)
              have hwb2 := ((below_step HBR.out.drew HB2.out).block _ (Array.getElem?_eq_some_iff.1 HWB.out).1).trans HWB.out
              have HBX2 := hide (below_step HBX.out (below_step HBR.out.drew HB2.out))
              have HNE : Hid (wq.heap.size ≠ w1.heap.size) := by show _ ≠ _; have := HOL.out; omega
              obtain ⟨⟨hset, -, hoth⟩, hbel⟩ := box2_set (v0 := .int .i64 (loS (putM M' y))) (v1 := .int .i64 (hiS (putM M' y))) hob2 rfl
              have HSET := hide hset
              have HWB3 := hide ((hoth _ HNE.out).trans hwb2)
              have HBX3 := hide (hbel _ _ HBX2.out (Nat.le_refl _))
              obtain ⟨g1, g2, g3, g4⟩ := HLT.out
              obtain ⟨-, -, c1, c2, c3, c4⟩ := hS2
              have HS3 := hide (And.intro ((World.cell?_of_block (a := ⟨w.heap.size, 2, none⟩) (hoth w.heap.size (by omega))).trans c1) (And.intro ((World.cell?_of_block (a := ⟨bn, on + s, none⟩) (hoth bn (by omega))).trans c2) (And.intro ((World.cell?_of_block (a := ⟨bl, ol + i, none⟩) (hoth bl (by omega))).trans c3) ((World.cell?_of_block (a := ⟨b1, o1' + x, none⟩) (hoth b1 (by omega))).trans c4))))
              clear hob2 hwb2 hset hoth hbel g1 g2 g3 g4
              refine hK.out _ _ ⟨c1, c2, c3, c4⟩ (fun _ => ?_)
              clear hK K c1 c2 c3 c4
              refine wpAnyH_ready (rs := [13]) (by kernel_rfl) (by simp) (AllReadyH.cons rfl (fun K hK => ?_) AllReadyH.nil)
              go_simp
              refine hK.out _ _ HS3.out (fun _ => ?_)
              clear hK K
              refine wpAnyH_done (by kernel_rfl) ?_ _
              go_wp2
              go_roundw
              case rel => exact ⟨i + 1, putM M' y, by omega, by go_num, HNXT.out, HMS2.out, HSET.out, HWB3.out, HBX3.out⟩
              case measure => simp [intOf]; omega
            · have hili : ¬ (i : Int) < (ll : Int) := by omega
              obtain rfl : ll = i := by omega
              have HCI2 : Hid (CloI N n ls M0 M' (s + 1) 0) := cloI_row (by rw [hL]; exact HCI'.out)
              go_wp2
              go_roundw
              case rel => exact ⟨s + 1, M', by omega, by go_num, HCI2.out, HOB.out, HWB.out, HBX.out⟩
              case measure => simp [intOf]; omega
      · have hlti : ¬ (s : Int) < (n : Int) := by omega
        obtain rfl : n = s := by omega
        obtain ⟨⟨v0, v1⟩, -⟩ := box2_cells HWB.out
        have hr := (HBB.out.block _ (Array.getElem?_eq_some_iff.1 HX2.out).1).trans HX2.out
        have HR := hide hr
        obtain ⟨⟨r0, r1⟩, rf⟩ := box2_cells hr
        clear hr
        by_cases e : M = M0
        · subst e
          have HF := hide (HCE.out M HCI.out)
          go_wp2
          obtain ⟨⟨hset, -, -⟩, hbel⟩ := box2_set (v0 := .int .i64 (loS M)) (v1 := .int .i64 (hiS M)) HR.out rfl
          obtain ⟨⟨z0, z1⟩, -⟩ := box2_cells hset
          rw [← HF.out]
          exact bodyPost_ret (v := .agg #[.int .i64 (loS M), .int .i64 (hiS M)]) (by simp [results, Tryd.results12, go_sem, z0, z1]) rfl ⟨rfl, hbel _ _ (below_step HB0.out HBB.out) (by omega)⟩
        · have hd : (loS M == loS M0) = false ∨ ((loS M == loS M0) = true ∧ (hiS M == hiS M0) = false) := by
            by_cases e0 : loS M = loS M0
            · exact .inr ⟨by simp [e0], by simp; exact fun e1 => e (set_eq e0 e1)⟩
            · exact .inl (by simp [e0])
          have HMO := hide (cloI_more HCI.out e)
          have HI0 : Hid (SubM M (cloM N n ls) ∧ M.testBit 0 = true) := ⟨HCI.out.into, HCI.out.sub _ HCI.out.zero⟩
          clear e
          rcases hd with hd | ⟨hd, hd2⟩
          all_goals
            go_wp2
            go_roundg (K - M)
            case rel => exact ⟨M, Nat.le_refl _, HI0.out, HOB.out, HBX.out, trivial⟩
            case measure => have h1 := HG0.out; have h2 := HMO.out; have h3 := HMK.out; omega
end Go.Proofs.YtleebojibobgaaaDoor

/- Closed under 0s ahead: mathematics. -/
namespace Go.Proofs.YtleebojibobgaaaDoor
open Go.RowKit

/-- Each letter read as itself. -/
def sglR (m : Nat) : List (List Int) := (List.range m).map fun l : Nat => [(l : Int)]
theorem sglR_len (m : Nat) : (sglR m).length = m := by simp [sglR]
theorem sglR_get {m l : Nat} (hl : l < m) : (sglR m).getD l [] = [(l : Int)] := by simp [sglR, List.getD, hl]
theorem sglR_ok (m : Nat) : ∀ l, l < m → ∀ x ∈ (sglR m).getD l [], 0 ≤ x ∧ x < (m : Int) := by
  intro l hl x hx
  rw [sglR_get hl] at hx
  simp at hx
  omega
/-- The sets' automaton with a state ahead that waits for a letter that is not 0. -/
def clN (d : Nat → Nat → Nat) (m : Nat) (L : List Nat) : List (List Int) := ((List.range m).map fun l => if l = 0 then 0 else ((L.idxOf (d (L.getD 0 0) l) : Nat) : Int) + 1) :: (gN d m L).map fun r => r.map fun x => x + 1
def clE (p : Nat → Bool) (L : List Nat) : List Bool := p (L.getD 0 0) :: gE p L
theorem clN_len (d : Nat → Nat → Nat) (m : Nat) (L : List Nat) : (clN d m L).length = L.length + 1 := by simp [clN, gN_len]
theorem clE_len (p : Nat → Bool) (L : List Nat) : (clE p L).length = L.length + 1 := by simp [clE, gE_len]
theorem clN_zero {d : Nat → Nat → Nat} {m : Nat} {L : List Nat} {l : Nat} (hl : l < m) : ((clN d m L).getD 0 []).getD l 0 = if l = 0 then 0 else ((L.idxOf (d (L.getD 0 0) l) : Nat) : Int) + 1 := by
  simp [clN, List.getD, hl]
theorem clN_succ {d : Nat → Nat → Nat} {m : Nat} {L : List Nat} {i l : Nat} (hi : i < L.length) (hl : l < m) : ((clN d m L).getD (i + 1) []).getD l 0 = ((L.idxOf (d (L.getD i 0) l) : Nat) : Int) + 1 := by
  have h1 : (clN d m L).getD (i + 1) [] = ((gN d m L).getD i []).map fun x => x + 1 := by
    simp [clN, List.getD, gN_len, hi]
  have h2 := gN_cell (d := d) (m := m) hi hl
  have h3 : l < ((gN d m L).getD i []).length := by rw [gN_row hi]; simpa using hl
  rw [h1, getD_at _ l (by rw [List.length_map]; exact h3), List.getElem_map, ← getD_at _ l h3, h2]
theorem clN_good {d : Nat → Nat → Nat} {m : Nat} {L : List Nat} (hc : ClosedG d m L) (h0 : 0 < L.length) (h64 : L.length ≤ 6000) (h1 : 1 ≤ m) (h36 : m ≤ 36) : GoodN m (L.length + 1) (clN d m L) := by
  refine ⟨clN_len _ _ _, by omega, by omega, h36, h1, fun s hs => ?_⟩
  cases s with
  | zero =>
    refine ⟨by simp [clN], fun j hj => ?_⟩
    rw [clN_zero hj]
    have := List.idxOf_lt_length_of_mem (hc _ (getN_mem h0) j hj)
    split <;> omega
  | succ i =>
    have hi : i < L.length := by omega
    refine ⟨?_, fun j hj => ?_⟩
    · have h1 : (clN d m L).getD (i + 1) [] = ((gN d m L).getD i []).map fun x => x + 1 := by simp [clN, List.getD, gN_len, hi]
      rw [h1, List.length_map, gN_row hi]
      simp
    · rw [clN_succ hi hj]
      have := List.idxOf_lt_length_of_mem (hc _ (getN_mem hi) j hj)
      omega
theorem dropZ_end (w : List Int) (x : Int) : dropZ (w ++ [x]) = if dropZ w = [] then (if x = 0 then [] else [x]) else dropZ w ++ [x] := by
  unfold dropZ
  induction w with
  | nil =>
    by_cases h : x = 0
    · simp [h]
    · simp [h]
  | cons y w ih =>
    by_cases h : y = 0
    · subst h; simpa using ih
    · simp [h]
theorem clN_run {d : Nat → Nat → Nat} {m : Nat} {L : List Nat} (hc : ClosedG d m L) (h0 : 0 < L.length) (w : List Int) (hw : okW m w) : runL (clN d m L) w = if dropZ w = [] then 0 else runL (gN d m L) (dropZ w) + 1 := by
  induction w using list_snoc_ind with
  | h0 => rfl
  | h1 w x ih =>
    obtain ⟨hw1, hw2⟩ := okW_append.1 hw
    have hx := hw2 x (by simp)
    have e : runL (clN d m L) (w ++ [x]) = stepL (clN d m L) (runL (clN d m L) w) x := by rw [runL_append]; rfl
    rw [e, ih hw1, dropZ_end]
    have hdz : okW m (dropZ w) := fun y hy => hw1 y ((List.dropWhile_sublist _).subset hy)
    by_cases hz : dropZ w = []
    · rw [if_pos hz, if_pos hz]
      unfold stepL
      rw [clN_zero (by omega)]
      by_cases h : x = 0
      · subst h; simp
      · rw [if_neg (by omega), if_neg h, if_neg (by simp)]
        have e2 : runL (gN d m L) [x] = L.idxOf (d (L.getD 0 0) x.toNat) := by
          show stepL _ 0 x = _
          unfold stepL
          rw [gN_cell h0 (by omega), Int.toNat_natCast]
        rw [e2]
        omega
    · rw [if_neg hz, if_neg hz, if_neg (by simp)]
      obtain ⟨i1, i2⟩ := gN_run hc h0 (dropZ w) hdz
      have e2 : runL (gN d m L) (dropZ w ++ [x]) = stepL (gN d m L) (runL (gN d m L) (dropZ w)) x := by rw [runL_append]; rfl
      rw [e2]
      unfold stepL
      rw [clN_succ i1 (by omega), gN_cell i1 (by omega)]
      omega
theorem clN_tk {d : Nat → Nat → Nat} {m : Nat} {L : List Nat} {p : Nat → Bool} (hc : ClosedG d m L) (h0 : 0 < L.length) (w : List Int) (hw : okW m w) : tkB (clN d m L) (clE p L) w = p (runG d (L.getD 0 0) (dropZ w)) := by
  unfold tkB
  rw [clN_run hc h0 w hw]
  have hdz : okW m (dropZ w) := fun y hy => hw y ((List.dropWhile_sublist _).subset hy)
  by_cases hz : dropZ w = []
  · rw [if_pos hz, hz]
    simp [clE, runG]
  · rw [if_neg hz]
    obtain ⟨i1, i2⟩ := gN_run hc h0 (dropZ w) hdz
    rw [← i2, ← gE_get (p := p) i1]
    simp [clE]

/-- Close: its fault, its automaton. -/
def ccL (b t : Int) (N : List (List Int)) (E : List Bool) : List Nat := setsS (leastN N E (manyU b t).toNat) (leastK N E (manyU b t).toNat) (sglR (manyU b t).toNat) [0]
def ccGN (b t : Int) (N : List (List Int)) (E : List Bool) : List (List Int) := clN (dM (leastN N E (manyU b t).toNat) (leastK N E (manyU b t).toNat) (sglR (manyU b t).toNat)) (manyU b t).toNat (ccL b t N E)
def ccGE (b t : Int) (N : List (List Int)) (E : List Bool) : List Bool := clE (endM (leastK N E (manyU b t).toNat) (leastE N E (manyU b t).toNat)) (ccL b t N E)
def ccC (b t : Int) (N : List (List Int)) (E : List Bool) (k : Nat) : Int := if autoC b t N k = 0 then (if 2000 < (ccL b t N E).length then 3 else if 80 < leastK (ccGN b t N E) (ccGE b t N E) (manyU b t).toNat then 3 else 0) else autoC b t N k
def ccN (b t : Int) (N : List (List Int)) (E : List Bool) (k : Nat) : List (List Int) := if ccC b t N E k = 0 then leastN (ccGN b t N E) (ccGE b t N E) (manyU b t).toNat else []
def ccE (b t : Int) (N : List (List Int)) (E : List Bool) (k : Nat) : List Bool := if ccC b t N E k = 0 then leastE (ccGN b t N E) (ccGE b t N E) (manyU b t).toNat else []
def closedB (b t : Int) (N : List (List Int)) (E : List Bool) (k : Nat) : Bool := decide (autoC b t N k = 0) && ((leastN N E (manyU b t).toNat).getD 0 []).getD 0 0 == 0
theorem cc_good {b t : Int} {N : List (List Int)} {E : List Bool} {n : Nat} (hG : GoodN (manyU b t).toNat n N) (h : (ccL b t N E).length ≤ 2000) : GoodN (manyU b t).toNat ((ccL b t N E).length + 1) (ccGN b t N E) := by
  have hc := sets_closed h
  rw [sglR_len] at hc
  have h0 : 0 < (ccL b t N E).length := by unfold ccL; exact (sets_first _ _ _ _).1
  exact clN_good hc h0 (by omega) hG.2.2.2.2.1 hG.2.2.2.1
theorem okW_dropZ {m : Nat} {w : List Int} (h : okW m w) : okW m (dropZ w) := fun y hy => h y ((List.dropWhile_sublist _).subset hy)
end Go.Proofs.YtleebojibobgaaaDoor

/- 0s ahead, as package some lets them stay: mathematics. -/
namespace Go.Proofs.YtleebojibobgaaaDoor
open Go.RowKit

/-- A row with another number for 0. -/
def zL (q : Nat) (r : List Int) : List Int := r.map fun v => if v = 0 then (q : Int) else v
theorem zL_len (q : Nat) (r : List Int) : (zL q r).length = r.length := by simp [zL]
theorem zL_get {q : Nat} {r : List Int} {l : Nat} (hl : l < r.length) : (zL q r).getD l 0 = if r.getD l 0 = 0 then (q : Int) else r.getD l 0 := by
  simp [zL, List.getD, hl]
/-- The automaton that stays at its beginning as long as letters 0 come. -/
def stayRow (N : List (List Int)) (j : Nat) : List Int := if j = 0 then (zL N.length (N.getD 0 [])).set 0 0 else if j = N.length then zL N.length (N.getD 0 []) else zL N.length (N.getD j [])
def stayN (N : List (List Int)) : List (List Int) := (List.range (N.length + 1)).map (stayRow N)
def stayE (E : List Bool) : List Bool := E ++ [E.getD 0 false]
theorem stayN_len (N : List (List Int)) : (stayN N).length = N.length + 1 := by simp [stayN]
theorem stayN_get {N : List (List Int)} {j : Nat} (hj : j ≤ N.length) : (stayN N).getD j [] = stayRow N j := by simp [stayN, List.getD, show j < N.length + 1 by omega]
theorem stayE_len (E : List Bool) : (stayE E).length = E.length + 1 := by simp [stayE]
/-- Which of the states it stands for. -/
def stayS (n s : Nat) : Nat := if s = n then 0 else s
theorem stay_next {m n : Nat} {N : List (List Int)} (hG : GoodN m n N) {s l : Nat} (hs : s ≤ n) (hl : l < m) : ((stayN N).getD s []).getD l 0 = if s = 0 ∧ l = 0 then 0 else if nxt N (stayS n s) l = 0 then (n : Int) else ((nxt N (stayS n s) l : Nat) : Int) := by
  have hn := hG.1
  have h1 := hG.2.1
  rw [stayN_get (by omega)]
  have hst : stayS n s < n := by unfold stayS; split <;> omega
  have hrow := hG.2.2.2.2.2 (stayS n s) hst
  have hcell := nxt_cell hG hst hl
  have hz : (zL N.length (N.getD (stayS n s) [])).getD l 0 = if nxt N (stayS n s) l = 0 then (n : Int) else ((nxt N (stayS n s) l : Nat) : Int) := by
    rw [zL_get (by omega), hcell.2, hn]
    by_cases e : nxt N (stayS n s) l = 0
    · rw [if_pos e, if_pos (by omega)]
    · rw [if_neg e, if_neg (by omega)]
  unfold stayRow
  by_cases e0 : s = 0
  · subst e0
    have es : stayS n 0 = 0 := by unfold stayS; split <;> rfl
    rw [es] at hz ⊢
    rw [if_pos rfl]
    by_cases el : l = 0
    · subst el
      rw [if_pos ⟨rfl, rfl⟩]
      simp only [List.getD, List.getElem?_set, if_true]
      split <;> rfl
    · rw [if_neg (fun h => el h.2), ← hz]
      simp only [List.getD, List.getElem?_set]
      rw [if_neg (fun h => el h.symm)]
  · rw [if_neg e0, if_neg (show ¬ (s = 0 ∧ l = 0) from fun h => e0 h.1)]
    by_cases en : s = N.length
    · rw [if_pos en]
      have es : stayS n s = 0 := by unfold stayS; rw [if_pos (by omega)]
      rw [es] at hz ⊢
      exact hz
    · rw [if_neg en]
      have es : stayS n s = s := by unfold stayS; rw [if_neg (by omega)]
      rw [es] at hz ⊢
      exact hz
theorem stay_good {m n : Nat} {N : List (List Int)} (hG : GoodN m n N) (hn : n ≤ 6000) : GoodN m (n + 1) (stayN N) := by
  have h1 := hG.1
  refine ⟨by rw [stayN_len]; omega, by omega, by omega, hG.2.2.2.1, hG.2.2.2.2.1, fun s hs => ?_⟩
  constructor
  · rw [stayN_get (by omega)]
    unfold stayRow
    have hr : ∀ j, j < n → (N.getD j []).length = m := fun j hj => (hG.2.2.2.2.2 j hj).1
    have h0 := hr 0 hG.2.1
    split
    · rw [List.length_set, zL_len, h0]
    · split
      · rw [zL_len, h0]
      · rw [zL_len, hr s (by omega)]
  · intro l hl
    rw [stay_next hG (by omega) hl]
    have hst : stayS n s < n := by have := hG.2.1; unfold stayS; split <;> omega
    have := (nxt_cell hG hst hl).1
    split
    · omega
    · split <;> omega
theorem stay_run {m n : Nat} {N : List (List Int)} (hG : GoodN m n N) (hn : n ≤ 6000) (w : List Int) (hw : okW m w) : (dropZ w = [] → runL (stayN N) w = 0) ∧ (dropZ w ≠ [] → runL (stayN N) w ≠ 0 ∧ runL (stayN N) w ≤ n ∧ stayS n (runL (stayN N) w) = runL N (dropZ w)) := by
  have hG2 := stay_good hG hn
  have hn1 := hG.2.1
  induction w using list_snoc_ind with
  | h0 => exact ⟨fun _ => rfl, fun h => absurd rfl h⟩
  | h1 w x ih =>
    have hwx : okW m w := fun y hy => hw y (by simp [hy])
    have hx := hw x (by simp)
    obtain ⟨i1, i2⟩ := ih hwx
    have hstep : ∀ s, s ≤ n → runL (stayN N) w = s → runL (stayN N) (w ++ [x]) = (((stayN N).getD s []).getD x.toNat 0).toNat := fun s _ e => by
      rw [runL_append, e]; rfl
    have hsx : x.toNat < m := by omega
    rw [dropZ_end]
    by_cases hd : dropZ w = []
    · rw [if_pos hd]
      have hr := hstep 0 (by omega) (i1 hd)
      rw [stay_next hG (by omega) hsx] at hr
      have es : stayS n 0 = 0 := by unfold stayS; split <;> rfl
      rw [es] at hr
      have hc := (nxt_cell hG (show 0 < n by omega) hsx).1
      by_cases hx0 : x = 0
      · subst hx0
        rw [if_pos rfl]
        refine ⟨fun _ => ?_, fun h => absurd rfl h⟩
        rw [hr]; rfl
      · rw [if_neg hx0]
        refine ⟨fun h => by simp at h, fun _ => ?_⟩
        rw [if_neg (fun h => hx0 (by omega))] at hr
        have er : runL N [x] = nxt N 0 x.toNat := rfl
        rw [er]
        by_cases hz : nxt N 0 x.toNat = 0
        · rw [if_pos hz] at hr
          rw [hr, hz, Int.toNat_natCast]
          exact ⟨by omega, Nat.le_refl _, by unfold stayS; rw [if_pos rfl]⟩
        · rw [if_neg hz, Int.toNat_natCast] at hr
          rw [hr]
          exact ⟨hz, by omega, by unfold stayS; rw [if_neg (by omega)]⟩
    · rw [if_neg hd]
      obtain ⟨k1, k2, k3⟩ := i2 hd
      have hr := hstep _ k2 rfl
      rw [stay_next hG k2 hsx, if_neg (fun h => k1 h.1), k3] at hr
      have hlt := run_lt hG (dropZ w) (okW_dropZ hwx)
      have hc := (nxt_cell hG hlt hsx).1
      have er : runL N (dropZ w ++ [x]) = nxt N (runL N (dropZ w)) x.toNat := by rw [runL_append]; rfl
      refine ⟨fun h => by simp at h, fun _ => ?_⟩
      rw [er]
      by_cases hz : nxt N (runL N (dropZ w)) x.toNat = 0
      · rw [if_pos hz] at hr
        rw [hr, hz, Int.toNat_natCast]
        exact ⟨by omega, Nat.le_refl _, by unfold stayS; rw [if_pos rfl]⟩
      · rw [if_neg hz, Int.toNat_natCast] at hr
        rw [hr]
        exact ⟨hz, by omega, by unfold stayS; rw [if_neg (by omega)]⟩
theorem stayE_get {E : List Bool} {n s : Nat} (hE : E.length = n) (hs : s ≤ n) : (stayE E).getD s false = E.getD (stayS n s) false := by
  unfold stayE stayS
  by_cases e : s = n
  · rw [if_pos e, e, ← hE]
    simp [List.getD]
  · rw [if_neg e]
    simp only [List.getD]
    rw [List.getElem?_append_left (by omega)]
theorem stay_tk {m n : Nat} {N : List (List Int)} {E : List Bool} (hG : GoodN m n N) (hn : n ≤ 6000) (hE : E.length = n) (w : List Int) (hw : okW m w) : tkB (stayN N) (stayE E) w = tkB N E (dropZ w) := by
  obtain ⟨h1, h2⟩ := stay_run hG hn w hw
  unfold tkB
  by_cases hd : dropZ w = []
  · rw [h1 hd, hd, stayE_get hE (by omega)]
    unfold stayS
    split <;> rfl
  · obtain ⟨k1, k2, k3⟩ := h2 hd
    rw [stayE_get hE k2, k3]
end Go.Proofs.YtleebojibobgaaaDoor

/- The reference's Grown: what holds between its rounds. -/
namespace Go.Proofs.YtleebojibobgaaaDoor
open Go.RowKit

/-- The set that comes of S, as far as s states and k letters of the next one have been looked at. -/
def stM (N : List (List Int)) (n : Nat) (ls : List Int) (S s k : Nat) : Nat := maskB n fun t => (List.range s).any (fun s' => S.testBit s' && ls.any fun l => decide (stepL N s' l = t)) || (S.testBit s && (ls.take k).any fun l => decide (stepL N s l = t))
theorem stM_bit {N : List (List Int)} {n : Nat} {ls : List Int} {S s k t : Nat} : (stM N n ls S s k).testBit t = true ↔ t < n ∧ ((∃ s', s' < s ∧ S.testBit s' = true ∧ ∃ l ∈ ls, stepL N s' l = t) ∨ (S.testBit s = true ∧ ∃ l ∈ ls.take k, stepL N s l = t)) := by
  unfold stM
  rw [maskB_bit, Bool.and_eq_true, decide_eq_true_iff, Bool.or_eq_true, List.any_eq_true, Bool.and_eq_true, List.any_eq_true]
  constructor
  · rintro ⟨h0, h⟩
    refine ⟨h0, ?_⟩
    rcases h with ⟨s', hs, h⟩ | ⟨h1, l, hl, h2⟩
    · rw [Bool.and_eq_true, List.any_eq_true] at h
      obtain ⟨h1, l, hl, h2⟩ := h
      exact .inl ⟨s', List.mem_range.1 hs, h1, l, hl, by simpa using h2⟩
    · exact .inr ⟨h1, l, hl, by simpa using h2⟩
  · rintro ⟨h0, h⟩
    refine ⟨h0, ?_⟩
    rcases h with ⟨s', hs, h1, l, hl, h2⟩ | ⟨h1, l, hl, h2⟩
    · refine .inl ⟨s', List.mem_range.2 hs, ?_⟩
      rw [Bool.and_eq_true, List.any_eq_true]
      exact ⟨h1, l, hl, by simpa using h2⟩
    · exact .inr ⟨h1, l, hl, by simpa using h2⟩
theorem stM_lt (N : List (List Int)) (n : Nat) (ls : List Int) (S s k : Nat) : stM N n ls S s k < 2 ^ n := maskB_lt _ _
theorem stM_zero (N : List (List Int)) (n : Nat) (ls : List Int) (S : Nat) : stM N n ls S 0 0 = 0 := by
  refine mask_ext (n := n) (stM_lt _ _ _ _ _ _) (Nat.two_pow_pos n) fun t _ => ?_
  rw [Nat.zero_testBit]
  cases h : (stM N n ls S 0 0).testBit t with
  | false => rfl
  | true =>
    obtain ⟨-, ⟨s', hs, -⟩ | ⟨-, l, hl, -⟩⟩ := stM_bit.1 h
    · omega
    · simp at hl
theorem stM_put {N : List (List Int)} {n : Nat} {ls : List Int} {S s k : Nat} (hk : k < ls.length) (hS : S.testBit s = true) (hn : stepL N s (ls.getD k 0) < n) : putM (stM N n ls S s k) (stepL N s (ls.getD k 0)) = stM N n ls S s (k + 1) := by
  refine mask_ext (n := n) (putM_lt (stM_lt _ _ _ _ _ _) hn) (stM_lt _ _ _ _ _ _) fun t ht => ?_
  rw [Bool.eq_iff_iff, putM_bit, Bool.or_eq_true, decide_eq_true_iff, stM_bit, stM_bit, List.take_succ_eq_append_getElem hk, ← getD_at _ k hk]
  constructor
  · rintro (⟨h0, h | ⟨h1, l, hl, h2⟩⟩ | h)
    · exact ⟨h0, .inl h⟩
    · exact ⟨h0, .inr ⟨h1, l, by simp [hl], h2⟩⟩
    · exact ⟨ht, .inr ⟨hS, ls.getD k 0, by simp, h⟩⟩
  · rintro ⟨h0, h | ⟨h1, l, hl, h2⟩⟩
    · exact .inl ⟨h0, .inl h⟩
    · rcases List.mem_append.1 hl with hl | hl
      · exact .inl ⟨h0, .inr ⟨h1, l, hl, h2⟩⟩
      · simp only [List.mem_singleton] at hl
        subst hl
        exact .inr h2
theorem stM_skip {N : List (List Int)} {n : Nat} {ls : List Int} {S s : Nat} (hS : S.testBit s = false) (k k' : Nat) : stM N n ls S s k = stM N n ls S s k' := by
  refine mask_ext (n := n) (stM_lt _ _ _ _ _ _) (stM_lt _ _ _ _ _ _) fun t _ => ?_
  rw [Bool.eq_iff_iff, stM_bit, stM_bit, hS]
  simp
theorem stM_row {N : List (List Int)} {n : Nat} {ls : List Int} {S s : Nat} : stM N n ls S s ls.length = stM N n ls S (s + 1) 0 := by
  refine mask_ext (n := n) (stM_lt _ _ _ _ _ _) (stM_lt _ _ _ _ _ _) fun t _ => ?_
  rw [Bool.eq_iff_iff, stM_bit, stM_bit, List.take_length]
  constructor
  · rintro ⟨h0, ⟨s', hs, h⟩ | ⟨h1, h2⟩⟩
    · exact ⟨h0, .inl ⟨s', by omega, h⟩⟩
    · exact ⟨h0, .inl ⟨s, by omega, h1, h2⟩⟩
  · rintro ⟨h0, ⟨s', hs, h⟩ | ⟨h1, l, hl, h2⟩⟩
    · by_cases e : s' = s
      · subst e; exact ⟨h0, .inr h⟩
      · exact ⟨h0, .inl ⟨s', by omega, h⟩⟩
    · simp at hl
theorem stM_end {N : List (List Int)} {n : Nat} {ls : List Int} {S : Nat} : stM N n ls S n 0 = stepM N n ls S := by
  refine mask_ext (n := n) (stM_lt _ _ _ _ _ _) (stepM_lt _ _ _ _) fun t _ => ?_
  rw [Bool.eq_iff_iff, stM_bit, stepM_bit]
  constructor
  · rintro ⟨h0, ⟨s', hs, h⟩ | ⟨h1, l, hl, h2⟩⟩
    · exact ⟨h0, s', hs, h⟩
    · simp at hl
  · rintro ⟨h0, s', hs, h⟩
    exact ⟨h0, .inl ⟨s', hs, h⟩⟩

/-- Rows that were gathered, beside blocks that turn. -/
theorem rwAt_cells {w : World} {ls : Nat → List Int} {k : Nat} {v : Value} {W W2 : World} (h : RwAt w ls k v W) (hc : ∀ (x : Nat) (cs : Array Value) (T : TypeId) (f : Nat × Nat), W.heap[x]? = some (Obj.cells cs T f) → W2.heap[x]? = W.heap[x]?) (hb : Below w.heap.size w W2) : RwAt w ls k v W2 := by
  obtain ⟨vals, h1, h2, -⟩ := h
  refine ⟨vals, ownsRow_of_block h1 fun x hx => ?_, fun j hj => ?_, hb⟩
  · rcases h1.2 with ⟨rfl, _⟩ | ⟨g, cap, cur, rfl, _, hh, _⟩
    · simp [Value.ownBlock] at hx
    · simp [Value.ownBlock] at hx
      subst hx
      exact hc _ _ _ _ hh
  · obtain ⟨a, cap, e1, e2, e3⟩ := h2 j hj
    refine ⟨a, cap, e1, sl_keep e2 fun x hx => ?_, e3⟩
    obtain ⟨h0, ad, rfl, rfl⟩ := hx
    obtain ⟨b', o, e, hcl⟩ := sl_cell e2 0 h0
    cases e
    obtain ⟨cs, T, f, hh⟩ := cell_block hcl
    exact hc _ _ _ _ hh
def RwX (w : World) (ls : Nat → List Int) (k : Nat) (v : Value) (X : List Nat) (W : World) : Prop := RwAt w ls k v (maskW X W) ∧ Below w.heap.size w W ∧ ∀ x ∈ X, w.heap.size ≤ x
theorem rwX_turn {w : World} {ls : Nat → List Int} {k : Nat} {v : Value} {X X' : List Nat} {W W2 : World} (h : RwX w ls k v X W) (hk : ∀ x, x < W.heap.size → ¬ x ∈ X → W2.heap[x]? = W.heap[x]?) (hX : ∀ x ∈ X', x ∈ X ∨ W.heap.size ≤ x) (hb : Below w.heap.size w W2) (hX2 : ∀ x ∈ X', w.heap.size ≤ x) : RwX w ls k v X' W2 := by
  refine ⟨rwAt_cells h.1 (fun x cs T f hx => ?_) (mask_below hb hX2), hb, hX2⟩
  obtain ⟨h1, h2⟩ := mask_cells hx
  have hlt := (Array.getElem?_eq_some_iff.1 h2).1
  rw [mask_out (fun hx' => by rcases hX x hx' with h | h; exact h1 h; omega), mask_out h1, hk x hlt h1]
theorem rwX_nil (w W : World) (ls : Nat → List Int) (X : List Nat) (hb : Below w.heap.size w W) (hX : ∀ x ∈ X, w.heap.size ≤ x) : RwX w ls 0 (.slice none 0 0) X W := ⟨⟨[], World.ownsRow_nil _ _ _ _, fun j hj => by omega, mask_below hb hX⟩, hb, hX⟩
/-- One row more: X are the blocks that have turned since W. -/
theorem rwX_push {w : World} {ls : Nat → List Int} {k : Nat} {v : Value} {X : List Nat} {W W2 : World} {br cr : Nat} (h : RwX w ls k v X W) (hk : ∀ x, x < W.heap.size → ¬ x ∈ X → W2.heap[x]? = W.heap[x]?) (hsz : W.heap.size ≤ W2.heap.size) (hb : Below w.heap.size w W2) (hs : Sl W2 (some ⟨br, 0, none⟩) (ls k).length (ls k)) (hbr : W.heap.size ≤ br) (hbX : ¬ br ∈ X) (hXlt : ∀ x ∈ X, x < W2.heap.size) :
    ∃ vals : List Value, W2.ownsRow w.heap.size 37 1 v k vals ∧ (∀ x, v.ownBlock = some x → ¬ x ∈ X ∧ x < W.heap.size) ∧
      ∀ (w3 : World) (o : Obj) (g' cap' : Nat), w3.ownsRow w.heap.size 37 1 (.slice (some ⟨g', 0, none⟩) (k + 1) cap') (k + 1) (vals ++ [.slice (some ⟨br, 0, none⟩) (ls k).length cr]) → (W2.alloc o).grownBy w3 v.ownBlock → (v.ownBlock = some g' ∨ g' = W2.heap.size + 1) → RwX w ls (k + 1) (.slice (some ⟨g', 0, none⟩) (k + 1) cap') X w3 ∧ ∀ x ∈ X, w3.heap[x]? = W2.heap[x]? := by
  have hbm : Below (maskW X W).heap.size (maskW X W) (maskW X W2) := by
    rw [mask_size]
    exact mask_belows hsz (hb.os.trans h.2.1.os.symm) (hb.tape.trans h.2.1.tape.symm) (hb.output.trans h.2.1.output.symm) hk (Nat.le_refl _)
  obtain ⟨vals, c2, c3, c4⟩ := @rwAt_push w (maskW X W) (maskW X W2) ls k v (some ⟨br, 0, none⟩) cr h.1 hbm ⟨sl_keep hs (fun x hx => by obtain ⟨_, ad, e, rfl⟩ := hx; cases e; exact mask_out hbX _), fun ad e => by cases e; rw [mask_size]; exact hbr⟩
  obtain ⟨d2, d3⟩ := mask_owns c2
  have d4 : ∀ x, v.ownBlock = some x → x < W.heap.size := fun x hx => by
    obtain ⟨vals0, e1, -, -⟩ := h.1
    have := (e1.lt x hx).2
    rwa [mask_size] at this
  refine ⟨vals, d2, fun x hx => ⟨d3 x hx, d4 x hx⟩, fun w3 o g' cap' hown hgrow hat => ?_⟩
  have hg' : ¬ g' ∈ X := by
    rcases hat with e | e
    · exact d3 g' e
    · intro hx; have := hXlt g' hx; omega
  have f3 := c4 (maskW X w3) o g' cap' (owns_mask hown (fun x hx => by simp [Value.ownBlock] at hx; subst hx; exact hg')) (mask_grown hXlt hgrow) (by rw [World.size_alloc, mask_size]; exact hat)
  have hbel : Below w.heap.size w w3 := Below.grown (hb.alloc hb.size o) hgrow (by have := hb.size; simp; omega) (fun x hx => (d2.lt x hx).1)
  refine ⟨⟨f3, hbel, h.2.2⟩, fun x hx => ?_⟩
  rw [hgrow.block x (by have := hXlt x hx; simp; omega) (fun e => d3 x e.symm hx), Below.heap_alloc _ _ _ (hXlt x hx)]
theorem rwX_end {w : World} {ls : Nat → List Int} {k : Nat} {v : Value} {X : List Nat} {W : World} (h : RwX w ls k v X W) (hk : k ≤ maxLen) (L : List (List Int)) (hL : L.length = k) (hl : ∀ j, j < k → L.getD j [] = ls j) : ∃ a cap, v = .slice a k cap ∧ Sl2 W a k L := by
  obtain ⟨a, cap, e, hs⟩ := rwAt_end h.1 hk L hL hl
  exact ⟨a, cap, e, mask_sl2 hs⟩

/-- Within a round: the sets that are found, and the row that is made, beside what was there at its beginning (all but the sets' old block). -/
structure GrI (w wq : World) (b : Nat) (L : List Nat) (row : List Int) (v v' : Value) (W : World) (b' cap : Nat) : Prop where
  val : v = .slice (some ⟨b', 0, none⟩) L.length cap
  que : QueG W b' L.length cap L
  at_ : b' = b ∨ wq.heap.size ≤ b'
  row_ : W.ownsRow wq.heap.size 3 1 v' row.length (row.map (Value.int .i64))
  far : v'.ownBlock ≠ some b'
  keep : ∀ x, x < wq.heap.size → x ≠ b → W.heap[x]? = wq.heap[x]?
  below : Below w.heap.size w W
  size : wq.heap.size ≤ W.heap.size
  base : w.heap.size ≤ b ∧ w.heap.size ≤ wq.heap.size
theorem grI_below {w wq : World} {b : Nat} {L : List Nat} {row : List Int} {v v' : Value} {W W2 : World} {b' cap : Nat} (h : GrI w wq b L row v v' W b' cap) (hb : Below W.heap.size W W2) : GrI w wq b L row v v' W2 b' cap :=
  ⟨h.val, queG_kept h.que (hb.block _ (queG_lt h.que)), h.at_, ownsRow_of_block h.row_ (fun x hx => hb.block _ (h.row_.lt x hx).2), h.far, fun x hx hne => (hb.block x (Nat.lt_of_lt_of_le hx h.size)).trans (h.keep x hx hne), below_step h.below hb, Nat.le_trans h.size hb.size, h.base⟩
theorem grI_set {w wq : World} {b : Nat} {L : List Nat} {row : List Int} {v v' : Value} {W w3 : World} {b' cap x : Nat} {o : Obj} {b2 cap2 : Nat} (h : GrI w wq b L row v v' W b' cap) (hq : QueG w3 b2 (L.length + 1) cap2 (L ++ [x])) (hg : (W.alloc o).grownBy w3 (some b')) (hb2 : b2 = b' ∨ (W.alloc o).heap.size ≤ b2) : GrI w wq b (L ++ [x]) row (.slice (some ⟨b2, 0, none⟩) (L.length + 1) cap2) v' w3 b2 cap2 := by
  have hsz := hg.size
  simp at hsz
  have hs0 := h.size
  have hkeep : ∀ z, z < W.heap.size → z ≠ b' → w3.heap[z]? = W.heap[z]? := fun z hz hne => by
    rw [hg.block z (by simp; omega) (fun e => hne (Option.some.inj e)), Below.heap_alloc _ _ _ hz]
  refine ⟨by rw [List.length_append, List.length_singleton], by rw [List.length_append, List.length_singleton]; exact hq, ?_, ownsRow_of_block h.row_ (fun z hz => hkeep z (h.row_.lt z hz).2 (fun e => h.far (e ▸ hz))), fun e => ?_, fun z hz hne => ?_, ?_, by omega, h.base⟩
  · rcases hb2 with rfl | hb2
    · exact h.at_
    · simp at hb2; exact .inr (by omega)
  · rcases hb2 with rfl | hb2
    · exact h.far e
    · have := (h.row_.lt _ e).2
      simp at hb2; omega
  · rw [hkeep z (by omega) (fun e => ?_), h.keep z hz hne]
    rcases h.at_ with e2 | e2
    · omega
    · omega
  · refine Below.grown (h.below.alloc h.below.size o) hg (by have := h.below.size; simp; omega) (fun k hk => ?_)
    cases hk
    rcases h.at_ with e2 | e2
    · rw [e2]; exact h.base.1
    · have := h.base.2; omega
theorem grI_row {w wq : World} {b : Nat} {L : List Nat} {row : List Int} {v v' v2 : Value} {W w3 : World} {b' cap : Nat} {o : Obj} {x : Int} (h : GrI w wq b L row v v' W b' cap) (hown : w3.ownsRow wq.heap.size 3 1 v2 (row.length + 1) (row.map (Value.int .i64) ++ [.int .i64 x])) (hg : (W.alloc o).grownBy w3 v'.ownBlock) (hat : v2.ownBlock = v'.ownBlock ∨ v2.ownBlock = some (W.alloc o).heap.size) : GrI w wq b L (row ++ [x]) v v2 w3 b' cap := by
  have hsz := hg.size
  simp at hsz
  have hs0 := h.size
  have hqlt := queG_lt h.que
  have hkeep : ∀ z, z < W.heap.size → v'.ownBlock ≠ some z → w3.heap[z]? = W.heap[z]? := fun z hz hne => by
    rw [hg.block z (by simp; omega) (fun e => hne e.symm), Below.heap_alloc _ _ _ hz]
  refine ⟨h.val, queG_kept h.que (hkeep _ hqlt h.far), h.at_, by rw [List.length_append, List.map_append]; exact hown, fun e => ?_, fun z hz hne => ?_, ?_, by omega, h.base⟩
  · rcases hat with e2 | e2
    · exact h.far (e2 ▸ e)
    · rw [e2] at e
      simp at e
      omega
  · rw [hkeep z (by omega) (fun e => ?_), h.keep z hz hne]
    have := (h.row_.lt z e).1
    omega
  · exact Below.grown (h.below.alloc h.below.size o) hg (by have := h.below.size; simp; omega) (fun k hk => by have := (h.row_.lt k hk).1; have := h.base.2; omega)
end Go.Proofs.YtleebojibobgaaaDoor
