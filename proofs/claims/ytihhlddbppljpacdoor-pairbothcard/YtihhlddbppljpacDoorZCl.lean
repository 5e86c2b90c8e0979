/- 2 texts in one. -/
import Derived.BigRegion
import Derived.Laws.AppendOwnNone
import Derived.Test.YtihhlddbppljpacDoorZNx
import Derived.Test.YtihhlddbppljpacDoorZCd
import Derived.Test.YtihhlddbppljpacDoorCh
import Derived.Test.YtihhlddbppljpacDoorCi
import Derived.Test.YtihhlddbppljpacDoorZDb
import Derived.Test.YtihhlddbppljpacDoorZMp
import Derived.Test.YtihhlddbppljpacDoorRe
/- The walk of the law LeastAsks. -/
namespace Go.Proofs.YtihhlddbppljpacDoor
open Go.RowKit

/-- Both automata in their boxes. -/
def TwoAt (w W : World) (b t : Int) (a : Option Addr) (n cap : Nat) (a' : Option Addr) (k cap' : Nat) (N : List (List Int)) (E : List Bool) (b2 t2 : Int) (a2 : Option Addr) (n2 cap2 : Nat) (a2' : Option Addr) (k2 cap2' : Nat) (N2 : List (List Int)) (E2 : List Bool) : Prop :=
  Below w.heap.size w W ∧ AutoAt W w.heap.size b t a n cap a' k cap' N E ∧ AutoAt W (w.heap.size + 1) b2 t2 a2 n2 cap2 a2' k2 cap2' N2 E2 ∧ Handle W
theorem twoAt_step {w W W' : World} {b t : Int} {a : Option Addr} {n cap : Nat} {a' : Option Addr} {k cap' : Nat} {N : List (List Int)} {E : List Bool} {b2 t2 : Int} {a2 : Option Addr} {n2 cap2 : Nat} {a2' : Option Addr} {k2 cap2' : Nat} {N2 : List (List Int)} {E2 : List Bool} (h : TwoAt w W b t a n cap a' k cap' N E b2 t2 a2 n2 cap2 a2' k2 cap2' N2 E2) (hb : Below W.heap.size W W') : TwoAt w W' b t a n cap a' k cap' N E b2 t2 a2 n2 cap2 a2' k2 cap2' N2 E2 :=
  ⟨below_step h.1 hb, autoAt_below h.2.1 hb, autoAt_below h.2.2.1 hb, h.2.2.2.below hb⟩

end Go.Proofs.YtihhlddbppljpacDoor

/- The walk of the law PairBoth, from what package pair's functions answer. -/
namespace Go.Proofs.YtihhlddbppljpacDoor
open Go.RowKit

/-- An automaton and an error are handed back. -/
def PairR (w : World) (b t : Int) (N : List (List Int)) (E : List Bool) (c : Int) (e : Ending) (w' : World) : Prop :=
  ∃ a ca a' ca', e = .returned (.tuple #[.agg #[.int .i64 b, .int .i64 t, .slice a N.length ca, .slice a' N.length ca'], errV c]) ∧ AutoNew w a N.length N a' E w' ∧ Below w.heap.size w w'
/-- What Not hands back. -/
def notN (b t : Int) (N : List (List Int)) (E : List Bool) (k : Nat) : List (List Int) := if autoC b t N k = 0 then leastN N (notL E) (manyU b t).toNat else []
def notE (b t : Int) (N : List (List Int)) (E : List Bool) (k : Nat) : List Bool := if autoC b t N k = 0 then leastE N (notL E) (manyU b t).toNat else []

/-- A box whose last field grows, one end more each time. -/
def NotAt (wb : World) (v0 v1 v2 : Value) (es : Nat → Bool) (q : Nat) (W : World) : Prop :=
  ∃ vE : Value, W.heap[wb.heap.size]? = some (.cells #[v0, v1, v2, vE] 25 (0, 0)) ∧ W.ownsRow (wb.heap.size + 1) 4 1 vE q ((List.range q).map fun j => Value.bool (es j)) ∧ Below wb.heap.size wb W
theorem notAt_start (wb : World) (v0 v1 v2 : Value) (es : Nat → Bool) : NotAt wb v0 v1 v2 es 0 (wb.alloc (.cells #[v0, v1, v2, .slice none 0 0] 25)) :=
  ⟨.slice none 0 0, heap_alloc_last _ _, World.ownsRow_nil _ _ _ _, (Below.refl _ _).alloc (Nat.le_refl _) _⟩
theorem notAt_E {wb : World} {v0 v1 v2 : Value} {es : Nat → Bool} {q : Nat} {W2 : World} (h : NotAt wb v0 v1 v2 es q W2) :
    ∃ (vE : Value), W2.cell? ⟨wb.heap.size, 3, none⟩ = some vE ∧ W2.ownsRow (wb.heap.size + 1) 4 1 vE q ((List.range q).map fun j => Value.bool (es j)) ∧ wb.heap.size + 1 ≤ W2.heap.size ∧
      ∀ (w3 : World) (o : Obj) (g' cap' : Nat), w3.ownsRow (wb.heap.size + 1) 4 1 (.slice (some ⟨g', 0, none⟩) (q + 1) cap') (q + 1) (((List.range q).map fun j => Value.bool (es j)) ++ [.bool (es q)]) → (W2.alloc o).grownBy w3 vE.ownBlock → (vE.ownBlock = some g' ∨ g' = W2.heap.size + 1) →
        (w3.cell? ⟨wb.heap.size, 3, none⟩ = some vE ∧ w3.frozen? ⟨wb.heap.size, 3, none⟩ = false) ∧ NotAt wb v0 v1 v2 es (q + 1) (w3.setCell ⟨wb.heap.size, 3, none⟩ (.slice (some ⟨g', 0, none⟩) (q + 1) cap')) := by
  obtain ⟨vE, h1, h3, h5⟩ := h
  have hBlt := (Array.getElem?_eq_some_iff.1 h1).1
  refine ⟨vE, by simp [World.cell?, h1], h3, by omega, fun w3 o g' cap' hown hgrow hat => ?_⟩
  have hsz : (W2.alloc o).heap.size = W2.heap.size + 1 := by simp
  have hkeep : ∀ x, x < W2.heap.size → vE.ownBlock ≠ some x → w3.heap[x]? = W2.heap[x]? := fun x hx hne => by
    rw [hgrow.block x (by omega) (fun e => hne e.symm), Below.heap_alloc _ _ _ hx]
  have hEB : vE.ownBlock ≠ some wb.heap.size := fun e => by have := (h3.lt _ e).1; omega
  have hbox : w3.heap[wb.heap.size]? = some (.cells #[v0, v1, v2, vE] 25 (0, 0)) := (hkeep _ hBlt hEB).trans h1
  have hg'B : g' ≠ wb.heap.size := by
    rcases hat with e | e
    · intro e'; subst e'; exact hEB e
    · omega
  refine ⟨⟨by simp [World.cell?, hbox], by simp [World.frozen?, hbox]⟩, .slice (some ⟨g', 0, none⟩) (q + 1) cap', (set_box hbox _).2, ?_, ?_⟩
  · rw [List.range_succ, List.map_append]
    exact ownsRow_setCell_other hown (by simpa [Value.ownBlock] using hg'B) _
  · exact (Below.grown (h5.alloc h5.size o) hgrow (by have := h5.size; simp; omega) (fun x hx => by have := (h3.lt x hx).1; omega)).setCell (Nat.le_refl _) _
theorem notAt_end {wb : World} {v0 v1 v2 : Value} {es : Nat → Bool} {k : Nat} {W : World} (h : NotAt wb v0 v1 v2 es k W) (hk : k ≤ maxLen) (E : List Bool) (hE : E.length = k) (he : ∀ j, j < k → E.getD j false = es j) :
    ∃ a' c', W.heap[wb.heap.size]? = some (.cells #[v0, v1, v2, .slice a' k c'] 25 (0, 0)) ∧ Below wb.heap.size wb W ∧ SlB W a' k E := by
  obtain ⟨vE, h1, h3, h5⟩ := h
  obtain ⟨h0, h2⟩ := h3
  rcases h2 with ⟨rfl, rfl⟩ | ⟨g, cap, cur, rfl, hg, hh, hc, hcm, hcs, ht⟩
  · exact ⟨none, 0, h1, h5, hE, hk, Or.inl rfl⟩
  · refine ⟨_, cap, h1, h5, hE, hk, Or.inr ⟨g, 0, rfl, fun i hi => ?_⟩⟩
    rw [cell_of_row W g (0 + i) cur 4 (0, 0) hh, Nat.zero_add, he i hi]
    have h3 : (cur.toList.take (k * 1))[i]? = ((List.range k).map fun j => Value.bool (es j))[i]? := by rw [ht]
    rw [List.getElem?_take, if_pos (by omega), Array.getElem?_toList] at h3
    rw [h3]
    simp [hi]

set_option maxHeartbeats 16000000 in
set_option maxRecDepth 8000 in
theorem pairboth_of (b t : Int) (a : Option Addr) (n cap : Nat) (a' : Option Addr) (k cap' : Nat) (N : List (List Int)) (E : List Bool) (b2 t2 : Int) (a2 : Option Addr) (n2 cap2 : Nat) (a2' : Option Addr) (k2 cap2' : Nat) (N2 : List (List Int)) (E2 : List Bool) (how : Int) (w : World) (hs : Sl2 w a n N) (he : SlB w a' k E) (hs2 : Sl2 w a2 n2 N2) (he2 : SlB w a2' k2 E2) (hg : Handle w)
    (hPB : ∀ W, Sl2 W a n N → SlB W a' k E → Sl2 W a2 n2 N2 → SlB W a2' k2 E2 → Calls Tryd.prog 5 #[.agg #[.int .i64 b, .int .i64 t, .slice a n cap, .slice a' k cap'], .agg #[.int .i64 b2, .int .i64 t2, .slice a2 n2 cap2, .slice a2' k2 cap2'], .int .i64 how] W (PairR W (okI (bothC how b t N E k b2 t2 N2 E2 k2) b) (okI (bothC how b t N E k b2 t2 N2 E2 k2) t) (bothN how b t N E k b2 t2 N2 E2 k2) (bothE how b t N E k b2 t2 N2 E2 k2) (bothC how b t N E k b2 t2 N2 E2 k2)))
    (hPN : ∀ W, Sl2 W a n N → SlB W a' k E → Calls Tryd.prog 10 #[.agg #[.int .i64 b, .int .i64 t, .slice a n cap, .slice a' k cap']] W (PairR W (okI (autoC b t N k) b) (okI (autoC b t N k) t) (notN b t N E k) (notE b t N E k) (autoC b t N k))) :
    Calls Tryd.prog 3 #[.agg #[.int .i64 b, .int .i64 t, .slice a n cap, .slice a' k cap'], .agg #[.int .i64 b2, .int .i64 t2, .slice a2 n2 cap2, .slice a2' k2 cap2'], .int .i64 how] w fun e w' => e = .returned (.bool true) ∧ Below w.heap.size w w' := by
  have hB0 := below_two w (.cells #[.int .i64 b, .int .i64 t, .slice a n cap, .slice a' k cap'] 25) (.cells #[.int .i64 b2, .int .i64 t2, .slice a2 n2 cap2, .slice a2' k2 cap2'] 25)
  have hbx := two_boxes (Below.refl _ ((w.alloc (.cells #[.int .i64 b, .int .i64 t, .slice a n cap, .slice a' k cap'] 25)).alloc (.cells #[.int .i64 b2, .int .i64 t2, .slice a2 n2 cap2, .slice a2' k2 cap2'] 25)))
  have H0 : Hid (TwoAt w _ b t a n cap a' k cap' N E b2 t2 a2 n2 cap2 a2' k2 cap2' N2 E2) := ⟨hB0, ⟨hbx.1, sl2_below hs hB0, slB_below he hB0⟩, ⟨hbx.2, sl2_below hs2 hB0, slB_below he2 hB0⟩, hg.below hB0⟩
  have HF := hide (fun W h => afault_u b t a a' n cap k cap' N W h he.2.1)
  have HPB := hide hPB
  have HPN := hide hPN
  have HBO := hide (fun W h1 h2 h3 h4 => bothOf_u b t a n cap a' k cap' N E b2 t2 a2 n2 cap2 a2' k2 cap2' N2 E2 how W h1 h2 h3 h4)
  unfold BothR at HBO
  unfold PairR at HPB HPN
  have HES := hide (fun c W (h : Handle W) => error_same c W h)
  have hLN := hs.1
  have hLN2 := hs2.1
  have hBL : (bothE how b t N E k b2 t2 N2 E2 k2).length = (bothN how b t N E k b2 t2 N2 E2 k2).length := by
    unfold bothE bothN
    split
    · rw [leastN_len, leastE_len]
    · rfl
  clear hs he hs2 he2 hg hB0 hbx hPB hPN
  generalize okI (bothC how b t N E k b2 t2 N2 E2 k2) b = b0 at HBO HPB
  generalize okI (bothC how b t N E k b2 t2 N2 E2 k2) t = t0 at HBO HPB
  generalize bothC how b t N E k b2 t2 N2 E2 k2 = c0 at HBO HPB
  generalize bothN how b t N E k b2 t2 N2 E2 k2 = LN at HBO HPB hBL
  generalize bothE how b t N E k b2 t2 N2 E2 k2 = LE at HBO HPB hBL
  generalize hW0 : (w.alloc (.cells #[.int .i64 b, .int .i64 t, .slice a n cap, .slice a' k cap'] 25)).alloc (.cells #[.int .i64 b2, .int .i64 t2, .slice a2 n2 cap2, .slice a2' k2 cap2'] 25) = w0 at H0
  obtain ⟨p0, p1, p2, p3⟩ := H0.out.2.1.1
  obtain ⟨q0, q1, q2, q3⟩ := H0.out.2.2.1.1
  go_enter Tryd.func3, Tryd.ntmps3
  go_wp2_with fail
  clear hW0 p0 p1 p2 p3 q0 q1 q2 q3
  refine (HBO.out w0 H0.out.2.1.2.1 H0.out.2.1.2.2 H0.out.2.2.1.2.1 H0.out.2.2.1.2.2).mono ?_
  rintro e w1 ⟨ax, cx, ax', cx', rfl, hnew, hb1⟩
  have hbz := (Below.refl w1.heap.size w1).alloc (Nat.le_refl _) (.cells #[.int .i64 b0, .int .i64 t0, .slice ax LN.length cx, .slice ax' LN.length cx'] 25)
  have H1 := hide (twoAt_step H0.out hb1)
  have HBW2 := hide hbz
  have H2 := hide (twoAt_step (twoAt_step H0.out hb1) hbz)
  have HX2 := hide (heap_alloc_last w1 (.cells #[.int .i64 b0, .int .i64 t0, .slice ax LN.length cx, .slice ax' LN.length cx'] 25))
  have HN2 := hide (hnew.below hbz).here
  clear hnew hb1 hbz H0 HBO
  obtain ⟨p0, p1, p2, p3⟩ := H2.out.2.1.1
  obtain ⟨q0, q1, q2, q3⟩ := H2.out.2.2.1.1
  go_wp2_with fail
  clear p0 p1 p2 p3 q0 q1 q2 q3
  generalize w1.alloc (.cells #[.int .i64 b0, .int .i64 t0, .slice ax LN.length cx, .slice ax' LN.length cx'] 25) = w2 at H2 HX2 HN2 HBW2 ⊢
  have HSX : Hid (w1.heap.size < w2.heap.size) := (Array.getElem?_eq_some_iff.1 HX2.out).1
  refine (HPB.out w2 H2.out.2.1.2.1 H2.out.2.1.2.2 H2.out.2.2.1.2.1 H2.out.2.2.1.2.2).mono ?_
  rintro e w3 ⟨ay, cy, ay', cy', rfl, hnew, hb3⟩
  have hbz := (Below.refl w3.heap.size w3).alloc (Nat.le_refl _) (.cells #[.int .i64 b0, .int .i64 t0, .slice ay LN.length cy, .slice ay' LN.length cy'] 25)
  have HB4 := hide (below_step hb3 hbz)
  have H4 := hide (twoAt_step H2.out HB4.out)
  have HY4 := hide (heap_alloc_last w3 (.cells #[.int .i64 b0, .int .i64 t0, .slice ay LN.length cy, .slice ay' LN.length cy'] 25))
  have HM4 := hide (hnew.below hbz).here
  have HS23 := hide hb3.size
  clear hnew hb3 hbz HPB
  go_wp2_with fail
  generalize w3.alloc (.cells #[.int .i64 b0, .int .i64 t0, .slice ay LN.length cy, .slice ay' LN.length cy'] 25) = w4 at HB4 H4 HY4 HM4 ⊢
  have HSY : Hid (w3.heap.size < w4.heap.size) := (Array.getElem?_eq_some_iff.1 HY4.out).1
  refine (HES.out c0 w4 H4.out.2.2.2).mono ?_
  rintro e w5 ⟨rfl, hb5⟩
  have HB5 := hide (below_step HB4.out hb5)
  have HBW5 := hide (below_step HBW2.out HB5.out)
  have HC5 := hide hb5
  have H5 := hide (twoAt_step H4.out hb5)
  clear hb5
  have hx5 := (HB5.out.block _ HSX.out).trans HX2.out
  have hy5 := (HC5.out.block _ HSY.out).trans HY4.out
  have HX5 := hide hx5
  have HY5 := hide hy5
  obtain ⟨⟨p0, p1, p2, p3⟩, -⟩ := box_cells hx5
  obtain ⟨⟨q0, q1, q2, q3⟩, -⟩ := box_cells hy5
  clear hx5 hy5
  go_wp2_with fail
  refine (autos_eq b0 t0 ay LN.length cy ay' LN.length cy' ax cx ax' cx' LN LE w5 (sl2_below HM4.out.1 HC5.out) (slB_below HM4.out.2 HC5.out) (sl2_below HN2.out.1 HB5.out) (slB_below HN2.out.2 HB5.out)).mono ?_
  rintro e w6 ⟨rfl, hb6⟩
  have HBW6 := hide (below_step HBW5.out hb6)
  have H6 := hide (twoAt_step H5.out hb6)
  have HX6 := hide ((hb6.block _ (Array.getElem?_eq_some_iff.1 HX5.out).1).trans HX5.out)
  have HY6 := hide ((hb6.block _ (Array.getElem?_eq_some_iff.1 HY5.out).1).trans HY5.out)
  clear hb6 p0 p1 p2 p3 q0 q1 q2 q3 HN2 HM4 HX2 HY4 H2 H4 H5 HX5 HY5 HB4 HB5 HC5
  obtain ⟨p0, p1, p2, p3⟩ := H6.out.2.1.1
  go_wp2_with fail
  clear p0 p1 p2 p3
  refine (HF.out w6 H6.out.2.1.2.1).mono ?_
  rintro e w7 ⟨rfl, hb7⟩
  have HBW7 := hide (below_step HBW6.out hb7)
  have H7 := hide (twoAt_step H6.out hb7)
  have HX7 := hide ((hb7.block _ (Array.getElem?_eq_some_iff.1 HX6.out).1).trans HX6.out)
  have HY7 := hide ((hb7.block _ (Array.getElem?_eq_some_iff.1 HY6.out).1).trans HY6.out)
  clear hb7 H6 HX6 HY6 HF HBW2 HBW5 HBW6
  have HNE : Hid (w3.heap.size ≠ w1.heap.size) := by
    show _ ≠ _
    have h1 := HSX.out
    have h2 := HS23.out
    omega
  obtain ⟨w8, hw8⟩ : ∃ w8, (((w7.setCell ⟨w1.heap.size, 0, none⟩ (.int .i64 0)).setCell ⟨w1.heap.size, 1, none⟩ (.int .i64 0)).setCell ⟨w1.heap.size, 2, none⟩ (.slice none 0 0)).setCell ⟨w1.heap.size, 3, none⟩ (.slice none 0 0) = w8 := ⟨_, rfl⟩
  obtain ⟨⟨hbx8, hsz8, hkp8⟩, hbl8⟩ := box_set HX7.out hw8.symm
  have HX8 := hide hbx8
  have HY8 := hide ((hkp8 _ HNE.out).trans HY7.out)
  have HBW8 := hide (hbl8 w1 w1.heap.size HBW7.out (Nat.le_refl _))
  have H8 := hide (twoAt_step H1.out HBW8.out)
  clear hbx8 hsz8 hkp8 hbl8
  obtain ⟨⟨r0, r1, r2, r3⟩, rf⟩ := box_cells HX7.out
  obtain ⟨p0, p1, p2, p3⟩ := H8.out.2.1.1
  have HNL : Hid (notN b t N E k = if autoC b t N k = 0 then leastN N (notL E) (manyU b t).toNat else []) := rfl
  have HNE' : Hid (notE b t N E k = if autoC b t N k = 0 then leastE N (notL E) (manyU b t).toNat else []) := rfl
  have HNA : Hid (autoC b t N k = 0 → ∃ m, GoodN m n N ∧ k = n ∧ (manyU b t).toNat = m ∧ n ≤ 80) := fun h => by
    obtain ⟨-, h2, h3, -⟩ := autoC_zero h
    have h4 := autoC_80 h
    rw [hLN] at h2 h3 h4
    exact ⟨_, h3, h2, rfl, h4⟩
  generalize autoC b t N k = c at HPN HNL HNE' HNA ⊢
  by_cases hc : c = 0
  · have hc' : (c == 0) = true := by simpa using hc
    rw [if_pos hc] at HNL HNE'
    rw [HNL.out, HNE'.out] at HPN
    obtain ⟨m, hG, rfl, hmm, h80⟩ := HNA.out hc
    rw [hmm] at HPN
    have hok : ∀ x, okI c x = x := fun x => if_pos hc
    rw [hok, hok] at HPN
    have HST := hide (notAt_start w8 (.int .i64 b) (.int .i64 t) (.slice a k cap) (fun j => !(E.getD j false)))
    have HLO := hide (fun ax ax' cx' W h1 h2 => leastOf_any b t ax k cap m N ax' cx' (notL E) W h1 hG h2 (leastK_80 hG (notL E) h80))
    unfold GivesAuto at HLO
    clear hok HNL HNE' HNA hG hmm
    subst hc
    obtain ⟨l0, hl0, hv0, hv1, hv2⟩ := info_parts infoBo
    go_wp2
    clear p0 p1 p2 p3 r0 r1 r2 r3 rf hw8
    generalize w8.alloc (.cells #[.int .i64 b, .int .i64 t, .slice a k cap, .slice none 0 0] 25) = wN at HST ⊢
    go_loopw [14] (fun i wx => ∃ q : Nat, q ≤ k ∧ i = .int .i64 q ∧ NotAt w8 (.int .i64 b) (.int .i64 t) (.slice a k cap) (fun j => !(E.getD j false)) q wx) (fun i _ => k - (intOf i).toNat)
    case atStart => exact ⟨0, by omega, rfl, HST.out⟩
    case round =>
      obtain ⟨q, hq, rfl, hnot⟩ := hrel
      have HNT := hide hnot
      have HBN : Hid (Below w8.heap.size w8 wr) := by obtain ⟨_, _, _, h⟩ := hnot; exact h
      clear hnot
      have HTW := hide (twoAt_step H8.out HBN.out)
      obtain ⟨p0, p1, p2, p3⟩ := HTW.out.2.1.1
      by_cases hqt : q < k
      · have hqti : (q : Int) < (k : Int) := by omega
        obtain ⟨be, oe, rfl, hce⟩ := slB_cell HTW.out.2.1.2.2 q hqt
        obtain ⟨vE, hcE, hoE, hszE, hnx⟩ := notAt_E HNT.out
        have HNX := hide hnx
        have HOWN := hide hoE
        have HSZ := hide hszE
        clear hnx hoE hszE
        generalize E.getD q false = ev at hce HNX
        have hcE2 : (wr.alloc (.cells #[.bool (!ev)] 4)).cell? ⟨w8.heap.size, 3, none⟩ = some vE := (((Below.refl wr.heap.size wr).alloc (Nat.le_refl _) _).cell (p := ⟨w8.heap.size, 3, none⟩) (World.block_lt_of_cell? wr _ hcE)).trans hcE
        go_wp2
        go_region_law (first | (refine step_append_lies _ rfl (.tmp 56) (.tmp 63) 23 rfl (w8.heap.size + 1) 4 l0 (.bool false) 1 1 Tryd.underlying23 hl0 hv0 hv1 hv2 rfl (by decide) vE q _ (by simp [Act.eval]) (World.ownsRow.alloc (w := wr.drew) HOWN.out _) ⟨wr.heap.size, 0, none⟩ 1 1 [.bool (!ev)] (by simp [Act.eval]) rfl (one_new_at _ _ _ _ (by simp)) (fun u hu => by simp at hu; subst hu; rfl) (by omega) (by unfold maxLen; omega) (by omega) (by have := HSZ.out; simp; omega) (wr.heap.size + 1) (by simp) ?_; intro g5 cg5 w6' hown5 hgrow5 hat5 hlt5; obtain ⟨⟨hm1, hm2⟩, hm3⟩ := HNX.out w6' _ g5 cg5 hown5 ⟨hgrow5.os, hgrow5.tape, hgrow5.output, hgrow5.size, hgrow5.block⟩ hat5; have HM3 := hide hm3; clear hm3 hown5 hgrow5 hat5 hlt5))
        all_goals
          go_wp2
          go_roundw
          case rel => exact ⟨q + 1, by omega, by go_num, HM3.out⟩
          case measure => simp [intOf]; omega
      · have hqti : ¬ (q : Int) < (k : Int) := by omega
        obtain rfl : k = q := by omega
        obtain ⟨aq, cq, hboxq, hbq, hsq⟩ := notAt_end HNT.out (by unfold maxLen; omega) (notL E) (by rw [notL_len]; exact HTW.out.2.1.2.2.1) (fun j hj => by simp [notL, List.getD, HTW.out.2.1.2.2.1, hj])
        have HTW' := hide (twoAt_step H1.out (below_step HBW8.out HBN.out))
        have HQ := hide hsq
        have HXQ := hide ((hbq.block _ (Array.getElem?_eq_some_iff.1 HX8.out).1).trans HX8.out)
        have HYQ := hide ((hbq.block _ (Array.getElem?_eq_some_iff.1 HY8.out).1).trans HY8.out)
        have HBWQ := hide (below_step HBW8.out HBN.out)
        obtain ⟨⟨n0, n1, n2, n3⟩, -⟩ := box_cells hboxq
        clear hboxq hbq hsq HNT p0 p1 p2
        go_wp2_with fail
        clear n0 n1 n2 n3 p3
        refine (HLO.out a aq cq wr HTW.out.2.1.2.1 HQ.out).mono ?_
        rintro e wA ⟨au, cu, au', cu', rfl, hnew, hbA⟩
        have HXR := hide ((hbA.block _ (Array.getElem?_eq_some_iff.1 HXQ.out).1).trans HXQ.out)
        have HYR := hide ((hbA.block _ (Array.getElem?_eq_some_iff.1 HYQ.out).1).trans HYQ.out)
        have HBWR := hide (below_step HBWQ.out hbA)
        have HSWR : Hid (w1.heap.size < wr.heap.size) := (Array.getElem?_eq_some_iff.1 HXQ.out).1
        obtain ⟨⟨r0, r1, r2, r3⟩, rf⟩ := box_cells HXR.out
        generalize leastN N (notL E) m = MN at HPN hnew ⊢
        generalize leastE N (notL E) m = ME at HPN hnew ⊢
        obtain ⟨wB, hwB⟩ : ∃ wB, (((wA.setCell ⟨w1.heap.size, 0, none⟩ (.int .i64 b)).setCell ⟨w1.heap.size, 1, none⟩ (.int .i64 t)).setCell ⟨w1.heap.size, 2, none⟩ (.slice au MN.length cu)).setCell ⟨w1.heap.size, 3, none⟩ (.slice au' MN.length cu') = wB := ⟨_, rfl⟩
        obtain ⟨⟨hbxB, hszB, hkpB⟩, hblB⟩ := box_set HXR.out hwB.symm
        have HXB := hide hbxB
        have HYB := hide ((hkpB _ HNE.out).trans HYR.out)
        have HBWB := hide (hblB w1 w1.heap.size HBWR.out (Nat.le_refl _))
        have HHB := hide (twoAt_step H1.out HBWB.out)
        have HNB : Hid (Sl2 wB au MN.length MN ∧ SlB wB au' MN.length ME) := hnew wB (fun x h1 h2 => hkpB x (by have := HSWR.out; omega))
        have HNU := hide hnew
        have HKPB := hide hkpB
        have HSBA := hide hszB
        have HS3R : Hid (w3.heap.size < wr.heap.size) := (Array.getElem?_eq_some_iff.1 HYQ.out).1
        clear hbxB hszB hkpB hblB hnew hbA
        obtain ⟨p0, p1, p2, p3⟩ := HHB.out.2.1.1
        go_wp2_with fail
        clear p0 p1 p2 p3 r0 r1 r2 r3 rf hwB
        refine (HPN.out wB HHB.out.2.1.2.1 HHB.out.2.1.2.2).mono ?_
        rintro e wC ⟨az, cz, az', cz', rfl, hnew, hbC⟩
        have HYC := hide ((hbC.block _ (Array.getElem?_eq_some_iff.1 HYB.out).1).trans HYB.out)
        have HXC := hide ((hbC.block _ (Array.getElem?_eq_some_iff.1 HXB.out).1).trans HXB.out)
        have HSYB : Hid (w3.heap.size < wB.heap.size) := (Array.getElem?_eq_some_iff.1 HYB.out).1
        obtain ⟨wD, hwD⟩ : ∃ wD, (((wC.setCell ⟨w3.heap.size, 0, none⟩ (.int .i64 b)).setCell ⟨w3.heap.size, 1, none⟩ (.int .i64 t)).setCell ⟨w3.heap.size, 2, none⟩ (.slice az MN.length cz)).setCell ⟨w3.heap.size, 3, none⟩ (.slice az' MN.length cz') = wD := ⟨_, rfl⟩
        obtain ⟨⟨hbxD, hszD, hkpD⟩, hblD⟩ := box_set HYC.out hwD.symm
        have HYD := hide hbxD
        have HXD := hide ((hkpD _ (Ne.symm HNE.out)).trans HXC.out)
        have HBWD := hide (hblD w1 w1.heap.size (below_step HBWB.out hbC) (by have h1 := HSX.out; have h2 := HS23.out; omega))
        have HHD := hide (twoAt_step H1.out HBWD.out)
        have HMD : Hid (Sl2 wD az MN.length MN ∧ SlB wD az' MN.length ME) := hnew wD (fun x h1 h2 => hkpD x (by have := HSYB.out; omega))
        have HND : Hid (Sl2 wD au MN.length MN ∧ SlB wD au' MN.length ME) := HNU.out wD (fun x h1 h2 => by
          have hx : x < wC.heap.size := Nat.lt_of_lt_of_le h2 (by rw [← HSBA.out]; exact hbC.size)
          rw [hkpD x (by have := HS3R.out; omega), hbC.block x (by rw [HSBA.out]; exact h2), HKPB.out x (by have := HSWR.out; omega)])
        clear hbxD hszD hkpD hblD hnew hbC
        obtain ⟨⟨s0, s1, s2, s3⟩, sf⟩ := box_cells HYC.out
        go_wp2_with fail
        clear s0 s1 s2 s3 sf hwD
        refine (HES.out 0 wD HHD.out.2.2.2).mono ?_
        rintro e wE ⟨rfl, hbE⟩
        have HHE := hide (twoAt_step HHD.out hbE)
        have hxE := (hbE.block _ (Array.getElem?_eq_some_iff.1 HXD.out).1).trans HXD.out
        have hyE := (hbE.block _ (Array.getElem?_eq_some_iff.1 HYD.out).1).trans HYD.out
        have HQ1 := hide (sl2_below HMD.out.1 hbE)
        have HQ2 := hide (slB_below HMD.out.2 hbE)
        have HQ3 := hide (sl2_below HND.out.1 hbE)
        have HQ4 := hide (slB_below HND.out.2 hbE)
        obtain ⟨⟨r0, r1, r2, r3⟩, -⟩ := box_cells hxE
        obtain ⟨⟨s0, s1, s2, s3⟩, -⟩ := box_cells hyE
        clear hxE hyE hbE
        go_wp2_with fail
        refine (autos_eq b t az MN.length cz az' MN.length cz' au cu au' cu' MN ME wE HQ1.out HQ2.out HQ3.out HQ4.out).mono ?_
        rintro e wF ⟨rfl, hbF⟩
        have HBF := hide (below_step HHE.out.1 hbF)
        clear hbF HHE r0 r1 r2 r3 s0 s1 s2 s3
        go_wp2
        go_ret
        exact ⟨by simp, HBF.out⟩
  · have hc' : (c == 0) = false := by simpa using hc
    rw [if_neg hc] at HNL HNE'
    rw [HNL.out, HNE'.out] at HPN
    have hok : ∀ x, okI c x = 0 := fun x => if_neg hc
    rw [hok, hok] at HPN
    clear hok HNL HNE' HNA
    go_wp2_with fail
    clear p0 p1 p2 p3 r0 r1 r2 r3 rf hw8
    refine (HPN.out w8 H8.out.2.1.2.1 H8.out.2.1.2.2).mono ?_
    rintro e w9 ⟨az, cz, az', cz', rfl, hnew, hb9⟩
    have HY9 := hide ((hb9.block _ (Array.getElem?_eq_some_iff.1 HY8.out).1).trans HY8.out)
    have HX9 := hide ((hb9.block _ (Array.getElem?_eq_some_iff.1 HX8.out).1).trans HX8.out)
    have HBW9 := hide (below_step HBW8.out hb9)
    have HN9 := hide hnew.here
    obtain ⟨wA, hwA⟩ : ∃ wA, (((w9.setCell ⟨w3.heap.size, 0, none⟩ (.int .i64 0)).setCell ⟨w3.heap.size, 1, none⟩ (.int .i64 0)).setCell ⟨w3.heap.size, 2, none⟩ (.slice az 0 cz)).setCell ⟨w3.heap.size, 3, none⟩ (.slice az' 0 cz') = wA := ⟨_, rfl⟩
    obtain ⟨⟨hbxA, hszA, hkpA⟩, hblA⟩ := box_set HY9.out hwA.symm
    have HYA := hide hbxA
    have HXA := hide ((hkpA _ (Ne.symm HNE.out)).trans HX9.out)
    have HBWA := hide (hblA w1 w1.heap.size HBW9.out (by have h1 := HSX.out; have h2 := HS23.out; omega))
    have HHA := hide (twoAt_step H1.out HBWA.out)
    clear hbxA hszA hkpA hblA hnew hb9
    obtain ⟨⟨s0, s1, s2, s3⟩, sf⟩ := box_cells HY9.out
    go_wp2_with fail
    clear s0 s1 s2 s3 sf hwA
    refine (HES.out c wA HHA.out.2.2.2).mono ?_
    rintro e wB ⟨rfl, hbB⟩
    have HHB := hide (twoAt_step HHA.out hbB)
    have hxB := (hbB.block _ (Array.getElem?_eq_some_iff.1 HXA.out).1).trans HXA.out
    have hyB := (hbB.block _ (Array.getElem?_eq_some_iff.1 HYA.out).1).trans HYA.out
    obtain ⟨⟨r0, r1, r2, r3⟩, -⟩ := box_cells hxB
    obtain ⟨⟨s0, s1, s2, s3⟩, -⟩ := box_cells hyB
    clear hxB hyB hbB
    go_wp2_with fail
    refine (autos_eq 0 0 az 0 cz az' 0 cz' none 0 none 0 [] [] wB ⟨rfl, by decide, Or.inl rfl⟩ ⟨rfl, by decide, Or.inl rfl⟩ ⟨rfl, by decide, Or.inl rfl⟩ ⟨rfl, by decide, Or.inl rfl⟩).mono ?_
    rintro e wC ⟨rfl, hbC⟩
    have HBC := hide (below_step HHB.out.1 hbC)
    clear hbC HHB r0 r1 r2 r3 s0 s1 s2 s3
    go_wp2
    go_ret
    exact ⟨by simp, HBC.out⟩
end Go.Proofs.YtihhlddbppljpacDoor
