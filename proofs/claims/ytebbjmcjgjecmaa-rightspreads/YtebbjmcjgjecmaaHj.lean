/- some.setsOf: contract. -/
import Derived.Deep.DeepCutAuto
import Derived.Test.YtebbjmcjgjecmaaHf
import Derived.Test.YtebbjmcjgjecmaaZHa
import Derived.Test.YtebbjmcjgjecmaaZHh
namespace Go.Proofs.Ytebbjmcjgjecmaa
open Go.RowKit

theorem outG_lt {N : List (List Int)} {n : Nat} {R : List (List Int)} {f m : Nat} (hf : f < 2 ^ n) (i : Nat) : ∀ x ∈ outG (dM N n R) m f i, x < 2 ^ n := fun x hx => by
  obtain ⟨w, hw, rfl⟩ := outG_reach hx
  clear hw hx
  induction w generalizing f with
  | nil => exact hf
  | cons y w ih => exact ih (stepM_lt _ _ _ _)
theorem setI_start {base n mv sv mb : Nat} {W : World} (hb : base ≤ W.heap.size) (h1 : base ≤ mb ∧ base ≤ mv ∧ base ≤ sv) (hm : W.heap[mv]? = some (.cells #[.map (some mb)] 71 (0, 0))) (hv : W.heap[sv]? = some (.cells #[.slice none 0 0] 22 (0, 0))) (hmap : MapAt Try.prog 9 W mb []) (ne1 : mb ≠ mv) (ne2 : mb ≠ sv) (ne3 : mv ≠ sv) : SetI base n mv sv [] (fun x => x = mb ∨ x = mv ∨ x = sv) W mb (.slice none 0 0) [] :=
  ⟨hm, hmap, hv, World.ownsRow_nil _ _ _ _, fun j hj => by simp at hj, .inl rfl, .inr (.inl rfl), .inr (.inr rfl), fun x hx => by simp [Value.ownBlock] at hx, ne1, ne2, ne3, fun x hx => by
    have l1 := hmap.lt
    have l2 := (Array.getElem?_eq_some_iff.1 hm).1
    have l3 := (Array.getElem?_eq_some_iff.1 hv).1
    rcases hx with rfl | rfl | rfl <;> omega, hb⟩
/-- Behind i of the sets: these have been found; the rows and ends of i of them stand in the automaton. -/
def SoAt (wb : World) (n mv sv bx m : Nat) (b t : Int) (rows : Nat → List Int) (es : Nat → Bool) (i : Nat) (L : List Nat) (W : World) : Prop :=
  ∃ F G, SetSt wb.heap.size n mv sv L F W ∧ AutSt wb.heap.size bx m b t rows es i i G W ∧ (∀ x, F x → ¬ G x) ∧ Below wb.heap.size wb W
/-- .. and behind l letters of the next one: its row stands in block nb. -/
def SxAt (wb : World) (n mv sv bx m : Nat) (b t : Int) (rows : Nat → List Int) (es : Nat → Bool) (i nb : Nat) (row : List Int) (l : Nat) (L : List Nat) (W : World) : Prop :=
  ∃ F G, SetSt wb.heap.size n mv sv L F W ∧ AutSt wb.heap.size bx m b t rows es i i G W ∧ (∀ x, F x → ¬ G x) ∧ Below wb.heap.size wb W ∧ (¬ F nb ∧ ¬ G nb ∧ wb.heap.size ≤ nb) ∧ W.rowIs nb 3 m fun q => .int .i64 (if q < l then row.getD q 0 else 0)
theorem sxAt_start {wb : World} {n mv sv bx m : Nat} {b t : Int} {rows : Nat → List Int} {es : Nat → Bool} {i : Nat} {L : List Nat} {W : World} (row : List Int) (h : SoAt wb n mv sv bx m b t rows es i L W) : SxAt wb n mv sv bx m b t rows es i W.heap.size row 0 L (W.alloc (.cells (madeCells #[.int .i64 0] m) 3)) := by
  obtain ⟨F, G, h1, h2, h3, h4⟩ := h
  have hb := (Below.refl W.heap.size W).alloc (Nat.le_refl _) (.cells (madeCells #[.int .i64 0] m) 3)
  have hb2 := h4.trans (hb.mono h4.size)
  refine ⟨F, G, setSt_below h1 hb, ?_, h3, hb2, ⟨fun hx => ?_, fun hx => ?_, h4.size⟩, (World.rowIs_made W (.int .i64 0) m 3).congr fun p hp => by rw [if_neg (by omega)]⟩
  · obtain ⟨vN, vE, vals, h2⟩ := h2
    exact ⟨vN, vE, vals, autI_keep h2 (fun x hx => hb.block x (h2.lt x hx).2) hb.size⟩
  · obtain ⟨mb, v, vals, h1⟩ := h1
    have := (h1.lt _ hx).2; omega
  · obtain ⟨vN, vE, vals, h2⟩ := h2
    have := (h2.lt _ hx).2; omega
theorem sxAt_set {wb : World} {n mv sv bx m : Nat} {b t : Int} {rows : Nat → List Int} {es : Nat → Bool} {i nb : Nat} {row : List Int} {l : Nat} {L : List Nat} {W : World} {z : Int} (h : SxAt wb n mv sv bx m b t rows es i nb row l L W) (hz : row.getD l 0 = z) : SxAt wb n mv sv bx m b t rows es i nb row (l + 1) L (W.setCell ⟨nb, l, none⟩ (.int .i64 z)) := by
  obtain ⟨F, G, h1, h2, h3, h4, h5, h6⟩ := h
  have hk : ∀ x, x ≠ nb → (W.setCell ⟨nb, l, none⟩ (.int .i64 z)).heap[x]? = W.heap[x]? := fun x hx => Below.heap_setCell _ _ _ _ hx
  refine ⟨F, G, setSt_keep h1 (fun x hx => hk x (fun e => h5.1 (e ▸ hx))) (by simp), autSt_keep h2 (fun x hx => hk x (fun e => h5.2.1 (e ▸ hx))) (by simp), h3, h4.setCell h5.2.2 _, h5, (h6.set _ _).congr fun q _ => ?_⟩
  by_cases e : q = l
  · subst e; rw [if_pos rfl, if_pos (by omega), hz]
  · rw [if_neg e]
    congr 1
    by_cases e2 : q < l
    · rw [if_pos e2, if_pos (by omega)]
    · rw [if_neg e2, if_neg (by omega)]
/-- One set is numbered, perhaps anew. -/
theorem sxAt_num {wb : World} {n mv sv bx m : Nat} {b t : Int} {rows : Nat → List Int} {es : Nat → Bool} {i nb : Nat} {row : List Int} {l : Nat} {L : List Nat} {W0 W : World} {M : Nat} {a : Option Addr} (cap : Nat) (h : SxAt wb n mv sv bx m b t rows es i nb row l L W0) (hb : Below W0.heap.size W0 W) (hs : SlN W0.heap.size W a (setL n M).length (setL n M)) (hM : M < 2 ^ n) (hL : ∀ x ∈ L, x < 2 ^ n) (hn : n ≤ 80) (hlen : L.length ≤ 4000) :
    Calls Try.prog 39 #[.slice a (setL n M).length cap, .pointer (some ⟨mv, 0, none⟩), .pointer (some ⟨sv, 0, none⟩)] W fun e W' => e = .returned (.int .i64 (((addG L M).idxOf M : Nat) : Int)) ∧ SxAt wb n mv sv bx m b t rows es i nb row l (addG L M) W' := by
  obtain ⟨F, G, ⟨mb, v, vals, h1⟩, ⟨vN, vE, valsN, h2⟩, h3, h4, h5, h6⟩ := h
  have hsb := h4.size
  refine (number_any wb.heap.size n mv sv L F M a cap W ⟨mb, v, vals, setI_keep h1 (fun x hx => hb.block x (h1.lt x hx).2) hb.size⟩ hs.1 hM hL hn hlen (fun x hx => ?_)).mono ?_
  · obtain ⟨k1, ad, e1, rfl⟩ := hx
    have k2 := hs.2 ad e1
    exact ⟨fun hF => by have := (h1.lt _ hF).2; omega, by omega⟩
  · rintro e W' ⟨rfl, F', n1, n2, n3, n4⟩
    have hnew : ∀ x, F' x → F x ∨ W0.heap.size ≤ x := fun x hx => by
      rcases n3 x hx with k | k | k
      · exact .inl k
      · obtain ⟨k1, ad, e1, rfl⟩ := k
        exact .inr (hs.2 ad e1)
      · exact .inr (Nat.le_trans hb.size k)
    have hk : ∀ x, x < W0.heap.size → ¬ F x → W'.heap[x]? = W0.heap[x]? := fun x hx hF => (n4.block x (Nat.lt_of_lt_of_le hx hb.size) hF).trans (hb.block x hx)
    have hsz := Nat.le_trans hb.size n4.size
    refine ⟨rfl, F', G, n1, ⟨vN, vE, valsN, autI_keep h2 (fun x hx => hk x (h2.lt x hx).2 (fun hF => h3 x hF hx)) hsz⟩, fun x hx hG => ?_, below_tch (h4.trans (hb.mono hsb)) n4 (fun x hx => (h1.lt x hx).1) (Nat.le_trans hsb hb.size), ⟨fun hx => ?_, h5.2⟩, h6.of_block (hk nb h6.lt h5.1)⟩
    · rcases hnew x hx with k | k
      · exact h3 x k hG
      · have := (h2.lt x hG).2; omega
    · rcases hnew nb hx with k | k
      · exact h5.1 k
      · have := h6.lt; omega
theorem sxAt_cell {wb : World} {n mv sv bx m : Nat} {b t : Int} {rows : Nat → List Int} {es : Nat → Bool} {i nb : Nat} {row : List Int} {l : Nat} {L : List Nat} {W : World} (h : SxAt wb n mv sv bx m b t rows es i nb row l L W) (hl : l < m) : W.cell? ⟨nb, l, none⟩ = some (.int .i64 0) ∧ W.frozen? ⟨nb, l, none⟩ = false := by
  obtain ⟨F, G, h1, h2, h3, h4, h5, h6⟩ := h
  have := h6.cell hl
  rw [if_neg (Nat.lt_irrefl _)] at this
  exact ⟨this, h6.frozen l⟩
/-- The next one. -/
theorem soAt_next {wb : World} {n mv sv bx m : Nat} {b t : Int} {rows : Nat → List Int} {es : Nat → Bool} {i : Nat} {L : List Nat} {F G : Nat → Prop} {w5 w6 W8 : World} {hi : Nat} {vN vE : Value} {vals : List Value} (h5 : SetSt wb.heap.size n mv sv L F w5) (hb6 : Below w5.heap.size w5 w6) (hA : AutI wb.heap.size bx m b t rows es (i + 1) (i + 1) (autF G bx w6.heap.size hi) W8 vN vE vals) (hT : Tch G w6 W8) (hD : ∀ x, F x → ¬ G x) (hgb : G bx) (hG : ∀ x, G x → wb.heap.size ≤ x) (hB : Below wb.heap.size wb w5) : SoAt wb n mv sv bx m b t rows es (i + 1) L W8 := by
  obtain ⟨mb, v, vals2, h1⟩ := h5
  have hs := hB.size
  refine ⟨F, _, ⟨mb, v, vals2, setI_keep h1 (fun x hx => (hT.block x (Nat.lt_of_lt_of_le (h1.lt x hx).2 hb6.size) (hD x hx)).trans (hb6.block x (h1.lt x hx).2)) (Nat.le_trans hb6.size hT.size)⟩, ⟨vN, vE, vals, hA⟩, fun x hx hG => ?_, below_tch (hB.trans (hb6.mono hs)) hT hG (Nat.le_trans hs hb6.size)⟩
  rcases hG with k | k | k
  · exact hD x hx k
  · exact hD x hx (k ▸ hgb)
  · have := (h1.lt x hx).2
    have := hb6.size
    omega
/-- What can be read of the sets. -/
theorem setSt_read {base n mv sv : Nat} {L : List Nat} {F : Nat → Prop} {W : World} (h : SetSt base n mv sv L F W) : ∃ av cv, W.cell? ⟨sv, 0, none⟩ = some (.slice av L.length cv) ∧ ∀ i, i < L.length → ∃ g a c, av = some ⟨g, 0, none⟩ ∧ W.cell? ⟨g, i, none⟩ = some (.slice a (setL n (L.getD i 0)).length c) ∧ Sl W a (setL n (L.getD i 0)).length (setL n (L.getD i 0)) := by
  obtain ⟨mb, v, vals, h⟩ := h
  rcases h.own.2 with ⟨e1, e2⟩ | ⟨g, c, cur, e, _⟩
  · exact ⟨none, 0, by simp [World.cell?, h.hv, e1, e2], fun i hi => by omega⟩
  · refine ⟨some ⟨g, 0, none⟩, c, by simp [World.cell?, h.hv, e], fun i hi => ?_⟩
    obtain ⟨a, ca, r1, r2, -⟩ := h.rows i hi
    have ho := h.own
    rw [e] at ho
    exact ⟨g, a, ca, rfl, (ho.cellAt i (by omega)).trans r1, r2⟩

set_option maxHeartbeats 16000000 in
set_option maxRecDepth 20000 in
theorem setsOf_any (b t tr : Int) (a : Option Addr) (n cap : Nat) (a' : Option Addr) (cap' : Nat) (m0 : Nat) (N : List (List Int)) (E : List Bool) (ay : Option Addr) (m cy : Nat) (BY : List (List Int)) (w : World) (hs : Sl2 w a n N) (he : SlB w a' n E) (hG : GoodN m0 n N) (hn : n ≤ 80) (hby : Sl2 w ay m BY) (hb : ∀ l, l < m → ∀ x ∈ BY.getD l [], 0 ≤ x ∧ x < (m0 : Int)) (hm1 : 1 ≤ m) (hm36 : m ≤ 36) (h0 : 0 < (BY.getD 0 []).length) :
    Calls Try.prog 31 #[.agg #[.int .i64 b, .int .i64 t, .slice a n cap, .slice a' n cap'], .int .i64 tr, .slice ay m cy] w (SetsU w b tr m (setsS N n BY (BY.getD 0 [])).length (setN N n BY (BY.getD 0 [])) (setE N n E BY (BY.getD 0 []))) := by
  have hL := hby.1
  obtain ⟨j0, hj0, hy0, hy1, hy2⟩ := info_parts infoSl
  have hmk := make_ints m (by omega)
  have hmm := @run_makeMap Try.prog
  have HB0 := hide (below_two w (.cells #[.int .i64 b, .int .i64 t, .slice a n cap, .slice a' n cap'] 25) (.cells #[.int .i64 0, .int .i64 0, .slice none 0 0, .slice none 0 0] 25))
  have HX1 := hide (heap_alloc2_fst w (.cells #[.int .i64 b, .int .i64 t, .slice a n cap, .slice a' n cap'] 25) (.cells #[.int .i64 0, .int .i64 0, .slice none 0 0, .slice none 0 0] 25))
  have HX2 := hide (heap_alloc2_snd w (.cells #[.int .i64 b, .int .i64 t, .slice a n cap, .slice a' n cap'] 25) (.cells #[.int .i64 0, .int .i64 0, .slice none 0 0, .slice none 0 0] 25))
  generalize hwb : (w.alloc (.cells #[.int .i64 b, .int .i64 t, .slice a n cap, .slice a' n cap'] 25)).alloc (.cells #[.int .i64 0, .int .i64 0, .slice none 0 0, .slice none 0 0] 25) = wb at HB0 HX1 HX2
  have HSZ : Hid (wb.heap.size = w.heap.size + 1 + 1) := by show _ = _; rw [← hwb]; simp
  have HS := hide (sl2_below hs HB0.out)
  have HE := hide (slB_below he HB0.out)
  have HBY := hide (sl2_below hby HB0.out)
  have HBOX : Hid (∀ W, Below wb.heap.size wb W → (W.cell? ⟨w.heap.size, 0, none⟩ = some (.int .i64 b) ∧ W.cell? ⟨w.heap.size, 1, none⟩ = some (.int .i64 t) ∧ W.cell? ⟨w.heap.size, 2, none⟩ = some (.slice a n cap) ∧ W.cell? ⟨w.heap.size, 3, none⟩ = some (.slice a' n cap')) ∧ W.heap[w.heap.size + 1]? = some (.cells #[.int .i64 0, .int .i64 0, .slice none 0 0, .slice none 0 0] 25 (0, 0))) := fun W hW => by
    have h1 := (hW.block w.heap.size (by rw [HSZ.out]; omega)).trans HX1.out
    have h2 := (hW.block (w.heap.size + 1) (by rw [HSZ.out]; omega)).trans HX2.out
    exact ⟨(box_cells h1).1, h2⟩
  have HFS : Hid (∀ (W : World) (al : Option Addr) (cl : Nat), Below wb.heap.size wb W → Sl W al (BY.getD 0 []).length (BY.getD 0 []) → Calls Try.prog 41 #[.agg #[.int .i64 b, .int .i64 t, .slice a n cap, .slice a' n cap'], .slice al (BY.getD 0 []).length cl] W (GivesRow W (setL n (cloM N n (BY.getD 0 []))))) := fun W al cl hW hsl => firstSet_any b t a n cap a' n cap' m0 N al _ cl _ W (sl2_below HS.out hW) hG hn hsl (hb 0 (by omega)) h0
  have HNX : Hid (∀ (W : World) (M l : Nat) (as_ : Option Addr) (sc : Nat) (al : Option Addr) (cl : Nat), Below wb.heap.size wb W → l < m → Sl W as_ (setL n M).length (setL n M) → Sl W al (BY.getD l []).length (BY.getD l []) → Calls Try.prog 42 #[.agg #[.int .i64 b, .int .i64 t, .slice a n cap, .slice a' n cap'], .slice as_ (setL n M).length sc, .slice al (BY.getD l []).length cl] W (GivesRow W (setL n (dM N n BY M l)))) := fun W M l as_ sc al cl hW hlm hsl hll => by
    have h := nextSet_of inOrder_any b t a n cap a' n cap' m0 N as_ _ sc (setL n M) al _ cl _ W (sl2_below HS.out hW) hG hn hsl (fun x hx => by have := mem_setL.1 hx; omega) hll (hb l hlm)
    rw [nxO_set hG (hb l hlm) M] at h
    exact h
  have HHE : Hid (∀ (W : World) (M : Nat) (as_ : Option Addr) (sc : Nat), Below wb.heap.size wb W → Sl W as_ (setL n M).length (setL n M) → Calls Try.prog 43 #[.agg #[.int .i64 b, .int .i64 t, .slice a n cap, .slice a' n cap'], .slice as_ (setL n M).length sc] W (BoolU (endM n E M) W)) := fun W M as_ sc hW hsl => hasEnd_any b t a n cap a' n cap' E as_ M sc W (slB_below HE.out hW) (Nat.le_refl _) hsl
  unfold GivesRow at HFS HNX
  unfold BoolU at HHE
  have HLT : Hid (∀ i, ∀ x ∈ outG (dM N n BY) m (cloM N n (BY.getD 0 [])) i, x < 2 ^ n) := fun i => outG_lt (cloM_lt _ _ _) i
  have HFLT : Hid (cloM N n (BY.getD 0 []) < 2 ^ n) := cloM_lt _ _ _
  have HDLT : Hid (∀ M l, dM N n BY M l < 2 ^ n) := fun M l => stepM_lt _ _ _ _
  have HROWS : Hid (∀ l, l < m → ∃ b1 o1 al cl, ay = some ⟨b1, o1, none⟩ ∧ ∀ W, Below wb.heap.size wb W → W.cell? ⟨b1, o1 + l, none⟩ = some (.slice al (BY.getD l []).length cl) ∧ Sl W al (BY.getD l []).length (BY.getD l [])) := fun l hl => by
    obtain ⟨b1, o1, al, cl, e1, e2, e3⟩ := sl2_cell HBY.out l hl
    exact ⟨b1, o1, al, cl, e1, fun W hW => ⟨(hW.cell (p := ⟨b1, o1 + l, none⟩) (World.block_lt_of_cell? wb _ e2)).trans e2, sl_below e3 hW⟩⟩
  have hSET : setsS N n BY (BY.getD 0 []) = outG (dM N n BY) m (cloM N n (BY.getD 0 [])) 2000 := by unfold setsS; rw [hL]
  have hGN : setN N n BY (BY.getD 0 []) = gN (dM N n BY) m (setsS N n BY (BY.getD 0 [])) := by unfold setN; rw [hL]
  have hGE : setE N n E BY (BY.getD 0 []) = gE (endM n E) (setsS N n BY (BY.getD 0 [])) := rfl
  have HFE : Hid (∀ (i : Nat) (w' : World) (e : Ending), i ≤ 2000 → (outG (dM N n BY) m (cloM N n (BY.getD 0 [])) i).length = i → SetsOk w b tr m (gN (dM N n BY) m (outG (dM N n BY) m (cloM N n (BY.getD 0 [])) i)) (gE (endM n E) (outG (dM N n BY) m (cloM N n (BY.getD 0 [])) i)) e w' → SetsU w b tr m (setsS N n BY (BY.getD 0 [])).length (setN N n BY (BY.getD 0 [])) (setE N n E BY (BY.getD 0 [])) e w') := fun i w' e h1 h2 h3 => by
    have h4 := outG_stay (Nat.le_of_eq h2) (2000 - i)
    rw [show i + (2000 - i) = 2000 by omega] at h4
    rw [hGN, hGE, hSET, h4]
    exact ⟨fun _ => h3, fun h => by omega⟩
  have HFN : Hid (∀ (i : Nat) (w' : World) (e : Ending), i ≤ 2000 → 2000 < (outG (dM N n BY) m (cloM N n (BY.getD 0 [])) i).length → (e = .returned (.tuple #[.agg #[.int .i64 0, .int .i64 0, .slice none 0 0, .slice none 0 0], errV 3]) ∧ Below w.heap.size w w') → SetsU w b tr m (setsS N n BY (BY.getD 0 [])).length (setN N n BY (BY.getD 0 [])) (setE N n E BY (BY.getD 0 [])) e w') := fun i w' e h1 h2 h3 => by
    have h4 := (outG_le (d := dM N n BY) (m := m) (f := cloM N n (BY.getD 0 [])) h1).length_le
    rw [hSET]
    exact ⟨fun h => by omega, fun _ => h3⟩
  clear hSET hGN hGE
  generalize (setsS N n BY (BY.getD 0 [])).length = LEN at HFE HFN ⊢
  generalize setN N n BY (BY.getD 0 []) = SN at HFE HFN ⊢
  generalize setE N n E BY (BY.getD 0 []) = SE at HFE HFN ⊢
  clear hs he hby hb h0 hG hL
  generalize dM N n BY = d at HNX HLT HDLT HFE HFN
  generalize cloM N n (BY.getD 0 []) = f at HFS HLT HFLT HFE HFN
  have hW6a := heap_alloc_last wb (.cells #[.int .i64 b, .int .i64 tr, .slice none 0 0, .slice none 0 0] 25)
  have hW6b := mapAt_made (wb.alloc (.cells #[.int .i64 b, .int .i64 tr, .slice none 0 0, .slice none 0 0] 25)) Try.prog 9
  have hW6c := heap_alloc_last ((wb.alloc (.cells #[.int .i64 b, .int .i64 tr, .slice none 0 0, .slice none 0 0] 25)).alloc (.map #[] 0)) (.cells #[.map (some (wb.heap.size + 1))] 71)
  have hW6d := heap_alloc_last (((wb.alloc (.cells #[.int .i64 b, .int .i64 tr, .slice none 0 0, .slice none 0 0] 25)).alloc (.map #[] 0)).alloc (.cells #[.map (some (wb.heap.size + 1))] 71)) (.cells #[.slice none 0 0] 22)
  simp only [World.size_alloc] at hW6a hW6b hW6c hW6d
  have HST : Hid (SetI wb.heap.size n (wb.heap.size + 1 + 1) (wb.heap.size + 1 + 1 + 1) [] (fun x => x = wb.heap.size + 1 ∨ x = wb.heap.size + 1 + 1 ∨ x = wb.heap.size + 1 + 1 + 1) ((((wb.alloc (.cells #[.int .i64 b, .int .i64 tr, .slice none 0 0, .slice none 0 0] 25)).alloc (.map #[] 0)).alloc (.cells #[.map (some (wb.heap.size + 1))] 71)).alloc (.cells #[.slice none 0 0] 22)) (wb.heap.size + 1) (.slice none 0 0) []) :=
    setI_start (by simp; omega) (by omega) ((Below.heap_alloc _ _ _ (by simp)).trans hW6c) hW6d ((hW6b.alloc _).alloc _) (by omega) (by omega) (by omega)
  have HAU : Hid (AutI wb.heap.size wb.heap.size m b tr (foundR d m f) (fun j => endM n E ((outG d m f j).getD j 0)) 0 0 (fun x => x = wb.heap.size) ((((wb.alloc (.cells #[.int .i64 b, .int .i64 tr, .slice none 0 0, .slice none 0 0] 25)).alloc (.map #[] 0)).alloc (.cells #[.map (some (wb.heap.size + 1))] 71)).alloc (.cells #[.slice none 0 0] 22)) (.slice none 0 0) (.slice none 0 0) []) :=
    autI_start _ _ (by simp; omega) (Nat.le_refl _) ((Below.heap_alloc _ _ _ (by simp; omega)).trans ((Below.heap_alloc _ _ _ (by simp; omega)).trans ((Below.heap_alloc _ _ _ (by simp)).trans hW6a)))
  have HB6 : Hid (Below wb.heap.size wb ((((wb.alloc (.cells #[.int .i64 b, .int .i64 tr, .slice none 0 0, .slice none 0 0] 25)).alloc (.map #[] 0)).alloc (.cells #[.map (some (wb.heap.size + 1))] 71)).alloc (.cells #[.slice none 0 0] 22))) := ((((Below.refl _ _).alloc (Nat.le_refl _) _).alloc (by simp) _).alloc (by simp; omega) _).alloc (by simp; omega) _
  clear hW6a hW6b hW6c hW6d
  generalize hRW : foundR d m f = RW at HAU
  have HRW := hide hRW
  clear hRW
  generalize hES : (fun j => endM n E ((outG d m f j).getD j 0)) = ES at HAU
  have HES := hide hES
  clear hES
  obtain ⟨⟨p0, p1, p2, p3⟩, -⟩ := HBOX.out wb (Below.refl _ _)
  go_enter Try.func31, Try.ntmps31
  go_upto_region 5 with fail
  clear hwb p0 p1 p2 p3
  generalize (((wb.alloc (.cells #[.int .i64 b, .int .i64 tr, .slice none 0 0, .slice none 0 0] 25)).alloc (.map #[] 0)).alloc (.cells #[.map (some (wb.heap.size + 1))] 71)).alloc (.cells #[.slice none 0 0] 22) = W6 at HST HAU HB6 ⊢
  obtain ⟨⟨c0, c1, c2, c3⟩, -⟩ := HBOX.out _ HB6.out
  obtain ⟨b1, o1, al, cl, rfl, hrow⟩ := HROWS.out 0 (by omega)
  obtain ⟨cy0, hsy0⟩ := hrow _ HB6.out
  rw [Nat.add_zero] at cy0
  have HC1 := hide (HFS.out W6.drew al cl HB6.out.drew (hrow _ HB6.out.drew).2)
  clear hrow hsy0 HFS
  generalize BY.getD 0 [] = B0 at cy0 HC1
  have HSTA : Hid (∀ w1, Below W6.heap.size W6 w1 → SetSt wb.heap.size n (wb.heap.size + 1 + 1) (wb.heap.size + 1 + 1 + 1) [] (fun x => x = wb.heap.size + 1 ∨ x = wb.heap.size + 1 + 1 ∨ x = wb.heap.size + 1 + 1 + 1) w1) := fun w1 h => setSt_below ⟨_, _, _, HST.out⟩ h
  have HAUA : Hid (∀ w1 w2, Below W6.heap.size W6 w1 → Tch (fun x => x = wb.heap.size + 1 ∨ x = wb.heap.size + 1 + 1 ∨ x = wb.heap.size + 1 + 1 + 1) w1 w2 → AutSt wb.heap.size wb.heap.size m b tr RW ES 0 0 (fun x => x = wb.heap.size) w2 ∧ Below wb.heap.size wb w2) := fun w1 w2 h h2 => by
    have hlt := HST.out.lt (wb.heap.size + 1) (.inl rfl)
    refine ⟨autSt_keep ⟨_, _, _, HAU.out⟩ (fun x hx => ?_) (Nat.le_trans h.size h2.size), below_tch (HB6.out.trans (h.mono HB6.out.size)) h2 (fun x hx => by omega) (by have := h.size; omega)⟩
    subst hx
    rw [h2.block _ (by have := h.size; omega) (by omega), h.block _ (by omega)]
  have HN5 : Hid (∀ (w1 : World) (a1 : Option Addr) (ca1 : Nat), Below W6.heap.size W6 w1 → SlN W6.heap.size w1 a1 (setL n f).length (setL n f) → Calls Try.prog 39 #[.slice a1 (setL n f).length ca1, .pointer (some ⟨wb.heap.size + 1 + 1, 0, none⟩), .pointer (some ⟨wb.heap.size + 1 + 1 + 1, 0, none⟩)] w1 fun e w2 => (∃ z : Int, e = .returned (.int .i64 z)) ∧ SoAt wb n (wb.heap.size + 1 + 1) (wb.heap.size + 1 + 1 + 1) wb.heap.size m b tr RW ES 0 [f] w2) := fun w1 a1 ca1 hb1 hs1 => by
    have h4 := HST.out.lt
    have q1 := h4 _ (.inl rfl)
    have q2 := h4 _ (.inr (.inl rfl))
    have q3 := h4 _ (.inr (.inr rfl))
    have h5 := HB6.out.size
    refine (number_any wb.heap.size n (wb.heap.size + 1 + 1) (wb.heap.size + 1 + 1 + 1) [] _ f a1 ca1 w1 (HSTA.out w1 hb1) hs1.1 HFLT.out (by simp) hn (by simp) (fun x hx => ?_)).mono ?_
    · obtain ⟨h1, ad, e1, e2⟩ := hx
      have h3 := hs1.2 ad e1
      omega
    · rintro e w2 ⟨rfl, F', hn1, hn2, hn3, hn4⟩
      obtain ⟨k1, k2⟩ := HAUA.out w1 w2 hb1 hn4
      refine ⟨⟨_, rfl⟩, F', _, hn1, k1, fun x hx e => ?_, k2⟩
      subst e
      rcases hn3 _ hx with h | h | h
      · omega
      · obtain ⟨h1, ad, e1, e2⟩ := h
        have h3 := hs1.2 ad e1
        omega
      · have := hb1.size
        omega
  go_cut [] (fun wx => SoAt wb n (wb.heap.size + 1 + 1) (wb.heap.size + 1 + 1 + 1) wb.heap.size m b tr RW ES 0 [f] wx)
  case first =>
    go_region_with (first
      | (go_at_call 41; refine HC1.out.mono ?_; rintro e w1 ⟨a1, ca1, rfl, hs1, hb1⟩; have HS1 := hide hs1; have HB1 := hide ((Below.refl W6.heap.size W6).drew.trans hb1); clear hs1 hb1)
      | (go_at_call 39; refine (HN5.out w1 a1 ca1 HB1.out HS1.out).mono ?_; rintro e w2 ⟨⟨z, rfl⟩, hso⟩; have HSO := hide hso; clear hso))
    all_goals
      go_wp2_with fail
      go_meet
      exact HSO.out
  case rest =>
    have HSO := hide hcut
    clear hcut c0 c1 c2 c3 cy0 HC1 HN5 HSTA HAUA HST HAU HB6 hmm
    have HL0 : Hid (∀ i, 0 < (outG d m f i).length) := fun i => (outG_pos d m f i).1
    go_wp2
    go_loopg [12] 2001 (fun g u wx => ∃ i : Nat, g = 2001 - i ∧ u = .int .i64 i ∧ i ≤ (outG d m f i).length ∧ (outG d m f i).length ≤ 2000 ∧ SoAt wb n (wb.heap.size + 1 + 1) (wb.heap.size + 1 + 1 + 1) wb.heap.size m b tr RW ES i (outG d m f i) wx)
    case atStart => exact ⟨0, rfl, rfl, Nat.zero_le _, by simp [outG], HSO.out⟩
    case round =>
      obtain ⟨i, hgi, rfl, hil, hlen, hso⟩ := hrel
      have HGI := hide hgi
      have HSOI := hide hso
      obtain ⟨F, G, hst, hau, hfg, hbw⟩ := hso
      obtain ⟨av, cv, hcv, hrd⟩ := setSt_read hst
      have HBW := hide hbw
      clear hgi hst hau hfg hbw HSO
      by_cases hlt : i < (outG d m f i).length
      · have hlti : (i : Int) < ((outG d m f i).length : Int) := by omega
        have HSUC := hide (outG_nextH hlt)
        have HIDX := hide (fun l hl => found_idx (d := d) (m := m) (f := f) (i := i) (l := l) hlt hl)
        have HRWG : Hid (∀ l, l < m → (RW i).getD l 0 = (((outG d m f (i + 1)).idxOf (d ((outG d m f i).getD i 0) l) : Nat) : Int)) := fun l hl => by
          rw [← HRW.out]; exact foundR_get hl
        have HSI := hide (sxAt_start (RW i) HSOI.out)
        clear hrd
        go_wp2
        obtain ⟨wq, hwq⟩ : ∃ wq : World, wq = wr := ⟨_, rfl⟩
        rw [← hwq] at HSI ⊢
        have HNBS : Hid (wb.heap.size ≤ wq.heap.size) := by show _ ≤ _; rw [hwq]; exact HBW.out.size
        clear hwq hcv HSOI HBW wr
        have HPG : Hid (∀ l, i < (rowG d (outG d m f i) ((outG d m f i).getD i 0) l).length ∧ (rowG d (outG d m f i) ((outG d m f i).getD i 0) l).getD i 0 = (outG d m f i).getD i 0 ∧ (∀ x ∈ rowG d (outG d m f i) ((outG d m f i).getD i 0) l, x < 2 ^ n) ∧ (rowG d (outG d m f i) ((outG d m f i).getD i 0) l).length ≤ 2000 + l) := fun l => by
          have h1 := rowG_from d (outG d m f i) ((outG d m f i).getD i 0) l
          refine ⟨Nat.lt_of_lt_of_le hlt h1.length_le, pre_getN h1 hlt, fun x hx => ?_, by have := rowG_lenH d (outG d m f i) ((outG d m f i).getD i 0) l; omega⟩
          rcases rowG_mem.1 hx with h | ⟨j, _, rfl⟩
          · exact HLT.out i x h
          · exact HDLT.out _ _
        have HRS := hide (fun l => rowG_succ d (outG d m f i) ((outG d m f i).getD i 0) l)
        generalize wq.alloc (.cells (madeCells #[.int .i64 0] m) 3) = w1 at HSI ⊢
        have HSI0 : Hid (SxAt wb n (wb.heap.size + 1 + 1) (wb.heap.size + 1 + 1 + 1) wb.heap.size m b tr RW ES i wq.heap.size (RW i) 0 (rowG d (outG d m f i) ((outG d m f i).getD i 0) 0) w1) := HSI.out
        clear HSI
        generalize hOI : outG d m f i = OI at HSI0 HPG HRS HIDX HRWG HSUC hlen hil hlt hlti ⊢
        have HOI := hide hOI
        clear hOI
        generalize hsI : OI.getD i 0 = sI at HSI0 HPG HRS HIDX HRWG HSUC
        have HSII := hide hsI
        clear hsI
        go_loopw [39] (fun u wx => ∃ l : Nat, l ≤ m ∧ u = .int .i64 l ∧ SxAt wb n (wb.heap.size + 1 + 1) (wb.heap.size + 1 + 1 + 1) wb.heap.size m b tr RW ES i wq.heap.size (RW i) l (rowG d OI sI l) wx) (fun u _ => m - (intOf u).toNat)
        case atStart => exact ⟨0, by omega, rfl, HSI0.out⟩
        case round =>
          obtain ⟨l, hl, rfl, hsi⟩ := hrel
          have HSI := hide hsi
          obtain ⟨F, G, hst, hau, hfg, hbw, hnb, hrw⟩ := hsi
          have HST := hide hst
          have HAU := hide hau
          have HFG := hide hfg
          have HBW := hide hbw
          have HNB := hide hnb
          have HRWI := hide hrw
          obtain ⟨av2, cv2, hcv, hrd⟩ := setSt_read hst
          obtain ⟨hp1, hp2, hp3, hp4⟩ := HPG.out l
          obtain ⟨gs, as_, cs_, rfl, hcs, hss⟩ := hrd i hp1
          rw [hp2] at hcs hss
          have HSS := hide hss
          have HP3 := hide hp3
          clear hst hau hfg hbw hnb hrw hss hp3 hp2
          by_cases hlm : l < m
          · have hlmi : (l : Int) < (m : Int) := by omega
            have hp1i : (i : Int) < ((rowG d OI sI l).length : Int) := by omega
            obtain ⟨_, _, al, cl, e, hry⟩ := HROWS.out l hlm
            cases e
            obtain ⟨cyl, -⟩ := hry _ HBW.out
            obtain ⟨⟨c0, c1, c2, c3⟩, -⟩ := HBOX.out _ HBW.out
            have HC1 := hide (HNX.out wr.drew sI l as_ cs_ al cl HBW.out.drew hlm HSS.out (hry _ HBW.out.drew).2)
            have HN6 : Hid (∀ (w1 : World) (a1 : Option Addr) (ca1 : Nat), Below wr.heap.size wr w1 → SlN wr.heap.size w1 a1 (setL n (d sI l)).length (setL n (d sI l)) → Calls Try.prog 39 #[.slice a1 (setL n (d sI l)).length ca1, .pointer (some ⟨wb.heap.size + 1 + 1, 0, none⟩), .pointer (some ⟨wb.heap.size + 1 + 1 + 1, 0, none⟩)] w1 fun e w2 => e = .returned (.int .i64 ((RW i).getD l 0)) ∧ SxAt wb n (wb.heap.size + 1 + 1) (wb.heap.size + 1 + 1 + 1) wb.heap.size m b tr RW ES i wq.heap.size (RW i) l (rowG d OI sI (l + 1)) w2) := fun w1 a1 ca1 hb1 hs1 => by
              have h := sxAt_num ca1 HSI.out hb1 hs1 (HDLT.out _ _) HP3.out hn (by omega)
              rw [HRWG.out l hlm, ← HIDX.out l hlm, HRS.out l]
              exact h
            have HRZ : Hid (∃ z, (RW i).getD l 0 = z) := ⟨_, rfl⟩
            clear hry HNX
            obtain ⟨z, hz⟩ := HRZ.out
            rw [hz] at HN6
            have HZ := hide hz
            clear hz HRZ
            generalize hM2 : d sI l = M2 at HC1 HN6
            clear hM2
            generalize BY.getD l [] = BL at cyl HC1
            go_wp2
            go_region_with (first
              | (go_at_call 42; refine HC1.out.mono ?_; rintro e w1 ⟨a1, ca1, rfl, hs1, hb1⟩; have HS1 := hide hs1; have HB1 := hide ((Below.refl wr.heap.size wr).drew.trans hb1); clear hs1 hb1)
              | (go_at_call 39; refine (HN6.out w1 a1 ca1 HB1.out HS1.out).mono ?_; rintro e w2 ⟨rfl, hso⟩; have HSO := hide hso; obtain ⟨hcz, hfz⟩ := sxAt_cell hso hlm; clear hso))
            all_goals
              go_wp2
              go_roundw
              case rel => exact ⟨l + 1, by omega, by go_num, sxAt_set HSO.out HZ.out⟩
              case measure => simp [intOf]; omega
          · have hlmi : ¬ (l : Int) < (m : Int) := by omega
            obtain rfl : l = m := by omega
            clear hcs hp1
            rw [← HSUC.out] at HSI HST hcv hp4
            generalize hOS : outG d l f (i + 1) = OS at HSI HST hcv hp4
            have HOS := hide hOS
            clear hOS
            by_cases hbig : 2000 < OS.length
            · have hbigi : ((OS.length : Nat) : Int) > 2000 := by omega
              obtain ⟨-, hr⟩ := HBOX.out _ HBW.out
              obtain ⟨⟨r0, r1, r2, r3⟩, rf⟩ := box_cells hr
              have HR := hide hr
              have HB3 : Hid (Below w.heap.size w wr) := HB0.out.trans (HBW.out.mono HB0.out.size)
              clear hr
              go_wp2
              obtain ⟨⟨hset, -, -⟩, hbel⟩ := box_set0 HR.out rfl
              have hb := hbel w w.heap.size HB3.out (by omega)
              obtain ⟨⟨z0, z1, z2, z3⟩, -⟩ := box_cells hset
              exact bodyPost_ret (v := .tuple #[.agg #[.int .i64 0, .int .i64 0, .slice none 0 0, .slice none 0 0], .iface 44 (.int .i64 3)]) (by simp [results, Try.results31, go_sem, z0, z1, z2, z3]) rfl (HFN.out (i + 1) _ _ (by omega) (by rw [HOS.out]; exact hbig) ⟨rfl, hb⟩)
            · have hbigi : ¬ ((OS.length : Nat) : Int) > 2000 := by omega
              obtain ⟨vN, vE, vals, hA⟩ := HAU.out
              have hcN : wr.cell? ⟨wb.heap.size, 2, none⟩ = some vN := (box_cells hA.box).1.2.2.1
              have HA := hide hA
              have HNN := hide (fun w3 o g' cap' k1 k2 k3 => @autI_N wb.heap.size wb.heap.size l b tr RW ES i i G wr w3 vN vE vals wq.heap.size o g' cap' hA (HRWI.out.congr fun q hq => by rw [if_pos hq]) ⟨HNB.out.2.1, HNB.out.2.2⟩ k1 k2 k3)
              have HOWN := hide hA.ownN
              have HLB : Hid (wb.heap.size ≤ wr.heap.size) := hA.hb
              clear hA
              go_wp2_with (at_builtin; refine wpList_append_lies _ rfl _ _ 22 rfl wb.heap.size 31 j0 (.slice none 0 0) 1 24 Try.underlying22 hj0 hy0 hy1 hy2 rfl (by decide) vN i vals rfl (HOWN.out.alloc _) ⟨wr.heap.size, 0, none⟩ 1 1 [.slice (some ⟨wq.heap.size, 0, none⟩) l l] rfl rfl (one_new _ _ _) (fun u hu => by simp at hu; subst hu; rfl) (by omega) (by unfold maxLen; omega) (by omega) (by have := HLB.out; simp; omega) (wr.heap.size + 1) (by simp) ?_; intro g' cg w3 hown3 hgrow3 hat3 hlt3; obtain ⟨⟨hn1', hn2'⟩, hn3', hn4'⟩ := HNN.out w3 _ g' cg hown3 hgrow3 (by rw [World.size_alloc]; exact hat3); have HN3 := hide hn3'; have HN4 := hide hn4'; have HS3 := hide hgrow3.size; clear hown3 hgrow3 hat3 hn3' hn4')
              have HF4 : Hid (Tch G wr (w3.setCell ⟨wb.heap.size, 2, none⟩ (.slice (some ⟨g', 0, none⟩) (i + 1) cg))) := HN4.out
              generalize w3.setCell ⟨wb.heap.size, 2, none⟩ (.slice (some ⟨g', 0, none⟩) (i + 1) cg) = w5 at HN3 HF4 ⊢
              have HB5 : Hid (Below wb.heap.size wb w5) := below_tch HBW.out HF4.out (fun x hx => (HA.out.lt x hx).1) HA.out.hb
              have HST5 : Hid (SetSt wb.heap.size n (wb.heap.size + 1 + 1) (wb.heap.size + 1 + 1 + 1) OS F w5) := by
                obtain ⟨mb, v, vals2, h1⟩ := HST.out
                exact ⟨mb, v, vals2, setI_keep h1 (fun x hx => HF4.out.block x (h1.lt x hx).2 (fun hG => HFG.out x hx hG)) HF4.out.size⟩
              have HD5 : Hid (∀ x, F x → ¬ autF G wq.heap.size wr.heap.size w3.heap.size x) := fun x hx hG => by
                obtain ⟨mb, v, vals2, h1⟩ := HST.out
                rcases hG with h | h | h
                · exact HFG.out x hx h
                · exact HNB.out.1 (h ▸ hx)
                · have := (h1.lt x hx).2; omega
              obtain ⟨av5, cv5, hcv5, hrd5⟩ := setSt_read HST5.out
              have hiO : i < OS.length := by
                have h1 := (HPG.out l).1
                rw [← HSUC.out, HOS.out] at h1
                exact h1
              have hgO : OS.getD i 0 = sI := by
                have h1 := (HPG.out l).2.1
                rw [← HSUC.out, HOS.out] at h1
                exact h1
              obtain ⟨g5, a5, c5, rfl, hcs5, hss5⟩ := hrd5 i hiO
              rw [hgO] at hcs5 hss5
              have hiOi : (i : Int) < (OS.length : Int) := by omega
              obtain ⟨⟨c0, c1, c2, c3⟩, -⟩ := HBOX.out _ HB5.out
              have hcE : w5.cell? ⟨wb.heap.size, 3, none⟩ = some vE := (box_cells HN3.out.box).1.2.2.2
              have HESI : Hid (endM n E sI = ES i) := by
                show _ = _
                rw [← HES.out]
                show endM n E sI = endM n E ((outG d l f i).getD i 0)
                rw [HOI.out, HSII.out]
              have HCE := hide (HHE.out w5.drew sI a5 c5 HB5.out.drew hss5)
              rw [HESI.out] at HCE
              have HNE := hide (fun w6 w7 o g2 cap2 (hb : Below w5.heap.size w5 w6) k1 k2 k3 => @autI_E wb.heap.size wb.heap.size l b tr RW ES (i + 1) i _ w6 w7 _ vE _ o g2 cap2 (autI_keep HN3.out (fun x hx => hb.block x (HN3.out.lt x hx).2) hb.size) k1 k2 k3)
              have HE6 : Hid (∀ w6, Below w5.heap.size w5 w6 → w6.cell? ⟨wb.heap.size, 3, none⟩ = some vE) := fun w6 hb => (hb.cell (p := ⟨wb.heap.size, 3, none⟩) (World.block_lt_of_cell? w5 _ hcE)).trans hcE
              have HO6 : Hid (∀ w6, Below w5.heap.size w5 w6 → w6.ownsRow wb.heap.size 4 1 vE i ((List.range i).map fun j => Value.bool (ES j))) := fun w6 hb => ownsRow_of_block HN3.out.ownE (fun x hx => hb.block x (HN3.out.ownE.lt x hx).2)
              have HS5 : Hid (wb.heap.size ≤ w5.heap.size) := HN3.out.hb
              obtain ⟨l0, hl0, hv0, hv1, hv2⟩ := info_parts infoB
              clear hrd5 hss5 hgO hn1' hn2' hcN hlt3
              go_region_law (first
                | (refine step_append_lies _ rfl (.tmp 70) (.tmp 77) 23 rfl wb.heap.size 4 l0 (.bool false) 1 1 Try.underlying23 hl0 hv0 hv1 hv2 rfl (by decide) vE i _ (by simp [Act.eval]) ((HO6.out w6 HB6.out).alloc _) ⟨w6.heap.size, 0, none⟩ 1 1 [.bool (ES i)] (by simp [Act.eval]) rfl (one_new _ _ _) (fun u hu => by simp at hu; subst hu; rfl) (by omega) (by unfold maxLen; omega) (by omega) (by have := HS5.out; have := HB6.out.size; simp; omega) (w6.heap.size + 1) (by simp) ?_; intro g2 cap2 w7 hown7 hgrow7 hat7 hlt7; obtain ⟨⟨m1, m2⟩, m3, m4⟩ := HNE.out w6 w7 _ g2 cap2 HB6.out hown7 hgrow7 (by rw [World.size_alloc]; exact hat7); have HM3 := hide m3; have HM4 := hide m4; clear m3 m4 hown7 hgrow7 hat7 hlt7)
                | (go_simp; go_at_call 43; refine HCE.out.mono ?_; rintro e w6 ⟨rfl, hb6⟩; have HB6 := hide ((Below.refl w5.heap.size w5).drew.trans hb6); have hcE6 := HE6.out w6 HB6.out; have hcE7 := HE6.out (w6.alloc (.cells #[.bool (ES i)] 4)) (HB6.out.trans (((Below.refl w6.heap.size w6).alloc (Nat.le_refl _) _).mono HB6.out.size)); clear hb6))
              all_goals
                have HNXT := hide (soAt_next (i := i) HST5.out HB6.out HM3.out HM4.out HD5.out HN3.out.gb (fun x hx => (HN3.out.lt x hx).1) HB5.out)
                go_wp2
                go_roundg (2001 - (i + 1))
                case measure => have := HGI.out; omega
                case rel => exact ⟨i + 1, rfl, by go_num, by rw [HOS.out]; omega, by rw [HOS.out]; omega, by rw [HOS.out]; exact HNXT.out⟩
      · have hlti : ¬ (i : Int) < ((outG d m f i).length : Int) := by omega
        have HEQ : Hid ((outG d m f i).length = i) := by show _ = _; omega
        obtain ⟨F, G, hst, ⟨vN, vE, vals, hA⟩, hfg, hbw⟩ := HSOI.out
        obtain ⟨aN, cN, rfl⟩ := owns_sl hA.ownN
        obtain ⟨aE, cE, rfl⟩ := owns_sl hA.ownE
        obtain ⟨⟨x0, x1, x2, x3⟩, -⟩ := box_cells hA.box
        obtain ⟨-, hr⟩ := HBOX.out _ hbw
        obtain ⟨⟨r0, r1, r2, r3⟩, rf⟩ := box_cells hr
        have HR := hide hr
        have HB3 : Hid (Below w.heap.size w wr) := HB0.out.trans (hbw.mono HB0.out.size)
        have HA := hide hA
        clear hr hA hst hfg hbw hrd
        go_wp2
        obtain ⟨⟨hset, hsz, hoth⟩, hbel⟩ := box_set (v0 := .int .i64 b) (v1 := .int .i64 tr) (v2 := .slice aN i cN) (v3 := .slice aE i cE) HR.out rfl
        have hb := hbel w w.heap.size HB3.out (by omega)
        obtain ⟨⟨z0, z1, z2, z3⟩, -⟩ := box_cells hset
        have hfin := autI_keep HA.out (fun x hx => hoth x (by have := (HA.out.lt x hx).1; have := HSZ.out; omega)) (Nat.le_of_eq hsz.symm)
        have hfin2 := autI_congr (rows' := fun j => (gN d m (outG d m f i)).getD j []) (es' := fun j => (gE (endM n E) (outG d m f i)).getD j false) (autI_mono hfin HB0.out.size) (fun j hj => by rw [← HRW.out]; exact (found_end (Nat.le_of_eq HEQ.out) (by omega) j hj).symm) (fun j hj => by rw [← HES.out]; exact (found_ends (endM n E) (Nat.le_of_eq HEQ.out) (by omega) j hj).symm)
        exact bodyPost_ret (v := .tuple #[.agg #[.int .i64 b, .int .i64 tr, .slice aN i cN, .slice aE i cE], .nilIface]) (by simp [results, Try.results31, go_sem, z0, z1, z2, z3]) rfl (HFE.out i _ _ (by omega) HEQ.out ⟨_, _, _, vals, G, rfl, by rw [gN_len, HEQ.out]; exact hfin2, hb⟩)
end Go.Proofs.Ytebbjmcjgjecmaa
