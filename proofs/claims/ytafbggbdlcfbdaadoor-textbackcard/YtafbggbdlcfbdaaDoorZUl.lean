/- 2 texts in one. -/
import Derived.Deep.Onto
import Derived.Deep.RegionHeldLaw
import Derived.Test.YtafbggbdlcfbdaaDoorNu
import Derived.Test.YtafbggbdlcfbdaaDoorZUd
import Derived.Test.YtafbggbdlcfbdaaDoorZXd
import Derived.Test.YtafbggbdlcfbdaaDoorZPa
import Derived.Test.YtafbggbdlcfbdaaDoorZUf
import Derived.Test.YtafbggbdlcfbdaaDoorZWi
/- Package text: the reader's nodes; add: contract. -/
namespace Go.Proofs.YtafbggbdlcfbdaaDoor
open Go.RowKit

/-- The reader's nodes: a row behind its box, the coefficients behind it too, and apart. -/
def NdR (rb : Nat) (W : World) (v : Value) (L : List Nd) : Prop :=
  ∃ vals : List Value, W.ownsRow (rb + 1) 39 7 v L.length vals ∧ (∀ n ∈ L, ndWf n) ∧ ∀ j, j < L.length → ∃ a cap, (∀ i, i < 7 → vals[j * 7 + i]? = (ndL (L.getD j zNd) a cap)[i]?) ∧ Sl W a (L.getD j zNd).cf.length (L.getD j zNd).cf ∧ ∀ x, slB a (L.getD j zNd).cf.length x → rb < x ∧ v.ownBlock ≠ some x
theorem ndR_nil (rb : Nat) (W : World) : NdR rb W (.slice none 0 0) [] := ⟨[], World.ownsRow_nil _ _ _ _, (fun n hn => by cases hn), fun j hj => by cases hj⟩
theorem ndR_but {rb : Nat} {W W' : World} {v : Value} {L : List Nd} (h : NdR rb W v L) (hb : But [rb] W W') : NdR rb W' v L := by
  obtain ⟨vals, h1, h2, h3⟩ := h
  refine ⟨vals, ownsRow_of_block h1 (fun x hx => ?_), h2, fun j hj => ?_⟩
  · have := h1.lt x hx
    exact hb.2 x this.2 (by simp; omega)
  · obtain ⟨a, cap, e1, e2, e3⟩ := h3 j hj
    exact ⟨a, cap, e1, sl_keep e2 (fun x hx => hb.2 x (slB_lt e2 hx) (by have := (e3 x hx).1; simp; omega)), e3⟩
theorem ndR_below {rb : Nat} {W W' : World} {v : Value} {L : List Nd} (h : NdR rb W v L) (hb : Below W.heap.size W W') : NdR rb W' v L := ndR_but h (But.of_below hb)
theorem ndR_own {rb : Nat} {W : World} {v : Value} {L : List Nd} (h : NdR rb W v L) : ∃ vals, W.ownsRow (rb + 1) 39 7 v L.length vals := let ⟨vals, h1, _⟩ := h; ⟨vals, h1⟩
/-- One node more. -/
theorem ndR_push {rb : Nat} {W W2 : World} {v : Value} {L : List Nd} {n : Nd} {a : Option Addr} {c : Nat} (h : NdR rb W v L) (hb : Below W.heap.size W W2) (hw : ndWf n) (hs : Sl W a n.cf.length n.cf) (hx : ∀ x, slB a n.cf.length x → rb < x ∧ v.ownBlock ≠ some x) (hrb : rb < W.heap.size) :
    ∃ vals : List Value, W2.ownsRow (rb + 1) 39 7 v L.length vals ∧
      ∀ (w3 : World) (g' cap' : Nat), w3.ownsRow (rb + 1) 39 7 (.slice (some ⟨g', 0, none⟩) (L.length + 1) cap') (L.length + 1) (vals ++ ndL n a c) → W2.grownBy w3 v.ownBlock → (v.ownBlock = some g' ∨ g' = W2.heap.size) →
        w3.heap[rb]? = W.heap[rb]? ∧ rb + 1 ≤ g' ∧ Below rb W w3 ∧ ∀ w4, But [rb] w3 w4 → NdR rb w4 (.slice (some ⟨g', 0, none⟩) (L.length + 1) cap') (L ++ [n]) := by
  obtain ⟨vals, h1, h2, h3⟩ := h
  have h1' : W2.ownsRow (rb + 1) 39 7 v L.length vals := ownsRow_of_block h1 (fun x hx => hb.block _ (h1.lt x hx).2)
  have hvl : vals.length = L.length * 7 := by have := h1.1; omega
  have hsz := hb.size
  refine ⟨vals, h1', fun w3 g' cap' hown hgrow hat => ?_⟩
  have hne : ∀ x, v.ownBlock = some x → rb < x := fun x hx => by have := (h1.lt x hx).1; omega
  have hg' : rb + 1 ≤ g' := by
    rcases hat with hat | hat
    · exact (h1.lt _ hat).1
    · omega
  have keep : ∀ {a' len' l'}, Sl W a' len' l' → (∀ x, slB a' len' x → rb < x ∧ v.ownBlock ≠ some x) → Sl w3 a' len' l' := fun {a' len' l'} hs' hne => sl_keep hs' fun x hx => by
    have hlt := slB_lt hs' hx
    rw [hgrow.block x (by omega) (fun e => (hne x hx).2 e.symm), hb.block x hlt]
  have far : ∀ {a' len' l'}, Sl W a' len' l' → (∀ x, slB a' len' x → rb < x ∧ v.ownBlock ≠ some x) → ∀ x, slB a' len' x → rb < x ∧ Value.ownBlock (.slice (some ⟨g', 0, none⟩) (L.length + 1) cap') ≠ some x := fun {a' len' l'} hs' hne x hx => by
    have hlt := slB_lt hs' hx
    refine ⟨(hne x hx).1, fun e => ?_⟩
    have e' : g' = x := by simpa [Value.ownBlock] using e
    subst e'
    rcases hat with h | h
    · exact (hne _ hx).2 h
    · omega
  refine ⟨?_, hg', ?_, fun w4 hb4 => ?_⟩
  · rw [hgrow.block rb (by omega) (fun e => by have := hne rb e.symm; omega), hb.block rb hrb]
  · exact Below.grown (hb.mono (Nat.le_of_lt hrb)) hgrow (by omega) (fun x hx => Nat.le_of_lt (hne x hx))
  · refine ndR_but ?_ hb4
    refine ⟨vals ++ ndL n a c, by rw [List.length_append]; exact hown, fun m hm => ?_, fun j hj => ?_⟩
    · rcases List.mem_append.1 hm with hm | hm
      · exact h2 m hm
      · rw [List.mem_singleton] at hm; subst hm; exact hw
    · rw [List.length_append, List.length_singleton] at hj
      by_cases e : j = L.length
      · subst e
        have en : (L ++ [n]).getD L.length zNd = n := by simp [List.getD]
        rw [en]
        exact ⟨a, c, fun i hi => by rw [List.getElem?_append_right (by omega), hvl]; congr 1; omega, keep hs hx, far hs hx⟩
      · have en : (L ++ [n]).getD j zNd = L.getD j zNd := by simp only [List.getD_eq_getElem?_getD]; rw [List.getElem?_append_left (by omega)]
        rw [en]
        obtain ⟨a', cap', e1, e2, e3⟩ := h3 j (by omega)
        exact ⟨a', cap', fun i hi => by rw [List.getElem?_append_left (by omega)]; exact e1 i hi, keep e2 e3, far e2 e3⟩
/-- What add does. -/
def AdR (W : World) (rb : Nat) (s : List UInt8) (i : Nat) (L : List Nd) (e : Ending) (w' : World) : Prop := e = .returned (.tuple #[]) ∧ ∃ v, RdAt w' rb s i v ∧ NdR rb w' v L ∧ Below rb W w'
set_option maxHeartbeats 8000000 in
set_option maxRecDepth 8000 in
theorem add_any (s : List UInt8) (i rb : Nat) (v : Value) (L : List Nd) (n : Nd) (a : Option Addr) (c : Nat) (W : World) (h : RdAt W rb s i v) (hN : NdR rb W v L) (hL : L.length ≤ 5000) (hw : ndWf n) (hs : Sl W a n.cf.length n.cf) (hx : ∀ x, slB a n.cf.length x → rb < x ∧ v.ownBlock ≠ some x) :
    Calls Tryd.prog 48 #[.pointer (some ⟨rb, 0, none⟩), ndV n a c] W (AdR W rb s i (L ++ [n])) := by
  obtain ⟨l0, hl0, hv0, hv1, hv2⟩ := info_parts infoNd
  have hrb := rd_lt h
  have hB1 := (Below.refl W.heap.size W).alloc (Nat.le_refl _) (ndO n a c)
  have hx1 := heap_alloc_last W (ndO n a c)
  have hr1 := rd_below h hB1
  have hsz1 : (W.alloc (ndO n a c)).heap.size = W.heap.size + 1 := by simp
  generalize hW1 : W.alloc (ndO n a c) = W1 at hB1 hx1 hr1 hsz1
  have hB2 : Below W.heap.size W ((W1.alloc (.cells (ndL n a c).toArray 39)).drew) := (hB1.alloc (by omega) _).drew
  obtain ⟨vals, HOW, HPU⟩ := ndR_push (c := c) hN hB2 hw hs hx hrb
  have HOWN := hide HOW
  have HPUS := hide HPU
  have HNEW := hide (news_new W1 (ndL n a c) 39)
  have HSZ := hide hsz1
  have HRB := hide hrb
  have HLE := hide hL
  obtain ⟨⟨c0, c1, c2⟩, f1, f2⟩ := rd_cells hr1
  obtain ⟨⟨j0, j1, j2, j3, j4, j5, j6⟩, -⟩ := box7_cells hx1
  have c2b : ∀ o, (W1.alloc o).cell? ⟨rb, 2, none⟩ = some v := fun o => by
    rw [World.cell?_alloc_lt W1 _ ⟨rb, 2, none⟩ (show rb < W1.heap.size by omega)]
    exact c2
  have HR := hide h
  clear h hN hw hs hx hB1 hB2 hr1 hx1 HOW HPU hrb hL hsz1
  unfold ndV ndO at *
  go_enter Tryd.func48, Tryd.ntmps48
  go_wp2
  go_region_law (first | (refine step_append_lies _ rfl (.tmp 8) (.tmp 10) 22 rfl (rb + 1) 39 l0 (.agg #[.int .i64 0, .int .i64 0, .int .i64 0, .int .i64 0, .int .i64 0, .int .i64 0, .slice none 0 0]) 7 72 Tryd.underlying22 hl0 hv0 hv1 hv2 zNode_size (by decide) v L.length vals (by simp [Act.eval]) HOWN.out ⟨W1.heap.size, 0, none⟩ 1 1 (ndL n a c) (by simp [Act.eval]) rfl HNEW.out (fun u hu => ndL_one _ _ _ _ hu) (by omega) (by unfold maxLen; have := HLE.out; omega) (by have := HLE.out; omega) (by have := HSZ.out; have := HRB.out; simp; omega) (W1.heap.size + 1) (by simp) ?_; intro g5 cg5 w6 hown5 hgrow5 hat5 hlt5; have HQ := hide (HPUS.out w6 g5 cg5 hown5 hgrow5 (hat5.imp (fun h => h) (fun h => by rw [h]; simp))); clear hown5 hgrow5 hat5 hlt5; obtain ⟨⟨z0, z1, z2⟩, zf1, zf2⟩ := rd_cells (HQ.out.1.trans HR.out)))
  all_goals go_wp2
  all_goals refine bodyPost_end (v := .tuple #[]) (by simp [results, Tryd.results48]) rfl ⟨rfl, _, rd_nodes (HQ.out.1.trans HR.out) _, HQ.out.2.2.2 _ ((But.refl _ _).set (.inl (by simp)) _), HQ.out.2.2.1.setCell (Nat.le_refl _) _⟩
end Go.Proofs.YtafbggbdlcfbdaaDoor

/- Package text: output: contract. -/
namespace Go.Proofs.YtafbggbdlcfbdaaDoor
open Go.RowKit

/-- What reading a claim without parts does. -/
def AtmR (W : World) (rb : Nat) (s : List UInt8) (L : List Nd) (o : Option Nd × Nat) (e : Ending) (w' : World) : Prop := (∀ n, o.1 = some n → e = .returned (.tuple #[]) ∧ ∃ v, RdAt w' rb s o.2 v ∧ NdR rb w' v (L ++ [n]) ∧ Below rb W w') ∧ (o.1 = none → e = .panicked [{ v := stopV o.2, recovered := false }] ∧ Below rb W w')
/-- A node's box. -/
abbrev Bx7 (W : World) (nb : Nat) (u0 u1 u2 u3 u4 u5 u6 : Value) : Prop := W.heap[nb]? = some (.cells #[u0, u1, u2, u3, u4, u5, u6] 39 (0, 0))
theorem bx7_but {W W' : World} {X : List Nat} {nb : Nat} {u0 u1 u2 u3 u4 u5 u6 : Value} (h : Bx7 W nb u0 u1 u2 u3 u4 u5 u6) (hb : But X W W') (hx : nb ∉ X) : Bx7 W' nb u0 u1 u2 u3 u4 u5 u6 := (hb.2 nb (Array.getElem?_eq_some_iff.1 h).1 hx).trans h
theorem rd_set {W : World} {rb : Nat} {s : List UInt8} {i : Nat} {v : Value} (h : RdAt W rb s i v) {p : Addr} (hp : rb ≠ p.block) (u : Value) : RdAt (W.setCell p u) rb s i v := (Below.heap_setCell _ _ _ _ hp).trans h
theorem sl_none (W : World) : Sl W none 0 [] := ⟨rfl, by unfold maxLen; omega, (fun x hx => by cases hx), .inl rfl⟩
theorem slB_none (a : Option Addr) (x : Nat) : ¬ slB a 0 x := fun h => absurd h.1 (Nat.lt_irrefl 0)
theorem atm_no {W w' : World} {rb : Nat} {s : List UInt8} {L : List Nd} {e : Nat} (hb : But [rb] W w') (hrb : rb < W.heap.size) : AtmR W rb s L (none, e) (.panicked [{ v := stopV e, recovered := false }]) w' := ⟨(fun n h => by cases h), fun _ => ⟨rfl, hb.below (Nat.le_of_lt hrb) (by simp)⟩⟩
set_option maxHeartbeats 16000000 in
set_option maxRecDepth 20000 in
theorem output_any (s : List UInt8) (i rb : Nat) (v : Value) (L : List Nd) (W : World) (h : RdAt W rb s i v) (hN : NdR rb W v L) (hL : L.length ≤ 5000) (hs : s.length ≤ 2000) (hi : i ≤ s.length) (h64 : bt s i = 64) :
    Calls Tryd.prog 36 #[.pointer (some ⟨rb, 0, none⟩)] W (AtmR W rb s L (atomA s i)) := by
  have hrb := rd_lt h
  have HTO := hide (fun k j Wx (hx : RdAt Wx rb s j v) (h0 : (0 : UInt8) ∉ [k]) (hb : bt s j = k) => take_ok s [k] j rb v Wx hx h0 hs (by rw [hb]; simp))
  have HTN := hide (fun k j Wx (hx : RdAt Wx rb s j v) (h0 : (0 : UInt8) ∉ [k]) (hb : ¬ bt s j = k) => take_no s [k] j rb v Wx hx h0 (by simpa using hb))
  have HSE := hide (fun j Wx (hx : RdAt Wx rb s j v) => sees_any s [64] j rb v Wx hx (by decide))
  have HNO := hide (fun j Wx (hx : RdAt Wx rb s j v) (hd : isDg (bt s j) = true) => number_ok s j rb v Wx hx hs hd)
  have HNN := hide (fun j Wx (hx : RdAt Wx rb s j v) (hd : ¬ isDg (bt s j) = true) => number_no s j rb v Wx hx hd)
  have HLK := hide (fun j Wx (hx : RdAt Wx rb s j v) => lookup_any s j rb v Wx hx hs)
  have HAD := hide (fun j (n : Nd) Wx (hx : RdAt Wx rb s j v) (hb : But [rb] W Wx) (hw : ndWf n) (hc : n.cf = []) => add_any s j rb v L n none 0 Wx hx (ndR_but hN hb) hL hw (by rw [hc]; exact sl_none Wx) (fun x hx => by rw [hc] at hx; exact absurd hx (slB_none _ _)))
  have hBU := (But.refl [rb] W).alloc (.cells #[.int .i64 3, .int .i64 0, .int .i64 0, .int .i64 0, .int .i64 0, .int .i64 0, .slice none 0 0] 39)
  have hbx : Bx7 (W.alloc (.cells #[.int .i64 3, .int .i64 0, .int .i64 0, .int .i64 0, .int .i64 0, .int .i64 0, .slice none 0 0] 39)) W.heap.size (.int .i64 3) (.int .i64 0) (.int .i64 0) (.int .i64 0) (.int .i64 0) (.int .i64 0) (.slice none 0 0) := heap_alloc_last W _
  have hra := rd_below h ((Below.refl W.heap.size W).alloc (Nat.le_refl _) (.cells #[.int .i64 3, .int .i64 0, .int .i64 0, .int .i64 0, .int .i64 0, .int .i64 0, .slice none 0 0] 39))
  have HNE : Hid (W.heap.size ∉ [rb]) := by show ¬ _; simp; omega
  have HNF : Hid (rb ≠ W.heap.size) := by show _ ≠ _; omega
  have HRB := hide hrb
  have hB1 := spotA_bd (s := s) hi
  unfold atomA
  rw [if_pos h64]
  have C1 := hide (fun Wx hx => HLK.out i Wx hx)
  generalize spotA s i = o1 at C1 hB1 ⊢
  obtain ⟨w1, v1, e1, ok1⟩ := o1
  simp only [] at hB1 ⊢
  obtain ⟨-, he1, hw1, hv1⟩ := hB1
  clear h64 h hN hi hrb
  have HBU := hide hBU
  have HBX := hide hbx
  have HRA := hide hra
  clear hBU hbx hra
  by_cases k1 : ok1 = true
  · subst k1
    rw [if_pos rfl]
    by_cases k2 : bt s e1 = 61
    · rw [if_pos k2]
      have C2 := hide (fun Wx hx => HTO.out 61 e1 Wx hx (by decide) k2)
      have he1 : e1 < s.length := bt_in (by rw [k2]; decide)
      have C3 := hide (fun Wx hx => HSE.out (e1 + 1) Wx hx)
      by_cases k3 : bt s (e1 + 1) = 64
      · rw [if_pos k3]
        rw [decide_eq_true (show bt s (e1 + 1) ∈ [64] by rw [k3]; simp)] at C3
        have C4 := hide (fun Wx hx => HLK.out (e1 + 1) Wx hx)
        have hB4 := spotA_bd (s := s) (i := e1 + 1) he1
        generalize spotA s (e1 + 1) = o2 at C4 hB4 ⊢
        obtain ⟨w9, v9, e9, ok9⟩ := o2
        simp only [] at hB4 ⊢
        obtain ⟨-, he9, hw9, hv9⟩ := hB4
        by_cases k9 : ok9 = true
        · subst k9
          rw [if_pos rfl]
          go_enter Tryd.func36, Tryd.ntmps36
          go_wp2_with fail
          generalize hWa : W.alloc (.cells #[.int .i64 3, .int .i64 0, .int .i64 0, .int .i64 0, .int .i64 0, .int .i64 0, .slice none 0 0] 39) = Wa at HBU HBX HRA ⊢
          clear hWa
          have K1 := hide (C1.out Wa HRA.out)
          refine K1.out.mono ?_
          intro e w2 hk
          obtain ⟨rfl, hr, hb⟩ := hk.1 rfl
          have HB2 := hide (HBU.out.trans hb)
          have hx := bx7_but HBX.out hb HNE.out
          have HR2 := hide hr
          obtain ⟨⟨p0, p1, p2, p3, p4, p5, p6⟩, -⟩ := box7_cells hx
          obtain ⟨f0, f1, f2, f3, f4, f5, f6⟩ := box7_froz hx
          have HX3 : Hid (Bx7 ((w2.setCell ⟨W.heap.size, 3, none⟩ (.int .i64 (w1 : Int))).setCell ⟨W.heap.size, 1, none⟩ (.int .i64 (v1 : Int))) W.heap.size (.int .i64 3) (.int .i64 (v1 : Int)) (.int .i64 0) (.int .i64 (w1 : Int)) (.int .i64 0) (.int .i64 0) (.slice none 0 0)) := heap_setCell_at (k := 1) (v := .int .i64 (v1 : Int)) (heap_setCell_at (k := 3) (v := .int .i64 (w1 : Int)) hx)
          have HR3 := hide (rd_set (rd_set hr (p := ⟨W.heap.size, 3, none⟩) HNF.out (.int .i64 (w1 : Int))) (p := ⟨W.heap.size, 1, none⟩) HNF.out (.int .i64 (v1 : Int)))
          have HB3 := hide ((HB2.out.set (p := ⟨W.heap.size, 3, none⟩) (.inr (Nat.le_refl _)) (.int .i64 (w1 : Int))).set (p := ⟨W.heap.size, 1, none⟩) (.inr (Nat.le_refl _)) (.int .i64 (v1 : Int)))
          clear hr hb hx hk K1 HR2 HB2 HBU HBX HRA
          generalize hW3 : (w2.setCell ⟨W.heap.size, 3, none⟩ (.int .i64 (w1 : Int))).setCell ⟨W.heap.size, 1, none⟩ (.int .i64 (v1 : Int)) = W3 at HX3 HR3 HB3
          have K2 := hide (C2.out W3 HR3.out)
          go_wp2_with fail
          clear p0 p1 p2 p3 p4 p5 p6 f0 f1 f2 f3 f4 f5 f6 hW3
          refine K2.out.mono ?_
          rintro e w4 ⟨rfl, hr, hb⟩
          have HB4 := hide (HB3.out.trans hb)
          have HX4 := hide (bx7_but HX3.out hb HNE.out)
          have HR4 := hide hr
          clear hr hb K2 HB3 HX3 HR3
          have K3 := hide (C3.out w4 HR4.out)
          go_wp2_with fail
          refine K3.out.mono ?_
          rintro e w5 ⟨rfl, hb⟩
          have HB5 := hide (HB4.out.trans (But.of_below hb))
          have HX5 := hide (bx7_but HX4.out (But.of_below (X := [rb]) hb) HNE.out)
          have HR5 := hide (rd_below HR4.out hb)
          clear hb K3 HB4 HX4 HR4
          obtain ⟨⟨p0, p1, p2, p3, p4, p5, p6⟩, -⟩ := box7_cells HX5.out
          obtain ⟨f0, f1, f2, f3, f4, f5, f6⟩ := box7_froz HX5.out
          have HX6 : Hid (Bx7 (w5.setCell ⟨W.heap.size, 0, none⟩ (.int .i64 4)) W.heap.size (.int .i64 4) (.int .i64 (v1 : Int)) (.int .i64 0) (.int .i64 (w1 : Int)) (.int .i64 0) (.int .i64 0) (.slice none 0 0)) := heap_setCell_at (k := 0) (v := .int .i64 4) HX5.out
          have HR6 := hide (rd_set HR5.out (p := ⟨W.heap.size, 0, none⟩) HNF.out (.int .i64 4))
          have HB6 := hide (HB5.out.set (p := ⟨W.heap.size, 0, none⟩) (.inr (Nat.le_refl _)) (.int .i64 4))
          clear HX5 HR5 HB5
          generalize hW6 : w5.setCell ⟨W.heap.size, 0, none⟩ (.int .i64 4) = W6 at HX6 HR6 HB6
          have K4 := hide (C4.out W6 HR6.out)
          go_wp2_with fail
          clear p0 p1 p2 p3 p4 p5 p6 f0 f1 f2 f3 f4 f5 f6 hW6
          refine K4.out.mono ?_
          intro e w7 hk
          obtain ⟨rfl, hr, hb⟩ := hk.1 rfl
          have hx := bx7_but HX6.out hb HNE.out
          obtain ⟨⟨p0, p1, p2, p3, p4, p5, p6⟩, -⟩ := box7_cells hx
          obtain ⟨f0, f1, f2, f3, f4, f5, f6⟩ := box7_froz hx
          have HX8 : Hid (Bx7 ((w7.setCell ⟨W.heap.size, 4, none⟩ (.int .i64 (w9 : Int))).setCell ⟨W.heap.size, 2, none⟩ (.int .i64 (v9 : Int))) W.heap.size (.int .i64 4) (.int .i64 (v1 : Int)) (.int .i64 (v9 : Int)) (.int .i64 (w1 : Int)) (.int .i64 (w9 : Int)) (.int .i64 0) (.slice none 0 0)) := heap_setCell_at (k := 2) (v := .int .i64 (v9 : Int)) (heap_setCell_at (k := 4) (v := .int .i64 (w9 : Int)) hx)
          have HR8 := hide (rd_set (rd_set hr (p := ⟨W.heap.size, 4, none⟩) HNF.out (.int .i64 (w9 : Int))) (p := ⟨W.heap.size, 2, none⟩) HNF.out (.int .i64 (v9 : Int)))
          have HB8 := hide (((HB6.out.trans hb).set (p := ⟨W.heap.size, 4, none⟩) (.inr (Nat.le_refl _)) (.int .i64 (w9 : Int))).set (p := ⟨W.heap.size, 2, none⟩) (.inr (Nat.le_refl _)) (.int .i64 (v9 : Int)))
          clear hr hb hx hk K4 HR6 HB6 HX6
          generalize hW8 : (w7.setCell ⟨W.heap.size, 4, none⟩ (.int .i64 (w9 : Int))).setCell ⟨W.heap.size, 2, none⟩ (.int .i64 (v9 : Int)) = W8 at HX8 HR8 HB8
          obtain ⟨⟨q0, q1, q2, q3, q4, q5, q6⟩, -⟩ := box7_cells HX8.out
          have K9 := hide (HAD.out _ ⟨(4 : Nat), v1, v9, w1, w9, (0 : Nat), []⟩ W8 HR8.out HB8.out (ndWf_small (by omega)) rfl)
          unfold ndV at K9
          simp only [List.length_nil] at K9
          go_wp2_with fail
          clear hW8 p0 p1 p2 p3 p4 p5 p6 f0 f1 f2 f3 f4 f5 f6 q0 q1 q2 q3 q4 q5 q6
          refine K9.out.mono ?_
          rintro e w9 ⟨rfl, v9, hr, hn, hb⟩
          have HB9 := hide ((HB8.out.below (Nat.le_of_lt HRB.out) (by simp)).trans hb)
          have HR9 := hide hr
          have HN9 := hide hn
          clear hr hn hb K9
          go_wp2
          exact bodyPost_end (v := .tuple #[]) (by simp [results, Tryd.results36]) rfl ⟨fun n hn => ⟨rfl, _, HR9.out, (by injection hn with hn; subst hn; exact HN9.out), HB9.out⟩, (fun h => by cases h)⟩
        · rw [if_neg k9]
          go_enter Tryd.func36, Tryd.ntmps36
          go_wp2_with fail
          generalize hWa : W.alloc (.cells #[.int .i64 3, .int .i64 0, .int .i64 0, .int .i64 0, .int .i64 0, .int .i64 0, .slice none 0 0] 39) = Wa at HBU HBX HRA ⊢
          clear hWa
          have K1 := hide (C1.out Wa HRA.out)
          refine K1.out.mono ?_
          intro e w2 hk
          obtain ⟨rfl, hr, hb⟩ := hk.1 rfl
          have HB2 := hide (HBU.out.trans hb)
          have hx := bx7_but HBX.out hb HNE.out
          have HR2 := hide hr
          obtain ⟨⟨p0, p1, p2, p3, p4, p5, p6⟩, -⟩ := box7_cells hx
          obtain ⟨f0, f1, f2, f3, f4, f5, f6⟩ := box7_froz hx
          have HX3 : Hid (Bx7 ((w2.setCell ⟨W.heap.size, 3, none⟩ (.int .i64 (w1 : Int))).setCell ⟨W.heap.size, 1, none⟩ (.int .i64 (v1 : Int))) W.heap.size (.int .i64 3) (.int .i64 (v1 : Int)) (.int .i64 0) (.int .i64 (w1 : Int)) (.int .i64 0) (.int .i64 0) (.slice none 0 0)) := heap_setCell_at (k := 1) (v := .int .i64 (v1 : Int)) (heap_setCell_at (k := 3) (v := .int .i64 (w1 : Int)) hx)
          have HR3 := hide (rd_set (rd_set hr (p := ⟨W.heap.size, 3, none⟩) HNF.out (.int .i64 (w1 : Int))) (p := ⟨W.heap.size, 1, none⟩) HNF.out (.int .i64 (v1 : Int)))
          have HB3 := hide ((HB2.out.set (p := ⟨W.heap.size, 3, none⟩) (.inr (Nat.le_refl _)) (.int .i64 (w1 : Int))).set (p := ⟨W.heap.size, 1, none⟩) (.inr (Nat.le_refl _)) (.int .i64 (v1 : Int)))
          clear hr hb hx hk K1 HR2 HB2 HBU HBX HRA
          generalize hW3 : (w2.setCell ⟨W.heap.size, 3, none⟩ (.int .i64 (w1 : Int))).setCell ⟨W.heap.size, 1, none⟩ (.int .i64 (v1 : Int)) = W3 at HX3 HR3 HB3
          have K2 := hide (C2.out W3 HR3.out)
          go_wp2_with fail
          clear p0 p1 p2 p3 p4 p5 p6 f0 f1 f2 f3 f4 f5 f6 hW3
          refine K2.out.mono ?_
          rintro e w4 ⟨rfl, hr, hb⟩
          have HB4 := hide (HB3.out.trans hb)
          have HX4 := hide (bx7_but HX3.out hb HNE.out)
          have HR4 := hide hr
          clear hr hb K2 HB3 HX3 HR3
          have K3 := hide (C3.out w4 HR4.out)
          go_wp2_with fail
          refine K3.out.mono ?_
          rintro e w5 ⟨rfl, hb⟩
          have HB5 := hide (HB4.out.trans (But.of_below hb))
          have HX5 := hide (bx7_but HX4.out (But.of_below (X := [rb]) hb) HNE.out)
          have HR5 := hide (rd_below HR4.out hb)
          clear hb K3 HB4 HX4 HR4
          obtain ⟨⟨p0, p1, p2, p3, p4, p5, p6⟩, -⟩ := box7_cells HX5.out
          obtain ⟨f0, f1, f2, f3, f4, f5, f6⟩ := box7_froz HX5.out
          have HX6 : Hid (Bx7 (w5.setCell ⟨W.heap.size, 0, none⟩ (.int .i64 4)) W.heap.size (.int .i64 4) (.int .i64 (v1 : Int)) (.int .i64 0) (.int .i64 (w1 : Int)) (.int .i64 0) (.int .i64 0) (.slice none 0 0)) := heap_setCell_at (k := 0) (v := .int .i64 4) HX5.out
          have HR6 := hide (rd_set HR5.out (p := ⟨W.heap.size, 0, none⟩) HNF.out (.int .i64 4))
          have HB6 := hide (HB5.out.set (p := ⟨W.heap.size, 0, none⟩) (.inr (Nat.le_refl _)) (.int .i64 4))
          clear HX5 HR5 HB5
          generalize hW6 : w5.setCell ⟨W.heap.size, 0, none⟩ (.int .i64 4) = W6 at HX6 HR6 HB6
          have K4 := hide (C4.out W6 HR6.out)
          go_wp2_with fail
          clear p0 p1 p2 p3 p4 p5 p6 f0 f1 f2 f3 f4 f5 f6 hW6
          refine K4.out.mono ?_
          intro e w7 hk
          obtain ⟨rfl, hb⟩ := hk.2 k9
          exact ⟨rfl, atm_no (HB6.out.trans hb) HRB.out⟩
      · rw [if_neg k3]
        rw [decide_eq_false (show ¬ bt s (e1 + 1) ∈ [64] by simpa using k3)] at C3
        by_cases k5 : isDg (bt s (e1 + 1)) = true
        · rw [if_pos k5]
          have C4 := hide (fun Wx hx => HNO.out (e1 + 1) Wx hx k5)
          have hB4 := (numA_bd k5).1
          generalize numA s (e1 + 1) = o2 at C4 hB4 ⊢
          obtain ⟨m, e9⟩ := o2
          simp only [] at hB4 C4 ⊢
          go_enter Tryd.func36, Tryd.ntmps36
          go_wp2_with fail
          generalize hWa : W.alloc (.cells #[.int .i64 3, .int .i64 0, .int .i64 0, .int .i64 0, .int .i64 0, .int .i64 0, .slice none 0 0] 39) = Wa at HBU HBX HRA ⊢
          clear hWa
          have K1 := hide (C1.out Wa HRA.out)
          refine K1.out.mono ?_
          intro e w2 hk
          obtain ⟨rfl, hr, hb⟩ := hk.1 rfl
          have HB2 := hide (HBU.out.trans hb)
          have hx := bx7_but HBX.out hb HNE.out
          have HR2 := hide hr
          obtain ⟨⟨p0, p1, p2, p3, p4, p5, p6⟩, -⟩ := box7_cells hx
          obtain ⟨f0, f1, f2, f3, f4, f5, f6⟩ := box7_froz hx
          have HX3 : Hid (Bx7 ((w2.setCell ⟨W.heap.size, 3, none⟩ (.int .i64 (w1 : Int))).setCell ⟨W.heap.size, 1, none⟩ (.int .i64 (v1 : Int))) W.heap.size (.int .i64 3) (.int .i64 (v1 : Int)) (.int .i64 0) (.int .i64 (w1 : Int)) (.int .i64 0) (.int .i64 0) (.slice none 0 0)) := heap_setCell_at (k := 1) (v := .int .i64 (v1 : Int)) (heap_setCell_at (k := 3) (v := .int .i64 (w1 : Int)) hx)
          have HR3 := hide (rd_set (rd_set hr (p := ⟨W.heap.size, 3, none⟩) HNF.out (.int .i64 (w1 : Int))) (p := ⟨W.heap.size, 1, none⟩) HNF.out (.int .i64 (v1 : Int)))
          have HB3 := hide ((HB2.out.set (p := ⟨W.heap.size, 3, none⟩) (.inr (Nat.le_refl _)) (.int .i64 (w1 : Int))).set (p := ⟨W.heap.size, 1, none⟩) (.inr (Nat.le_refl _)) (.int .i64 (v1 : Int)))
          clear hr hb hx hk K1 HR2 HB2 HBU HBX HRA
          generalize hW3 : (w2.setCell ⟨W.heap.size, 3, none⟩ (.int .i64 (w1 : Int))).setCell ⟨W.heap.size, 1, none⟩ (.int .i64 (v1 : Int)) = W3 at HX3 HR3 HB3
          have K2 := hide (C2.out W3 HR3.out)
          go_wp2_with fail
          clear p0 p1 p2 p3 p4 p5 p6 f0 f1 f2 f3 f4 f5 f6 hW3
          refine K2.out.mono ?_
          rintro e w4 ⟨rfl, hr, hb⟩
          have HB4 := hide (HB3.out.trans hb)
          have HX4 := hide (bx7_but HX3.out hb HNE.out)
          have HR4 := hide hr
          clear hr hb K2 HB3 HX3 HR3
          have K3 := hide (C3.out w4 HR4.out)
          go_wp2_with fail
          refine K3.out.mono ?_
          rintro e w5 ⟨rfl, hb⟩
          have HB5 := hide (HB4.out.trans (But.of_below hb))
          have HX5 := hide (bx7_but HX4.out (But.of_below (X := [rb]) hb) HNE.out)
          have HR5 := hide (rd_below HR4.out hb)
          clear hb K3 HB4 HX4 HR4
          have K4 := hide (C4.out w5 HR5.out)
          go_wp2_with fail
          refine K4.out.mono ?_
          rintro e w7 ⟨rfl, hr, hb⟩
          have hx := bx7_but HX5.out hb HNE.out
          obtain ⟨⟨p0, p1, p2, p3, p4, p5, p6⟩, -⟩ := box7_cells hx
          obtain ⟨f0, f1, f2, f3, f4, f5, f6⟩ := box7_froz hx
          have HX8 : Hid (Bx7 (w7.setCell ⟨W.heap.size, 5, none⟩ (.int .i64 (m : Int))) W.heap.size (.int .i64 3) (.int .i64 (v1 : Int)) (.int .i64 0) (.int .i64 (w1 : Int)) (.int .i64 0) (.int .i64 (m : Int)) (.slice none 0 0)) := heap_setCell_at (k := 5) (v := .int .i64 (m : Int)) hx
          have HR8 := hide (rd_set hr (p := ⟨W.heap.size, 5, none⟩) HNF.out (.int .i64 (m : Int)))
          have HB8 := hide ((HB5.out.trans hb).set (p := ⟨W.heap.size, 5, none⟩) (.inr (Nat.le_refl _)) (.int .i64 (m : Int)))
          clear hr hb hx K4 HR5 HB5 HX5
          generalize hW8 : w7.setCell ⟨W.heap.size, 5, none⟩ (.int .i64 (m : Int)) = W8 at HX8 HR8 HB8
          obtain ⟨⟨q0, q1, q2, q3, q4, q5, q6⟩, -⟩ := box7_cells HX8.out
          have K9 := hide (HAD.out _ ⟨(3 : Nat), v1, (0 : Nat), w1, (0 : Nat), m, []⟩ W8 HR8.out HB8.out (ndWf_small (by omega)) rfl)
          unfold ndV at K9
          simp only [List.length_nil] at K9
          go_wp2_with fail
          clear hW8 p0 p1 p2 p3 p4 p5 p6 f0 f1 f2 f3 f4 f5 f6 q0 q1 q2 q3 q4 q5 q6
          refine K9.out.mono ?_
          rintro e w9 ⟨rfl, v9, hr, hn, hb⟩
          have HB9 := hide ((HB8.out.below (Nat.le_of_lt HRB.out) (by simp)).trans hb)
          have HR9 := hide hr
          have HN9 := hide hn
          clear hr hn hb K9
          go_wp2
          exact bodyPost_end (v := .tuple #[]) (by simp [results, Tryd.results36]) rfl ⟨fun n hn => ⟨rfl, _, HR9.out, (by injection hn with hn; subst hn; exact HN9.out), HB9.out⟩, (fun h => by cases h)⟩
        · rw [if_neg k5]
          have C4 := hide (fun Wx hx => HNN.out (e1 + 1) Wx hx k5)
          go_enter Tryd.func36, Tryd.ntmps36
          go_wp2_with fail
          generalize hWa : W.alloc (.cells #[.int .i64 3, .int .i64 0, .int .i64 0, .int .i64 0, .int .i64 0, .int .i64 0, .slice none 0 0] 39) = Wa at HBU HBX HRA ⊢
          clear hWa
          have K1 := hide (C1.out Wa HRA.out)
          refine K1.out.mono ?_
          intro e w2 hk
          obtain ⟨rfl, hr, hb⟩ := hk.1 rfl
          have HB2 := hide (HBU.out.trans hb)
          have hx := bx7_but HBX.out hb HNE.out
          have HR2 := hide hr
          obtain ⟨⟨p0, p1, p2, p3, p4, p5, p6⟩, -⟩ := box7_cells hx
          obtain ⟨f0, f1, f2, f3, f4, f5, f6⟩ := box7_froz hx
          have HX3 : Hid (Bx7 ((w2.setCell ⟨W.heap.size, 3, none⟩ (.int .i64 (w1 : Int))).setCell ⟨W.heap.size, 1, none⟩ (.int .i64 (v1 : Int))) W.heap.size (.int .i64 3) (.int .i64 (v1 : Int)) (.int .i64 0) (.int .i64 (w1 : Int)) (.int .i64 0) (.int .i64 0) (.slice none 0 0)) := heap_setCell_at (k := 1) (v := .int .i64 (v1 : Int)) (heap_setCell_at (k := 3) (v := .int .i64 (w1 : Int)) hx)
          have HR3 := hide (rd_set (rd_set hr (p := ⟨W.heap.size, 3, none⟩) HNF.out (.int .i64 (w1 : Int))) (p := ⟨W.heap.size, 1, none⟩) HNF.out (.int .i64 (v1 : Int)))
          have HB3 := hide ((HB2.out.set (p := ⟨W.heap.size, 3, none⟩) (.inr (Nat.le_refl _)) (.int .i64 (w1 : Int))).set (p := ⟨W.heap.size, 1, none⟩) (.inr (Nat.le_refl _)) (.int .i64 (v1 : Int)))
          clear hr hb hx hk K1 HR2 HB2 HBU HBX HRA
          generalize hW3 : (w2.setCell ⟨W.heap.size, 3, none⟩ (.int .i64 (w1 : Int))).setCell ⟨W.heap.size, 1, none⟩ (.int .i64 (v1 : Int)) = W3 at HX3 HR3 HB3
          have K2 := hide (C2.out W3 HR3.out)
          go_wp2_with fail
          clear p0 p1 p2 p3 p4 p5 p6 f0 f1 f2 f3 f4 f5 f6 hW3
          refine K2.out.mono ?_
          rintro e w4 ⟨rfl, hr, hb⟩
          have HB4 := hide (HB3.out.trans hb)
          have HX4 := hide (bx7_but HX3.out hb HNE.out)
          have HR4 := hide hr
          clear hr hb K2 HB3 HX3 HR3
          have K3 := hide (C3.out w4 HR4.out)
          go_wp2_with fail
          refine K3.out.mono ?_
          rintro e w5 ⟨rfl, hb⟩
          have HB5 := hide (HB4.out.trans (But.of_below hb))
          have HX5 := hide (bx7_but HX4.out (But.of_below (X := [rb]) hb) HNE.out)
          have HR5 := hide (rd_below HR4.out hb)
          clear hb K3 HB4 HX4 HR4
          have K4 := hide (C4.out w5 HR5.out)
          go_wp2_with fail
          refine K4.out.mono ?_
          rintro e w7 ⟨rfl, hb⟩
          exact ⟨rfl, atm_no (HB5.out.trans (But.of_below hb)) HRB.out⟩
    · rw [if_neg k2]
      have C2 := hide (fun Wx hx => HTN.out 61 e1 Wx hx (by decide) k2)
      go_enter Tryd.func36, Tryd.ntmps36
      go_wp2_with fail
      generalize hWa : W.alloc (.cells #[.int .i64 3, .int .i64 0, .int .i64 0, .int .i64 0, .int .i64 0, .int .i64 0, .slice none 0 0] 39) = Wa at HBU HBX HRA ⊢
      clear hWa
      have K1 := hide (C1.out Wa HRA.out)
      refine K1.out.mono ?_
      intro e w2 hk
      obtain ⟨rfl, hr, hb⟩ := hk.1 rfl
      have HB2 := hide (HBU.out.trans hb)
      have hx := bx7_but HBX.out hb HNE.out
      have HR2 := hide hr
      obtain ⟨⟨p0, p1, p2, p3, p4, p5, p6⟩, -⟩ := box7_cells hx
      obtain ⟨f0, f1, f2, f3, f4, f5, f6⟩ := box7_froz hx
      have HX3 : Hid (Bx7 ((w2.setCell ⟨W.heap.size, 3, none⟩ (.int .i64 (w1 : Int))).setCell ⟨W.heap.size, 1, none⟩ (.int .i64 (v1 : Int))) W.heap.size (.int .i64 3) (.int .i64 (v1 : Int)) (.int .i64 0) (.int .i64 (w1 : Int)) (.int .i64 0) (.int .i64 0) (.slice none 0 0)) := heap_setCell_at (k := 1) (v := .int .i64 (v1 : Int)) (heap_setCell_at (k := 3) (v := .int .i64 (w1 : Int)) hx)
      have HR3 := hide (rd_set (rd_set hr (p := ⟨W.heap.size, 3, none⟩) HNF.out (.int .i64 (w1 : Int))) (p := ⟨W.heap.size, 1, none⟩) HNF.out (.int .i64 (v1 : Int)))
      have HB3 := hide ((HB2.out.set (p := ⟨W.heap.size, 3, none⟩) (.inr (Nat.le_refl _)) (.int .i64 (w1 : Int))).set (p := ⟨W.heap.size, 1, none⟩) (.inr (Nat.le_refl _)) (.int .i64 (v1 : Int)))
      clear hr hb hx hk K1 HR2 HB2 HBU HBX HRA
      generalize hW3 : (w2.setCell ⟨W.heap.size, 3, none⟩ (.int .i64 (w1 : Int))).setCell ⟨W.heap.size, 1, none⟩ (.int .i64 (v1 : Int)) = W3 at HX3 HR3 HB3
      have K2 := hide (C2.out W3 HR3.out)
      go_wp2_with fail
      clear p0 p1 p2 p3 p4 p5 p6 f0 f1 f2 f3 f4 f5 f6 hW3
      refine K2.out.mono ?_
      rintro e w4 ⟨rfl, hb⟩
      exact ⟨rfl, atm_no (HB3.out.trans (But.of_below hb)) HRB.out⟩
  · rw [if_neg k1]
    go_enter Tryd.func36, Tryd.ntmps36
    go_wp2_with fail
    generalize hWa : W.alloc (.cells #[.int .i64 3, .int .i64 0, .int .i64 0, .int .i64 0, .int .i64 0, .int .i64 0, .slice none 0 0] 39) = Wa at HBU HBX HRA ⊢
    clear hWa
    have K1 := hide (C1.out Wa HRA.out)
    refine K1.out.mono ?_
    intro e w2 hk
    obtain ⟨rfl, hb⟩ := hk.2 k1
    exact ⟨rfl, atm_no (HBU.out.trans hb) HRB.out⟩
end Go.Proofs.YtafbggbdlcfbdaaDoor
