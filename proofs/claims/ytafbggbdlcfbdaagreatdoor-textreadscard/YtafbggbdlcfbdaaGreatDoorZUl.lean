/- 4 texts in one. -/
import Derived.Deep.Onto
import Derived.Deep.RegionHeldLaw
import Derived.Test.YtafbggbdlcfbdaaGreatDoorZNu
import Derived.Test.YtafbggbdlcfbdaaGreatDoorZUd
import Derived.Test.YtafbggbdlcfbdaaGreatDoorZXd
import Derived.Test.YtafbggbdlcfbdaaGreatDoorZPa
import Derived.Test.YtafbggbdlcfbdaaGreatDoorZUf
import Derived.Test.YtafbggbdlcfbdaaGreatDoorZWi
import Derived.Test.YtafbggbdlcfbdaaGreatDoorZWo
/- Package text: the reader's nodes; add: contract. -/
namespace Go.Proofs.YtafbggbdlcfbdaaGreatDoor
open Go.RowKit

/-- The reader's nodes: a row behind its box, the coefficients behind it too, and apart. -/
def NdR (rb : Nat) (W : World) (v : Value) (L : List Nd) : Prop :=
  ∃ vals : List Value, W.ownsRow (rb + 1) 41 7 v L.length vals ∧ (∀ n ∈ L, ndWf n) ∧ ∀ j, j < L.length → ∃ a cap, (∀ i, i < 7 → vals[j * 7 + i]? = (ndL (L.getD j zNd) a cap)[i]?) ∧ Sl W a (L.getD j zNd).cf.length (L.getD j zNd).cf ∧ ∀ x, slB a (L.getD j zNd).cf.length x → rb < x ∧ v.ownBlock ≠ some x
theorem ndR_nil (rb : Nat) (W : World) : NdR rb W (.slice none 0 0) [] := ⟨[], World.ownsRow_nil _ _ _ _, (fun n hn => by cases hn), fun j hj => by cases hj⟩
theorem ndR_but {rb : Nat} {W W' : World} {v : Value} {L : List Nd} (h : NdR rb W v L) (hb : But [rb] W W') : NdR rb W' v L := by
  obtain ⟨vals, h1, h2, h3⟩ := h
  refine ⟨vals, ownsRow_of_block h1 (fun x hx => ?_), h2, fun j hj => ?_⟩
  · have := h1.lt x hx
    exact hb.2 x this.2 (by simp; omega)
  · obtain ⟨a, cap, e1, e2, e3⟩ := h3 j hj
    exact ⟨a, cap, e1, sl_keep e2 (fun x hx => hb.2 x (slB_lt e2 hx) (by have := (e3 x hx).1; simp; omega)), e3⟩
theorem ndR_below {rb : Nat} {W W' : World} {v : Value} {L : List Nd} (h : NdR rb W v L) (hb : Below W.heap.size W W') : NdR rb W' v L := ndR_but h (But.of_below hb)
theorem ndR_own {rb : Nat} {W : World} {v : Value} {L : List Nd} (h : NdR rb W v L) : ∃ vals, W.ownsRow (rb + 1) 41 7 v L.length vals := let ⟨vals, h1, _⟩ := h; ⟨vals, h1⟩
/-- One node more. -/
theorem ndR_push {rb : Nat} {W W2 : World} {v : Value} {L : List Nd} {n : Nd} {a : Option Addr} {c : Nat} (h : NdR rb W v L) (hb : Below W.heap.size W W2) (hw : ndWf n) (hs : Sl W a n.cf.length n.cf) (hx : ∀ x, slB a n.cf.length x → rb < x ∧ v.ownBlock ≠ some x) (hrb : rb < W.heap.size) :
    ∃ vals : List Value, W2.ownsRow (rb + 1) 41 7 v L.length vals ∧
      ∀ (w3 : World) (g' cap' : Nat), w3.ownsRow (rb + 1) 41 7 (.slice (some ⟨g', 0, none⟩) (L.length + 1) cap') (L.length + 1) (vals ++ ndL n a c) → W2.grownBy w3 v.ownBlock → (v.ownBlock = some g' ∨ g' = W2.heap.size) →
        w3.heap[rb]? = W.heap[rb]? ∧ rb + 1 ≤ g' ∧ Below rb W w3 ∧ ∀ w4, But [rb] w3 w4 → NdR rb w4 (.slice (some ⟨g', 0, none⟩) (L.length + 1) cap') (L ++ [n]) := by
  obtain ⟨vals, h1, h2, h3⟩ := h
  have h1' : W2.ownsRow (rb + 1) 41 7 v L.length vals := ownsRow_of_block h1 (fun x hx => hb.block _ (h1.lt x hx).2)
  have hvl : vals.length = L.length * 7 := by have := h1.1; omega
  have hsz := hb.size
  refine ⟨vals, h1', fun w3 g' cap' hown hgrow hat => ?_⟩
  have hne : ∀ x, v.ownBlock = some x → rb < x := fun x hx => by have := (h1.lt x hx).1; omega
  have hg' : rb + 1 ≤ g' := by
    rcases hat with hat | hat
    · exact (h1.lt _ hat).1
    · omega
  have keep : ∀ {a' len' l'}, Sl W a' len' l' → (∀ x, slB a' len' x → rb < x ∧ v.ownBlock ≠ some x) → Sl w3 a' len' l' := fun {a' len' l'} hs' hne => sl_keep hs' fun x hx => by
    have hlt := slB_lt hs' hx
    rw [hgrow.block x (by omega) (fun e => (hne x hx).2 e.symm), hb.block x hlt]
  have far : ∀ {a' len' l'}, Sl W a' len' l' → (∀ x, slB a' len' x → rb < x ∧ v.ownBlock ≠ some x) → ∀ x, slB a' len' x → rb < x ∧ Value.ownBlock (.slice (some ⟨g', 0, none⟩) (L.length + 1) cap') ≠ some x := fun {a' len' l'} hs' hne x hx => by
    have hlt := slB_lt hs' hx
    refine ⟨(hne x hx).1, fun e => ?_⟩
    have e' : g' = x := by simpa [Value.ownBlock] using e
    subst e'
    rcases hat with h | h
    · exact (hne _ hx).2 h
    · omega
  refine ⟨?_, hg', ?_, fun w4 hb4 => ?_⟩
  · rw [hgrow.block rb (by omega) (fun e => by have := hne rb e.symm; omega), hb.block rb hrb]
  · exact Below.grown (hb.mono (Nat.le_of_lt hrb)) hgrow (by omega) (fun x hx => Nat.le_of_lt (hne x hx))
  · refine ndR_but ?_ hb4
    refine ⟨vals ++ ndL n a c, by rw [List.length_append]; exact hown, fun m hm => ?_, fun j hj => ?_⟩
    · rcases List.mem_append.1 hm with hm | hm
      · exact h2 m hm
      · rw [List.mem_singleton] at hm; subst hm; exact hw
    · rw [List.length_append, List.length_singleton] at hj
      by_cases e : j = L.length
      · subst e
        have en : (L ++ [n]).getD L.length zNd = n := by simp [List.getD]
        rw [en]
        exact ⟨a, c, fun i hi => by rw [List.getElem?_append_right (by omega), hvl]; congr 1; omega, keep hs hx, far hs hx⟩
      · have en : (L ++ [n]).getD j zNd = L.getD j zNd := by simp only [List.getD_eq_getElem?_getD]; rw [List.getElem?_append_left (by omega)]
        rw [en]
        obtain ⟨a', cap', e1, e2, e3⟩ := h3 j (by omega)
        exact ⟨a', cap', fun i hi => by rw [List.getElem?_append_left (by omega)]; exact e1 i hi, keep e2 e3, far e2 e3⟩
/-- What add does. -/
def AdR (W : World) (rb : Nat) (s : List UInt8) (i : Nat) (L : List Nd) (e : Ending) (w' : World) : Prop := e = .returned (.tuple #[]) ∧ ∃ v, RdAt w' rb s i v ∧ NdR rb w' v L ∧ Below rb W w'
set_option maxHeartbeats 8000000 in
set_option maxRecDepth 8000 in
theorem add_any (s : List UInt8) (i rb : Nat) (v : Value) (L : List Nd) (n : Nd) (a : Option Addr) (c : Nat) (W : World) (h : RdAt W rb s i v) (hN : NdR rb W v L) (hL : L.length ≤ 5000) (hw : ndWf n) (hs : Sl W a n.cf.length n.cf) (hx : ∀ x, slB a n.cf.length x → rb < x ∧ v.ownBlock ≠ some x) :
    Calls Tryz.prog 67 #[.pointer (some ⟨rb, 0, none⟩), ndV n a c] W (AdR W rb s i (L ++ [n])) := by
  obtain ⟨l0, hl0, hv0, hv1, hv2⟩ := info_parts infoNd
  have hrb := rd_lt h
  have hB1 := (Below.refl W.heap.size W).alloc (Nat.le_refl _) (ndO n a c)
  have hx1 := heap_alloc_last W (ndO n a c)
  have hr1 := rd_below h hB1
  have hsz1 : (W.alloc (ndO n a c)).heap.size = W.heap.size + 1 := by simp
  generalize hW1 : W.alloc (ndO n a c) = W1 at hB1 hx1 hr1 hsz1
  have hB2 : Below W.heap.size W ((W1.alloc (.cells (ndL n a c).toArray 41)).drew) := (hB1.alloc (by omega) _).drew
  obtain ⟨vals, HOW, HPU⟩ := ndR_push (c := c) hN hB2 hw hs hx hrb
  have HOWN := hide HOW
  have HPUS := hide HPU
  have HNEW := hide (news_new W1 (ndL n a c) 41)
  have HSZ := hide hsz1
  have HRB := hide hrb
  have HLE := hide hL
  obtain ⟨⟨c0, c1, c2⟩, f1, f2⟩ := rd_cells hr1
  obtain ⟨⟨j0, j1, j2, j3, j4, j5, j6⟩, -⟩ := box7_cells hx1
  have c2b : ∀ o, (W1.alloc o).cell? ⟨rb, 2, none⟩ = some v := fun o => by
    rw [World.cell?_alloc_lt W1 _ ⟨rb, 2, none⟩ (show rb < W1.heap.size by omega)]
    exact c2
  have HR := hide h
  clear h hN hw hs hx hB1 hB2 hr1 hx1 HOW HPU hrb hL hsz1
  unfold ndV ndO at *
  go_enter Tryz.func67, Tryz.ntmps67
  go_wp2
  go_region_law (first | (refine step_append_lies _ rfl (.tmp 8) (.tmp 10) 22 rfl (rb + 1) 41 l0 (.agg #[.int .i64 0, .int .i64 0, .int .i64 0, .int .i64 0, .int .i64 0, .int .i64 0, .slice none 0 0]) 7 72 Tryz.underlying22 hl0 hv0 hv1 hv2 zNode_size (by decide) v L.length vals (by simp [Act.eval]) HOWN.out ⟨W1.heap.size, 0, none⟩ 1 1 (ndL n a c) (by simp [Act.eval]) rfl HNEW.out (fun u hu => ndL_one _ _ _ _ hu) (by omega) (by unfold maxLen; have := HLE.out; omega) (by have := HLE.out; omega) (by have := HSZ.out; have := HRB.out; simp; omega) (W1.heap.size + 1) (by simp) ?_; intro g5 cg5 w6 hown5 hgrow5 hat5 hlt5; have HQ := hide (HPUS.out w6 g5 cg5 hown5 hgrow5 (hat5.imp (fun h => h) (fun h => by rw [h]; simp))); clear hown5 hgrow5 hat5 hlt5; obtain ⟨⟨z0, z1, z2⟩, zf1, zf2⟩ := rd_cells (HQ.out.1.trans HR.out)))
  all_goals go_wp2
  all_goals refine bodyPost_end (v := .tuple #[]) (by simp [results, Tryz.results67]) rfl ⟨rfl, _, rd_nodes (HQ.out.1.trans HR.out) _, HQ.out.2.2.2 _ ((But.refl _ _).set (.inl (by simp)) _), HQ.out.2.2.1.setCell (Nat.le_refl _) _⟩
end Go.Proofs.YtafbggbdlcfbdaaGreatDoor

/- Package text: output: contract. -/
namespace Go.Proofs.YtafbggbdlcfbdaaGreatDoor
open Go.RowKit

/-- What reading a claim without parts does. -/
def AtmR (W : World) (rb : Nat) (s : List UInt8) (L : List Nd) (o : Option Nd × Nat) (e : Ending) (w' : World) : Prop := (∀ n, o.1 = some n → e = .returned (.tuple #[]) ∧ ∃ v, RdAt w' rb s o.2 v ∧ NdR rb w' v (L ++ [n]) ∧ Below rb W w') ∧ (o.1 = none → e = .panicked [{ v := stopV o.2, recovered := false }] ∧ Below rb W w')
/-- A node's box. -/
abbrev Bx7 (W : World) (nb : Nat) (u0 u1 u2 u3 u4 u5 u6 : Value) : Prop := W.heap[nb]? = some (.cells #[u0, u1, u2, u3, u4, u5, u6] 41 (0, 0))
theorem bx7_but {W W' : World} {X : List Nat} {nb : Nat} {u0 u1 u2 u3 u4 u5 u6 : Value} (h : Bx7 W nb u0 u1 u2 u3 u4 u5 u6) (hb : But X W W') (hx : nb ∉ X) : Bx7 W' nb u0 u1 u2 u3 u4 u5 u6 := (hb.2 nb (Array.getElem?_eq_some_iff.1 h).1 hx).trans h
theorem rd_set {W : World} {rb : Nat} {s : List UInt8} {i : Nat} {v : Value} (h : RdAt W rb s i v) {p : Addr} (hp : rb ≠ p.block) (u : Value) : RdAt (W.setCell p u) rb s i v := (Below.heap_setCell _ _ _ _ hp).trans h
theorem sl_none (W : World) : Sl W none 0 [] := ⟨rfl, by unfold maxLen; omega, (fun x hx => by cases hx), .inl rfl⟩
theorem slB_none (a : Option Addr) (x : Nat) : ¬ slB a 0 x := fun h => absurd h.1 (Nat.lt_irrefl 0)
theorem atm_no {W w' : World} {rb : Nat} {s : List UInt8} {L : List Nd} {e : Nat} (hb : But [rb] W w') (hrb : rb < W.heap.size) : AtmR W rb s L (none, e) (.panicked [{ v := stopV e, recovered := false }]) w' := ⟨(fun n h => by cases h), fun _ => ⟨rfl, hb.below (Nat.le_of_lt hrb) (by simp)⟩⟩
set_option maxHeartbeats 16000000 in
set_option maxRecDepth 20000 in
theorem output_any (s : List UInt8) (i rb : Nat) (v : Value) (L : List Nd) (W : World) (h : RdAt W rb s i v) (hN : NdR rb W v L) (hL : L.length ≤ 5000) (hs : s.length ≤ 2000) (hi : i ≤ s.length) (h64 : bt s i = 64) :
    Calls Tryz.prog 55 #[.pointer (some ⟨rb, 0, none⟩)] W (AtmR W rb s L (atomA s i)) := by
  have hrb := rd_lt h
  have HTO := hide (fun k j Wx (hx : RdAt Wx rb s j v) (h0 : (0 : UInt8) ∉ [k]) (hb : bt s j = k) => take_ok s [k] j rb v Wx hx h0 hs (by rw [hb]; simp))
  have HTN := hide (fun k j Wx (hx : RdAt Wx rb s j v) (h0 : (0 : UInt8) ∉ [k]) (hb : ¬ bt s j = k) => take_no s [k] j rb v Wx hx h0 (by simpa using hb))
  have HSE := hide (fun j Wx (hx : RdAt Wx rb s j v) => sees_any s [64] j rb v Wx hx (by decide))
  have HNO := hide (fun j Wx (hx : RdAt Wx rb s j v) (hd : isDg (bt s j) = true) => number_ok s j rb v Wx hx hs hd)
  have HNN := hide (fun j Wx (hx : RdAt Wx rb s j v) (hd : ¬ isDg (bt s j) = true) => number_no s j rb v Wx hx hd)
  have HLK := hide (fun j Wx (hx : RdAt Wx rb s j v) => lookup_any s j rb v Wx hx hs)
  have HAD := hide (fun j (n : Nd) Wx (hx : RdAt Wx rb s j v) (hb : But [rb] W Wx) (hw : ndWf n) (hc : n.cf = []) => add_any s j rb v L n none 0 Wx hx (ndR_but hN hb) hL hw (by rw [hc]; exact sl_none Wx) (fun x hx => by rw [hc] at hx; exact absurd hx (slB_none _ _)))
  have hBU := (But.refl [rb] W).alloc (.cells #[.int .i64 3, .int .i64 0, .int .i64 0, .int .i64 0, .int .i64 0, .int .i64 0, .slice none 0 0] 41)
  have hbx : Bx7 (W.alloc (.cells #[.int .i64 3, .int .i64 0, .int .i64 0, .int .i64 0, .int .i64 0, .int .i64 0, .slice none 0 0] 41)) W.heap.size (.int .i64 3) (.int .i64 0) (.int .i64 0) (.int .i64 0) (.int .i64 0) (.int .i64 0) (.slice none 0 0) := heap_alloc_last W _
  have hra := rd_below h ((Below.refl W.heap.size W).alloc (Nat.le_refl _) (.cells #[.int .i64 3, .int .i64 0, .int .i64 0, .int .i64 0, .int .i64 0, .int .i64 0, .slice none 0 0] 41))
  have HNE : Hid (W.heap.size ∉ [rb]) := by show ¬ _; simp; omega
  have HNF : Hid (rb ≠ W.heap.size) := by show _ ≠ _; omega
  have HRB := hide hrb
  have hB1 := spotA_bd (s := s) hi
  unfold atomA
  rw [if_pos h64]
  have C1 := hide (fun Wx hx => HLK.out i Wx hx)
  generalize spotA s i = o1 at C1 hB1 ⊢
  obtain ⟨w1, v1, e1, ok1⟩ := o1
  simp only [] at hB1 ⊢
  obtain ⟨-, he1, hw1, hv1⟩ := hB1
  clear h64 h hN hi hrb
  have HBU := hide hBU
  have HBX := hide hbx
  have HRA := hide hra
  clear hBU hbx hra
  by_cases k1 : ok1 = true
  · subst k1
    rw [if_pos rfl]
    by_cases k2 : bt s e1 = 61
    · rw [if_pos k2]
      have C2 := hide (fun Wx hx => HTO.out 61 e1 Wx hx (by decide) k2)
      have he1 : e1 < s.length := bt_in (by rw [k2]; decide)
      have C3 := hide (fun Wx hx => HSE.out (e1 + 1) Wx hx)
      by_cases k3 : bt s (e1 + 1) = 64
      · rw [if_pos k3]
        rw [decide_eq_true (show bt s (e1 + 1) ∈ [64] by rw [k3]; simp)] at C3
        have C4 := hide (fun Wx hx => HLK.out (e1 + 1) Wx hx)
        have hB4 := spotA_bd (s := s) (i := e1 + 1) he1
        generalize spotA s (e1 + 1) = o2 at C4 hB4 ⊢
        obtain ⟨w9, v9, e9, ok9⟩ := o2
        simp only [] at hB4 ⊢
        obtain ⟨-, he9, hw9, hv9⟩ := hB4
        by_cases k9 : ok9 = true
        · subst k9
          rw [if_pos rfl]
          go_enter Tryz.func55, Tryz.ntmps55
          go_wp2_with fail
          generalize hWa : W.alloc (.cells #[.int .i64 3, .int .i64 0, .int .i64 0, .int .i64 0, .int .i64 0, .int .i64 0, .slice none 0 0] 41) = Wa at HBU HBX HRA ⊢
          clear hWa
          have K1 := hide (C1.out Wa HRA.out)
          refine K1.out.mono ?_
          intro e w2 hk
          obtain ⟨rfl, hr, hb⟩ := hk.1 rfl
          have HB2 := hide (HBU.out.trans hb)
          have hx := bx7_but HBX.out hb HNE.out
          have HR2 := hide hr
          obtain ⟨⟨p0, p1, p2, p3, p4, p5, p6⟩, -⟩ := box7_cells hx
          obtain ⟨f0, f1, f2, f3, f4, f5, f6⟩ := box7_froz hx
          have HX3 : Hid (Bx7 ((w2.setCell ⟨W.heap.size, 3, none⟩ (.int .i64 (w1 : Int))).setCell ⟨W.heap.size, 1, none⟩ (.int .i64 (v1 : Int))) W.heap.size (.int .i64 3) (.int .i64 (v1 : Int)) (.int .i64 0) (.int .i64 (w1 : Int)) (.int .i64 0) (.int .i64 0) (.slice none 0 0)) := heap_setCell_at (k := 1) (v := .int .i64 (v1 : Int)) (heap_setCell_at (k := 3) (v := .int .i64 (w1 : Int)) hx)
          have HR3 := hide (rd_set (rd_set hr (p := ⟨W.heap.size, 3, none⟩) HNF.out (.int .i64 (w1 : Int))) (p := ⟨W.heap.size, 1, none⟩) HNF.out (.int .i64 (v1 : Int)))
          have HB3 := hide ((HB2.out.set (p := ⟨W.heap.size, 3, none⟩) (.inr (Nat.le_refl _)) (.int .i64 (w1 : Int))).set (p := ⟨W.heap.size, 1, none⟩) (.inr (Nat.le_refl _)) (.int .i64 (v1 : Int)))
          clear hr hb hx hk K1 HR2 HB2 HBU HBX HRA
          generalize hW3 : (w2.setCell ⟨W.heap.size, 3, none⟩ (.int .i64 (w1 : Int))).setCell ⟨W.heap.size, 1, none⟩ (.int .i64 (v1 : Int)) = W3 at HX3 HR3 HB3
          have K2 := hide (C2.out W3 HR3.out)
          go_wp2_with fail
          clear p0 p1 p2 p3 p4 p5 p6 f0 f1 f2 f3 f4 f5 f6 hW3
          refine K2.out.mono ?_
          rintro e w4 ⟨rfl, hr, hb⟩
          have HB4 := hide (HB3.out.trans hb)
          have HX4 := hide (bx7_but HX3.out hb HNE.out)
          have HR4 := hide hr
          clear hr hb K2 HB3 HX3 HR3
          have K3 := hide (C3.out w4 HR4.out)
          go_wp2_with fail
          refine K3.out.mono ?_
          rintro e w5 ⟨rfl, hb⟩
          have HB5 := hide (HB4.out.trans (But.of_below hb))
          have HX5 := hide (bx7_but HX4.out (But.of_below (X := [rb]) hb) HNE.out)
          have HR5 := hide (rd_below HR4.out hb)
          clear hb K3 HB4 HX4 HR4
          obtain ⟨⟨p0, p1, p2, p3, p4, p5, p6⟩, -⟩ := box7_cells HX5.out
          obtain ⟨f0, f1, f2, f3, f4, f5, f6⟩ := box7_froz HX5.out
          have HX6 : Hid (Bx7 (w5.setCell ⟨W.heap.size, 0, none⟩ (.int .i64 4)) W.heap.size (.int .i64 4) (.int .i64 (v1 : Int)) (.int .i64 0) (.int .i64 (w1 : Int)) (.int .i64 0) (.int .i64 0) (.slice none 0 0)) := heap_setCell_at (k := 0) (v := .int .i64 4) HX5.out
          have HR6 := hide (rd_set HR5.out (p := ⟨W.heap.size, 0, none⟩) HNF.out (.int .i64 4))
          have HB6 := hide (HB5.out.set (p := ⟨W.heap.size, 0, none⟩) (.inr (Nat.le_refl _)) (.int .i64 4))
          clear HX5 HR5 HB5
          generalize hW6 : w5.setCell ⟨W.heap.size, 0, none⟩ (.int .i64 4) = W6 at HX6 HR6 HB6
          have K4 := hide (C4.out W6 HR6.out)
          go_wp2_with fail
          clear p0 p1 p2 p3 p4 p5 p6 f0 f1 f2 f3 f4 f5 f6 hW6
          refine K4.out.mono ?_
          intro e w7 hk
          obtain ⟨rfl, hr, hb⟩ := hk.1 rfl
          have hx := bx7_but HX6.out hb HNE.out
          obtain ⟨⟨p0, p1, p2, p3, p4, p5, p6⟩, -⟩ := box7_cells hx
          obtain ⟨f0, f1, f2, f3, f4, f5, f6⟩ := box7_froz hx
          have HX8 : Hid (Bx7 ((w7.setCell ⟨W.heap.size, 4, none⟩ (.int .i64 (w9 : Int))).setCell ⟨W.heap.size, 2, none⟩ (.int .i64 (v9 : Int))) W.heap.size (.int .i64 4) (.int .i64 (v1 : Int)) (.int .i64 (v9 : Int)) (.int .i64 (w1 : Int)) (.int .i64 (w9 : Int)) (.int .i64 0) (.slice none 0 0)) := heap_setCell_at (k := 2) (v := .int .i64 (v9 : Int)) (heap_setCell_at (k := 4) (v := .int .i64 (w9 : Int)) hx)
          have HR8 := hide (rd_set (rd_set hr (p := ⟨W.heap.size, 4, none⟩) HNF.out (.int .i64 (w9 : Int))) (p := ⟨W.heap.size, 2, none⟩) HNF.out (.int .i64 (v9 : Int)))
          have HB8 := hide (((HB6.out.trans hb).set (p := ⟨W.heap.size, 4, none⟩) (.inr (Nat.le_refl _)) (.int .i64 (w9 : Int))).set (p := ⟨W.heap.size, 2, none⟩) (.inr (Nat.le_refl _)) (.int .i64 (v9 : Int)))
          clear hr hb hx hk K4 HR6 HB6 HX6
          generalize hW8 : (w7.setCell ⟨W.heap.size, 4, none⟩ (.int .i64 (w9 : Int))).setCell ⟨W.heap.size, 2, none⟩ (.int .i64 (v9 : Int)) = W8 at HX8 HR8 HB8
          obtain ⟨⟨q0, q1, q2, q3, q4, q5, q6⟩, -⟩ := box7_cells HX8.out
          have K9 := hide (HAD.out _ ⟨(4 : Nat), v1, v9, w1, w9, (0 : Nat), []⟩ W8 HR8.out HB8.out (ndWf_small (by omega)) rfl)
          unfold ndV at K9
          simp only [List.length_nil] at K9
          go_wp2_with fail
          clear hW8 p0 p1 p2 p3 p4 p5 p6 f0 f1 f2 f3 f4 f5 f6 q0 q1 q2 q3 q4 q5 q6
          refine K9.out.mono ?_
          rintro e w9 ⟨rfl, v9, hr, hn, hb⟩
          have HB9 := hide ((HB8.out.below (Nat.le_of_lt HRB.out) (by simp)).trans hb)
          have HR9 := hide hr
          have HN9 := hide hn
          clear hr hn hb K9
          go_wp2
          exact bodyPost_end (v := .tuple #[]) (by simp [results, Tryz.results55]) rfl ⟨fun n hn => ⟨rfl, _, HR9.out, (by injection hn with hn; subst hn; exact HN9.out), HB9.out⟩, (fun h => by cases h)⟩
        · rw [if_neg k9]
          go_enter Tryz.func55, Tryz.ntmps55
          go_wp2_with fail
          generalize hWa : W.alloc (.cells #[.int .i64 3, .int .i64 0, .int .i64 0, .int .i64 0, .int .i64 0, .int .i64 0, .slice none 0 0] 41) = Wa at HBU HBX HRA ⊢
          clear hWa
          have K1 := hide (C1.out Wa HRA.out)
          refine K1.out.mono ?_
          intro e w2 hk
          obtain ⟨rfl, hr, hb⟩ := hk.1 rfl
          have HB2 := hide (HBU.out.trans hb)
          have hx := bx7_but HBX.out hb HNE.out
          have HR2 := hide hr
          obtain ⟨⟨p0, p1, p2, p3, p4, p5, p6⟩, -⟩ := box7_cells hx
          obtain ⟨f0, f1, f2, f3, f4, f5, f6⟩ := box7_froz hx
          have HX3 : Hid (Bx7 ((w2.setCell ⟨W.heap.size, 3, none⟩ (.int .i64 (w1 : Int))).setCell ⟨W.heap.size, 1, none⟩ (.int .i64 (v1 : Int))) W.heap.size (.int .i64 3) (.int .i64 (v1 : Int)) (.int .i64 0) (.int .i64 (w1 : Int)) (.int .i64 0) (.int .i64 0) (.slice none 0 0)) := heap_setCell_at (k := 1) (v := .int .i64 (v1 : Int)) (heap_setCell_at (k := 3) (v := .int .i64 (w1 : Int)) hx)
          have HR3 := hide (rd_set (rd_set hr (p := ⟨W.heap.size, 3, none⟩) HNF.out (.int .i64 (w1 : Int))) (p := ⟨W.heap.size, 1, none⟩) HNF.out (.int .i64 (v1 : Int)))
          have HB3 := hide ((HB2.out.set (p := ⟨W.heap.size, 3, none⟩) (.inr (Nat.le_refl _)) (.int .i64 (w1 : Int))).set (p := ⟨W.heap.size, 1, none⟩) (.inr (Nat.le_refl _)) (.int .i64 (v1 : Int)))
          clear hr hb hx hk K1 HR2 HB2 HBU HBX HRA
          generalize hW3 : (w2.setCell ⟨W.heap.size, 3, none⟩ (.int .i64 (w1 : Int))).setCell ⟨W.heap.size, 1, none⟩ (.int .i64 (v1 : Int)) = W3 at HX3 HR3 HB3
          have K2 := hide (C2.out W3 HR3.out)
          go_wp2_with fail
          clear p0 p1 p2 p3 p4 p5 p6 f0 f1 f2 f3 f4 f5 f6 hW3
          refine K2.out.mono ?_
          rintro e w4 ⟨rfl, hr, hb⟩
          have HB4 := hide (HB3.out.trans hb)
          have HX4 := hide (bx7_but HX3.out hb HNE.out)
          have HR4 := hide hr
          clear hr hb K2 HB3 HX3 HR3
          have K3 := hide (C3.out w4 HR4.out)
          go_wp2_with fail
          refine K3.out.mono ?_
          rintro e w5 ⟨rfl, hb⟩
          have HB5 := hide (HB4.out.trans (But.of_below hb))
          have HX5 := hide (bx7_but HX4.out (But.of_below (X := [rb]) hb) HNE.out)
          have HR5 := hide (rd_below HR4.out hb)
          clear hb K3 HB4 HX4 HR4
          obtain ⟨⟨p0, p1, p2, p3, p4, p5, p6⟩, -⟩ := box7_cells HX5.out
          obtain ⟨f0, f1, f2, f3, f4, f5, f6⟩ := box7_froz HX5.out
          have HX6 : Hid (Bx7 (w5.setCell ⟨W.heap.size, 0, none⟩ (.int .i64 4)) W.heap.size (.int .i64 4) (.int .i64 (v1 : Int)) (.int .i64 0) (.int .i64 (w1 : Int)) (.int .i64 0) (.int .i64 0) (.slice none 0 0)) := heap_setCell_at (k := 0) (v := .int .i64 4) HX5.out
          have HR6 := hide (rd_set HR5.out (p := ⟨W.heap.size, 0, none⟩) HNF.out (.int .i64 4))
          have HB6 := hide (HB5.out.set (p := ⟨W.heap.size, 0, none⟩) (.inr (Nat.le_refl _)) (.int .i64 4))
          clear HX5 HR5 HB5
          generalize hW6 : w5.setCell ⟨W.heap.size, 0, none⟩ (.int .i64 4) = W6 at HX6 HR6 HB6
          have K4 := hide (C4.out W6 HR6.out)
          go_wp2_with fail
          clear p0 p1 p2 p3 p4 p5 p6 f0 f1 f2 f3 f4 f5 f6 hW6
          refine K4.out.mono ?_
          intro e w7 hk
          obtain ⟨rfl, hb⟩ := hk.2 k9
          exact ⟨rfl, atm_no (HB6.out.trans hb) HRB.out⟩
      · rw [if_neg k3]
        rw [decide_eq_false (show ¬ bt s (e1 + 1) ∈ [64] by simpa using k3)] at C3
        by_cases k5 : isDg (bt s (e1 + 1)) = true
        · rw [if_pos k5]
          have C4 := hide (fun Wx hx => HNO.out (e1 + 1) Wx hx k5)
          have hB4 := (numA_bd k5).1
          generalize numA s (e1 + 1) = o2 at C4 hB4 ⊢
          obtain ⟨m, e9⟩ := o2
          simp only [] at hB4 C4 ⊢
          go_enter Tryz.func55, Tryz.ntmps55
          go_wp2_with fail
          generalize hWa : W.alloc (.cells #[.int .i64 3, .int .i64 0, .int .i64 0, .int .i64 0, .int .i64 0, .int .i64 0, .slice none 0 0] 41) = Wa at HBU HBX HRA ⊢
          clear hWa
          have K1 := hide (C1.out Wa HRA.out)
          refine K1.out.mono ?_
          intro e w2 hk
          obtain ⟨rfl, hr, hb⟩ := hk.1 rfl
          have HB2 := hide (HBU.out.trans hb)
          have hx := bx7_but HBX.out hb HNE.out
          have HR2 := hide hr
          obtain ⟨⟨p0, p1, p2, p3, p4, p5, p6⟩, -⟩ := box7_cells hx
          obtain ⟨f0, f1, f2, f3, f4, f5, f6⟩ := box7_froz hx
          have HX3 : Hid (Bx7 ((w2.setCell ⟨W.heap.size, 3, none⟩ (.int .i64 (w1 : Int))).setCell ⟨W.heap.size, 1, none⟩ (.int .i64 (v1 : Int))) W.heap.size (.int .i64 3) (.int .i64 (v1 : Int)) (.int .i64 0) (.int .i64 (w1 : Int)) (.int .i64 0) (.int .i64 0) (.slice none 0 0)) := heap_setCell_at (k := 1) (v := .int .i64 (v1 : Int)) (heap_setCell_at (k := 3) (v := .int .i64 (w1 : Int)) hx)
          have HR3 := hide (rd_set (rd_set hr (p := ⟨W.heap.size, 3, none⟩) HNF.out (.int .i64 (w1 : Int))) (p := ⟨W.heap.size, 1, none⟩) HNF.out (.int .i64 (v1 : Int)))
          have HB3 := hide ((HB2.out.set (p := ⟨W.heap.size, 3, none⟩) (.inr (Nat.le_refl _)) (.int .i64 (w1 : Int))).set (p := ⟨W.heap.size, 1, none⟩) (.inr (Nat.le_refl _)) (.int .i64 (v1 : Int)))
          clear hr hb hx hk K1 HR2 HB2 HBU HBX HRA
          generalize hW3 : (w2.setCell ⟨W.heap.size, 3, none⟩ (.int .i64 (w1 : Int))).setCell ⟨W.heap.size, 1, none⟩ (.int .i64 (v1 : Int)) = W3 at HX3 HR3 HB3
          have K2 := hide (C2.out W3 HR3.out)
          go_wp2_with fail
          clear p0 p1 p2 p3 p4 p5 p6 f0 f1 f2 f3 f4 f5 f6 hW3
          refine K2.out.mono ?_
          rintro e w4 ⟨rfl, hr, hb⟩
          have HB4 := hide (HB3.out.trans hb)
          have HX4 := hide (bx7_but HX3.out hb HNE.out)
          have HR4 := hide hr
          clear hr hb K2 HB3 HX3 HR3
          have K3 := hide (C3.out w4 HR4.out)
          go_wp2_with fail
          refine K3.out.mono ?_
          rintro e w5 ⟨rfl, hb⟩
          have HB5 := hide (HB4.out.trans (But.of_below hb))
          have HX5 := hide (bx7_but HX4.out (But.of_below (X := [rb]) hb) HNE.out)
          have HR5 := hide (rd_below HR4.out hb)
          clear hb K3 HB4 HX4 HR4
          have K4 := hide (C4.out w5 HR5.out)
          go_wp2_with fail
          refine K4.out.mono ?_
          rintro e w7 ⟨rfl, hr, hb⟩
          have hx := bx7_but HX5.out hb HNE.out
          obtain ⟨⟨p0, p1, p2, p3, p4, p5, p6⟩, -⟩ := box7_cells hx
          obtain ⟨f0, f1, f2, f3, f4, f5, f6⟩ := box7_froz hx
          have HX8 : Hid (Bx7 (w7.setCell ⟨W.heap.size, 5, none⟩ (.int .i64 (m : Int))) W.heap.size (.int .i64 3) (.int .i64 (v1 : Int)) (.int .i64 0) (.int .i64 (w1 : Int)) (.int .i64 0) (.int .i64 (m : Int)) (.slice none 0 0)) := heap_setCell_at (k := 5) (v := .int .i64 (m : Int)) hx
          have HR8 := hide (rd_set hr (p := ⟨W.heap.size, 5, none⟩) HNF.out (.int .i64 (m : Int)))
          have HB8 := hide ((HB5.out.trans hb).set (p := ⟨W.heap.size, 5, none⟩) (.inr (Nat.le_refl _)) (.int .i64 (m : Int)))
          clear hr hb hx K4 HR5 HB5 HX5
          generalize hW8 : w7.setCell ⟨W.heap.size, 5, none⟩ (.int .i64 (m : Int)) = W8 at HX8 HR8 HB8
          obtain ⟨⟨q0, q1, q2, q3, q4, q5, q6⟩, -⟩ := box7_cells HX8.out
          have K9 := hide (HAD.out _ ⟨(3 : Nat), v1, (0 : Nat), w1, (0 : Nat), m, []⟩ W8 HR8.out HB8.out (ndWf_small (by omega)) rfl)
          unfold ndV at K9
          simp only [List.length_nil] at K9
          go_wp2_with fail
          clear hW8 p0 p1 p2 p3 p4 p5 p6 f0 f1 f2 f3 f4 f5 f6 q0 q1 q2 q3 q4 q5 q6
          refine K9.out.mono ?_
          rintro e w9 ⟨rfl, v9, hr, hn, hb⟩
          have HB9 := hide ((HB8.out.below (Nat.le_of_lt HRB.out) (by simp)).trans hb)
          have HR9 := hide hr
          have HN9 := hide hn
          clear hr hn hb K9
          go_wp2
          exact bodyPost_end (v := .tuple #[]) (by simp [results, Tryz.results55]) rfl ⟨fun n hn => ⟨rfl, _, HR9.out, (by injection hn with hn; subst hn; exact HN9.out), HB9.out⟩, (fun h => by cases h)⟩
        · rw [if_neg k5]
          have C4 := hide (fun Wx hx => HNN.out (e1 + 1) Wx hx k5)
          go_enter Tryz.func55, Tryz.ntmps55
          go_wp2_with fail
          generalize hWa : W.alloc (.cells #[.int .i64 3, .int .i64 0, .int .i64 0, .int .i64 0, .int .i64 0, .int .i64 0, .slice none 0 0] 41) = Wa at HBU HBX HRA ⊢
          clear hWa
          have K1 := hide (C1.out Wa HRA.out)
          refine K1.out.mono ?_
          intro e w2 hk
          obtain ⟨rfl, hr, hb⟩ := hk.1 rfl
          have HB2 := hide (HBU.out.trans hb)
          have hx := bx7_but HBX.out hb HNE.out
          have HR2 := hide hr
          obtain ⟨⟨p0, p1, p2, p3, p4, p5, p6⟩, -⟩ := box7_cells hx
          obtain ⟨f0, f1, f2, f3, f4, f5, f6⟩ := box7_froz hx
          have HX3 : Hid (Bx7 ((w2.setCell ⟨W.heap.size, 3, none⟩ (.int .i64 (w1 : Int))).setCell ⟨W.heap.size, 1, none⟩ (.int .i64 (v1 : Int))) W.heap.size (.int .i64 3) (.int .i64 (v1 : Int)) (.int .i64 0) (.int .i64 (w1 : Int)) (.int .i64 0) (.int .i64 0) (.slice none 0 0)) := heap_setCell_at (k := 1) (v := .int .i64 (v1 : Int)) (heap_setCell_at (k := 3) (v := .int .i64 (w1 : Int)) hx)
          have HR3 := hide (rd_set (rd_set hr (p := ⟨W.heap.size, 3, none⟩) HNF.out (.int .i64 (w1 : Int))) (p := ⟨W.heap.size, 1, none⟩) HNF.out (.int .i64 (v1 : Int)))
          have HB3 := hide ((HB2.out.set (p := ⟨W.heap.size, 3, none⟩) (.inr (Nat.le_refl _)) (.int .i64 (w1 : Int))).set (p := ⟨W.heap.size, 1, none⟩) (.inr (Nat.le_refl _)) (.int .i64 (v1 : Int)))
          clear hr hb hx hk K1 HR2 HB2 HBU HBX HRA
          generalize hW3 : (w2.setCell ⟨W.heap.size, 3, none⟩ (.int .i64 (w1 : Int))).setCell ⟨W.heap.size, 1, none⟩ (.int .i64 (v1 : Int)) = W3 at HX3 HR3 HB3
          have K2 := hide (C2.out W3 HR3.out)
          go_wp2_with fail
          clear p0 p1 p2 p3 p4 p5 p6 f0 f1 f2 f3 f4 f5 f6 hW3
          refine K2.out.mono ?_
          rintro e w4 ⟨rfl, hr, hb⟩
          have HB4 := hide (HB3.out.trans hb)
          have HX4 := hide (bx7_but HX3.out hb HNE.out)
          have HR4 := hide hr
          clear hr hb K2 HB3 HX3 HR3
          have K3 := hide (C3.out w4 HR4.out)
          go_wp2_with fail
          refine K3.out.mono ?_
          rintro e w5 ⟨rfl, hb⟩
          have HB5 := hide (HB4.out.trans (But.of_below hb))
          have HX5 := hide (bx7_but HX4.out (But.of_below (X := [rb]) hb) HNE.out)
          have HR5 := hide (rd_below HR4.out hb)
          clear hb K3 HB4 HX4 HR4
          have K4 := hide (C4.out w5 HR5.out)
          go_wp2_with fail
          refine K4.out.mono ?_
          rintro e w7 ⟨rfl, hb⟩
          exact ⟨rfl, atm_no (HB5.out.trans (But.of_below hb)) HRB.out⟩
    · rw [if_neg k2]
      have C2 := hide (fun Wx hx => HTN.out 61 e1 Wx hx (by decide) k2)
      go_enter Tryz.func55, Tryz.ntmps55
      go_wp2_with fail
      generalize hWa : W.alloc (.cells #[.int .i64 3, .int .i64 0, .int .i64 0, .int .i64 0, .int .i64 0, .int .i64 0, .slice none 0 0] 41) = Wa at HBU HBX HRA ⊢
      clear hWa
      have K1 := hide (C1.out Wa HRA.out)
      refine K1.out.mono ?_
      intro e w2 hk
      obtain ⟨rfl, hr, hb⟩ := hk.1 rfl
      have HB2 := hide (HBU.out.trans hb)
      have hx := bx7_but HBX.out hb HNE.out
      have HR2 := hide hr
      obtain ⟨⟨p0, p1, p2, p3, p4, p5, p6⟩, -⟩ := box7_cells hx
      obtain ⟨f0, f1, f2, f3, f4, f5, f6⟩ := box7_froz hx
      have HX3 : Hid (Bx7 ((w2.setCell ⟨W.heap.size, 3, none⟩ (.int .i64 (w1 : Int))).setCell ⟨W.heap.size, 1, none⟩ (.int .i64 (v1 : Int))) W.heap.size (.int .i64 3) (.int .i64 (v1 : Int)) (.int .i64 0) (.int .i64 (w1 : Int)) (.int .i64 0) (.int .i64 0) (.slice none 0 0)) := heap_setCell_at (k := 1) (v := .int .i64 (v1 : Int)) (heap_setCell_at (k := 3) (v := .int .i64 (w1 : Int)) hx)
      have HR3 := hide (rd_set (rd_set hr (p := ⟨W.heap.size, 3, none⟩) HNF.out (.int .i64 (w1 : Int))) (p := ⟨W.heap.size, 1, none⟩) HNF.out (.int .i64 (v1 : Int)))
      have HB3 := hide ((HB2.out.set (p := ⟨W.heap.size, 3, none⟩) (.inr (Nat.le_refl _)) (.int .i64 (w1 : Int))).set (p := ⟨W.heap.size, 1, none⟩) (.inr (Nat.le_refl _)) (.int .i64 (v1 : Int)))
      clear hr hb hx hk K1 HR2 HB2 HBU HBX HRA
      generalize hW3 : (w2.setCell ⟨W.heap.size, 3, none⟩ (.int .i64 (w1 : Int))).setCell ⟨W.heap.size, 1, none⟩ (.int .i64 (v1 : Int)) = W3 at HX3 HR3 HB3
      have K2 := hide (C2.out W3 HR3.out)
      go_wp2_with fail
      clear p0 p1 p2 p3 p4 p5 p6 f0 f1 f2 f3 f4 f5 f6 hW3
      refine K2.out.mono ?_
      rintro e w4 ⟨rfl, hb⟩
      exact ⟨rfl, atm_no (HB3.out.trans (But.of_below hb)) HRB.out⟩
  · rw [if_neg k1]
    go_enter Tryz.func55, Tryz.ntmps55
    go_wp2_with fail
    generalize hWa : W.alloc (.cells #[.int .i64 3, .int .i64 0, .int .i64 0, .int .i64 0, .int .i64 0, .int .i64 0, .slice none 0 0] 41) = Wa at HBU HBX HRA ⊢
    clear hWa
    have K1 := hide (C1.out Wa HRA.out)
    refine K1.out.mono ?_
    intro e w2 hk
    obtain ⟨rfl, hb⟩ := hk.2 k1
    exact ⟨rfl, atm_no (HBU.out.trans hb) HRB.out⟩
end Go.Proofs.YtafbggbdlcfbdaaGreatDoor

/- Package text: not, bound, from what claim does: contracts. -/
namespace Go.Proofs.YtafbggbdlcfbdaaGreatDoor
open Go.RowKit

/-- What reading a claim does. -/
def FmR (W : World) (rb : Nat) (s : List UInt8) (L : List Nd) (o : Option (List Nd) × Nat) (e : Ending) (w' : World) : Prop := (∀ l, o.1 = some l → e = .returned (.tuple #[]) ∧ ∃ v, RdAt w' rb s o.2 v ∧ NdR rb w' v (L ++ l) ∧ Below rb W w') ∧ (o.1 = none → e = .panicked [{ v := stopV o.2, recovered := false }] ∧ Below rb W w')
/-- What claim does at a place. -/
def ClmS (rb : Nat) (s : List UInt8) (f i : Nat) : Prop := ∀ (v : Value) (L : List Nd) (W : World), RdAt W rb s i v → NdR rb W v L → L.length ≤ i → Calls Tryz.prog 35 #[.pointer (some ⟨rb, 0, none⟩)] W (FmR W rb s L (formA s f i))
theorem fmR_no {W w' : World} {rb : Nat} {s : List UInt8} {L : List Nd} {e : Nat} (hb : Below rb W w') : FmR W rb s L (none, e) (.panicked [{ v := stopV e, recovered := false }]) w' := ⟨(fun n h => by cases h), fun _ => ⟨rfl, hb⟩⟩
/-- A claim behind a node. -/
theorem fmR_cons {W W1 w' : World} {rb : Nat} {s : List UInt8} {L : List Nd} {n : Nd} {o : Option (List Nd) × Nat} {e : Ending} (h : FmR W1 rb s (L ++ [n]) o e w') (hb : Below rb W W1) : FmR W rb s L (o.1.map (fun x => n :: x), o.2) e w' := by
  refine ⟨fun l hl => ?_, fun hl => ?_⟩
  · cases ho : o.1 with
    | none => rw [ho] at hl; cases hl
    | some x =>
      rw [ho] at hl
      injection hl with hl
      subst hl
      obtain ⟨h1, v, h2, h3, h4⟩ := h.1 x ho
      exact ⟨h1, v, h2, by rw [List.append_assoc] at h3; exact h3, hb.trans h4⟩
  · cases ho : o.1 with
    | none => exact ⟨(h.2 ho).1, hb.trans (h.2 ho).2⟩
    | some x => rw [ho] at hl; cases hl
/-- A call that hands on what a claim's reading came to. -/
theorem fmR_end {W w' : World} {rb : Nat} {s : List UInt8} {L : List Nd} {o : Option (List Nd) × Nat} {e : Ending} (h : FmR W rb s L o e w') : (e = .returned (.tuple #[]) ∧ o.1 ≠ none) ∨ (∃ c, e = .panicked c) := by
  cases ho : o.1 with
  | none => exact .inr ⟨_, (h.2 ho).1⟩
  | some x => exact .inl ⟨(h.1 x ho).1, by simp⟩
set_option maxHeartbeats 16000000 in
set_option maxRecDepth 20000 in
theorem not_of (s : List UInt8) (i rb f : Nat) (v : Value) (L : List Nd) (W : World) (h : RdAt W rb s i v) (hN : NdR rb W v L) (hL : L.length ≤ i) (hs : s.length ≤ 2000) (hb : bt s i = 126) (HI : ClmS rb s f (i + 1)) :
    Calls Tryz.prog 52 #[.pointer (some ⟨rb, 0, none⟩)] W (FmR W rb s L ((formA s f (i + 1)).1.map (fun x => ⟨5, 0, 0, 0, 0, 0, []⟩ :: x), (formA s f (i + 1)).2)) := by
  have hi : i < s.length := bt_in (by rw [hb]; decide)
  have hrb := rd_lt h
  have HT := hide (take_ok s [126] i rb v W h (by decide) hs (by rw [hb]; simp))
  have HAD := hide (fun Wx (hx : RdAt Wx rb s (i + 1) v) (hb : But [rb] W Wx) => add_any s (i + 1) rb v L ⟨5, 0, 0, 0, 0, 0, []⟩ none 0 Wx hx (ndR_but hN hb) (by omega) (ndWf_op (v := 0) (by omega) (by omega)) (sl_none Wx) (fun x hx => absurd hx (slB_none _ _)))
  unfold ndV at HAD
  simp only [List.length_nil] at HAD
  have HCL := hide (fun v' Wx (hx : RdAt Wx rb s (i + 1) v') (hn : NdR rb Wx v' (L ++ [⟨5, 0, 0, 0, 0, 0, []⟩])) => HI v' _ Wx hx hn (by simp; omega))
  have HRB := hide hrb
  generalize formA s f (i + 1) = o at HCL ⊢
  clear h hN hL hs hb HI hi hrb
  go_enter Tryz.func52, Tryz.ntmps52
  go_wp2_with fail
  refine HT.out.mono ?_
  rintro e w1 ⟨rfl, hr, hb⟩
  have B1 := hide (hb.below (Nat.le_of_lt HRB.out) (by simp))
  have K1 := hide (HAD.out w1 hr hb)
  clear hr hb HT
  go_wp2_with fail
  refine K1.out.mono ?_
  rintro e w2 ⟨rfl, v2, hr, hn, hb⟩
  have B2 := hide (B1.out.trans hb)
  have K2 := hide (HCL.out v2 w2 hr hn)
  clear hr hn hb K1
  go_wp2_with fail
  refine K2.out.mono ?_
  intro e w3 hf
  have HF := hide (fmR_cons hf B2.out)
  rcases fmR_end hf with ⟨rfl, -⟩ | ⟨c, rfl⟩
  · clear hf K2
    go_wp2
    exact bodyPost_end (v := .tuple #[]) (by simp [results, Tryz.results52]) rfl HF.out
  · exact ⟨rfl, HF.out⟩
set_option maxHeartbeats 16000000 in
set_option maxRecDepth 20000 in
theorem bound_of (s : List UInt8) (i rb f : Nat) (v : Value) (L : List Nd) (W : World) (h : RdAt W rb s i v) (hN : NdR rb W v L) (hL : L.length ≤ i) (hs : s.length ≤ 2000) (hb : bt s i = 69 ∨ bt s i = 65) (HI : i + 3 ≤ s.length → ClmS rb s f (i + 3)) :
    Calls Tryz.prog 54 #[.pointer (some ⟨rb, 0, none⟩)] W (FmR W rb s L (if isLt (bt s (i + 1)) = true then if bt s (i + 2) = 58 then ((formA s f (i + 3)).1.map (fun x => ⟨if bt s i = 65 then 9 else 8, ((bt s (i + 1)).toNat - 97 : Nat), 0, 0, 0, 0, []⟩ :: x), (formA s f (i + 3)).2) else (none, i + 2) else (none, i + 1))) := by
  have hi : i < s.length := bt_in (by rcases hb with h | h <;> rw [h] <;> decide)
  have hrb := rd_lt h
  have HNE : Hid (W.heap.size ∉ [rb]) := by show ¬ _; simp; omega
  have HNF : Hid (rb ≠ W.heap.size) := by show _ ≠ _; omega
  have HT := hide (fun Wx (hx : RdAt Wx rb s i v) => take_ok s [69, 65] i rb v Wx hx (by decide) hs (by rcases hb with h | h <;> rw [h] <;> simp))
  have HTO := hide (fun Wx (hx : RdAt Wx rb s (i + 2) v) (hb : bt s (i + 2) = 58) => take_ok s [58] (i + 2) rb v Wx hx (by decide) hs (by rw [hb]; simp))
  have HTN := hide (fun Wx (hx : RdAt Wx rb s (i + 2) v) (hb : ¬ bt s (i + 2) = 58) => take_no s [58] (i + 2) rb v Wx hx (by decide) (by simpa using hb))
  have HVO := hide (fun Wx (hx : RdAt Wx rb s (i + 1) v) (hd : isLt (bt s (i + 1)) = true) => variable_ok s (i + 1) rb v Wx hx hs hd)
  have HVN := hide (fun Wx (hx : RdAt Wx rb s (i + 1) v) (hd : ¬ isLt (bt s (i + 1)) = true) => variable_no s (i + 1) rb v Wx hx hd)
  have HAD := hide (fun (op : Int) (q : Nat) (ho : 1 ≤ op ∧ op ≤ 9) (hq : q ≤ 1000) Wx (hx : RdAt Wx rb s (i + 3) v) (hb : But [rb] W Wx) => add_any s (i + 3) rb v L ⟨op, (q : Nat), 0, 0, 0, 0, []⟩ none 0 Wx hx (ndR_but hN hb) (by omega) (ndWf_op ho hq) (sl_none Wx) (fun x hx => absurd hx (slB_none _ _)))
  unfold ndV at HAD
  simp only [List.length_nil] at HAD
  have HCL := hide (fun (h3 : i + 3 ≤ s.length) n v' Wx (hx : RdAt Wx rb s (i + 3) v') (hn : NdR rb Wx v' (L ++ [n])) => HI h3 v' _ Wx hx hn (by simp; omega))
  have hBU := (But.refl [rb] W).alloc (.cells #[.int .i64 8, .int .i64 0, .int .i64 0, .int .i64 0, .int .i64 0, .int .i64 0, .slice none 0 0] 41)
  have hbx : Bx7 (W.alloc (.cells #[.int .i64 8, .int .i64 0, .int .i64 0, .int .i64 0, .int .i64 0, .int .i64 0, .slice none 0 0] 41)) W.heap.size (.int .i64 8) (.int .i64 0) (.int .i64 0) (.int .i64 0) (.int .i64 0) (.int .i64 0) (.slice none 0 0) := heap_alloc_last W _
  have hra := rd_below h ((Below.refl W.heap.size W).alloc (Nat.le_refl _) (.cells #[.int .i64 8, .int .i64 0, .int .i64 0, .int .i64 0, .int .i64 0, .int .i64 0, .slice none 0 0] 41))
  have HBU := hide hBU
  have HBX := hide hbx
  have HRA := hide hra
  have HRB := hide hrb
  have HOP : Hid (∃ op : Int, (op = 8 ∨ op = 9) ∧ op = (if bt s i = 65 then 9 else 8) ∧ ((bt s i).toNat == 65) = decide (op = 9)) := by
    by_cases h : bt s i = 65
    · exact ⟨9, .inr rfl, (by rw [if_pos h]), (by rw [h]; rfl)⟩
    · exact ⟨8, .inl rfl, (by rw [if_neg h]), (by have hh : ¬ (bt s i).toNat = 65 := (fun e => h (UInt8.toNat_inj.1 e)); simp [hh])⟩
  obtain ⟨op, ho1, ho2, ho3⟩ := HOP.out
  rw [← ho2]
  have ho4 : (((bt s i).toNat : Int) == 65) = decide (op = 9) := by rw [← ho3]; exact Bool.eq_iff_iff.2 (by simp only [beq_iff_eq]; omega)
  generalize (bt s i).toNat = cc at HT ho4
  generalize formA s f (i + 3) = o at HCL ⊢
  clear h hN hL hs hb HI hi hrb hBU hbx hra ho2 ho3 HOP
  by_cases k1 : isLt (bt s (i + 1)) = true
  · rw [if_pos k1]
    have C1 := hide (fun Wx hx => HVO.out Wx hx k1)
    have hq : (bt s (i + 1)).toNat - 97 < 5 := by have := lt_bd k1; omega
    generalize (bt s (i + 1)).toNat - 97 = q at C1 hq ⊢
    by_cases k2 : bt s (i + 2) = 58
    · rw [if_pos k2]
      have C2 := hide (fun Wx hx => HTO.out Wx hx k2)
      have H3 : Hid (i + 3 ≤ s.length) := bt_in (s := s) (i := i + 2) (by rw [k2]; decide)
      rcases ho1 with rfl | rfl
      · skip
        go_enter Tryz.func54, Tryz.ntmps54
        go_wp2_with fail
        generalize hWa : W.alloc (.cells #[.int .i64 8, .int .i64 0, .int .i64 0, .int .i64 0, .int .i64 0, .int .i64 0, .slice none 0 0] 41) = Wa at HBU HBX HRA ⊢
        clear hWa
        have K1 := hide (HT.out Wa HRA.out)
        refine K1.out.mono ?_
        rintro e w2 ⟨rfl, hr, hb⟩
        have HB2 := hide (HBU.out.trans hb)
        have HX2 := hide (bx7_but HBX.out hb HNE.out)
        have HR2 := hide hr
        clear hr hb K1 HBU HBX HRA HT
        have HX3 := hide HX2.out
        have HR3 := hide HR2.out
        have HB3 := hide HB2.out
        clear HX2 HR2 HB2
        have K2 := hide (C1.out w2 HR3.out)
        go_wp2_with fail
        refine K2.out.mono ?_
        rintro e w4 ⟨rfl, hr, hb⟩
        have hx := bx7_but HX3.out hb HNE.out
        obtain ⟨⟨p0, p1, p2, p3, p4, p5, p6⟩, -⟩ := box7_cells hx
        obtain ⟨f0, f1, f2, f3, f4, f5, f6⟩ := box7_froz hx
        have HX5 : Hid (Bx7 (w4.setCell ⟨W.heap.size, 1, none⟩ (.int .i64 (q : Int))) W.heap.size (.int .i64 8) (.int .i64 (q : Int)) (.int .i64 0) (.int .i64 0) (.int .i64 0) (.int .i64 0) (.slice none 0 0)) := heap_setCell_at (k := 1) (v := .int .i64 (q : Int)) hx
        have HR5 := hide (rd_set hr (p := ⟨W.heap.size, 1, none⟩) HNF.out (.int .i64 (q : Int)))
        have HB5 := hide ((HB3.out.trans hb).set (p := ⟨W.heap.size, 1, none⟩) (.inr (Nat.le_refl _)) (.int .i64 (q : Int)))
        clear hr hb hx K2 HX3 HR3 HB3
        generalize hW5 : w4.setCell ⟨W.heap.size, 1, none⟩ (.int .i64 (q : Int)) = W5 at HX5 HR5 HB5
        have K3 := hide (C2.out W5 HR5.out)
        go_wp2_with fail
        clear p0 p1 p2 p3 p4 p5 p6 f0 f1 f2 f3 f4 f5 f6 hW5
        refine K3.out.mono ?_
        rintro e w6 ⟨rfl, hr, hb⟩
        have HX6 := hide (bx7_but HX5.out hb HNE.out)
        have HB6 := hide (HB5.out.trans hb)
        have B6 := hide (HB6.out.below (Nat.le_of_lt HRB.out) (by simp))
        have K4 := hide (HAD.out 8 q (by omega) (by omega) w6 hr HB6.out)
        clear hr hb K3 HX5 HR5 HB5
        obtain ⟨⟨p0, p1, p2, p3, p4, p5, p6⟩, -⟩ := box7_cells HX6.out
        go_wp2_with fail
        clear p0 p1 p2 p3 p4 p5 p6
        refine K4.out.mono ?_
        rintro e w7 ⟨rfl, v7, hr, hn, hb⟩
        have B7 := hide (B6.out.trans hb)
        have K5 := hide (HCL.out H3.out _ v7 w7 hr hn)
        clear hr hn hb K4 HX6 HB6 B6
        go_wp2_with fail
        refine K5.out.mono ?_
        intro e w8 hf
        have HF := hide (fmR_cons hf B7.out)
        rcases fmR_end hf with ⟨rfl, -⟩ | ⟨c, rfl⟩
        · clear hf K5
          go_wp2
          exact bodyPost_end (v := .tuple #[]) (by simp [results, Tryz.results54]) rfl HF.out
        · exact ⟨rfl, HF.out⟩
      · skip
        go_enter Tryz.func54, Tryz.ntmps54
        go_wp2_with fail
        generalize hWa : W.alloc (.cells #[.int .i64 8, .int .i64 0, .int .i64 0, .int .i64 0, .int .i64 0, .int .i64 0, .slice none 0 0] 41) = Wa at HBU HBX HRA ⊢
        clear hWa
        have K1 := hide (HT.out Wa HRA.out)
        refine K1.out.mono ?_
        rintro e w2 ⟨rfl, hr, hb⟩
        have HB2 := hide (HBU.out.trans hb)
        have HX2 := hide (bx7_but HBX.out hb HNE.out)
        have HR2 := hide hr
        clear hr hb K1 HBU HBX HRA HT
        obtain ⟨⟨p0, p1, p2, p3, p4, p5, p6⟩, -⟩ := box7_cells HX2.out
        obtain ⟨f0, f1, f2, f3, f4, f5, f6⟩ := box7_froz HX2.out
        have HX3 : Hid (Bx7 (w2.setCell ⟨W.heap.size, 0, none⟩ (.int .i64 9)) W.heap.size (.int .i64 9) (.int .i64 0) (.int .i64 0) (.int .i64 0) (.int .i64 0) (.int .i64 0) (.slice none 0 0)) := heap_setCell_at (k := 0) (v := .int .i64 9) HX2.out
        have HR3 := hide (rd_set HR2.out (p := ⟨W.heap.size, 0, none⟩) HNF.out (.int .i64 9))
        have HB3 := hide (HB2.out.set (p := ⟨W.heap.size, 0, none⟩) (.inr (Nat.le_refl _)) (.int .i64 9))
        clear HX2 HR2 HB2
        generalize hW3 : w2.setCell ⟨W.heap.size, 0, none⟩ (.int .i64 9) = W3 at HX3 HR3 HB3
        have K2 := hide (C1.out W3 HR3.out)
        go_wp2_with fail
        clear p0 p1 p2 p3 p4 p5 p6 f0 f1 f2 f3 f4 f5 f6 hW3
        refine K2.out.mono ?_
        rintro e w4 ⟨rfl, hr, hb⟩
        have hx := bx7_but HX3.out hb HNE.out
        obtain ⟨⟨p0, p1, p2, p3, p4, p5, p6⟩, -⟩ := box7_cells hx
        obtain ⟨f0, f1, f2, f3, f4, f5, f6⟩ := box7_froz hx
        have HX5 : Hid (Bx7 (w4.setCell ⟨W.heap.size, 1, none⟩ (.int .i64 (q : Int))) W.heap.size (.int .i64 9) (.int .i64 (q : Int)) (.int .i64 0) (.int .i64 0) (.int .i64 0) (.int .i64 0) (.slice none 0 0)) := heap_setCell_at (k := 1) (v := .int .i64 (q : Int)) hx
        have HR5 := hide (rd_set hr (p := ⟨W.heap.size, 1, none⟩) HNF.out (.int .i64 (q : Int)))
        have HB5 := hide ((HB3.out.trans hb).set (p := ⟨W.heap.size, 1, none⟩) (.inr (Nat.le_refl _)) (.int .i64 (q : Int)))
        clear hr hb hx K2 HX3 HR3 HB3
        generalize hW5 : w4.setCell ⟨W.heap.size, 1, none⟩ (.int .i64 (q : Int)) = W5 at HX5 HR5 HB5
        have K3 := hide (C2.out W5 HR5.out)
        go_wp2_with fail
        clear p0 p1 p2 p3 p4 p5 p6 f0 f1 f2 f3 f4 f5 f6 hW5
        refine K3.out.mono ?_
        rintro e w6 ⟨rfl, hr, hb⟩
        have HX6 := hide (bx7_but HX5.out hb HNE.out)
        have HB6 := hide (HB5.out.trans hb)
        have B6 := hide (HB6.out.below (Nat.le_of_lt HRB.out) (by simp))
        have K4 := hide (HAD.out 9 q (by omega) (by omega) w6 hr HB6.out)
        clear hr hb K3 HX5 HR5 HB5
        obtain ⟨⟨p0, p1, p2, p3, p4, p5, p6⟩, -⟩ := box7_cells HX6.out
        go_wp2_with fail
        clear p0 p1 p2 p3 p4 p5 p6
        refine K4.out.mono ?_
        rintro e w7 ⟨rfl, v7, hr, hn, hb⟩
        have B7 := hide (B6.out.trans hb)
        have K5 := hide (HCL.out H3.out _ v7 w7 hr hn)
        clear hr hn hb K4 HX6 HB6 B6
        go_wp2_with fail
        refine K5.out.mono ?_
        intro e w8 hf
        have HF := hide (fmR_cons hf B7.out)
        rcases fmR_end hf with ⟨rfl, -⟩ | ⟨c, rfl⟩
        · clear hf K5
          go_wp2
          exact bodyPost_end (v := .tuple #[]) (by simp [results, Tryz.results54]) rfl HF.out
        · exact ⟨rfl, HF.out⟩
    · rw [if_neg k2]
      have C2 := hide (fun Wx hx => HTN.out Wx hx k2)
      rcases ho1 with rfl | rfl
      · skip
        go_enter Tryz.func54, Tryz.ntmps54
        go_wp2_with fail
        generalize hWa : W.alloc (.cells #[.int .i64 8, .int .i64 0, .int .i64 0, .int .i64 0, .int .i64 0, .int .i64 0, .slice none 0 0] 41) = Wa at HBU HBX HRA ⊢
        clear hWa
        have K1 := hide (HT.out Wa HRA.out)
        refine K1.out.mono ?_
        rintro e w2 ⟨rfl, hr, hb⟩
        have HB2 := hide (HBU.out.trans hb)
        have HX2 := hide (bx7_but HBX.out hb HNE.out)
        have HR2 := hide hr
        clear hr hb K1 HBU HBX HRA HT
        have HX3 := hide HX2.out
        have HR3 := hide HR2.out
        have HB3 := hide HB2.out
        clear HX2 HR2 HB2
        have K2 := hide (C1.out w2 HR3.out)
        go_wp2_with fail
        refine K2.out.mono ?_
        rintro e w4 ⟨rfl, hr, hb⟩
        have hx := bx7_but HX3.out hb HNE.out
        obtain ⟨⟨p0, p1, p2, p3, p4, p5, p6⟩, -⟩ := box7_cells hx
        obtain ⟨f0, f1, f2, f3, f4, f5, f6⟩ := box7_froz hx
        have HX5 : Hid (Bx7 (w4.setCell ⟨W.heap.size, 1, none⟩ (.int .i64 (q : Int))) W.heap.size (.int .i64 8) (.int .i64 (q : Int)) (.int .i64 0) (.int .i64 0) (.int .i64 0) (.int .i64 0) (.slice none 0 0)) := heap_setCell_at (k := 1) (v := .int .i64 (q : Int)) hx
        have HR5 := hide (rd_set hr (p := ⟨W.heap.size, 1, none⟩) HNF.out (.int .i64 (q : Int)))
        have HB5 := hide ((HB3.out.trans hb).set (p := ⟨W.heap.size, 1, none⟩) (.inr (Nat.le_refl _)) (.int .i64 (q : Int)))
        clear hr hb hx K2 HX3 HR3 HB3
        generalize hW5 : w4.setCell ⟨W.heap.size, 1, none⟩ (.int .i64 (q : Int)) = W5 at HX5 HR5 HB5
        have K3 := hide (C2.out W5 HR5.out)
        go_wp2_with fail
        clear p0 p1 p2 p3 p4 p5 p6 f0 f1 f2 f3 f4 f5 f6 hW5
        refine K3.out.mono ?_
        rintro e w6 ⟨rfl, hb⟩
        exact ⟨rfl, fmR_no ((HB5.out.trans (But.of_below hb)).below (Nat.le_of_lt HRB.out) (by simp))⟩
      · skip
        go_enter Tryz.func54, Tryz.ntmps54
        go_wp2_with fail
        generalize hWa : W.alloc (.cells #[.int .i64 8, .int .i64 0, .int .i64 0, .int .i64 0, .int .i64 0, .int .i64 0, .slice none 0 0] 41) = Wa at HBU HBX HRA ⊢
        clear hWa
        have K1 := hide (HT.out Wa HRA.out)
        refine K1.out.mono ?_
        rintro e w2 ⟨rfl, hr, hb⟩
        have HB2 := hide (HBU.out.trans hb)
        have HX2 := hide (bx7_but HBX.out hb HNE.out)
        have HR2 := hide hr
        clear hr hb K1 HBU HBX HRA HT
        obtain ⟨⟨p0, p1, p2, p3, p4, p5, p6⟩, -⟩ := box7_cells HX2.out
        obtain ⟨f0, f1, f2, f3, f4, f5, f6⟩ := box7_froz HX2.out
        have HX3 : Hid (Bx7 (w2.setCell ⟨W.heap.size, 0, none⟩ (.int .i64 9)) W.heap.size (.int .i64 9) (.int .i64 0) (.int .i64 0) (.int .i64 0) (.int .i64 0) (.int .i64 0) (.slice none 0 0)) := heap_setCell_at (k := 0) (v := .int .i64 9) HX2.out
        have HR3 := hide (rd_set HR2.out (p := ⟨W.heap.size, 0, none⟩) HNF.out (.int .i64 9))
        have HB3 := hide (HB2.out.set (p := ⟨W.heap.size, 0, none⟩) (.inr (Nat.le_refl _)) (.int .i64 9))
        clear HX2 HR2 HB2
        generalize hW3 : w2.setCell ⟨W.heap.size, 0, none⟩ (.int .i64 9) = W3 at HX3 HR3 HB3
        have K2 := hide (C1.out W3 HR3.out)
        go_wp2_with fail
        clear p0 p1 p2 p3 p4 p5 p6 f0 f1 f2 f3 f4 f5 f6 hW3
        refine K2.out.mono ?_
        rintro e w4 ⟨rfl, hr, hb⟩
        have hx := bx7_but HX3.out hb HNE.out
        obtain ⟨⟨p0, p1, p2, p3, p4, p5, p6⟩, -⟩ := box7_cells hx
        obtain ⟨f0, f1, f2, f3, f4, f5, f6⟩ := box7_froz hx
        have HX5 : Hid (Bx7 (w4.setCell ⟨W.heap.size, 1, none⟩ (.int .i64 (q : Int))) W.heap.size (.int .i64 9) (.int .i64 (q : Int)) (.int .i64 0) (.int .i64 0) (.int .i64 0) (.int .i64 0) (.slice none 0 0)) := heap_setCell_at (k := 1) (v := .int .i64 (q : Int)) hx
        have HR5 := hide (rd_set hr (p := ⟨W.heap.size, 1, none⟩) HNF.out (.int .i64 (q : Int)))
        have HB5 := hide ((HB3.out.trans hb).set (p := ⟨W.heap.size, 1, none⟩) (.inr (Nat.le_refl _)) (.int .i64 (q : Int)))
        clear hr hb hx K2 HX3 HR3 HB3
        generalize hW5 : w4.setCell ⟨W.heap.size, 1, none⟩ (.int .i64 (q : Int)) = W5 at HX5 HR5 HB5
        have K3 := hide (C2.out W5 HR5.out)
        go_wp2_with fail
        clear p0 p1 p2 p3 p4 p5 p6 f0 f1 f2 f3 f4 f5 f6 hW5
        refine K3.out.mono ?_
        rintro e w6 ⟨rfl, hb⟩
        exact ⟨rfl, fmR_no ((HB5.out.trans (But.of_below hb)).below (Nat.le_of_lt HRB.out) (by simp))⟩
  · rw [if_neg k1]
    have C1 := hide (fun Wx hx => HVN.out Wx hx k1)
    rcases ho1 with rfl | rfl
    · skip
      go_enter Tryz.func54, Tryz.ntmps54
      go_wp2_with fail
      generalize hWa : W.alloc (.cells #[.int .i64 8, .int .i64 0, .int .i64 0, .int .i64 0, .int .i64 0, .int .i64 0, .slice none 0 0] 41) = Wa at HBU HBX HRA ⊢
      clear hWa
      have K1 := hide (HT.out Wa HRA.out)
      refine K1.out.mono ?_
      rintro e w2 ⟨rfl, hr, hb⟩
      have HB2 := hide (HBU.out.trans hb)
      have HX2 := hide (bx7_but HBX.out hb HNE.out)
      have HR2 := hide hr
      clear hr hb K1 HBU HBX HRA HT
      have HX3 := hide HX2.out
      have HR3 := hide HR2.out
      have HB3 := hide HB2.out
      clear HX2 HR2 HB2
      have K2 := hide (C1.out w2 HR3.out)
      go_wp2_with fail
      refine K2.out.mono ?_
      rintro e w4 ⟨rfl, hb⟩
      exact ⟨rfl, fmR_no ((HB3.out.trans (But.of_below hb)).below (Nat.le_of_lt HRB.out) (by simp))⟩
    · skip
      go_enter Tryz.func54, Tryz.ntmps54
      go_wp2_with fail
      generalize hWa : W.alloc (.cells #[.int .i64 8, .int .i64 0, .int .i64 0, .int .i64 0, .int .i64 0, .int .i64 0, .slice none 0 0] 41) = Wa at HBU HBX HRA ⊢
      clear hWa
      have K1 := hide (HT.out Wa HRA.out)
      refine K1.out.mono ?_
      rintro e w2 ⟨rfl, hr, hb⟩
      have HB2 := hide (HBU.out.trans hb)
      have HX2 := hide (bx7_but HBX.out hb HNE.out)
      have HR2 := hide hr
      clear hr hb K1 HBU HBX HRA HT
      obtain ⟨⟨p0, p1, p2, p3, p4, p5, p6⟩, -⟩ := box7_cells HX2.out
      obtain ⟨f0, f1, f2, f3, f4, f5, f6⟩ := box7_froz HX2.out
      have HX3 : Hid (Bx7 (w2.setCell ⟨W.heap.size, 0, none⟩ (.int .i64 9)) W.heap.size (.int .i64 9) (.int .i64 0) (.int .i64 0) (.int .i64 0) (.int .i64 0) (.int .i64 0) (.slice none 0 0)) := heap_setCell_at (k := 0) (v := .int .i64 9) HX2.out
      have HR3 := hide (rd_set HR2.out (p := ⟨W.heap.size, 0, none⟩) HNF.out (.int .i64 9))
      have HB3 := hide (HB2.out.set (p := ⟨W.heap.size, 0, none⟩) (.inr (Nat.le_refl _)) (.int .i64 9))
      clear HX2 HR2 HB2
      generalize hW3 : w2.setCell ⟨W.heap.size, 0, none⟩ (.int .i64 9) = W3 at HX3 HR3 HB3
      have K2 := hide (C1.out W3 HR3.out)
      go_wp2_with fail
      clear p0 p1 p2 p3 p4 p5 p6 f0 f1 f2 f3 f4 f5 f6 hW3
      refine K2.out.mono ?_
      rintro e w4 ⟨rfl, hb⟩
      exact ⟨rfl, fmR_no ((HB3.out.trans (But.of_below hb)).below (Nat.le_of_lt HRB.out) (by simp))⟩
end Go.Proofs.YtafbggbdlcfbdaaGreatDoor

/- Package text: both, from what claim does: contract. -/
namespace Go.Proofs.YtafbggbdlcfbdaaGreatDoor
open Go.RowKit

theorem ndR_form {rb : Nat} {W : World} {v : Value} {L : List Nd} (h : NdR rb W v L) : ∃ a c, v = .slice a L.length c := by
  obtain ⟨vals, h1, -⟩ := h
  rcases h1.2 with ⟨e, h0⟩ | ⟨g, cap, cur, e, -⟩
  · exact ⟨none, 0, by rw [e, h0]⟩
  · exact ⟨_, cap, e⟩
/-- The kind of a node that is there is put down anew. -/
theorem ndR_op {rb : Nat} {W : World} {v : Value} {L1 L2 : List Nd} {m : Nd} (h : NdR rb W v (L1 ++ m :: L2)) (op : Int) (hw : ndWf { m with op := op }) : ∃ g cap, v = .slice (some ⟨g, 0, none⟩) (L1 ++ m :: L2).length cap ∧ rb < g ∧ (∃ u, W.cell? ⟨g, L1.length * 7, none⟩ = some u) ∧ W.frozen? ⟨g, L1.length * 7, none⟩ = false ∧ NdR rb (W.setCell ⟨g, L1.length * 7, none⟩ (.int .i64 op)) v (L1 ++ { m with op := op } :: L2) := by
  obtain ⟨vals, h1, h2, h3⟩ := h
  have hlen : (L1 ++ m :: L2).length = L1.length + (L2.length + 1) := by simp
  rcases h1.2 with ⟨e, h0⟩ | ⟨g, cap, cur, e, hg, hh, hc, hcm, hcs, ht⟩
  · omega
  · have hvl := h1.1
    have hpos : L1.length * 7 < cur.size := by omega
    refine ⟨g, cap, e, by omega, ⟨cur[L1.length * 7], ?_⟩, by simp [World.frozen?, hh], ?_⟩
    · rw [cell_of_row W g (L1.length * 7) cur 41 (0, 0) hh, Array.getElem?_eq_getElem hpos]
    · have hset := heap_setCell_at (k := L1.length * 7) (v := .int .i64 op) hh
      refine ⟨vals.set (L1.length * 7) (.int .i64 op), ⟨by rw [List.length_set, hvl]; simp, .inr ⟨g, cap, _, by rw [e]; simp, hg, hset, by simp at hc ⊢; omega, hcm, by simpa using hcs, ?_⟩⟩, fun n hn => ?_, fun j hj => ?_⟩
      · rw [Array.toList_setIfInBounds, List.take_set, ← ht]
        simp
      · rcases List.mem_append.1 hn with hn | hn
        · exact h2 n (List.mem_append.2 (.inl hn))
        · rcases List.mem_cons.1 hn with rfl | hn
          · exact hw
          · exact h2 n (List.mem_append.2 (.inr (List.mem_cons.2 (.inr hn))))
      · obtain ⟨a, c, e1, e2, e3⟩ := h3 j (by simpa using hj)
        have hcf : ((L1 ++ { m with op := op } :: L2).getD j zNd).cf = ((L1 ++ m :: L2).getD j zNd).cf := by
          simp only [List.getD_eq_getElem?_getD]
          by_cases q : j < L1.length
          · rw [List.getElem?_append_left q, List.getElem?_append_left q]
          · rw [List.getElem?_append_right (by omega), List.getElem?_append_right (by omega)]
            cases j - L1.length with
            | zero => rfl
            | succ k => rfl
        rw [hcf]
        refine ⟨a, c, fun i hi => ?_, sl_keep e2 (fun x hx => Below.heap_setCell _ _ _ _ (fun eq => (e3 x hx).2 (by rw [e]; simp [Value.ownBlock]; exact eq.symm))), fun x hx => ?_⟩
        · rw [List.getElem?_set]
          by_cases q : j = L1.length
          · subst q
            have en : (L1 ++ m :: L2).getD L1.length zNd = m := by simp [List.getD]
            have en2 : (L1 ++ { m with op := op } :: L2).getD L1.length zNd = { m with op := op } := by simp [List.getD]
            have e1 := e1 i hi
            rw [en] at e1
            rw [en2]
            by_cases q0 : i = 0
            · subst q0
              rw [if_pos (by omega), if_pos (by omega)]
              rfl
            · rw [if_neg (by omega), e1]
              obtain ⟨k, rfl⟩ : ∃ k, i = k + 1 := ⟨i - 1, by omega⟩
              rfl
          · rw [if_neg (by omega), e1 i hi]
            have en : (L1 ++ { m with op := op } :: L2).getD j zNd = (L1 ++ m :: L2).getD j zNd := by
              simp only [List.getD_eq_getElem?_getD]
              by_cases q' : j < L1.length
              · rw [List.getElem?_append_left q', List.getElem?_append_left q']
              · rw [List.getElem?_append_right (by omega), List.getElem?_append_right (by omega)]
                obtain ⟨k, hk⟩ : ∃ k, j - L1.length = k + 1 := ⟨j - L1.length - 1, by omega⟩
                rw [hk]
                rfl
            rw [en]
        · exact e3 x hx
/-- Two claims. -/
def bothA (s : List UInt8) (f i : Nat) : Option (List Nd) × Nat :=
      match formA s f (i + 1) with
      | (none, e) => (none, e)
      | (some x, e) =>
        if bt s e = 124 ∨ bt s e = 38 then
          match formA s f (e + 1) with
          | (none, e2) => (none, e2)
          | (some y, e2) => if bt s e2 = 41 then (some (⟨if bt s e = 124 then 7 else 6, 0, 0, 0, 0, 0, []⟩ :: (x ++ y)), e2 + 1) else (none, e2)
        else (none, e)
set_option maxHeartbeats 16000000 in
set_option maxRecDepth 20000 in
theorem both_of (s : List UInt8) (i rb f : Nat) (v : Value) (L : List Nd) (W : World) (h : RdAt W rb s i v) (hN : NdR rb W v L) (hL : L.length ≤ i) (hs : s.length ≤ 2000) (hb : bt s i = 40) (HI : ∀ j, i < j → j ≤ s.length → ClmS rb s f j) :
    Calls Tryz.prog 53 #[.pointer (some ⟨rb, 0, none⟩)] W (FmR W rb s L (bothA s f i)) := by
  have hi : i < s.length := bt_in (by rw [hb]; decide)
  have hrb := rd_lt h
  obtain ⟨a0, c0, rfl⟩ := ndR_form hN
  have HT := hide (take_ok s [40] i rb _ W h (by decide) hs (by rw [hb]; simp))
  have HAD := hide (fun Wx (hx : RdAt Wx rb s (i + 1) (.slice a0 L.length c0)) (hb : But [rb] W Wx) => add_any s (i + 1) rb _ L ⟨6, 0, 0, 0, 0, 0, []⟩ none 0 Wx hx (ndR_but hN hb) (by omega) (ndWf_op (v := 0) (by omega) (by omega)) (sl_none Wx) (fun x hx => absurd hx (slB_none _ _)))
  unfold ndV at HAD
  simp only [List.length_nil] at HAD
  have HCL := hide (fun v' Wx (hx : RdAt Wx rb s (i + 1) v') (hn : NdR rb Wx v' (L ++ [⟨6, 0, 0, 0, 0, 0, []⟩])) => HI (i + 1) (by omega) hi v' _ Wx hx hn (by simp; omega))
  have HRB := hide hrb
  have hb1 := formA_bd s f (i + 1) hi
  have hl1 := formA_len s f (i + 1) hi
  unfold bothA
  generalize formA s f (i + 1) = o1 at HCL hb1 hl1 ⊢
  obtain ⟨o1x, e1⟩ := o1
  simp only [] at hb1 hl1
  rcases o1x with _ | x
  · clear h hN hL hs hb HI hi hrb hb1 hl1
    simp only []
    go_enter Tryz.func53, Tryz.ntmps53
    go_wp2_with fail
    refine HT.out.mono ?_
    rintro e w1 ⟨rfl, hr, hb⟩
    obtain ⟨⟨c0, c1, c2⟩, -⟩ := rd_cells hr
    have B1 := hide (hb.below (Nat.le_of_lt HRB.out) (by simp))
    have K1 := hide (HAD.out w1 hr hb)
    clear hr hb HT
    go_wp2_with fail
    clear c0 c1 c2
    refine K1.out.mono ?_
    rintro e w2 ⟨rfl, v2, hr, hn, hb⟩
    have B2 := hide (B1.out.trans hb)
    have K2 := hide (HCL.out v2 w2 hr hn)
    clear hr hn hb K1 B1
    go_wp2_with fail
    refine K2.out.mono ?_
    intro e w3 hf
    obtain ⟨rfl, hb⟩ := hf.2 rfl
    exact ⟨rfl, fmR_no (B2.out.trans hb)⟩
  · have hx1 := hl1 x rfl
    simp only [] at hx1 ⊢
    have HTO := hide (fun v Wx (hx : RdAt Wx rb s e1 v) (hb : bt s e1 = 124 ∨ bt s e1 = 38) => take_ok s [38, 124] e1 rb v Wx hx (by decide) hs (by rcases hb with hb | hb <;> rw [hb] <;> simp))
    have HTN := hide (fun v Wx (hx : RdAt Wx rb s e1 v) (hb : ¬ (bt s e1 = 124 ∨ bt s e1 = 38)) => take_no s [38, 124] e1 rb v Wx hx (by decide) (by simp only [List.mem_cons, List.not_mem_nil, or_false]; exact fun h => hb (h.elim .inr .inl)))
    by_cases k2 : bt s e1 = 124 ∨ bt s e1 = 38
    · rw [if_pos k2]
      have he1 : e1 < s.length := bt_in (by rcases k2 with h | h <;> rw [h] <;> decide)
      have C2 := hide (fun v Wx hx => HTO.out v Wx hx k2)
      have HC3 := hide (fun (op : Int) v' Wx (hx : RdAt Wx rb s (e1 + 1) v') (hn : NdR rb Wx v' (L ++ ⟨op, 0, 0, 0, 0, 0, []⟩ :: x)) => HI (e1 + 1) (by omega) he1 v' _ Wx hx hn (by simp; omega))
      have HOP : Hid (∃ op : Int, (op = 6 ∨ op = 7) ∧ op = (if bt s e1 = 124 then 7 else 6) ∧ ((bt s e1).toNat == 124) = decide (op = 7)) := by
        by_cases h : bt s e1 = 124
        · exact ⟨7, .inr rfl, (by rw [if_pos h]), (by rw [h]; rfl)⟩
        · exact ⟨6, .inl rfl, (by rw [if_neg h]), (by have hh : ¬ (bt s e1).toNat = 124 := (fun e => h (UInt8.toNat_inj.1 e)); simp [hh])⟩
      obtain ⟨op, ho1, ho2, ho3⟩ := HOP.out
      rw [← ho2]
      have ho4 : (((bt s e1).toNat : Int) == 124) = decide (op = 7) := by rw [← ho3]; exact Bool.eq_iff_iff.2 (by simp only [beq_iff_eq]; omega)
      generalize (bt s e1).toNat = cc at C2 ho4
      have hb2 := formA_bd s f (e1 + 1) he1
      generalize formA s f (e1 + 1) = o2 at HC3 hb2 ⊢
      obtain ⟨o2x, e2⟩ := o2
      simp only [] at hb2
      have HTP := hide (fun v Wx (hx : RdAt Wx rb s e2 v) (hb : bt s e2 = 41) => take_ok s [41] e2 rb v Wx hx (by decide) hs (by rw [hb]; simp))
      have HTQ := hide (fun v Wx (hx : RdAt Wx rb s e2 v) (hb : ¬ bt s e2 = 41) => take_no s [41] e2 rb v Wx hx (by decide) (by simpa using hb))
      have HLN : Hid ((L.length : Int) < ((L ++ ⟨6, 0, 0, 0, 0, 0, []⟩ :: x).length : Int) ∧ 0 ≤ (L.length : Int) ∧ (L.length : Int) < 2000) := by
        refine ⟨?_, ?_, ?_⟩
        · simp; omega
        · omega
        · omega
      clear h hN hL hs hb HI hi hrb hb1 hl1 hx1 ho2 ho3 HOP HTO HTN k2
      rcases ho1 with rfl | rfl
      · rcases o2x with _ | y
        · simp only []
          go_enter Tryz.func53, Tryz.ntmps53
          go_wp2_with fail
          refine HT.out.mono ?_
          rintro e w1 ⟨rfl, hr, hb⟩
          obtain ⟨⟨c0, c1, c2⟩, -⟩ := rd_cells hr
          have B1 := hide (hb.below (Nat.le_of_lt HRB.out) (by simp))
          have K1 := hide (HAD.out w1 hr hb)
          clear hr hb HT
          go_wp2_with fail
          clear c0 c1 c2
          refine K1.out.mono ?_
          rintro e w2 ⟨rfl, v2, hr, hn, hb⟩
          have B2 := hide (B1.out.trans hb)
          have K2 := hide (HCL.out v2 w2 hr hn)
          clear hr hn hb K1 B1
          go_wp2_with fail
          refine K2.out.mono ?_
          intro e w3 hf
          obtain ⟨rfl, v3, hr, hn, hb⟩ := hf.1 x rfl
          have hn : NdR rb w3 v3 (L ++ ⟨6, 0, 0, 0, 0, 0, []⟩ :: x) := by rw [List.append_assoc] at hn; exact hn
          have B3 := hide (B2.out.trans hb)
          have N3 := hide hn
          have R3 := hide hr
          have K3 := hide (C2.out v3 w3 hr)
          have HRB3 := hide (rd_lt hr)
          clear hr hn hb hf K2 B2 HRB
          go_wp2_with fail
          refine K3.out.mono ?_
          rintro e w4 ⟨rfl, hr, hb⟩
          have B4 := hide (B3.out.trans (hb.below (Nat.le_of_lt HRB3.out) (by simp)))
          have N4 := hide (ndR_but N3.out hb)
          have R4 := hide hr
          clear hr hb K3 B3 N3 R3
          have K4 := hide (HC3.out 6 v3 w4 R4.out N4.out)
          go_wp2_with fail
          refine K4.out.mono ?_
          intro e w6 hf
          have B5 := hide B4.out
          obtain ⟨rfl, hb⟩ := hf.2 rfl
          exact ⟨rfl, fmR_no (B5.out.trans hb)⟩
        · simp only []
          by_cases k5 : bt s e2 = 41
          · rw [if_pos k5]
            have C5 := hide (fun v Wx hx => HTP.out v Wx hx k5)
            go_enter Tryz.func53, Tryz.ntmps53
            go_wp2_with fail
            refine HT.out.mono ?_
            rintro e w1 ⟨rfl, hr, hb⟩
            obtain ⟨⟨c0, c1, c2⟩, -⟩ := rd_cells hr
            have B1 := hide (hb.below (Nat.le_of_lt HRB.out) (by simp))
            have K1 := hide (HAD.out w1 hr hb)
            clear hr hb HT
            go_wp2_with fail
            clear c0 c1 c2
            refine K1.out.mono ?_
            rintro e w2 ⟨rfl, v2, hr, hn, hb⟩
            have B2 := hide (B1.out.trans hb)
            have K2 := hide (HCL.out v2 w2 hr hn)
            clear hr hn hb K1 B1
            go_wp2_with fail
            refine K2.out.mono ?_
            intro e w3 hf
            obtain ⟨rfl, v3, hr, hn, hb⟩ := hf.1 x rfl
            have hn : NdR rb w3 v3 (L ++ ⟨6, 0, 0, 0, 0, 0, []⟩ :: x) := by rw [List.append_assoc] at hn; exact hn
            have B3 := hide (B2.out.trans hb)
            have N3 := hide hn
            have R3 := hide hr
            have K3 := hide (C2.out v3 w3 hr)
            have HRB3 := hide (rd_lt hr)
            clear hr hn hb hf K2 B2 HRB
            go_wp2_with fail
            refine K3.out.mono ?_
            rintro e w4 ⟨rfl, hr, hb⟩
            have B4 := hide (B3.out.trans (hb.below (Nat.le_of_lt HRB3.out) (by simp)))
            have N4 := hide (ndR_but N3.out hb)
            have R4 := hide hr
            clear hr hb K3 B3 N3 R3
            have K4 := hide (HC3.out 6 v3 w4 R4.out N4.out)
            go_wp2_with fail
            refine K4.out.mono ?_
            intro e w6 hf
            have B5 := hide B4.out
            obtain ⟨rfl, v6, hr, hn, hb⟩ := hf.1 y rfl
            have B6 := hide (B5.out.trans hb)
            have N6 := hide hn
            have HRB6 := hide (rd_lt hr)
            have K5 := hide (C5.out v6 w6 hr)
            clear hr hn hb hf K4
            go_wp2_with fail
            refine K5.out.mono ?_
            rintro e w7 ⟨rfl, hr, hb⟩
            have R7 := hide hr
            have N7 := hide (ndR_but N6.out hb)
            have B7 := hide (B6.out.trans (hb.below (Nat.le_of_lt HRB6.out) (by simp)))
            clear hr hb K5 N6 B6
            go_wp2
            exact bodyPost_end (v := .tuple #[]) (by simp [results, Tryz.results53]) rfl ⟨fun n hn => ⟨rfl, _, R7.out, (by injection hn with hn; subst hn; have h7 := N7.out; rw [List.append_assoc] at h7; exact h7), B7.out⟩, (fun h => by cases h)⟩
          · rw [if_neg k5]
            have C5 := hide (fun v Wx hx => HTQ.out v Wx hx k5)
            go_enter Tryz.func53, Tryz.ntmps53
            go_wp2_with fail
            refine HT.out.mono ?_
            rintro e w1 ⟨rfl, hr, hb⟩
            obtain ⟨⟨c0, c1, c2⟩, -⟩ := rd_cells hr
            have B1 := hide (hb.below (Nat.le_of_lt HRB.out) (by simp))
            have K1 := hide (HAD.out w1 hr hb)
            clear hr hb HT
            go_wp2_with fail
            clear c0 c1 c2
            refine K1.out.mono ?_
            rintro e w2 ⟨rfl, v2, hr, hn, hb⟩
            have B2 := hide (B1.out.trans hb)
            have K2 := hide (HCL.out v2 w2 hr hn)
            clear hr hn hb K1 B1
            go_wp2_with fail
            refine K2.out.mono ?_
            intro e w3 hf
            obtain ⟨rfl, v3, hr, hn, hb⟩ := hf.1 x rfl
            have hn : NdR rb w3 v3 (L ++ ⟨6, 0, 0, 0, 0, 0, []⟩ :: x) := by rw [List.append_assoc] at hn; exact hn
            have B3 := hide (B2.out.trans hb)
            have N3 := hide hn
            have R3 := hide hr
            have K3 := hide (C2.out v3 w3 hr)
            have HRB3 := hide (rd_lt hr)
            clear hr hn hb hf K2 B2 HRB
            go_wp2_with fail
            refine K3.out.mono ?_
            rintro e w4 ⟨rfl, hr, hb⟩
            have B4 := hide (B3.out.trans (hb.below (Nat.le_of_lt HRB3.out) (by simp)))
            have N4 := hide (ndR_but N3.out hb)
            have R4 := hide hr
            clear hr hb K3 B3 N3 R3
            have K4 := hide (HC3.out 6 v3 w4 R4.out N4.out)
            go_wp2_with fail
            refine K4.out.mono ?_
            intro e w6 hf
            have B5 := hide B4.out
            obtain ⟨rfl, v6, hr, hn, hb⟩ := hf.1 y rfl
            have B6 := hide (B5.out.trans hb)
            have N6 := hide hn
            have HRB6 := hide (rd_lt hr)
            have K5 := hide (C5.out v6 w6 hr)
            clear hr hn hb hf K4
            go_wp2_with fail
            refine K5.out.mono ?_
            rintro e w7 ⟨rfl, hb⟩
            exact ⟨rfl, fmR_no (B6.out.trans (hb.mono (Nat.le_of_lt HRB6.out)))⟩
      · rcases o2x with _ | y
        · simp only []
          go_enter Tryz.func53, Tryz.ntmps53
          go_wp2_with fail
          refine HT.out.mono ?_
          rintro e w1 ⟨rfl, hr, hb⟩
          obtain ⟨⟨c0, c1, c2⟩, -⟩ := rd_cells hr
          have B1 := hide (hb.below (Nat.le_of_lt HRB.out) (by simp))
          have K1 := hide (HAD.out w1 hr hb)
          clear hr hb HT
          go_wp2_with fail
          clear c0 c1 c2
          refine K1.out.mono ?_
          rintro e w2 ⟨rfl, v2, hr, hn, hb⟩
          have B2 := hide (B1.out.trans hb)
          have K2 := hide (HCL.out v2 w2 hr hn)
          clear hr hn hb K1 B1
          go_wp2_with fail
          refine K2.out.mono ?_
          intro e w3 hf
          obtain ⟨rfl, v3, hr, hn, hb⟩ := hf.1 x rfl
          have hn : NdR rb w3 v3 (L ++ ⟨6, 0, 0, 0, 0, 0, []⟩ :: x) := by rw [List.append_assoc] at hn; exact hn
          have B3 := hide (B2.out.trans hb)
          have N3 := hide hn
          have R3 := hide hr
          have K3 := hide (C2.out v3 w3 hr)
          have HRB3 := hide (rd_lt hr)
          clear hr hn hb hf K2 B2 HRB
          go_wp2_with fail
          refine K3.out.mono ?_
          rintro e w4 ⟨rfl, hr, hb⟩
          have B4 := hide (B3.out.trans (hb.below (Nat.le_of_lt HRB3.out) (by simp)))
          have N4 := hide (ndR_but N3.out hb)
          have R4 := hide hr
          clear hr hb K3 B3 N3 R3
          obtain ⟨g, cap, hv, hg, ⟨u, hcu⟩, hfu, hn⟩ := ndR_op N4.out 7 (ndWf_op (v := 0) (by omega) (by omega))
          subst hv
          obtain ⟨⟨c0, c1, c2⟩, -⟩ := rd_cells R4.out
          obtain ⟨ln1, ln2, ln3⟩ := HLN.out
          have R5 := hide (rd_set R4.out (p := ⟨g, L.length * 7, none⟩) (show rb ≠ g by omega) (.int .i64 7))
          have N5 := hide hn
          have B5 := hide (B4.out.setCell (p := ⟨g, L.length * 7, none⟩) (show rb ≤ g by omega) (.int .i64 7))
          generalize (L ++ ⟨6, 0, 0, 0, 0, 0, []⟩ :: x).length = ln at ln1 c2 R5 N5 R4 N4
          generalize hW5 : w4.setCell ⟨g, L.length * 7, none⟩ (.int .i64 7) = W5 at R5 N5 B5
          have K4 := hide (HC3.out 7 _ W5 R5.out N5.out)
          clear hn R4 N4 B4 hg
          go_wp2_with fail
          clear hcu hfu c0 c1 c2 ln1 ln2 ln3 hW5
          refine K4.out.mono ?_
          intro e w6 hf
          obtain ⟨rfl, hb⟩ := hf.2 rfl
          exact ⟨rfl, fmR_no (B5.out.trans hb)⟩
        · simp only []
          by_cases k5 : bt s e2 = 41
          · rw [if_pos k5]
            have C5 := hide (fun v Wx hx => HTP.out v Wx hx k5)
            go_enter Tryz.func53, Tryz.ntmps53
            go_wp2_with fail
            refine HT.out.mono ?_
            rintro e w1 ⟨rfl, hr, hb⟩
            obtain ⟨⟨c0, c1, c2⟩, -⟩ := rd_cells hr
            have B1 := hide (hb.below (Nat.le_of_lt HRB.out) (by simp))
            have K1 := hide (HAD.out w1 hr hb)
            clear hr hb HT
            go_wp2_with fail
            clear c0 c1 c2
            refine K1.out.mono ?_
            rintro e w2 ⟨rfl, v2, hr, hn, hb⟩
            have B2 := hide (B1.out.trans hb)
            have K2 := hide (HCL.out v2 w2 hr hn)
            clear hr hn hb K1 B1
            go_wp2_with fail
            refine K2.out.mono ?_
            intro e w3 hf
            obtain ⟨rfl, v3, hr, hn, hb⟩ := hf.1 x rfl
            have hn : NdR rb w3 v3 (L ++ ⟨6, 0, 0, 0, 0, 0, []⟩ :: x) := by rw [List.append_assoc] at hn; exact hn
            have B3 := hide (B2.out.trans hb)
            have N3 := hide hn
            have R3 := hide hr
            have K3 := hide (C2.out v3 w3 hr)
            have HRB3 := hide (rd_lt hr)
            clear hr hn hb hf K2 B2 HRB
            go_wp2_with fail
            refine K3.out.mono ?_
            rintro e w4 ⟨rfl, hr, hb⟩
            have B4 := hide (B3.out.trans (hb.below (Nat.le_of_lt HRB3.out) (by simp)))
            have N4 := hide (ndR_but N3.out hb)
            have R4 := hide hr
            clear hr hb K3 B3 N3 R3
            obtain ⟨g, cap, hv, hg, ⟨u, hcu⟩, hfu, hn⟩ := ndR_op N4.out 7 (ndWf_op (v := 0) (by omega) (by omega))
            subst hv
            obtain ⟨⟨c0, c1, c2⟩, -⟩ := rd_cells R4.out
            obtain ⟨ln1, ln2, ln3⟩ := HLN.out
            have R5 := hide (rd_set R4.out (p := ⟨g, L.length * 7, none⟩) (show rb ≠ g by omega) (.int .i64 7))
            have N5 := hide hn
            have B5 := hide (B4.out.setCell (p := ⟨g, L.length * 7, none⟩) (show rb ≤ g by omega) (.int .i64 7))
            generalize (L ++ ⟨6, 0, 0, 0, 0, 0, []⟩ :: x).length = ln at ln1 c2 R5 N5 R4 N4
            generalize hW5 : w4.setCell ⟨g, L.length * 7, none⟩ (.int .i64 7) = W5 at R5 N5 B5
            have K4 := hide (HC3.out 7 _ W5 R5.out N5.out)
            clear hn R4 N4 B4 hg
            go_wp2_with fail
            clear hcu hfu c0 c1 c2 ln1 ln2 ln3 hW5
            refine K4.out.mono ?_
            intro e w6 hf
            obtain ⟨rfl, v6, hr, hn, hb⟩ := hf.1 y rfl
            have B6 := hide (B5.out.trans hb)
            have N6 := hide hn
            have HRB6 := hide (rd_lt hr)
            have K5 := hide (C5.out v6 w6 hr)
            clear hr hn hb hf K4
            go_wp2_with fail
            refine K5.out.mono ?_
            rintro e w7 ⟨rfl, hr, hb⟩
            have R7 := hide hr
            have N7 := hide (ndR_but N6.out hb)
            have B7 := hide (B6.out.trans (hb.below (Nat.le_of_lt HRB6.out) (by simp)))
            clear hr hb K5 N6 B6
            go_wp2
            exact bodyPost_end (v := .tuple #[]) (by simp [results, Tryz.results53]) rfl ⟨fun n hn => ⟨rfl, _, R7.out, (by injection hn with hn; subst hn; have h7 := N7.out; rw [List.append_assoc] at h7; exact h7), B7.out⟩, (fun h => by cases h)⟩
          · rw [if_neg k5]
            have C5 := hide (fun v Wx hx => HTQ.out v Wx hx k5)
            go_enter Tryz.func53, Tryz.ntmps53
            go_wp2_with fail
            refine HT.out.mono ?_
            rintro e w1 ⟨rfl, hr, hb⟩
            obtain ⟨⟨c0, c1, c2⟩, -⟩ := rd_cells hr
            have B1 := hide (hb.below (Nat.le_of_lt HRB.out) (by simp))
            have K1 := hide (HAD.out w1 hr hb)
            clear hr hb HT
            go_wp2_with fail
            clear c0 c1 c2
            refine K1.out.mono ?_
            rintro e w2 ⟨rfl, v2, hr, hn, hb⟩
            have B2 := hide (B1.out.trans hb)
            have K2 := hide (HCL.out v2 w2 hr hn)
            clear hr hn hb K1 B1
            go_wp2_with fail
            refine K2.out.mono ?_
            intro e w3 hf
            obtain ⟨rfl, v3, hr, hn, hb⟩ := hf.1 x rfl
            have hn : NdR rb w3 v3 (L ++ ⟨6, 0, 0, 0, 0, 0, []⟩ :: x) := by rw [List.append_assoc] at hn; exact hn
            have B3 := hide (B2.out.trans hb)
            have N3 := hide hn
            have R3 := hide hr
            have K3 := hide (C2.out v3 w3 hr)
            have HRB3 := hide (rd_lt hr)
            clear hr hn hb hf K2 B2 HRB
            go_wp2_with fail
            refine K3.out.mono ?_
            rintro e w4 ⟨rfl, hr, hb⟩
            have B4 := hide (B3.out.trans (hb.below (Nat.le_of_lt HRB3.out) (by simp)))
            have N4 := hide (ndR_but N3.out hb)
            have R4 := hide hr
            clear hr hb K3 B3 N3 R3
            obtain ⟨g, cap, hv, hg, ⟨u, hcu⟩, hfu, hn⟩ := ndR_op N4.out 7 (ndWf_op (v := 0) (by omega) (by omega))
            subst hv
            obtain ⟨⟨c0, c1, c2⟩, -⟩ := rd_cells R4.out
            obtain ⟨ln1, ln2, ln3⟩ := HLN.out
            have R5 := hide (rd_set R4.out (p := ⟨g, L.length * 7, none⟩) (show rb ≠ g by omega) (.int .i64 7))
            have N5 := hide hn
            have B5 := hide (B4.out.setCell (p := ⟨g, L.length * 7, none⟩) (show rb ≤ g by omega) (.int .i64 7))
            generalize (L ++ ⟨6, 0, 0, 0, 0, 0, []⟩ :: x).length = ln at ln1 c2 R5 N5 R4 N4
            generalize hW5 : w4.setCell ⟨g, L.length * 7, none⟩ (.int .i64 7) = W5 at R5 N5 B5
            have K4 := hide (HC3.out 7 _ W5 R5.out N5.out)
            clear hn R4 N4 B4 hg
            go_wp2_with fail
            clear hcu hfu c0 c1 c2 ln1 ln2 ln3 hW5
            refine K4.out.mono ?_
            intro e w6 hf
            obtain ⟨rfl, v6, hr, hn, hb⟩ := hf.1 y rfl
            have B6 := hide (B5.out.trans hb)
            have N6 := hide hn
            have HRB6 := hide (rd_lt hr)
            have K5 := hide (C5.out v6 w6 hr)
            clear hr hn hb hf K4
            go_wp2_with fail
            refine K5.out.mono ?_
            rintro e w7 ⟨rfl, hb⟩
            exact ⟨rfl, fmR_no (B6.out.trans (hb.mono (Nat.le_of_lt HRB6.out)))⟩
    · rw [if_neg k2]
      have C2 := hide (fun v Wx hx => HTN.out v Wx hx k2)
      clear h hN hL hs hb HI hi hrb hb1 hl1 hx1 HTO HTN k2
      go_enter Tryz.func53, Tryz.ntmps53
      go_wp2_with fail
      refine HT.out.mono ?_
      rintro e w1 ⟨rfl, hr, hb⟩
      obtain ⟨⟨c0, c1, c2⟩, -⟩ := rd_cells hr
      have B1 := hide (hb.below (Nat.le_of_lt HRB.out) (by simp))
      have K1 := hide (HAD.out w1 hr hb)
      clear hr hb HT
      go_wp2_with fail
      clear c0 c1 c2
      refine K1.out.mono ?_
      rintro e w2 ⟨rfl, v2, hr, hn, hb⟩
      have B2 := hide (B1.out.trans hb)
      have K2 := hide (HCL.out v2 w2 hr hn)
      clear hr hn hb K1 B1
      go_wp2_with fail
      refine K2.out.mono ?_
      intro e w3 hf
      obtain ⟨rfl, v3, hr, hn, hb⟩ := hf.1 x rfl
      have B3 := hide (B2.out.trans hb)
      have K3 := hide (C2.out v3 w3 hr)
      have HRB3 := hide (rd_lt hr)
      clear hr hn hb hf K2 B2 HRB
      go_wp2_with fail
      refine K3.out.mono ?_
      rintro e w4 ⟨rfl, hb⟩
      exact ⟨rfl, fmR_no (B3.out.trans (hb.mono (Nat.le_of_lt HRB3.out)))⟩
end Go.Proofs.YtafbggbdlcfbdaaGreatDoor
