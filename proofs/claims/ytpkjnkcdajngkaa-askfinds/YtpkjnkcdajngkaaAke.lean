/- ask.firstWords: what holds along the way. -/
import Derived.Test.YtpkjnkcdajngkaaAkd
import Derived.Test.YtpkjnkcdajngkaaBo
import Derived.Shelf.Slices.Clone
import Derived.Shelf.Slices.In.Clone
namespace Go.Proofs.Ytpkjnkcdajngkaa
open Go.RowKit

def clnRenA : Go.Shelf.Ren := ⟨fun | 15 => 19 | n => n, fun | 3 => 3 | 4 => 4 | 22 => 26 | n => n, fun n => n⟩
theorem clnLaysA : Lays2.n15 Try.prog clnRenA where
  mixed := by kernel_rfl
  f15 := Try.func19.trans (congrArg some (by kernel_rfl))
  t3 := Try.underlying3
  a3 := Try.isAgg3
  z3 := Try.sizeOf3
  v3 := Try.zeroValue3
  t4 := Try.underlying4
  a4 := Try.isAgg4
  z4 := Try.sizeOf4
  v4 := Try.zeroValue4
  t22 := Try.underlying26
  a22 := Try.isAgg26
  z22 := Try.sizeOf26
  v22 := Try.zeroValue26
  i3 := by kernel_rfl
/-- A copy of a row of the call's own, in new memory (nil of nil). -/
def ClnR (w : World) (p : List Int) (e : Ending) (w' : World) : Prop := ∃ a c, e = .returned (.slice a p.length c) ∧ Sl w' a p.length p ∧ (∀ x, slB a p.length x → w.heap.size ≤ x) ∧ Below w.heap.size w w'
theorem cln_own {w : World} {base : Nat} {v : Value} {p : List Int} (h : w.ownsRow base 3 1 v p.length (p.map (Value.int .i64))) (hp : p.length ≤ 1000) (hwf : ∀ x ∈ p, (Lit.int .i64 x).wf = true) : Calls Try.prog 19 #[v] w (ClnR w p) := by
  have key : ∀ (v' : Value) (w' : World), w'.ownsRow w.heap.size 3 1 v' p.length (p.map (Value.int .i64)) → Below w.heap.size w w' → ClnR w p (.returned v') w' := fun v' w' ho hb => by
    obtain ⟨a, c, rfl, hs, hn⟩ := sl_of_owns rfl (by unfold maxLen; omega) hwf ho
    exact ⟨a, c, rfl, hs, fun x ⟨_, ad, e, h⟩ => h ▸ hn ad e, hb⟩
  rcases h.2 with ⟨rfl, h0⟩ | ⟨g, cap, cur, rfl, hg, hh, hc, hcm, hcs, ht⟩
  · refine (Any.slices_Clone_int_nil clnLaysA 0 0 w).mono ?_
    rintro e w' ⟨rfl, rfl⟩
    exact key _ _ (by
      have : p = [] := List.length_eq_zero_iff.1 h0
      subst this
      exact World.ownsRow_nil _ _ _ _) (Below.refl _ _)
  · by_cases h0 : p.length = 0
    · have : p = [] := List.length_eq_zero_iff.1 h0
      subst this
      refine (Any.slices_Clone_int_zero clnLaysA ⟨g, 0, none⟩ cap w).mono ?_
      rintro e w' ⟨v', rfl, ho, -, hb⟩
      exact key _ _ ho hb
    · refine (Any.slices_Clone_int clnLaysA g 0 p.length cap p w (by omega) (by omega) (fun j hj => ?_)).mono ?_
      · have := h.cells (g := g) rfl j (.int .i64 (p.getD j 0)) (by simp [List.getD, hj])
        simpa [Addr.add_lit] using this
      · rintro e w' ⟨v', rfl, ho, -, hb⟩
        rw [List.take_of_length_le (by omega)] at ho
        exact key _ _ ho hb
/-- Along the way: the words listed so far (their slices: vals), and the letters of the one that is being made. The boxes lie in blocks s to s + 5, the list's is s + 3, the word's s + 4. -/
structure FwI (wS : World) (s : Nat) (vL vW : Value) (vals : List Value) (L : List (List Int)) (p : List Int) (W : World) : Prop where
  lbox : W.heap[s + 3]? = some (.cells #[vL] 22 (0, 0))
  wbox : W.heap[s + 4]? = some (.cells #[vW] 26 (0, 0))
  lown : W.ownsRow (s + 6) 26 1 vL L.length vals
  wown : W.ownsRow (s + 6) 3 1 vW p.length (p.map (Value.int .i64))
  rows : ∀ j, j < L.length → ∃ a c, vals[j]? = some (.slice a (L.getD j []).length c) ∧ Sl W a (L.getD j []).length (L.getD j []) ∧ ∀ x, slB a (L.getD j []).length x → s + 6 ≤ x ∧ vL.ownBlock ≠ some x ∧ vW.ownBlock ≠ some x
  stat : ∀ x, x < s + 6 → x ≠ s + 3 → x ≠ s + 4 → W.heap[x]? = wS.heap[x]?
  bel : Below s wS W
  top : s + 6 ≤ W.heap.size
theorem one_set {W : World} {B : Nat} {v u : Value} {T : TypeId} (h : W.heap[B]? = some (.cells #[v] T (0, 0))) : (W.setCell ⟨B, 0, none⟩ u).heap[B]? = some (.cells #[u] T (0, 0)) := by
  simp only [World.setCell, Array.getElem?_modify, if_pos, h, Option.map_some]
  rfl
theorem one_cell {W : World} {B : Nat} {v : Value} {T : TypeId} (h : W.heap[B]? = some (.cells #[v] T (0, 0))) : W.cell? ⟨B, 0, none⟩ = some v ∧ W.frozen? ⟨B, 0, none⟩ = false := by
  refine ⟨?_, ?_⟩ <;> simp [World.cell?, World.frozen?, h]
section
variable {wS : World} {s : Nat} {vL vW : Value} {vals : List Value} {L : List (List Int)} {p : List Int} {W : World}
theorem FwI.apart (h : FwI wS s vL vW vals L p W) {x : Nat} (h1 : vL.ownBlock = some x) : vW.ownBlock ≠ some x := fun h2 => owns_apart (by decide) h.lown h.wown h1 h2
theorem fwI_below {W2 : World} (h : FwI wS s vL vW vals L p W) (hb : Below W.heap.size W W2) : FwI wS s vL vW vals L p W2 where
  lbox := (hb.block _ (by have := h.top; omega)).trans h.lbox
  wbox := (hb.block _ (by have := h.top; omega)).trans h.wbox
  lown := ownsRow_of_block h.lown fun x hx => hb.block x (h.lown.lt x hx).2
  wown := ownsRow_of_block h.wown fun x hx => hb.block x (h.wown.lt x hx).2
  rows := fun j hj => by
    obtain ⟨a, c, e1, e2, e3⟩ := h.rows j hj
    exact ⟨a, c, e1, sl_below e2 hb, e3⟩
  stat := fun x h1 h2 h3 => (hb.block x (by have := h.top; omega)).trans (h.stat x h1 h2 h3)
  bel := h.bel.trans (hb.mono (by have := h.top; omega))
  top := Nat.le_trans h.top hb.size
/-- One word more. -/
theorem fwI_list {ac : Option Addr} {cc : Nat} (h : FwI wS s vL vW vals L p W) (hs : Sl W ac p.length p) (hn : ∀ x, slB ac p.length x → s + 6 ≤ x ∧ vL.ownBlock ≠ some x ∧ vW.ownBlock ≠ some x) (o : Obj) {w3 : World} {g' c' : Nat}
    (hown : w3.ownsRow (s + 6) 26 1 (.slice (some ⟨g', 0, none⟩) (L.length + 1) c') (L.length + 1) (vals ++ [.slice ac p.length cc])) (hgrow : (W.alloc o).grownBy w3 vL.ownBlock) (hat : vL.ownBlock = some g' ∨ g' = W.heap.size + 1) :
    w3.heap[s + 3]? = some (.cells #[vL] 22 (0, 0)) ∧ FwI wS s (.slice (some ⟨g', 0, none⟩) (L.length + 1) c') vW (vals ++ [.slice ac p.length cc]) (L ++ [p]) p (w3.setCell ⟨s + 3, 0, none⟩ (.slice (some ⟨g', 0, none⟩) (L.length + 1) c')) := by
  have ht := h.top
  have hsz := hgrow.size
  have hvl : vals.length = L.length := by have := h.lown.1; omega
  rw [World.size_alloc] at hsz
  have k3 : ∀ x, x < W.heap.size → vL.ownBlock ≠ some x → w3.heap[x]? = W.heap[x]? := fun x hx hv => by
    rw [hgrow.block x (by rw [World.size_alloc]; omega) (fun e => hv e.symm), Below.heap_alloc _ _ _ hx]
  have hl : ∀ x, x < s + 6 → vL.ownBlock ≠ some x := fun x hx e => by have := (h.lown.lt x e).1; omega
  have hg : ∀ x, x < W.heap.size → vL.ownBlock ≠ some x → g' ≠ x := fun x hx hv e => by
    subst e
    rcases hat with e | e
    · exact hv e
    · omega
  have k4 : ∀ (u : Value) x, x < W.heap.size → vL.ownBlock ≠ some x → x ≠ s + 3 → (w3.setCell ⟨s + 3, 0, none⟩ u).heap[x]? = W.heap[x]? := fun u x hx hv hb => by
    rw [Below.heap_setCell _ _ _ _ hb, k3 x hx hv]
  have hbx : w3.heap[s + 3]? = some (.cells #[vL] 22 (0, 0)) := (k3 _ (by omega) (hl _ (by omega))).trans h.lbox
  have hrow : ∀ {a l} (u : Value), Sl W a (List.length l) l → (∀ x, slB a l.length x → s + 6 ≤ x ∧ vL.ownBlock ≠ some x ∧ vW.ownBlock ≠ some x) → Sl (w3.setCell ⟨s + 3, 0, none⟩ u) a l.length l ∧ ∀ x, slB a l.length x → s + 6 ≤ x ∧ Value.ownBlock (.slice (some ⟨g', 0, none⟩) (L.length + 1) c') ≠ some x ∧ vW.ownBlock ≠ some x := fun {a l} u hs hx => by
    refine ⟨sl_keep hs fun x hb => ?_, fun x hb => ?_⟩
    · obtain ⟨q1, q2, q3⟩ := hx x hb
      exact k4 _ x (slB_lt hs hb) q2 (by omega)
    · obtain ⟨q1, q2, q3⟩ := hx x hb
      exact ⟨q1, fun e => hg x (slB_lt hs hb) q2 (by simpa [Value.ownBlock] using e), q3⟩
  refine ⟨hbx, ?_⟩
  generalize Value.slice (some ⟨g', 0, none⟩) (L.length + 1) c' = v' at hown hrow ⊢
  refine ⟨one_set hbx, ?_, ?_, ?_, fun j hj => ?_, fun x h1 h2 h3 => ?_, ?_, ?_⟩
  · exact (k4 _ _ (by omega) (hl _ (by omega)) (by omega)).trans h.wbox
  · rw [List.length_append, List.length_singleton]
    exact ownsRow_setCell_other hown (fun e => by have := (hown.lt (s + 3) e).1; omega) _
  · exact ownsRow_of_block h.wown fun x hx => k4 _ x (h.wown.lt x hx).2 (fun e => h.apart e hx) (by have := (h.wown.lt x hx).1; omega)
  · rw [List.length_append, List.length_singleton] at hj
    by_cases e : j = L.length
    · subst e
      have e1 : (L ++ [p]).getD L.length [] = p := by simp [List.getD]
      rw [e1]
      obtain ⟨q1, q2⟩ := hrow v' hs hn
      exact ⟨ac, cc, by rw [List.getElem?_append_right (by omega), hvl]; simp, q1, q2⟩
    · have e1 : (L ++ [p]).getD j [] = L.getD j [] := by simp [List.getD, List.getElem?_append_left (show j < L.length by omega)]
      rw [e1]
      obtain ⟨a, c, q0, q1, q2⟩ := h.rows j (by omega)
      obtain ⟨q3, q4⟩ := hrow v' q1 q2
      exact ⟨a, c, by rw [List.getElem?_append_left (by omega)]; exact q0, q3, q4⟩
  · exact (k4 _ x (by omega) (hl x h1) h2).trans (h.stat x h1 h2 h3)
  · exact (Below.grown (h.bel.alloc (by omega) o) hgrow (by simp; omega) (fun x hx => by have := (h.lown.lt x hx).1; omega)).setCell (by show s ≤ s + 3; omega) _
  · have := hown.1
    simp
    omega
/-- One letter more. -/
theorem fwI_push {x : Int} (h : FwI wS s vL vW vals L p W) (o : Obj) {w3 : World} {g' c' : Nat}
    (hown : w3.ownsRow (s + 6) 3 1 (.slice (some ⟨g', 0, none⟩) (p.length + 1) c') (p.length + 1) (p.map (Value.int .i64) ++ [.int .i64 x])) (hgrow : (W.alloc o).grownBy w3 vW.ownBlock) (hat : vW.ownBlock = some g' ∨ g' = W.heap.size + 1) :
    w3.heap[s + 4]? = some (.cells #[vW] 26 (0, 0)) ∧ FwI wS s vL (.slice (some ⟨g', 0, none⟩) (p.length + 1) c') vals L (p ++ [x]) (w3.setCell ⟨s + 4, 0, none⟩ (.slice (some ⟨g', 0, none⟩) (p.length + 1) c')) := by
  have ht := h.top
  have hsz := hgrow.size
  rw [World.size_alloc] at hsz
  have k3 : ∀ x, x < W.heap.size → vW.ownBlock ≠ some x → w3.heap[x]? = W.heap[x]? := fun x hx hv => by
    rw [hgrow.block x (by rw [World.size_alloc]; omega) (fun e => hv e.symm), Below.heap_alloc _ _ _ hx]
  have hl : ∀ x, x < s + 6 → vW.ownBlock ≠ some x := fun x hx e => by have := (h.wown.lt x e).1; omega
  have hg : ∀ x, x < W.heap.size → vW.ownBlock ≠ some x → g' ≠ x := fun x hx hv e => by
    subst e
    rcases hat with e | e
    · exact hv e
    · omega
  have k4 : ∀ (u : Value) x, x < W.heap.size → vW.ownBlock ≠ some x → x ≠ s + 4 → (w3.setCell ⟨s + 4, 0, none⟩ u).heap[x]? = W.heap[x]? := fun u x hx hv hb => by
    rw [Below.heap_setCell _ _ _ _ hb, k3 x hx hv]
  have hbx : w3.heap[s + 4]? = some (.cells #[vW] 26 (0, 0)) := (k3 _ (by omega) (hl _ (by omega))).trans h.wbox
  refine ⟨hbx, ?_⟩
  have hrow : ∀ {a l} (u : Value), Sl W a (List.length l) l → (∀ x, slB a l.length x → s + 6 ≤ x ∧ vL.ownBlock ≠ some x ∧ vW.ownBlock ≠ some x) → Sl (w3.setCell ⟨s + 4, 0, none⟩ u) a l.length l ∧ ∀ x, slB a l.length x → s + 6 ≤ x ∧ vL.ownBlock ≠ some x ∧ Value.ownBlock (.slice (some ⟨g', 0, none⟩) (p.length + 1) c') ≠ some x := fun {a l} u hs hx => by
    refine ⟨sl_keep hs fun x hb => ?_, fun x hb => ?_⟩
    · obtain ⟨q1, q2, q3⟩ := hx x hb
      exact k4 _ x (slB_lt hs hb) q3 (by omega)
    · obtain ⟨q1, q2, q3⟩ := hx x hb
      exact ⟨q1, q2, fun e => hg x (slB_lt hs hb) q3 (by simpa [Value.ownBlock] using e)⟩
  generalize Value.slice (some ⟨g', 0, none⟩) (p.length + 1) c' = v' at hown hrow ⊢
  refine ⟨?_, one_set hbx, ?_, ?_, fun j hj => ?_, fun x h1 h2 h3 => ?_, ?_, ?_⟩
  · exact (k4 _ _ (by omega) (hl _ (by omega)) (by omega)).trans h.lbox
  · exact ownsRow_of_block h.lown fun x hx => k4 _ x (h.lown.lt x hx).2 (fun e => h.apart hx e) (by have := (h.lown.lt x hx).1; omega)
  · rw [List.length_append, List.length_singleton, List.map_append]
    exact ownsRow_setCell_other hown (fun e => by have := (hown.lt (s + 4) e).1; omega) _
  · obtain ⟨a, c, q0, q1, q2⟩ := h.rows j hj
    obtain ⟨q3, q4⟩ := hrow v' q1 q2
    exact ⟨a, c, q0, q3, q4⟩
  · exact (k4 _ x (by omega) (hl x h1) h3).trans (h.stat x h1 h2 h3)
  · exact (Below.grown (h.bel.alloc (by omega) o) hgrow (by simp; omega) (fun x hx => by have := (h.wown.lt x hx).1; omega)).setCell (by show s ≤ s + 4; omega) _
  · simp
    omega
/-- The last letter is taken away. -/
theorem fwI_pop {x : Int} {g c : Nat} (h : FwI wS s vL (.slice (some ⟨g, 0, none⟩) (p.length + 1) c) vals L (p ++ [x]) W) :
    FwI wS s vL (.slice (some ⟨g, 0, none⟩) p.length c) vals L p (W.setCell ⟨s + 4, 0, none⟩ (.slice (some ⟨g, 0, none⟩) p.length c)) := by
  have ht := h.top
  have hgb : s + 6 ≤ g := (h.wown.lt g rfl).1
  have k4 : ∀ (u : Value) x, x ≠ s + 4 → (W.setCell ⟨s + 4, 0, none⟩ u).heap[x]? = W.heap[x]? := fun u x hb => Below.heap_setCell _ _ _ _ hb
  refine ⟨?_, one_set h.wbox, ?_, ?_, fun j hj => ?_, fun x h1 h2 h3 => ?_, ?_, ?_⟩
  · exact (k4 _ _ (by omega)).trans h.lbox
  · exact ownsRow_of_block h.lown fun x hx => k4 _ x (by have := (h.lown.lt x hx).1; omega)
  · refine ownsRow_of_block (w := W) ?_ fun x hx => k4 _ x (by have e : g = x := by simpa [Value.ownBlock] using hx
                                                               omega)
    obtain ⟨h0, h1⟩ := h.wown
    rw [List.length_append, List.length_singleton] at h0 h1
    rcases h1 with ⟨e, -⟩ | ⟨g', cap', cur, e, q1, q2, q3, q4, q5, q6⟩
    · cases e
    · cases e
      refine ⟨by simp, Or.inr ⟨g, c, cur, rfl, q1, q2, by omega, q4, q5, ?_⟩⟩
      have := congrArg (List.take p.length) q6
      rw [List.take_take] at this
      simpa using this
  · obtain ⟨a, c', q0, q1, q2⟩ := h.rows j hj
    refine ⟨a, c', q0, sl_keep q1 fun x hb => k4 _ x (by have := (q2 x hb).1; omega), fun x hb => ?_⟩
    obtain ⟨q3, q4, q5⟩ := q2 x hb
    exact ⟨q3, q4, fun e => q5 (by simpa [Value.ownBlock] using e)⟩
  · exact (k4 _ x h3).trans (h.stat x h1 h2 h3)
  · exact h.bel.setCell (by show s ≤ s + 4; omega) _
  · simpa using ht
end
end Go.Proofs.Ytpkjnkcdajngkaa
