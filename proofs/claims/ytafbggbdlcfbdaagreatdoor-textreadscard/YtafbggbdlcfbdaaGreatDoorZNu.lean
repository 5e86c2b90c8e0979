/- 2 texts in one. -/
import Derived.Deep.Onto
import Derived.Test.YtafbggbdlcfbdaaGreatDoorSw
import Derived.Test.YtafbggbdlcfbdaaGreatDoorZPa
/- Rows of nodes: many are appended at once. -/
namespace Go.Proofs.YtafbggbdlcfbdaaGreatDoor
open Go.RowKit

theorem ndL_one (n : Nd) (a : Option Addr) (c : Nat) : ∀ u ∈ ndL n a c, u.oneCell' = true := fun u hu => by
  simp only [ndL, List.mem_cons, List.not_mem_nil, or_false] at hu
  rcases hu with rfl | rfl | rfl | rfl | rfl | rfl | rfl <;> rfl
theorem zNode_size : (Value.agg #[.int .i64 0, .int .i64 0, .int .i64 0, .int .i64 0, .int .i64 0, .int .i64 0, .slice none 0 0]).cells.size = 7 := rfl
/-- Nodes are appended. -/
theorem wpList_append_nodes {ops : Array Oper} {rest : List Oper} {o : Oper} {a : Act} {Q : Exit → Act → World → Prop} (w : World) (hgd : o.guard = none) (s x : Operand)
    (ho : o.op = .call { callee := .builtin .append, args := #[s, x], argTypes := #[22, 22] })
    (base : Nat) (v : Value) (k : Nat) (xs : List Value) (hs : a.eval s = v) (hown : w.ownsRow base 41 7 v k xs) (ad : Addr) (m c : Nat) (news : List Value) (hx : a.eval x = .slice (some ad) m c) (hl : news.length = m * 7) (hnews : ∀ j u, news[j]? = some u → w.cell? (ad.add j) = some u) (h1 : ∀ u ∈ news, u.oneCell' = true) (hm : 0 < m) (hk : k + m ≤ 100000) (hbase : base ≤ w.heap.size)
    (h : ∀ g cap w', w'.ownsRow base 41 7 (.slice (some ⟨g, 0, none⟩) (k + m) cap) (k + m) (xs ++ news) → w.grownBy w' v.ownBlock → (v.ownBlock = some g ∨ g = w.heap.size) → wpList Tryz.prog ops Q rest (a.put o.dst (.slice (some ⟨g, 0, none⟩) (k + m) cap)) w') : wpList Tryz.prog ops Q (o :: rest) a w := by
  obtain ⟨l0, hl0, hv0, hv1, hv2⟩ := info_parts infoNd
  exact wpList_append_lies _ hgd s x 22 ho base 41 l0 (.agg #[.int .i64 0, .int .i64 0, .int .i64 0, .int .i64 0, .int .i64 0, .int .i64 0, .slice none 0 0]) 7 72 Tryz.underlying22 hl0 hv0 hv1 hv2 zNode_size (by decide) v k xs hs hown ad m c news hx hl hnews h1 hm (by unfold maxLen; omega) (by omega) hbase _ rfl (fun g cap w' h1 h2 h3 _ => h g cap w' h1 h2 h3)
theorem wpList_append_nonodes {w : World} {ops : Array Oper} {rest : List Oper} {o : Oper} {a : Act} {Q : Exit → Act → World → Prop} (hgd : o.guard = none) (s x : Operand)
    (ho : o.op = .call { callee := .builtin .append, args := #[s, x], argTypes := #[22, 22] })
    (base : Nat) (v : Value) (k : Nat) (xs : List Value) (hs : a.eval s = v) (hown : w.ownsRow base 41 7 v k xs) (c : Nat) (hx : a.eval x = .slice none 0 c)
    (h : wpList Tryz.prog ops Q rest (a.put o.dst v) w) : wpList Tryz.prog ops Q (o :: rest) a w := by
  obtain ⟨l0, hl0, hv0, hv1, hv2⟩ := info_parts infoNd
  exact wpList_append_nonec hgd s x 22 ho base 41 l0 7 Tryz.underlying22 hl0 v k xs hs hown c hx h
end Go.Proofs.YtafbggbdlcfbdaaGreatDoor

/- Nodes by the values of their cells; what reads them looks at new memory alone. -/
namespace Go.Proofs.YtafbggbdlcfbdaaGreatDoor
open Go.RowKit

/-- From a block on, W' is as W. -/
def AgF (base : Nat) (W W' : World) : Prop := ∀ x, base ≤ x → x < W.heap.size → W'.heap[x]? = W.heap[x]?
/-- Values that are nodes' cells; the coefficients lie in blocks from base on. -/
def CelF (base : Nat) (W : World) (V : List Value) (L : List Nd) : Prop := V.length = L.length * 7 ∧ (∀ n ∈ L, ndWf n) ∧ ∀ j, j < L.length → ∃ a c, (∀ i, i < 7 → V[j * 7 + i]? = (ndL (L.getD j zNd) a c)[i]?) ∧ ∀ W', AgF base W W' → Sl W' a (L.getD j zNd).cf.length (L.getD j zNd).cf
theorem AgF.refl (base : Nat) (W : World) : AgF base W W := fun _ _ _ => rfl
theorem AgF.below {base : Nat} {W W' : World} (h : Below W.heap.size W W') : AgF base W W' := fun x _ hx => h.block x hx
theorem AgF.trans {base : Nat} {W W2 W' : World} (h : AgF base W W2) (hs : W.heap.size ≤ W2.heap.size) (h2 : AgF base W2 W') : AgF base W W' := fun x h1 hx => (h2 x h1 (Nat.lt_of_lt_of_le hx hs)).trans (h x h1 hx)
theorem celF_later {base : Nat} {W W2 : World} {V : List Value} {L : List Nd} (h : CelF base W V L) (ha : AgF base W W2) (hs : W.heap.size ≤ W2.heap.size) : CelF base W2 V L :=
  ⟨h.1, h.2.1, fun j hj => by
    obtain ⟨a, c, h1, h2⟩ := h.2.2 j hj
    exact ⟨a, c, h1, fun W' hW => h2 W' (ha.trans hs hW)⟩⟩
theorem celF_base {base base' : Nat} {W : World} {V : List Value} {L : List Nd} (h : CelF base W V L) (hb : base' ≤ base) : CelF base' W V L :=
  ⟨h.1, h.2.1, fun j hj => by
    obtain ⟨a, c, h1, h2⟩ := h.2.2 j hj
    exact ⟨a, c, h1, fun W' hW => h2 W' (fun x hx hl => hW x (Nat.le_trans hb hx) hl)⟩⟩
theorem celF_app {base : Nat} {W : World} {V V2 : List Value} {L L2 : List Nd} (h : CelF base W V L) (h2 : CelF base W V2 L2) : CelF base W (V ++ V2) (L ++ L2) := by
  refine ⟨by rw [List.length_append, List.length_append, h.1, h2.1]; omega, fun n hn => (List.mem_append.1 hn).elim (h.2.1 n) (h2.2.1 n), fun j hj => ?_⟩
  rw [List.length_append] at hj
  have hl := h.1
  by_cases hlt : j < L.length
  · obtain ⟨a, c, g1, g2⟩ := h.2.2 j hlt
    have e : (L ++ L2).getD j zNd = L.getD j zNd := by rw [List.getD_eq_getElem?_getD, List.getD_eq_getElem?_getD, List.getElem?_append_left hlt]
    rw [e]
    exact ⟨a, c, fun i hi => by rw [List.getElem?_append_left (by omega)]; exact g1 i hi, g2⟩
  · obtain ⟨a, c, g1, g2⟩ := h2.2.2 (j - L.length) (by omega)
    have e : (L ++ L2).getD j zNd = L2.getD (j - L.length) zNd := by rw [List.getD_eq_getElem?_getD, List.getD_eq_getElem?_getD, List.getElem?_append_right (by omega)]
    rw [e]
    exact ⟨a, c, fun i hi => by rw [List.getElem?_append_right (by omega), show j * 7 + i - V.length = (j - L.length) * 7 + i by omega]; exact g1 i hi, g2⟩
theorem sl_agree {base : Nat} {W W' : World} {a : Option Addr} {n : Nat} {l : List Int} (h : SlN base W a n l) (hA : AgF base W W') : Sl W' a n l := by
  obtain ⟨⟨h1, h2, h3, h4⟩, h5⟩ := h
  refine ⟨h1, h2, h3, ?_⟩
  rcases h4 with h4 | ⟨b, o, rfl, h4⟩
  · exact .inl h4
  · refine .inr ⟨b, o, rfl, fun i hi => ?_⟩
    have hc := h4 i hi
    have hlt := World.block_lt_of_cell? W _ hc
    rw [World.cell?_of_block (hA b (h5 _ rfl) hlt)]
    exact hc
theorem celF_one {base : Nat} {W : World} {n : Nd} {a : Option Addr} {c : Nat} (hw : ndWf n) (h : SlN base W a n.cf.length n.cf) : CelF base W (ndL n a c) [n] :=
  ⟨rfl, fun m hm => by rw [List.mem_singleton] at hm; subst hm; exact hw, fun j hj => by
    obtain rfl : j = 0 := by simp at hj; omega
    exact ⟨a, c, fun i _ => by rw [Nat.zero_mul, Nat.zero_add]; rfl, fun W' hW => sl_agree h hW⟩⟩
theorem celF_nil (base : Nat) (W : World) : CelF base W [] [] := ⟨rfl, (fun n hn => by cases hn), fun j hj => by cases hj⟩
theorem celF_cells {base : Nat} {W : World} {V : List Value} {L : List Nd} (h : CelF base W V L) : ∀ u ∈ V, u.oneCell' = true := fun u hu => by
  obtain ⟨k, hk, e⟩ := List.getElem_of_mem hu
  have hl := h.1
  obtain ⟨a, c, h1, -⟩ := h.2.2 (k / 7) (by omega)
  have h2 := h1 (k % 7) (Nat.mod_lt _ (by decide))
  rw [show k / 7 * 7 + k % 7 = k by omega, List.getElem?_eq_getElem hk, e] at h2
  exact ndL_one _ _ _ _ (List.mem_of_getElem? h2.symm)
/-- A slice of nodes whose cells hold V, in blocks from base on. -/
def RowF (base : Nat) (W : World) (a : Option Addr) (V : List Value) (L : List Nd) : Prop := CelF base W V L ∧ ((L.length = 0 ∧ a = none) ∨ ∃ b o, a = some ⟨b, o, none⟩ ∧ base ≤ b ∧ 0 < L.length ∧ ∀ j u, V[j]? = some u → W.cell? ⟨b, o + j, none⟩ = some u)
theorem rowF_later {base : Nat} {W W2 : World} {a : Option Addr} {V : List Value} {L : List Nd} (h : RowF base W a V L) (ha : AgF base W W2) (hs : W.heap.size ≤ W2.heap.size) : RowF base W2 a V L := by
  obtain ⟨h1, h2⟩ := h
  refine ⟨celF_later h1 ha hs, ?_⟩
  rcases h2 with h2 | ⟨b, o, rfl, hb, hp, h2⟩
  · exact .inl h2
  · refine .inr ⟨b, o, rfl, hb, hp, fun j u hu => ?_⟩
    have hc := h2 j u hu
    rw [World.cell?_of_block (ha b hb (World.block_lt_of_cell? W _ hc))]
    exact hc
theorem rowF_base {base base' : Nat} {W : World} {a : Option Addr} {V : List Value} {L : List Nd} (h : RowF base W a V L) (hb : base' ≤ base) : RowF base' W a V L := by
  obtain ⟨h1, h2⟩ := h
  refine ⟨celF_base h1 hb, ?_⟩
  rcases h2 with h2 | ⟨b, o, rfl, hb2, hp, h2⟩
  · exact .inl h2
  · exact .inr ⟨b, o, rfl, Nat.le_trans hb hb2, hp, h2⟩
theorem rowF_sl {base : Nat} {W : World} {a : Option Addr} {V : List Value} {L : List Nd} (h : RowF base W a V L) (hl : L.length ≤ maxLen) : SlF W a L.length L := by
  obtain ⟨⟨h1, hw, hc⟩, h2⟩ := h
  refine ⟨rfl, hl, hw, ?_⟩
  rcases h2 with ⟨h2, -⟩ | ⟨b, o, rfl, hb, -, h2⟩
  · exact .inl h2
  · refine .inr ⟨b, o, rfl, fun i hi => ?_⟩
    obtain ⟨a', c', e1, e2⟩ := hc i hi
    have key : ∀ j, j < 7 → W.cell? ⟨b, o + i * 7 + j, none⟩ = (ndL (L.getD i zNd) a' c')[j]? := fun j hj => by
      have h3 := e1 j hj
      have h4 : (ndL (L.getD i zNd) a' c')[j]? = some ((ndL (L.getD i zNd) a' c')[j]'(by rw [ndL_len]; exact hj)) := List.getElem?_eq_getElem _
      rw [h4] at h3 ⊢
      rw [show o + i * 7 + j = o + (i * 7 + j) by omega]
      exact h2 _ _ h3
    exact ⟨a', c', key 0 (by decide), key 1 (by decide), key 2 (by decide), key 3 (by decide), key 4 (by decide), key 5 (by decide), key 6 (by decide), e2 W (AgF.refl _ _)⟩
/-- A row of the call's own, as such a slice. -/
theorem rowF_own {base : Nat} {W : World} {V : List Value} {L : List Nd} {g k cp : Nat} (h : W.ownsRow base 41 7 (.slice (some ⟨g, 0, none⟩) k cp) k V) (hc : CelF base W V L) (hp : 0 < L.length) : RowF base W (some ⟨g, 0, none⟩) V L := by
  refine ⟨hc, .inr ⟨g, 0, rfl, ?_, hp, ?_⟩⟩
  · rcases h.2 with ⟨h1, -⟩ | ⟨g', cap, cur, e, hg, -⟩
    · cases h1
    · cases e; exact hg
  · intro j u hu
    rcases h.2 with ⟨h1, -⟩ | ⟨g', cap, cur, e, hg, hh, -, -, -, ht⟩
    · cases h1
    · cases e
      rw [cell_of_row W g (0 + j) cur 41 (0, 0) hh, Nat.zero_add]
      rw [← ht, List.getElem?_take] at hu
      by_cases hj : j < k * 7
      · rw [if_pos hj, Array.getElem?_toList] at hu
        exact hu
      · rw [if_neg hj] at hu; cases hu
/-- One node written out is a row of the call's own. -/
theorem own_one (w : World) {base : Nat} (hb : base ≤ w.heap.size) (n : Nd) (a : Option Addr) (c : Nat) : (w.alloc (.cells (ndL n a c).toArray 41)).ownsRow base 41 7 (.slice (some ⟨w.heap.size, 0, none⟩) 1 1) 1 (ndL n a c) :=
  ⟨rfl, .inr ⟨w.heap.size, 1, (ndL n a c).toArray, rfl, hb, heap_alloc_last w _, by decide, by decide, rfl, rfl⟩⟩
theorem addr_add (b o j : Nat) : (⟨b, o, none⟩ : Addr).add j = ⟨b, o + j, none⟩ := by unfold Addr.add; split <;> simp_all
theorem ownBlk_le {b g n c x : Nat} (h : (Value.slice (some ⟨g, 0, none⟩) n c).ownBlock = some x) (hg : b ≤ g) : b ≤ x := by
  have h : g = x := by simpa [Value.ownBlock] using h
  omega
/-- Behind an append: what was there from base on stands but for the row that grew. -/
theorem agF_grown {base : Nat} {w2 W w9 : World} {r : Option Nat} (hb : Below w2.heap.size w2 W) (hg : W.grownBy w9 r) (hr : ∀ x, r = some x → w2.heap.size ≤ x) : AgF base w2 w9 ∧ w2.heap.size ≤ w9.heap.size ∧ Below w2.heap.size w2 w9 := by
  have h : Below w2.heap.size w2 w9 := hb.trans ⟨hg.os, hg.tape, hg.output, hg.size, fun k hk => hg.block k (Nat.lt_of_lt_of_le hk hb.size) (fun e => by have := hr k e.symm; omega)⟩
  exact ⟨AgF.below h, h.size, h⟩
end Go.Proofs.YtafbggbdlcfbdaaGreatDoor
