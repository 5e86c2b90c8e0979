/- Rows of nodes: many are appended at once. -/
import Derived.Deep.Onto
import Derived.Test.YtempjeckngamdaaDoorZAx
import Derived.Test.YtempjeckngamdaaDoorZEg
namespace Go.Proofs.YtempjeckngamdaaDoor
open Go.RowKit

theorem ndL_one (n : Nd) (a : Option Addr) (c : Nat) : ∀ u ∈ ndL n a c, u.oneCell' = true := fun u hu => by
  simp only [ndL, List.mem_cons, List.not_mem_nil, or_false] at hu
  rcases hu with rfl | rfl | rfl | rfl | rfl | rfl | rfl <;> rfl
theorem zNode_size : (Value.agg #[.int .i64 0, .int .i64 0, .int .i64 0, .int .i64 0, .int .i64 0, .int .i64 0, .slice none 0 0]).cells.size = 7 := rfl
/-- A node's cells, wherever they lie. -/
def ndA (W : World) (b o i : Nat) : Value := (W.cell? ⟨b, o + i, none⟩).getD (.bool false)
def ndsL (W : World) (b o n : Nat) : List Value := (List.range (n * 7)).map (ndA W b o)
theorem ndsL_len (W : World) (b o n : Nat) : (ndsL W b o n).length = n * 7 := by simp [ndsL]
theorem ndsL_at {W : World} {b o n : Nat} {ns : List Nd} (h : SlF W (some ⟨b, o, none⟩) n ns) {i : Nat} (hi : i < n) : ∃ a c, (∀ j, j < 7 → (ndsL W b o n)[i * 7 + j]? = (ndL (ns.getD i zNd) a c)[j]?) ∧ (∀ j, j < 7 → W.cell? ⟨b, o + (i * 7 + j), none⟩ = (ndL (ns.getD i zNd) a c)[j]?) ∧ Sl W a (ns.getD i zNd).cf.length (ns.getD i zNd).cf := by
  obtain ⟨b', o', a, c, e, h0, h1, h2, h3, h4, h5, h6, h7⟩ := slF_cell h i hi
  cases e
  have key : ∀ j, j < 7 → W.cell? ⟨b, o + (i * 7 + j), none⟩ = (ndL (ns.getD i zNd) a c)[j]? := fun j hj => by
    rw [show o + (i * 7 + j) = o + i * 7 + j by omega]
    match j, hj with
    | 0, _ => exact h0
    | 1, _ => exact h1
    | 2, _ => exact h2
    | 3, _ => exact h3
    | 4, _ => exact h4
    | 5, _ => exact h5
    | 6, _ => exact h6
  refine ⟨a, c, fun j hj => ?_, key, h7⟩
  have hlt : i * 7 + j < n * 7 := by omega
  unfold ndsL ndA
  rw [List.getElem?_map, List.getElem?_range hlt, Option.map_some, key j hj]
  have : (ndL (ns.getD i zNd) a c)[j]? = some ((ndL (ns.getD i zNd) a c)[j]'(by rw [ndL_len]; exact hj)) := List.getElem?_eq_getElem _
  rw [this]
  rfl
theorem nwAt_many {w wr : World} {nf : Nat → Nd} {k : Nat} {v : Value} {b o n : Nat} {ns : List Nd} (h : NwAt w nf k v wr) (hs : SlF w (some ⟨b, o, none⟩) n ns) (hnf : ∀ j, j < n → nf (k + j) = ns.getD j zNd) :
    ∃ vals : List Value, wr.ownsRow w.heap.size 52 7 v k vals ∧ (∀ j u, (ndsL wr b o n)[j]? = some u → wr.cell? ((⟨b, o, none⟩ : Addr).add j) = some u) ∧ (∀ u ∈ ndsL wr b o n, u.oneCell' = true) ∧
      ∀ (w3 : World) (g' cap' : Nat), w3.ownsRow w.heap.size 52 7 (.slice (some ⟨g', 0, none⟩) (k + n) cap') (k + n) (vals ++ ndsL wr b o n) → wr.grownBy w3 v.ownBlock → (v.ownBlock = some g' ∨ g' = wr.heap.size) → NwAt w nf (k + n) (.slice (some ⟨g', 0, none⟩) (k + n) cap') w3 := by
  obtain ⟨vals, h1, h2, h3⟩ := h
  have hsr := slF_below hs h3
  have hvl : vals.length = k * 7 := by have := h1.1; omega
  have hsp : ∀ j, j < n * 7 → ∃ i l, i < n ∧ l < 7 ∧ j = i * 7 + l := fun j hj => ⟨j / 7, j % 7, by omega, by omega, by omega⟩
  refine ⟨vals, h1, fun j u hu => ?_, fun u hu => ?_, fun w3 g' cap' hown hgrow hat => ?_⟩
  · have hj := (List.getElem?_eq_some_iff.1 hu).1
    rw [ndsL_len] at hj
    obtain ⟨i, l, hi, hl, rfl⟩ := hsp j hj
    obtain ⟨a, c, e1, e2, -⟩ := ndsL_at hsr hi
    have hadd : (⟨b, o, none⟩ : Addr).add (i * 7 + l) = ⟨b, o + (i * 7 + l), none⟩ := by unfold Addr.add; split <;> simp_all
    rw [hadd, e2 l hl, ← e1 l hl]
    exact hu
  · obtain ⟨j, hj, rfl⟩ := List.getElem_of_mem hu
    rw [ndsL_len] at hj
    obtain ⟨i, l, hi, hl, rfl⟩ := hsp j hj
    obtain ⟨a, c, e1, -, -⟩ := ndsL_at hsr hi
    have h := e1 l hl
    rw [List.getElem?_eq_getElem (by rw [ndsL_len]; omega), List.getElem?_eq_getElem (by rw [ndL_len]; exact hl)] at h
    injection h with h
    rw [h]
    exact ndL_one _ _ _ _ (List.getElem_mem _)
  · have keep : ∀ {a' len' l'}, Sl wr a' len' l' → (∀ x, slB a' len' x → v.ownBlock ≠ some x) → Sl w3 a' len' l' := fun {a' len' l'} hs' hne => sl_keep hs' fun x hx => by
      have hlt := slB_lt hs' hx
      rw [hgrow.block x hlt (fun e => hne x hx e.symm)]
    have far : ∀ {a' len' l'}, Sl wr a' len' l' → (∀ x, slB a' len' x → v.ownBlock ≠ some x) → ∀ x, slB a' len' x → Value.ownBlock (.slice (some ⟨g', 0, none⟩) (k + n) cap') ≠ some x := fun {a' len' l'} hs' hne x hx e => by
      have hlt := slB_lt hs' hx
      have e' : g' = x := by simpa [Value.ownBlock] using e
      subst e'
      rcases hat with h | h
      · exact hne _ hx h
      · omega
    refine ⟨vals ++ ndsL wr b o n, hown, fun j hj => ?_, Below.grown h3 hgrow h3.size (fun x hx => (h1.lt x hx).1)⟩
    by_cases e : j < k
    · obtain ⟨a', cap', e1, e2, e3⟩ := h2 j e
      exact ⟨a', cap', fun i hi => by rw [List.getElem?_append_left (by omega)]; exact e1 i hi, keep e2 e3, far e2 e3⟩
    · obtain ⟨i, rfl⟩ : ∃ i, j = k + i := ⟨j - k, by omega⟩
      obtain ⟨a, c, e1, -, e2⟩ := ndsL_at hsr (i := i) (by omega)
      obtain ⟨aw, cw, f1, f2, f3⟩ := ndsL_at hs (i := i) (by omega)
      have hac : a = aw := by
        have g1 := e1 6 (by decide)
        obtain ⟨a', c', e1', e2', e3'⟩ := ndsL_at hsr (i := i) (by omega)
        have q1 := e2' 6 (by decide)
        have q2 := f2 6 (by decide)
        have hcell : wr.cell? ⟨b, o + (i * 7 + 6), none⟩ = w.cell? ⟨b, o + (i * 7 + 6), none⟩ := h3.cell (p := ⟨b, o + (i * 7 + 6), none⟩) (World.block_lt_of_cell? w _ (u := .slice aw (ns.getD i zNd).cf.length cw) q2)
        have q3 := e1' 6 (by decide)
        rw [g1] at q3
        rw [← hcell, q1] at q2
        simp [ndL] at q2 q3
        rw [q3.1, q2.1]
      subst hac
      have hne : ∀ x, slB a (ns.getD i zNd).cf.length x → v.ownBlock ≠ some x := fun x hx e => by
        have := slB_lt f3 hx
        have := (h1.lt _ e).1
        omega
      rw [hnf i (by omega)]
      exact ⟨a, c, fun l hl => by rw [List.getElem?_append_right (by omega), hvl, show (k + i) * 7 + l - k * 7 = i * 7 + l by omega]; exact e1 l hl, keep e2 hne, far e2 hne⟩
/-- Nodes are appended. -/
theorem wpList_append_nodes {ops : Array Oper} {rest : List Oper} {o : Oper} {a : Act} {Q : Exit → Act → World → Prop} (w : World) (hgd : o.guard = none) (s x : Operand)
    (ho : o.op = .call { callee := .builtin .append, args := #[s, x], argTypes := #[22, 22] })
    (base : Nat) (v : Value) (k : Nat) (xs : List Value) (hs : a.eval s = v) (hown : w.ownsRow base 52 7 v k xs) (ad : Addr) (m c : Nat) (news : List Value) (hx : a.eval x = .slice (some ad) m c) (hl : news.length = m * 7) (hnews : ∀ j u, news[j]? = some u → w.cell? (ad.add j) = some u) (h1 : ∀ u ∈ news, u.oneCell' = true) (hm : 0 < m) (hk : k + m ≤ 100000) (hbase : base ≤ w.heap.size)
    (h : ∀ g cap w', w'.ownsRow base 52 7 (.slice (some ⟨g, 0, none⟩) (k + m) cap) (k + m) (xs ++ news) → w.grownBy w' v.ownBlock → (v.ownBlock = some g ∨ g = w.heap.size) → wpList Tryd.prog ops Q rest (a.put o.dst (.slice (some ⟨g, 0, none⟩) (k + m) cap)) w') : wpList Tryd.prog ops Q (o :: rest) a w := by
  obtain ⟨l0, hl0, hv0, hv1, hv2⟩ := info_parts infoNd
  exact wpList_append_lies _ hgd s x 22 ho base 52 l0 (.agg #[.int .i64 0, .int .i64 0, .int .i64 0, .int .i64 0, .int .i64 0, .int .i64 0, .slice none 0 0]) 7 72 Tryd.underlying22 hl0 hv0 hv1 hv2 zNode_size (by decide) v k xs hs hown ad m c news hx hl hnews h1 hm (by unfold maxLen; omega) (by omega) hbase _ rfl (fun g cap w' h1 h2 h3 _ => h g cap w' h1 h2 h3)
end Go.Proofs.YtempjeckngamdaaDoor
