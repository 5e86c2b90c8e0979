/- line.spread: what holds between two rounds. -/
import Derived.Test.YthadkoplbgibgaeDoorPe
import Derived.Test.YthadkoplbgibgaeDoorQh
namespace Go.Proofs.YthadkoplbgibgaeDoor
open Go.RowKit

/-- The points L were numbered; qn rows and qe ends stand. -/
structure SpI (wb : World) (rows : Nat → List Int) (es : Nat → Bool) (col : Nat → Nat) (L : List Nat) (qn qe mb bq cq : Nat) (vN vE : Value) (vals : List Value) (W : World) : Prop where
  map : MapAt Tryd.prog 92 W mb (numP L)
  mcl : col mb = 1
  mbs : wb.heap.size ≤ mb
  que : QueP W bq L.length cq L
  qcl : col bq = 2
  qbs : wb.heap.size ≤ bq
  nx : OwC wb.heap.size col 4 W 40 vN vals
  rw_ : RowsC col 5 W rows qn vals
  en : OwC wb.heap.size col 6 W 4 vE ((List.range qe).map fun j => .bool (es j))
  bel : Below wb.heap.size wb W
  rb : ∀ v ∈ vals, ∀ g, v.ownBlock = some g → wb.heap.size ≤ g
/-- .. and l letters of a row in block nb. -/
structure SpX (wb : World) (rows : Nat → List Int) (es : Nat → Bool) (col : Nat → Nat) (L : List Nat) (qn qe mb bq cq : Nat) (vN vE : Value) (vals : List Value) (pb s m nb : Nat) (row : List Int) (l : Nat) (W : World) : Prop where
  sp : SpI wb rows es col L qn qe mb bq cq vN vE vals W
  row_ : W.rowIs nb 3 m fun q => .int .i64 (if q < l then row.getD q 0 else 0)
  ncl : col nb = 7
  nbs : wb.heap.size ≤ nb
  at_ : W.heap[pb]? = some (.cells #[.int .i64 (unpt s).f, .int .i64 (unpt s).s, .int .i64 (unpt s).y, .int .i64 (unpt s).l] 92 (0, 0))
  acl : col pb = 3
section
variable {wb : World} {rows : Nat → List Int} {es : Nat → Bool} {col : Nat → Nat} {L : List Nat} {qn qe mb bq cq : Nat} {vN vE : Value} {vals : List Value} {pb s m nb : Nat} {row : List Int} {l : Nat} {W W' : World}
theorem spI_keep {k : Nat} (h : SpI wb rows es col L qn qe mb bq cq vN vE vals W) (hk : KeptC col k W W') (hb : Below wb.heap.size wb W') (h1 : 1 ≠ k) (h2 : 2 ≠ k) (h4 : 4 ≠ k) (h5 : 5 ≠ k) (h6 : 6 ≠ k) : SpI wb rows es (paint col W.heap.size k) L qn qe mb bq cq vN vE vals W' :=
  ⟨h.map.of_block (hk.block mb h.map.lt (by rw [h.mcl]; exact h1)), by rw [paint_old h.map.lt]; exact h.mcl, h.mbs, queP_kept h.que (hk.block bq (queP_lt h.que) (by rw [h.qcl]; exact h2)), by rw [paint_old (queP_lt h.que)]; exact h.qcl, h.qbs, owC_keep h.nx hk h4, rowsC_keep h.rw_ hk h5, owC_keep h.en hk h6, hb, h.rb⟩
theorem spI_below (h : SpI wb rows es col L qn qe mb bq cq vN vE vals W) (hb : Below W.heap.size W W') : SpI wb rows es (paint col W.heap.size 8) L qn qe mb bq cq vN vE vals W' :=
  spI_keep h ⟨hb.size, fun x hx _ => hb.block x hx⟩ (below_step h.bel hb) (by decide) (by decide) (by decide) (by decide) (by decide)
theorem spX_below (h : SpX wb rows es col L qn qe mb bq cq vN vE vals pb s m nb row l W) (hb : Below W.heap.size W W') : SpX wb rows es (paint col W.heap.size 8) L qn qe mb bq cq vN vE vals pb s m nb row l W' :=
  have hp := (Array.getElem?_eq_some_iff.1 h.at_).1
  ⟨spI_below h.sp hb, h.row_.of_block (hb.block nb h.row_.lt), by rw [paint_old h.row_.lt]; exact h.ncl, h.nbs, (hb.block pb hp).trans h.at_, by rw [paint_old hp]; exact h.acl⟩
theorem spX_start (row : List Int) (s m : Nat) (h : SpI wb rows es col L qn qe mb bq cq vN vE vals W) : ∃ col', SpX wb rows es col' L qn qe mb bq cq vN vE vals W.heap.size s m (W.heap.size + 1) row 0 ((W.alloc (.cells #[.int .i64 (unpt s).f, .int .i64 (unpt s).s, .int .i64 (unpt s).y, .int .i64 (unpt s).l] 92)).alloc (.cells (madeCells #[.int .i64 0] m) 3)) := by
  have hb := (Below.refl W.heap.size W).alloc (Nat.le_refl _) (.cells #[.int .i64 (unpt s).f, .int .i64 (unpt s).s, .int .i64 (unpt s).y, .int .i64 (unpt s).l] 92)
  have hp := heap_alloc_last W (.cells #[.int .i64 (unpt s).f, .int .i64 (unpt s).s, .int .i64 (unpt s).y, .int .i64 (unpt s).l] 92)
  have hsz : (W.alloc (.cells #[.int .i64 (unpt s).f, .int .i64 (unpt s).s, .int .i64 (unpt s).y, .int .i64 (unpt s).l] 92)).heap.size = W.heap.size + 1 := by simp
  have h1 := spI_keep (k := 3) h ⟨hb.size, fun x hx _ => hb.block x hx⟩ (below_step h.bel hb) (by decide) (by decide) (by decide) (by decide) (by decide)
  generalize W.alloc (.cells #[.int .i64 (unpt s).f, .int .i64 (unpt s).s, .int .i64 (unpt s).y, .int .i64 (unpt s).l] 92) = W1 at hb hp hsz h1 ⊢
  have hb2 := (Below.refl W1.heap.size W1).alloc (Nat.le_refl _) (.cells (madeCells #[.int .i64 0] m) 3)
  have h2 := spI_keep (k := 7) h1 ⟨hb2.size, fun x hx _ => hb2.block x hx⟩ (below_step h1.bel hb2) (by decide) (by decide) (by decide) (by decide) (by decide)
  refine ⟨_, h2, ?_, by rw [paint_new (by omega)], by have := h.bel.size; omega, (hb2.block _ (by omega)).trans hp, by rw [paint_old (by omega), paint_new (by omega)]⟩
  rw [← hsz]
  exact (World.rowIs_made W1 (.int .i64 0) m 3).congr fun p hp => by rw [if_neg (by omega)]
theorem spX_cell (h : SpX wb rows es col L qn qe mb bq cq vN vE vals pb s m nb row l W) (hl : l < m) : W.cell? ⟨nb, l, none⟩ = some (.int .i64 0) ∧ W.frozen? ⟨nb, l, none⟩ = false := by
  have := h.row_.cell hl
  rw [if_neg (Nat.lt_irrefl _)] at this
  exact ⟨this, h.row_.frozen l⟩
theorem spX_set {z : Int} (h : SpX wb rows es col L qn qe mb bq cq vN vE vals pb s m nb row l W) (hz : row.getD l 0 = z) : SpX wb rows es (paint col W.heap.size 7) L qn qe mb bq cq vN vE vals pb s m nb row (l + 1) (W.setCell ⟨nb, l, none⟩ (.int .i64 z)) := by
  have hk : KeptC col 7 W (W.setCell ⟨nb, l, none⟩ (.int .i64 z)) := ⟨by simp, fun x hx hc => Below.heap_setCell _ _ _ _ (fun e => hc (by rw [show x = nb from e]; exact h.ncl))⟩
  have hp := (Array.getElem?_eq_some_iff.1 h.at_).1
  refine ⟨spI_keep h.sp hk (h.sp.bel.setCell h.nbs _) (by decide) (by decide) (by decide) (by decide) (by decide), (h.row_.set _ _).congr fun q _ => ?_, by rw [paint_old h.row_.lt]; exact h.ncl, h.nbs, (hk.block pb hp (by rw [h.acl]; decide)).trans h.at_, by rw [paint_old hp]; exact h.acl⟩
  by_cases e : q = l
  · subst e; rw [if_pos rfl, if_pos (by omega), hz]
  · rw [if_neg e]
    congr 1
    by_cases e2 : q < l
    · rw [if_pos e2, if_pos (show q < l + 1 by omega)]
    · rw [if_neg e2, if_neg (show ¬ q < l + 1 by omega)]
/-- One point is numbered anew. -/
theorem spX_new {M : Nat} {w5 w6 : World} {o : Obj} {b' cap' : Nat} (h : SpX wb rows es col L qn qe mb bq cq vN vE vals pb s m nb row l W)
    (hm : MapAt Tryd.prog 92 w5 mb (numP L ++ [(ptU M, .int .i64 (L.length : Int))])) (ht : W.mapTurned w5 mb) (hq : QueP w6 b' (L.length + 1) cap' (L ++ [M])) (hg : (w5.alloc o).grownBy w6 (some bq)) (hb' : b' = bq ∨ (w5.alloc o).heap.size ≤ b') :
    SpX wb rows es (paint (paint col W.heap.size 1) w5.heap.size 2) (L ++ [M]) qn qe mb b' cap' vN vE vals pb s m nb row l w6 := by
  have s5 := ht.grown.size
  have s6 := hg.size
  rw [World.size_alloc] at s6 hb'
  have l1 := queP_lt h.sp.que
  have l2 := h.sp.map.lt
  have l8 := h.row_.lt
  have hmq : mb ≠ bq := fun e => by have := h.sp.mcl; rw [e, h.sp.qcl] at this; omega
  have hnm : nb ≠ mb := fun e => by have := h.ncl; rw [e, h.sp.mcl] at this; omega
  have hnq : nb ≠ bq := fun e => by have := h.ncl; rw [e, h.sp.qcl] at this; omega
  have k5 : KeptC col 1 W w5 := ⟨s5, fun x hx hc => ht.grown.block x hx (fun e => by cases e; exact hc h.sp.mcl)⟩
  have b5 : Below wb.heap.size wb w5 := Below.grown h.sp.bel ht.grown h.sp.bel.size (fun x e => by cases e; exact h.sp.mbs)
  have q5 : QueP w5 bq L.length cq L := queP_kept h.sp.que (k5.block bq l1 (by rw [h.sp.qcl]; decide))
  have c5 : paint col W.heap.size 1 bq = 2 := by rw [paint_old l1]; exact h.sp.qcl
  have k6 : KeptC (paint col W.heap.size 1) 2 w5 w6 := ⟨by omega, fun x hx hc => by
    rw [hg.block x (by rw [World.size_alloc]; omega) (fun e => by cases e; exact hc c5), Below.heap_alloc _ _ _ hx]⟩
  have b6 : Below wb.heap.size wb w6 := Below.grown (b5.alloc b5.size o) hg (by have := b5.size; rw [World.size_alloc]; omega) (fun x e => by cases e; exact h.sp.qbs)
  have m6 : paint col W.heap.size 1 mb = 1 := by rw [paint_old l2]; exact h.sp.mcl
  have hp := (Array.getElem?_eq_some_iff.1 h.at_).1
  have a6 : paint col W.heap.size 1 pb = 3 := by rw [paint_old hp]; exact h.acl
  have n6 : paint col W.heap.size 1 nb = 7 := by rw [paint_old l8]; exact h.ncl
  refine ⟨⟨?_, by rw [paint_old (by omega)]; exact m6, h.sp.mbs, by rw [List.length_append]; exact hq, ?_, ?_, owC_keep (owC_keep h.sp.nx k5 (by decide)) k6 (by decide), rowsC_keep (rowsC_keep h.sp.rw_ k5 (by decide)) k6 (by decide), owC_keep (owC_keep h.sp.en k5 (by decide)) k6 (by decide), b6, h.sp.rb⟩, (h.row_.of_block (k5.block nb l8 (by rw [h.ncl]; decide))).of_block (k6.block nb (by omega) (by rw [n6]; decide)), by rw [paint_old (by omega)]; exact n6, h.nbs, (k6.block pb (by omega) (by rw [a6]; decide)).trans ((k5.block pb hp (by rw [h.acl]; decide)).trans h.at_), by rw [paint_old (by omega)]; exact a6⟩
  · rw [numP_new]
    exact hm.of_block (k6.block mb (by omega) (by rw [m6]; decide))
  · rcases hb' with rfl | hb'
    · rw [paint_old (by omega)]; exact c5
    · rw [paint_new (by omega)]
  · rcases hb' with rfl | hb'
    · exact h.sp.qbs
    · have := b5.size; omega
/-- The row is put to the others. -/
theorem spX_N {w3 : World} {o : Obj} {g' cap' : Nat} (h : SpX wb rows es col L qn qe mb bq cq vN vE vals pb s m nb (rows qn) m W) (hrl : (rows qn).length = m) (hmx : m ≤ maxLen) (hwf : ∀ x ∈ rows qn, (Lit.int .i64 x).wf = true) (hown : w3.ownsRow wb.heap.size 40 1 (.slice (some ⟨g', 0, none⟩) (qn + 1) cap') (qn + 1) (vals ++ [.slice (some ⟨nb, 0, none⟩) m m])) (hgrow : (W.alloc o).grownBy w3 vN.ownBlock) (hat : vN.ownBlock = some g' ∨ g' = W.heap.size + 1) :
    SpI wb rows es (paint (fun x => if x = nb then 5 else col x) W.heap.size 4) L (qn + 1) qe mb bq cq (.slice (some ⟨g', 0, none⟩) (qn + 1) cap') vE (vals ++ [.slice (some ⟨nb, 0, none⟩) m m]) w3 := by
  obtain ⟨h, hrow, hncl, hnbs, -, -⟩ := h
  have hne : ∀ {x k : Nat}, col x = k → k ≠ 7 → x ≠ nb := fun {x k} hx hk e => hk (by rw [← hx, e, hncl])
  have hc : ∀ {x k : Nat}, col x = k → k ≠ 7 → (fun x => if x = nb then 5 else col x) x = k := fun {x k} hx hk => by show (if x = nb then 5 else col x) = k; rw [if_neg (hne hx hk)]; exact hx
  have hs : Sl W (some ⟨nb, 0, none⟩) (rows qn).length (rows qn) := sl_of_rowIs rfl (by rw [hrl]; exact hmx) hwf (by rw [hrl]; exact hrow.congr fun q hq => by rw [if_pos hq])
  have hnx : OwC wb.heap.size (fun x => if x = nb then 5 else col x) 4 W 40 vN vals := ⟨h.nx.own, fun x hx => hc (h.nx.clr x hx) (by decide)⟩
  have hen : OwC wb.heap.size (fun x => if x = nb then 5 else col x) 6 W 4 vE ((List.range qe).map fun j => .bool (es j)) := ⟨h.en.own, fun x hx => hc (h.en.clr x hx) (by decide)⟩
  have hr5 : RowsC (fun x => if x = nb then 5 else col x) 5 W rows qn vals := ⟨h.rw_.1, fun j hj => by
    obtain ⟨gj, cj, e1, e2, e3, e4⟩ := h.rw_.2 j hj
    exact ⟨gj, cj, e1, e2, hc e3 (by decide), e4⟩⟩
  obtain ⟨h1, hk⟩ := owC_push hnx h.rw_.1 hown hgrow hat
  have hr6 := rowsC_keep hr5 hk (by decide)
  have lq := queP_lt h.que
  refine ⟨h.map.of_block (hk.block mb h.map.lt (by show (if mb = nb then 5 else col mb) ≠ 4; rw [if_neg (hne h.mcl (by decide)), h.mcl]; decide)), by rw [paint_old h.map.lt]; exact hc h.mcl (by decide), h.mbs, queP_kept h.que (hk.block bq lq (by show (if bq = nb then 5 else col bq) ≠ 4; rw [if_neg (hne h.qcl (by decide)), h.qcl]; decide)), by rw [paint_old lq]; exact hc h.qcl (by decide), h.qbs, h1, ⟨by rw [List.length_append, h.rw_.1]; rfl, fun j hj => ?_⟩, owC_keep hen hk (by decide),
    Below.grown (h.bel.alloc h.bel.size o) hgrow (by have := h.bel.size; rw [World.size_alloc]; omega) (fun x hx => (h.nx.own.lt x hx).1), fun v hv g hg => ?_⟩
  rotate_left
  · rcases List.mem_append.1 hv with hv | hv
    · exact h.rb v hv g hg
    · simp only [List.mem_singleton] at hv
      subst hv
      have e1 : nb = g := by simpa [Value.ownBlock] using hg
      omega
  by_cases e : j = qn
  · subst e
    exact ⟨nb, m, by rw [List.getElem?_append_right (by rw [h.rw_.1]; omega), h.rw_.1]; simp [hrl], sl_block hs (hk.block nb hrow.lt (by show (if nb = nb then 5 else col nb) ≠ 4; rw [if_pos rfl]; decide)), by rw [paint_old hrow.lt]; show (if nb = nb then 5 else col nb) = 5; rw [if_pos rfl], by have := hk.size; have := hrow.lt; omega⟩
  · obtain ⟨gj, cj, e1, e2⟩ := hr6.2 j (by omega)
    exact ⟨gj, cj, by rw [List.getElem?_append_left (by rw [h.rw_.1]; omega)]; exact e1, e2⟩
/-- One end more. -/
theorem spI_E {w3 : World} {o : Obj} {g' cap' : Nat} (h : SpI wb rows es col L qn qe mb bq cq vN vE vals W) (hown : w3.ownsRow wb.heap.size 4 1 (.slice (some ⟨g', 0, none⟩) (qe + 1) cap') (qe + 1) (((List.range qe).map fun j => Value.bool (es j)) ++ [.bool (es qe)])) (hgrow : (W.alloc o).grownBy w3 vE.ownBlock) (hat : vE.ownBlock = some g' ∨ g' = W.heap.size + 1) :
    SpI wb rows es (paint col W.heap.size 6) L qn (qe + 1) mb bq cq vN (.slice (some ⟨g', 0, none⟩) (qe + 1) cap') vals w3 := by
  obtain ⟨h1, hk⟩ := owC_push h.en (by simp) hown hgrow hat
  have lq := queP_lt h.que
  exact ⟨h.map.of_block (hk.block mb h.map.lt (by rw [h.mcl]; decide)), by rw [paint_old h.map.lt]; exact h.mcl, h.mbs, queP_kept h.que (hk.block bq lq (by rw [h.qcl]; decide)), by rw [paint_old lq]; exact h.qcl, h.qbs, owC_keep h.nx hk (by decide), rowsC_keep h.rw_ hk (by decide), by rw [List.range_succ, List.map_append]; exact h1,
    Below.grown (h.bel.alloc h.bel.size o) hgrow (by have := h.bel.size; rw [World.size_alloc]; omega) (fun x hx => (h.en.own.lt x hx).1), h.rb⟩
/-- The point at hand is as it was. -/
theorem spX_at {w3 : World} {o : Obj} (h : SpX wb rows es col L qn qe mb bq cq vN vE vals pb s m nb row l W) (hgrow : (W.alloc o).grownBy w3 vN.ownBlock) : w3.heap[pb]? = some (.cells #[.int .i64 (unpt s).f, .int .i64 (unpt s).s, .int .i64 (unpt s).y, .int .i64 (unpt s).l] 92 (0, 0)) := by
  have hp := (Array.getElem?_eq_some_iff.1 h.at_).1
  rw [hgrow.block pb (by rw [World.size_alloc]; omega) (fun e => by have := h.sp.nx.clr pb e.symm; rw [h.acl] at this; omega), Below.heap_alloc _ _ _ hp]
  exact h.at_
/-- Rows in the end. -/
theorem spI_end {aN aE : Option Addr} {cN cE : Nat} (h : SpI wb rows es col L qn qn mb bq cq (.slice aN qn cN) (.slice aE qn cE) vals W) (hk : qn ≤ maxLen) (N : List (List Int)) (hN : N.length = qn) (hr : ∀ j, j < qn → N.getD j [] = rows j) (E : List Bool) (hE : E.length = qn) (he : ∀ j, j < qn → E.getD j false = es j) :
    AutoNew wb aN qn N aE E W := fun W' hW' => by
  have hvl := h.rw_.1
  have h2 := ownsRow_of_block (w' := W') h.nx.own (fun x hx => hW' x (h.nx.own.lt x hx).1 (h.nx.own.lt x hx).2)
  rw [hvl] at h2
  have h3 := ownsRow_of_block (w' := W') h.en.own (fun x hx => hW' x (h.en.own.lt x hx).1 (h.en.own.lt x hx).2)
  rw [List.length_map, List.length_range] at h3
  constructor
  · rcases h2.2 with ⟨-, e2⟩ | ⟨g, cap, cur, e1, _⟩
    · exact ⟨hN, hk, Or.inl e2⟩
    · cases e1
      refine ⟨hN, hk, Or.inr ⟨g, 0, rfl, fun i hi => ?_⟩⟩
      obtain ⟨gi, ci, e1, e2, -, e4⟩ := h.rw_.2 i hi
      have hb := h.rb _ (List.mem_of_getElem? e1) gi (by simp [Value.ownBlock])
      rw [hr i hi, Nat.zero_add, h2.cellAt i (by omega)]
      exact ⟨_, ci, e1, sl_block e2 (hW' gi hb e4)⟩
  · rcases h3.2 with ⟨-, e2⟩ | ⟨g, cap, cur, e1, _⟩
    · exact ⟨hE, hk, Or.inl e2⟩
    · cases e1
      refine ⟨hE, hk, Or.inr ⟨g, 0, rfl, fun i hi => ?_⟩⟩
      rw [Nat.zero_add, h3.cellAt i (by omega), he i hi]
      simp [hi]
end
theorem four_new (w : World) (x y z u : Value) (t : TypeId) : ∀ j v, [x, y, z, u][j]? = some v → (w.alloc (.cells #[x, y, z, u] t)).cell? ((⟨w.heap.size, 0, none⟩ : Addr).add j) = some v := by
  intro j v h
  rw [Addr.add_lit, cell_of_row _ _ _ _ t (0, 0) (heap_alloc_last w _), Nat.zero_add]
  simpa using h
theorem spI_start {w wp : World} {f : Nat} (rows : Nat → List Int) (es : Nat → Bool) {wv : World} (hbw : Below w.heap.size w wv) (hmp : MapAt Tryd.prog 92 wp wv.heap.size ([] ++ [(ptU f, .int .i64 0)])) (htn : (wv.alloc (.map #[] 0)).mapTurned wp wv.heap.size) : ∃ col, SpI w rows es col [f] 0 0 wv.heap.size wp.heap.size 1 (.slice none 0 0) (.slice none 0 0) [] (wp.alloc (.cells #[.int .i64 (unpt f).f, .int .i64 (unpt f).s, .int .i64 (unpt f).y, .int .i64 (unpt f).l] 92)) := by
  have s1 := htn.grown.size
  rw [World.size_alloc] at s1
  have sw := hbw.size
  have bp : Below w.heap.size w wp := Below.grown (hbw.alloc hbw.size (.map #[] 0)) htn.grown (by rw [World.size_alloc]; omega) (fun x e => by cases e; exact hbw.size)
  refine ⟨fun x => if x = wv.heap.size then 1 else 2, ?_, if_pos rfl, sw, ⟨rfl, by simp, by decide, #[.int .i64 (unpt f).f, .int .i64 (unpt f).s, .int .i64 (unpt f).y, .int .i64 (unpt f).l], heap_alloc_last _ _, by simp, fun q hq => ?_⟩, if_neg (by omega), by omega, owC_nil _ _ _ _ _, ⟨rfl, fun j hj => by omega⟩, owC_nil _ _ _ _ _, bp.alloc bp.size _, fun v hv => by simp at hv⟩
  · have e : numP [f] = [] ++ [(ptU f, .int .i64 0)] := by simp [numP, List.range_succ]
    rw [e]
    exact hmp.alloc _
  · simp at hq
    rcases (show q = 0 ∨ q = 1 ∨ q = 2 ∨ q = 3 by omega) with rfl | rfl | rfl | rfl
    · simp [ptC, fldP]
    · simp [ptC, fldP]
    · simp [ptC, fldP]
    · simp [ptC, fldP]
end Go.Proofs.YthadkoplbgibgaeDoor
