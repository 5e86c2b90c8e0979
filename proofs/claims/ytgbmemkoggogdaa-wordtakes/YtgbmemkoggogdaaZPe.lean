/- 3 texts in one. -/
import Derived.Test.YtgbmemkoggogdaaCi
import Derived.Test.YtgbmemkoggogdaaCm
import Derived.Test.YtgbmemkoggogdaaZHh
import Derived.Test.YtgbmemkoggogdaaZKa
import Derived.Test.YtgbmemkoggogdaaZDg
/- Rows that a call builds side by side, each block with a colour: what holds between the rounds of the reference's LineOf. -/
namespace Go.Proofs.Ytgbmemkoggogdaa
open Go.RowKit

/-- New blocks bear this colour. -/
def paint (col : Nat → Nat) (s k x : Nat) : Nat := if x < s then col x else k
theorem paint_old {col : Nat → Nat} {s k x : Nat} (h : x < s) : paint col s k x = col x := by unfold paint; rw [if_pos h]
theorem paint_new {col : Nat → Nat} {s k x : Nat} (h : ¬ x < s) : paint col s k x = k := by unfold paint; rw [if_neg h]
/-- A row of its own, in a block of this colour. -/
structure OwC (base : Nat) (col : Nat → Nat) (k : Nat) (W : World) (e : TypeId) (v : Value) (xs : List Value) : Prop where
  own : W.ownsRow base e 1 v xs.length xs
  clr : ∀ x, v.ownBlock = some x → col x = k
/-- Blocks of other colours are as they were. -/
structure KeptC (col : Nat → Nat) (k : Nat) (W W' : World) : Prop where
  size : W.heap.size ≤ W'.heap.size
  block : ∀ x, x < W.heap.size → col x ≠ k → W'.heap[x]? = W.heap[x]?
theorem owC_nil (base : Nat) (col : Nat → Nat) (k : Nat) (W : World) (e : TypeId) : OwC base col k W e (.slice none 0 0) [] := ⟨World.ownsRow_nil _ _ _ _, fun x hx => by simp [Value.ownBlock] at hx⟩
theorem owC_push {base : Nat} {col : Nat → Nat} {k : Nat} {W w3 : World} {e : TypeId} {v y : Value} {xs : List Value} {o : Obj} {n g' cap' : Nat} (h : OwC base col k W e v xs) (hn : xs.length = n) (hown : w3.ownsRow base e 1 (.slice (some ⟨g', 0, none⟩) (n + 1) cap') (n + 1) (xs ++ [y])) (hgrow : (W.alloc o).grownBy w3 v.ownBlock) (hat : v.ownBlock = some g' ∨ g' = W.heap.size + 1) :
    OwC base (paint col W.heap.size k) k w3 e (.slice (some ⟨g', 0, none⟩) (n + 1) cap') (xs ++ [y]) ∧ KeptC col k W w3 := by
  have s3 := hgrow.size
  rw [World.size_alloc] at s3
  refine ⟨⟨by rw [List.length_append, List.length_singleton, hn]; exact hown, fun x hx => ?_⟩, ⟨by omega, fun x hx hc => ?_⟩⟩
  · have e1 : g' = x := by simpa [Value.ownBlock] using hx
    subst e1
    rcases hat with h1 | h1
    · rw [paint_old (h.own.lt _ h1).2]; exact h.clr _ h1
    · rw [paint_new (by omega)]
  · rw [hgrow.block x (by rw [World.size_alloc]; omega) (fun e => hc (h.clr x e.symm)), Below.heap_alloc _ _ _ hx]
theorem owC_keep {base : Nat} {col : Nat → Nat} {j k : Nat} {W W' : World} {e : TypeId} {v : Value} {xs : List Value} (h : OwC base col j W e v xs) (hk : KeptC col k W W') (hj : j ≠ k) : OwC base (paint col W.heap.size k) j W' e v xs :=
  ⟨ownsRow_of_block h.own (fun x hx => hk.block x (h.own.lt x hx).2 (by rw [h.clr x hx]; exact hj)), fun x hx => by rw [paint_old (h.own.lt x hx).2]; exact h.clr x hx⟩
/-- Rows of numbers that were gathered. -/
def RowsC (col : Nat → Nat) (k : Nat) (W : World) (rows : Nat → List Int) (q : Nat) (vals : List Value) : Prop := vals.length = q ∧ ∀ j, j < q → ∃ g cap, vals[j]? = some (.slice (some ⟨g, 0, none⟩) (rows j).length cap) ∧ Sl W (some ⟨g, 0, none⟩) (rows j).length (rows j) ∧ col g = k ∧ g < W.heap.size
theorem sl_block {W W' : World} {g len : Nat} {l : List Int} (h : Sl W (some ⟨g, 0, none⟩) len l) (hk : W'.heap[g]? = W.heap[g]?) : Sl W' (some ⟨g, 0, none⟩) len l := sl_keep h fun x hx => by
  obtain ⟨_, ad, e, rfl⟩ := hx
  cases e
  exact hk
theorem rowsC_keep {col : Nat → Nat} {j k : Nat} {W W' : World} {rows : Nat → List Int} {q : Nat} {vals : List Value} (h : RowsC col j W rows q vals) (hk : KeptC col k W W') (hj : j ≠ k) : RowsC (paint col W.heap.size k) j W' rows q vals :=
  ⟨h.1, fun i hi => by
    obtain ⟨g, cap, e1, e2, e3, e4⟩ := h.2 i hi
    exact ⟨g, cap, e1, sl_block e2 (hk.block g e4 (by rw [e3]; exact hj)), by rw [paint_old e4]; exact e3, by have := hk.size; omega⟩⟩
section
variable {wb : World} {g0 : Nat} {rows : Nat → List Int} {es : Nat → Bool} {col : Nat → Nat} {LN LA LB : List Nat} {qn qe : Nat} {vA vB vN vE vR : Value} {vals : List Value} {R : List Int} {W : World}
end
end Go.Proofs.Ytgbmemkoggogdaa

/- word.meet: what holds between two rounds. -/
namespace Go.Proofs.Ytgbmemkoggogdaa
open Go.RowKit

/-- The points L were numbered; qn rows stand. -/
structure MtI (wb : World) (rows : Nat → List Int) (col : Nat → Nat) (L : List Nat) (qn mb bq cq : Nat) (vN : Value) (vals : List Value) (W : World) : Prop where
  map : MapAt Try.prog 84 W mb (numW L)
  mcl : col mb = 1
  mbs : wb.heap.size ≤ mb
  que : QueW W bq L.length cq L
  qcl : col bq = 2
  qbs : wb.heap.size ≤ bq
  nx : OwC wb.heap.size col 4 W 23 vN vals
  rw_ : RowsC col 5 W rows qn vals
  bel : Below wb.heap.size wb W
  rb : ∀ v ∈ vals, ∀ g, v.ownBlock = some g → wb.heap.size ≤ g
/-- .. and l letters of a row in block nb. -/
structure MtX (wb : World) (rows : Nat → List Int) (col : Nat → Nat) (L : List Nat) (qn mb bq cq : Nat) (vN : Value) (vals : List Value) (pb s m nb : Nat) (row : List Int) (l : Nat) (W : World) : Prop where
  sp : MtI wb rows col L qn mb bq cq vN vals W
  row_ : W.rowIs nb 3 m fun q => .int .i64 (if q < l then row.getD q 0 else 0)
  ncl : col nb = 7
  nbs : wb.heap.size ≤ nb
  at_ : W.heap[pb]? = some (.cells #[.int .i64 (spA s), .int .i64 (spB s)] 84 (0, 0))
  acl : col pb = 3
section
variable {wb : World} {rows : Nat → List Int} {col : Nat → Nat} {L : List Nat} {qn mb bq cq : Nat} {vN : Value} {vals : List Value} {pb s m nb : Nat} {row : List Int} {l : Nat} {W W' : World}
theorem mtI_keep {k : Nat} (h : MtI wb rows col L qn mb bq cq vN vals W) (hk : KeptC col k W W') (hb : Below wb.heap.size wb W') (h1 : 1 ≠ k) (h2 : 2 ≠ k) (h4 : 4 ≠ k) (h5 : 5 ≠ k) : MtI wb rows (paint col W.heap.size k) L qn mb bq cq vN vals W' :=
  ⟨h.map.of_block (hk.block mb h.map.lt (by rw [h.mcl]; exact h1)), by rw [paint_old h.map.lt]; exact h.mcl, h.mbs, queW_kept h.que (hk.block bq (queW_lt h.que) (by rw [h.qcl]; exact h2)), by rw [paint_old (queW_lt h.que)]; exact h.qcl, h.qbs, owC_keep h.nx hk h4, rowsC_keep h.rw_ hk h5, hb, h.rb⟩
theorem mtI_below (h : MtI wb rows col L qn mb bq cq vN vals W) (hb : Below W.heap.size W W') : MtI wb rows (paint col W.heap.size 8) L qn mb bq cq vN vals W' :=
  mtI_keep h ⟨hb.size, fun x hx _ => hb.block x hx⟩ (below_step h.bel hb) (by decide) (by decide) (by decide) (by decide)
theorem mtX_below (h : MtX wb rows col L qn mb bq cq vN vals pb s m nb row l W) (hb : Below W.heap.size W W') : MtX wb rows (paint col W.heap.size 8) L qn mb bq cq vN vals pb s m nb row l W' :=
  have hp := (Array.getElem?_eq_some_iff.1 h.at_).1
  ⟨mtI_below h.sp hb, h.row_.of_block (hb.block nb h.row_.lt), by rw [paint_old h.row_.lt]; exact h.ncl, h.nbs, (hb.block pb hp).trans h.at_, by rw [paint_old hp]; exact h.acl⟩
theorem mtX_start (row : List Int) (s m : Nat) (h : MtI wb rows col L qn mb bq cq vN vals W) : ∃ col', MtX wb rows col' L qn mb bq cq vN vals W.heap.size s m (W.heap.size + 1) row 0 ((W.alloc (.cells #[.int .i64 (spA s), .int .i64 (spB s)] 84)).alloc (.cells (madeCells #[.int .i64 0] m) 3)) := by
  have hb := (Below.refl W.heap.size W).alloc (Nat.le_refl _) (.cells #[.int .i64 (spA s), .int .i64 (spB s)] 84)
  have hp := heap_alloc_last W (.cells #[.int .i64 (spA s), .int .i64 (spB s)] 84)
  have hsz : (W.alloc (.cells #[.int .i64 (spA s), .int .i64 (spB s)] 84)).heap.size = W.heap.size + 1 := by simp
  have h1 := mtI_keep (k := 3) h ⟨hb.size, fun x hx _ => hb.block x hx⟩ (below_step h.bel hb) (by decide) (by decide) (by decide) (by decide)
  generalize W.alloc (.cells #[.int .i64 (spA s), .int .i64 (spB s)] 84) = W1 at hb hp hsz h1 ⊢
  have hb2 := (Below.refl W1.heap.size W1).alloc (Nat.le_refl _) (.cells (madeCells #[.int .i64 0] m) 3)
  have h2 := mtI_keep (k := 7) h1 ⟨hb2.size, fun x hx _ => hb2.block x hx⟩ (below_step h1.bel hb2) (by decide) (by decide) (by decide) (by decide)
  refine ⟨_, h2, ?_, by rw [paint_new (by omega)], by have := h.bel.size; omega, (hb2.block _ (by omega)).trans hp, by rw [paint_old (by omega), paint_new (by omega)]⟩
  rw [← hsz]
  exact (World.rowIs_made W1 (.int .i64 0) m 3).congr fun p hp => by rw [if_neg (by omega)]
theorem mtX_cell (h : MtX wb rows col L qn mb bq cq vN vals pb s m nb row l W) (hl : l < m) : W.cell? ⟨nb, l, none⟩ = some (.int .i64 0) ∧ W.frozen? ⟨nb, l, none⟩ = false := by
  have := h.row_.cell hl
  rw [if_neg (Nat.lt_irrefl _)] at this
  exact ⟨this, h.row_.frozen l⟩
theorem mtX_set {z : Int} (h : MtX wb rows col L qn mb bq cq vN vals pb s m nb row l W) (hz : row.getD l 0 = z) : MtX wb rows (paint col W.heap.size 7) L qn mb bq cq vN vals pb s m nb row (l + 1) (W.setCell ⟨nb, l, none⟩ (.int .i64 z)) := by
  have hk : KeptC col 7 W (W.setCell ⟨nb, l, none⟩ (.int .i64 z)) := ⟨by simp, fun x hx hc => Below.heap_setCell _ _ _ _ (fun e => hc (by rw [show x = nb from e]; exact h.ncl))⟩
  have hp := (Array.getElem?_eq_some_iff.1 h.at_).1
  refine ⟨mtI_keep h.sp hk (h.sp.bel.setCell h.nbs _) (by decide) (by decide) (by decide) (by decide), (h.row_.set _ _).congr fun q _ => ?_, by rw [paint_old h.row_.lt]; exact h.ncl, h.nbs, (hk.block pb hp (by rw [h.acl]; decide)).trans h.at_, by rw [paint_old hp]; exact h.acl⟩
  by_cases e : q = l
  · subst e; rw [if_pos rfl, if_pos (by omega), hz]
  · rw [if_neg e]
    congr 1
    by_cases e2 : q < l
    · rw [if_pos e2, if_pos (show q < l + 1 by omega)]
    · rw [if_neg e2, if_neg (show ¬ q < l + 1 by omega)]
/-- One point is numbered anew. -/
theorem mtX_new {M : Nat} {w5 w6 : World} {o : Obj} {b' cap' : Nat} (h : MtX wb rows col L qn mb bq cq vN vals pb s m nb row l W)
    (hm : MapAt Try.prog 84 w5 mb (numW L ++ [(spU M, .int .i64 (L.length : Int))])) (ht : W.mapTurned w5 mb) (hq : QueW w6 b' (L.length + 1) cap' (L ++ [M])) (hg : (w5.alloc o).grownBy w6 (some bq)) (hb' : b' = bq ∨ (w5.alloc o).heap.size ≤ b') :
    MtX wb rows (paint (paint col W.heap.size 1) w5.heap.size 2) (L ++ [M]) qn mb b' cap' vN vals pb s m nb row l w6 := by
  have s5 := ht.grown.size
  have s6 := hg.size
  rw [World.size_alloc] at s6 hb'
  have l1 := queW_lt h.sp.que
  have l2 := h.sp.map.lt
  have l8 := h.row_.lt
  have hmq : mb ≠ bq := fun e => by have := h.sp.mcl; rw [e, h.sp.qcl] at this; omega
  have hnm : nb ≠ mb := fun e => by have := h.ncl; rw [e, h.sp.mcl] at this; omega
  have hnq : nb ≠ bq := fun e => by have := h.ncl; rw [e, h.sp.qcl] at this; omega
  have k5 : KeptC col 1 W w5 := ⟨s5, fun x hx hc => ht.grown.block x hx (fun e => by cases e; exact hc h.sp.mcl)⟩
  have b5 : Below wb.heap.size wb w5 := Below.grown h.sp.bel ht.grown h.sp.bel.size (fun x e => by cases e; exact h.sp.mbs)
  have q5 : QueW w5 bq L.length cq L := queW_kept h.sp.que (k5.block bq l1 (by rw [h.sp.qcl]; decide))
  have c5 : paint col W.heap.size 1 bq = 2 := by rw [paint_old l1]; exact h.sp.qcl
  have k6 : KeptC (paint col W.heap.size 1) 2 w5 w6 := ⟨by omega, fun x hx hc => by
    rw [hg.block x (by rw [World.size_alloc]; omega) (fun e => by cases e; exact hc c5), Below.heap_alloc _ _ _ hx]⟩
  have b6 : Below wb.heap.size wb w6 := Below.grown (b5.alloc b5.size o) hg (by have := b5.size; rw [World.size_alloc]; omega) (fun x e => by cases e; exact h.sp.qbs)
  have m6 : paint col W.heap.size 1 mb = 1 := by rw [paint_old l2]; exact h.sp.mcl
  have hp := (Array.getElem?_eq_some_iff.1 h.at_).1
  have a6 : paint col W.heap.size 1 pb = 3 := by rw [paint_old hp]; exact h.acl
  have n6 : paint col W.heap.size 1 nb = 7 := by rw [paint_old l8]; exact h.ncl
  refine ⟨⟨?_, by rw [paint_old (by omega)]; exact m6, h.sp.mbs, by rw [List.length_append]; exact hq, ?_, ?_, owC_keep (owC_keep h.sp.nx k5 (by decide)) k6 (by decide), rowsC_keep (rowsC_keep h.sp.rw_ k5 (by decide)) k6 (by decide), b6, h.sp.rb⟩, (h.row_.of_block (k5.block nb l8 (by rw [h.ncl]; decide))).of_block (k6.block nb (by omega) (by rw [n6]; decide)), by rw [paint_old (by omega)]; exact n6, h.nbs, (k6.block pb (by omega) (by rw [a6]; decide)).trans ((k5.block pb hp (by rw [h.acl]; decide)).trans h.at_), by rw [paint_old (by omega)]; exact a6⟩
  · rw [numW_new]
    exact hm.of_block (k6.block mb (by omega) (by rw [m6]; decide))
  · rcases hb' with rfl | hb'
    · rw [paint_old (by omega)]; exact c5
    · rw [paint_new (by omega)]
  · rcases hb' with rfl | hb'
    · exact h.sp.qbs
    · have := b5.size; omega
/-- The row is put to the others. -/
theorem mtX_N {w3 : World} {o : Obj} {g' cap' : Nat} (h : MtX wb rows col L qn mb bq cq vN vals pb s m nb (rows qn) m W) (hrl : (rows qn).length = m) (hmx : m ≤ maxLen) (hwf : ∀ x ∈ rows qn, (Lit.int .i64 x).wf = true) (hown : w3.ownsRow wb.heap.size 23 1 (.slice (some ⟨g', 0, none⟩) (qn + 1) cap') (qn + 1) (vals ++ [.slice (some ⟨nb, 0, none⟩) m m])) (hgrow : (W.alloc o).grownBy w3 vN.ownBlock) (hat : vN.ownBlock = some g' ∨ g' = W.heap.size + 1) :
    MtI wb rows (paint (fun x => if x = nb then 5 else col x) W.heap.size 4) L (qn + 1) mb bq cq (.slice (some ⟨g', 0, none⟩) (qn + 1) cap') (vals ++ [.slice (some ⟨nb, 0, none⟩) m m]) w3 := by
  obtain ⟨h, hrow, hncl, hnbs, -, -⟩ := h
  have hne : ∀ {x k : Nat}, col x = k → k ≠ 7 → x ≠ nb := fun {x k} hx hk e => hk (by rw [← hx, e, hncl])
  have hc : ∀ {x k : Nat}, col x = k → k ≠ 7 → (fun x => if x = nb then 5 else col x) x = k := fun {x k} hx hk => by show (if x = nb then 5 else col x) = k; rw [if_neg (hne hx hk)]; exact hx
  have hs : Sl W (some ⟨nb, 0, none⟩) (rows qn).length (rows qn) := sl_of_rowIs rfl (by rw [hrl]; exact hmx) hwf (by rw [hrl]; exact hrow.congr fun q hq => by rw [if_pos hq])
  have hnx : OwC wb.heap.size (fun x => if x = nb then 5 else col x) 4 W 23 vN vals := ⟨h.nx.own, fun x hx => hc (h.nx.clr x hx) (by decide)⟩
  have hr5 : RowsC (fun x => if x = nb then 5 else col x) 5 W rows qn vals := ⟨h.rw_.1, fun j hj => by
    obtain ⟨gj, cj, e1, e2, e3, e4⟩ := h.rw_.2 j hj
    exact ⟨gj, cj, e1, e2, hc e3 (by decide), e4⟩⟩
  obtain ⟨h1, hk⟩ := owC_push hnx h.rw_.1 hown hgrow hat
  have hr6 := rowsC_keep hr5 hk (by decide)
  have lq := queW_lt h.que
  refine ⟨h.map.of_block (hk.block mb h.map.lt (by show (if mb = nb then 5 else col mb) ≠ 4; rw [if_neg (hne h.mcl (by decide)), h.mcl]; decide)), by rw [paint_old h.map.lt]; exact hc h.mcl (by decide), h.mbs, queW_kept h.que (hk.block bq lq (by show (if bq = nb then 5 else col bq) ≠ 4; rw [if_neg (hne h.qcl (by decide)), h.qcl]; decide)), by rw [paint_old lq]; exact hc h.qcl (by decide), h.qbs, h1, ⟨by rw [List.length_append, h.rw_.1]; rfl, fun j hj => ?_⟩,
    Below.grown (h.bel.alloc h.bel.size o) hgrow (by have := h.bel.size; rw [World.size_alloc]; omega) (fun x hx => (h.nx.own.lt x hx).1), fun v hv g hg => ?_⟩
  rotate_left
  · rcases List.mem_append.1 hv with hv | hv
    · exact h.rb v hv g hg
    · simp only [List.mem_singleton] at hv
      subst hv
      have e1 : nb = g := by simpa [Value.ownBlock] using hg
      omega
  by_cases e : j = qn
  · subst e
    exact ⟨nb, m, by rw [List.getElem?_append_right (by rw [h.rw_.1]; omega), h.rw_.1]; simp [hrl], sl_block hs (hk.block nb hrow.lt (by show (if nb = nb then 5 else col nb) ≠ 4; rw [if_pos rfl]; decide)), by rw [paint_old hrow.lt]; show (if nb = nb then 5 else col nb) = 5; rw [if_pos rfl], by have := hk.size; have := hrow.lt; omega⟩
  · obtain ⟨gj, cj, e1, e2⟩ := hr6.2 j (by omega)
    exact ⟨gj, cj, by rw [List.getElem?_append_left (by rw [h.rw_.1]; omega)]; exact e1, e2⟩
/-- Rows and spots in the end. -/
def MetNew (wb : World) (bq cq : Nat) (L : List Nat) (aN : Option Addr) (n : Nat) (N : List (List Int)) (W : World) : Prop := ∀ W' : World, (∀ x, wb.heap.size ≤ x → x < W.heap.size → W'.heap[x]? = W.heap[x]?) → QueW W' bq L.length cq L ∧ Sl2 W' aN n N
theorem mtI_end {aN : Option Addr} {cN : Nat} (h : MtI wb rows col L qn mb bq cq (.slice aN qn cN) vals W) (hk : qn ≤ maxLen) (N : List (List Int)) (hN : N.length = qn) (hr : ∀ j, j < qn → N.getD j [] = rows j) :
    MetNew wb bq cq L aN qn N W := fun W' hW' => by
  have hvl := h.rw_.1
  have h2 := ownsRow_of_block (w' := W') h.nx.own (fun x hx => hW' x (h.nx.own.lt x hx).1 (h.nx.own.lt x hx).2)
  rw [hvl] at h2
  refine ⟨queW_kept h.que (hW' bq h.qbs (queW_lt h.que)), ?_⟩
  rcases h2.2 with ⟨-, e2⟩ | ⟨g, cap, cur, e1, _⟩
  · exact ⟨hN, hk, Or.inl e2⟩
  · cases e1
    refine ⟨hN, hk, Or.inr ⟨g, 0, rfl, fun i hi => ?_⟩⟩
    obtain ⟨gi, ci, e1, e2, -, e4⟩ := h.rw_.2 i hi
    have hb := h.rb _ (List.mem_of_getElem? e1) gi (by simp [Value.ownBlock])
    rw [hr i hi, Nat.zero_add, h2.cellAt i (by omega)]
    exact ⟨_, ci, e1, sl_block e2 (hW' gi hb e4)⟩
end
theorem mtI_start {w wp : World} {f : Nat} (rows : Nat → List Int) {wv : World} (hbw : Below w.heap.size w wv) (hmp : MapAt Try.prog 84 wp wv.heap.size ([] ++ [(spU f, .int .i64 0)])) (htn : (wv.alloc (.map #[] 0)).mapTurned wp wv.heap.size) : ∃ col, MtI w rows col [f] 0 wv.heap.size wp.heap.size 1 (.slice none 0 0) [] (wp.alloc (.cells #[.int .i64 (spA f), .int .i64 (spB f)] 84)) := by
  have s1 := htn.grown.size
  rw [World.size_alloc] at s1
  have sw := hbw.size
  have bp : Below w.heap.size w wp := Below.grown (hbw.alloc hbw.size (.map #[] 0)) htn.grown (by rw [World.size_alloc]; omega) (fun x e => by cases e; exact hbw.size)
  refine ⟨fun x => if x = wv.heap.size then 1 else 2, ?_, if_pos rfl, sw, ⟨rfl, by simp, by decide, #[.int .i64 (spA f), .int .i64 (spB f)], heap_alloc_last _ _, by simp, fun q hq => ?_⟩, if_neg (by omega), by omega, owC_nil _ _ _ _ _, ⟨rfl, fun j hj => by omega⟩, bp.alloc bp.size _, fun v hv => by simp at hv⟩
  · have e : numW [f] = [] ++ [(spU f, .int .i64 0)] := by simp [numW, List.range_succ]
    rw [e]
    exact hmp.alloc _
  · simp at hq
    rcases (show q = 0 ∨ q = 1 by omega) with rfl | rfl
    · simp [stC]
    · simp [stC]
end Go.Proofs.Ytgbmemkoggogdaa

/- The reference's Waits: contract. -/
namespace Go.Proofs.Ytgbmemkoggogdaa
open Go.RowKit

section
variable {wb : World} {rows : Nat → List Int} {col : Nat → Nat} {qn : Nat} {vN vO vR : Value} {vals : List Value} {O R : List Int} {W : World}
end
theorem take_snocV {l : List Int} {k : Nat} (hk : k < l.length) : l.take (k + 1) = l.take k ++ [l.getD k 0] := by
  rw [List.take_succ_eq_append_getElem hk]
  simp [List.getD, hk]
end Go.Proofs.Ytgbmemkoggogdaa
