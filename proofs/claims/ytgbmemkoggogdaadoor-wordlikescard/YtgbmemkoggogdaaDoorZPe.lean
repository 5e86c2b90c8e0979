/- 3 texts in one. -/
import Derived.Test.YtgbmemkoggogdaaDoorBx
import Derived.Test.YtgbmemkoggogdaaDoorZMp
import Derived.Test.YtgbmemkoggogdaaDoorZCf
import Derived.Test.YtgbmemkoggogdaaDoorCi
import Derived.Test.YtgbmemkoggogdaaDoorZHh
import Derived.Test.YtgbmemkoggogdaaDoorZKa
import Derived.Test.YtgbmemkoggogdaaDoorZDg
/- Rows that a call builds side by side, each block with a colour: what holds between the rounds of the reference's LineOf. -/
namespace Go.Proofs.YtgbmemkoggogdaaDoor
open Go.RowKit

/-- New blocks bear this colour. -/
def paint (col : Nat → Nat) (s k x : Nat) : Nat := if x < s then col x else k
theorem paint_old {col : Nat → Nat} {s k x : Nat} (h : x < s) : paint col s k x = col x := by unfold paint; rw [if_pos h]
theorem paint_new {col : Nat → Nat} {s k x : Nat} (h : ¬ x < s) : paint col s k x = k := by unfold paint; rw [if_neg h]
/-- A row of its own, in a block of this colour. -/
structure OwC (base : Nat) (col : Nat → Nat) (k : Nat) (W : World) (e : TypeId) (v : Value) (xs : List Value) : Prop where
  own : W.ownsRow base e 1 v xs.length xs
  clr : ∀ x, v.ownBlock = some x → col x = k
/-- Blocks of other colours are as they were. -/
structure KeptC (col : Nat → Nat) (k : Nat) (W W' : World) : Prop where
  size : W.heap.size ≤ W'.heap.size
  block : ∀ x, x < W.heap.size → col x ≠ k → W'.heap[x]? = W.heap[x]?
theorem owC_nil (base : Nat) (col : Nat → Nat) (k : Nat) (W : World) (e : TypeId) : OwC base col k W e (.slice none 0 0) [] := ⟨World.ownsRow_nil _ _ _ _, fun x hx => by simp [Value.ownBlock] at hx⟩
theorem owC_push {base : Nat} {col : Nat → Nat} {k : Nat} {W w3 : World} {e : TypeId} {v y : Value} {xs : List Value} {o : Obj} {n g' cap' : Nat} (h : OwC base col k W e v xs) (hn : xs.length = n) (hown : w3.ownsRow base e 1 (.slice (some ⟨g', 0, none⟩) (n + 1) cap') (n + 1) (xs ++ [y])) (hgrow : (W.alloc o).grownBy w3 v.ownBlock) (hat : v.ownBlock = some g' ∨ g' = W.heap.size + 1) :
    OwC base (paint col W.heap.size k) k w3 e (.slice (some ⟨g', 0, none⟩) (n + 1) cap') (xs ++ [y]) ∧ KeptC col k W w3 := by
  have s3 := hgrow.size
  rw [World.size_alloc] at s3
  refine ⟨⟨by rw [List.length_append, List.length_singleton, hn]; exact hown, fun x hx => ?_⟩, ⟨by omega, fun x hx hc => ?_⟩⟩
  · have e1 : g' = x := by simpa [Value.ownBlock] using hx
    subst e1
    rcases hat with h1 | h1
    · rw [paint_old (h.own.lt _ h1).2]; exact h.clr _ h1
    · rw [paint_new (by omega)]
  · rw [hgrow.block x (by rw [World.size_alloc]; omega) (fun e => hc (h.clr x e.symm)), Below.heap_alloc _ _ _ hx]
theorem owC_keep {base : Nat} {col : Nat → Nat} {j k : Nat} {W W' : World} {e : TypeId} {v : Value} {xs : List Value} (h : OwC base col j W e v xs) (hk : KeptC col k W W') (hj : j ≠ k) : OwC base (paint col W.heap.size k) j W' e v xs :=
  ⟨ownsRow_of_block h.own (fun x hx => hk.block x (h.own.lt x hx).2 (by rw [h.clr x hx]; exact hj)), fun x hx => by rw [paint_old (h.own.lt x hx).2]; exact h.clr x hx⟩
/-- Rows of numbers that were gathered. -/
def RowsC (col : Nat → Nat) (k : Nat) (W : World) (rows : Nat → List Int) (q : Nat) (vals : List Value) : Prop := vals.length = q ∧ ∀ j, j < q → ∃ g cap, vals[j]? = some (.slice (some ⟨g, 0, none⟩) (rows j).length cap) ∧ Sl W (some ⟨g, 0, none⟩) (rows j).length (rows j) ∧ col g = k ∧ g < W.heap.size
theorem sl_block {W W' : World} {g len : Nat} {l : List Int} (h : Sl W (some ⟨g, 0, none⟩) len l) (hk : W'.heap[g]? = W.heap[g]?) : Sl W' (some ⟨g, 0, none⟩) len l := sl_keep h fun x hx => by
  obtain ⟨_, ad, e, rfl⟩ := hx
  cases e
  exact hk
theorem rowsC_keep {col : Nat → Nat} {j k : Nat} {W W' : World} {rows : Nat → List Int} {q : Nat} {vals : List Value} (h : RowsC col j W rows q vals) (hk : KeptC col k W W') (hj : j ≠ k) : RowsC (paint col W.heap.size k) j W' rows q vals :=
  ⟨h.1, fun i hi => by
    obtain ⟨g, cap, e1, e2, e3, e4⟩ := h.2 i hi
    exact ⟨g, cap, e1, sl_block e2 (hk.block g e4 (by rw [e3]; exact hj)), by rw [paint_old e4]; exact e3, by have := hk.size; omega⟩⟩
/-- Another colour for a row that is done. -/
def recol (col : Nat → Nat) (v : Value) (k x : Nat) : Nat := if v.ownBlock = some x then k else col x
theorem owC_recol {base : Nat} {col : Nat → Nat} {i j k : Nat} {W : World} {e : TypeId} {v v' : Value} {xs : List Value} (h : OwC base col j W e v' xs) (hv : ∀ x, v.ownBlock = some x → col x = i) (hj : j ≠ i) : OwC base (recol col v k) j W e v' xs :=
  ⟨h.own, fun x hx => by
    unfold recol
    rw [if_neg (fun e => hj (by rw [← h.clr x hx, hv x e]))]
    exact h.clr x hx⟩
section
variable {wb : World} {g0 : Nat} {rows : Nat → List Int} {es : Nat → Bool} {col : Nat → Nat} {LN LA LB : List Nat} {qn qe : Nat} {vA vB vN vE vR : Value} {vals : List Value} {R : List Int} {W : World}
end
end Go.Proofs.YtgbmemkoggogdaaDoor

/- word.meet: what holds between two rounds. -/
namespace Go.Proofs.YtgbmemkoggogdaaDoor
open Go.RowKit

/-- The points L were numbered; qn rows stand. -/
structure MtI (wb : World) (rows : Nat → List Int) (col : Nat → Nat) (L : List Nat) (qn mb bq cq : Nat) (vN : Value) (vals : List Value) (W : World) : Prop where
  map : MapAt Tryd.prog 81 W mb (numW L)
  mcl : col mb = 1
  mbs : wb.heap.size ≤ mb
  que : QueW W bq L.length cq L
  qcl : col bq = 2
  qbs : wb.heap.size ≤ bq
  nx : OwC wb.heap.size col 4 W 23 vN vals
  rw_ : RowsC col 5 W rows qn vals
  bel : Below wb.heap.size wb W
  rb : ∀ v ∈ vals, ∀ g, v.ownBlock = some g → wb.heap.size ≤ g
/-- .. and l letters of a row in block nb. -/
structure MtX (wb : World) (rows : Nat → List Int) (col : Nat → Nat) (L : List Nat) (qn mb bq cq : Nat) (vN : Value) (vals : List Value) (pb s m nb : Nat) (row : List Int) (l : Nat) (W : World) : Prop where
  sp : MtI wb rows col L qn mb bq cq vN vals W
  row_ : W.rowIs nb 3 m fun q => .int .i64 (if q < l then row.getD q 0 else 0)
  ncl : col nb = 7
  nbs : wb.heap.size ≤ nb
  at_ : W.heap[pb]? = some (.cells #[.int .i64 (spA s), .int .i64 (spB s)] 81 (0, 0))
  acl : col pb = 3
section
variable {wb : World} {rows : Nat → List Int} {col : Nat → Nat} {L : List Nat} {qn mb bq cq : Nat} {vN : Value} {vals : List Value} {pb s m nb : Nat} {row : List Int} {l : Nat} {W W' : World}
theorem mtI_keep {k : Nat} (h : MtI wb rows col L qn mb bq cq vN vals W) (hk : KeptC col k W W') (hb : Below wb.heap.size wb W') (h1 : 1 ≠ k) (h2 : 2 ≠ k) (h4 : 4 ≠ k) (h5 : 5 ≠ k) : MtI wb rows (paint col W.heap.size k) L qn mb bq cq vN vals W' :=
  ⟨h.map.of_block (hk.block mb h.map.lt (by rw [h.mcl]; exact h1)), by rw [paint_old h.map.lt]; exact h.mcl, h.mbs, queW_kept h.que (hk.block bq (queW_lt h.que) (by rw [h.qcl]; exact h2)), by rw [paint_old (queW_lt h.que)]; exact h.qcl, h.qbs, owC_keep h.nx hk h4, rowsC_keep h.rw_ hk h5, hb, h.rb⟩
theorem mtI_below (h : MtI wb rows col L qn mb bq cq vN vals W) (hb : Below W.heap.size W W') : MtI wb rows (paint col W.heap.size 8) L qn mb bq cq vN vals W' :=
  mtI_keep h ⟨hb.size, fun x hx _ => hb.block x hx⟩ (below_step h.bel hb) (by decide) (by decide) (by decide) (by decide)
theorem mtX_below (h : MtX wb rows col L qn mb bq cq vN vals pb s m nb row l W) (hb : Below W.heap.size W W') : MtX wb rows (paint col W.heap.size 8) L qn mb bq cq vN vals pb s m nb row l W' :=
  have hp := (Array.getElem?_eq_some_iff.1 h.at_).1
  ⟨mtI_below h.sp hb, h.row_.of_block (hb.block nb h.row_.lt), by rw [paint_old h.row_.lt]; exact h.ncl, h.nbs, (hb.block pb hp).trans h.at_, by rw [paint_old hp]; exact h.acl⟩
theorem mtX_start (row : List Int) (s m : Nat) (h : MtI wb rows col L qn mb bq cq vN vals W) : ∃ col', MtX wb rows col' L qn mb bq cq vN vals W.heap.size s m (W.heap.size + 1) row 0 ((W.alloc (.cells #[.int .i64 (spA s), .int .i64 (spB s)] 81)).alloc (.cells (madeCells #[.int .i64 0] m) 3)) := by
  have hb := (Below.refl W.heap.size W).alloc (Nat.le_refl _) (.cells #[.int .i64 (spA s), .int .i64 (spB s)] 81)
  have hp := heap_alloc_last W (.cells #[.int .i64 (spA s), .int .i64 (spB s)] 81)
  have hsz : (W.alloc (.cells #[.int .i64 (spA s), .int .i64 (spB s)] 81)).heap.size = W.heap.size + 1 := by simp
  have h1 := mtI_keep (k := 3) h ⟨hb.size, fun x hx _ => hb.block x hx⟩ (below_step h.bel hb) (by decide) (by decide) (by decide) (by decide)
  generalize W.alloc (.cells #[.int .i64 (spA s), .int .i64 (spB s)] 81) = W1 at hb hp hsz h1 ⊢
  have hb2 := (Below.refl W1.heap.size W1).alloc (Nat.le_refl _) (.cells (madeCells #[.int .i64 0] m) 3)
  have h2 := mtI_keep (k := 7) h1 ⟨hb2.size, fun x hx _ => hb2.block x hx⟩ (below_step h1.bel hb2) (by decide) (by decide) (by decide) (by decide)
  refine ⟨_, h2, ?_, by rw [paint_new (by omega)], by have := h.bel.size; omega, (hb2.block _ (by omega)).trans hp, by rw [paint_old (by omega), paint_new (by omega)]⟩
  rw [← hsz]
  exact (World.rowIs_made W1 (.int .i64 0) m 3).congr fun p hp => by rw [if_neg (by omega)]
theorem mtX_cell (h : MtX wb rows col L qn mb bq cq vN vals pb s m nb row l W) (hl : l < m) : W.cell? ⟨nb, l, none⟩ = some (.int .i64 0) ∧ W.frozen? ⟨nb, l, none⟩ = false := by
  have := h.row_.cell hl
  rw [if_neg (Nat.lt_irrefl _)] at this
  exact ⟨this, h.row_.frozen l⟩
theorem mtX_set {z : Int} (h : MtX wb rows col L qn mb bq cq vN vals pb s m nb row l W) (hz : row.getD l 0 = z) : MtX wb rows (paint col W.heap.size 7) L qn mb bq cq vN vals pb s m nb row (l + 1) (W.setCell ⟨nb, l, none⟩ (.int .i64 z)) := by
  have hk : KeptC col 7 W (W.setCell ⟨nb, l, none⟩ (.int .i64 z)) := ⟨by simp, fun x hx hc => Below.heap_setCell _ _ _ _ (fun e => hc (by rw [show x = nb from e]; exact h.ncl))⟩
  have hp := (Array.getElem?_eq_some_iff.1 h.at_).1
  refine ⟨mtI_keep h.sp hk (h.sp.bel.setCell h.nbs _) (by decide) (by decide) (by decide) (by decide), (h.row_.set _ _).congr fun q _ => ?_, by rw [paint_old h.row_.lt]; exact h.ncl, h.nbs, (hk.block pb hp (by rw [h.acl]; decide)).trans h.at_, by rw [paint_old hp]; exact h.acl⟩
  by_cases e : q = l
  · subst e; rw [if_pos rfl, if_pos (by omega), hz]
  · rw [if_neg e]
    congr 1
    by_cases e2 : q < l
    · rw [if_pos e2, if_pos (show q < l + 1 by omega)]
    · rw [if_neg e2, if_neg (show ¬ q < l + 1 by omega)]
/-- One point is numbered anew. -/
theorem mtX_new {M : Nat} {w5 w6 : World} {o : Obj} {b' cap' : Nat} (h : MtX wb rows col L qn mb bq cq vN vals pb s m nb row l W)
    (hm : MapAt Tryd.prog 81 w5 mb (numW L ++ [(spU M, .int .i64 (L.length : Int))])) (ht : W.mapTurned w5 mb) (hq : QueW w6 b' (L.length + 1) cap' (L ++ [M])) (hg : (w5.alloc o).grownBy w6 (some bq)) (hb' : b' = bq ∨ (w5.alloc o).heap.size ≤ b') :
    MtX wb rows (paint (paint col W.heap.size 1) w5.heap.size 2) (L ++ [M]) qn mb b' cap' vN vals pb s m nb row l w6 := by
  have s5 := ht.grown.size
  have s6 := hg.size
  rw [World.size_alloc] at s6 hb'
  have l1 := queW_lt h.sp.que
  have l2 := h.sp.map.lt
  have l8 := h.row_.lt
  have hmq : mb ≠ bq := fun e => by have := h.sp.mcl; rw [e, h.sp.qcl] at this; omega
  have hnm : nb ≠ mb := fun e => by have := h.ncl; rw [e, h.sp.mcl] at this; omega
  have hnq : nb ≠ bq := fun e => by have := h.ncl; rw [e, h.sp.qcl] at this; omega
  have k5 : KeptC col 1 W w5 := ⟨s5, fun x hx hc => ht.grown.block x hx (fun e => by cases e; exact hc h.sp.mcl)⟩
  have b5 : Below wb.heap.size wb w5 := Below.grown h.sp.bel ht.grown h.sp.bel.size (fun x e => by cases e; exact h.sp.mbs)
  have q5 : QueW w5 bq L.length cq L := queW_kept h.sp.que (k5.block bq l1 (by rw [h.sp.qcl]; decide))
  have c5 : paint col W.heap.size 1 bq = 2 := by rw [paint_old l1]; exact h.sp.qcl
  have k6 : KeptC (paint col W.heap.size 1) 2 w5 w6 := ⟨by omega, fun x hx hc => by
    rw [hg.block x (by rw [World.size_alloc]; omega) (fun e => by cases e; exact hc c5), Below.heap_alloc _ _ _ hx]⟩
  have b6 : Below wb.heap.size wb w6 := Below.grown (b5.alloc b5.size o) hg (by have := b5.size; rw [World.size_alloc]; omega) (fun x e => by cases e; exact h.sp.qbs)
  have m6 : paint col W.heap.size 1 mb = 1 := by rw [paint_old l2]; exact h.sp.mcl
  have hp := (Array.getElem?_eq_some_iff.1 h.at_).1
  have a6 : paint col W.heap.size 1 pb = 3 := by rw [paint_old hp]; exact h.acl
  have n6 : paint col W.heap.size 1 nb = 7 := by rw [paint_old l8]; exact h.ncl
  refine ⟨⟨?_, by rw [paint_old (by omega)]; exact m6, h.sp.mbs, by rw [List.length_append]; exact hq, ?_, ?_, owC_keep (owC_keep h.sp.nx k5 (by decide)) k6 (by decide), rowsC_keep (rowsC_keep h.sp.rw_ k5 (by decide)) k6 (by decide), b6, h.sp.rb⟩, (h.row_.of_block (k5.block nb l8 (by rw [h.ncl]; decide))).of_block (k6.block nb (by omega) (by rw [n6]; decide)), by rw [paint_old (by omega)]; exact n6, h.nbs, (k6.block pb (by omega) (by rw [a6]; decide)).trans ((k5.block pb hp (by rw [h.acl]; decide)).trans h.at_), by rw [paint_old (by omega)]; exact a6⟩
  · rw [numW_new]
    exact hm.of_block (k6.block mb (by omega) (by rw [m6]; decide))
  · rcases hb' with rfl | hb'
    · rw [paint_old (by omega)]; exact c5
    · rw [paint_new (by omega)]
  · rcases hb' with rfl | hb'
    · exact h.sp.qbs
    · have := b5.size; omega
/-- The row is put to the others. -/
theorem mtX_N {w3 : World} {o : Obj} {g' cap' : Nat} (h : MtX wb rows col L qn mb bq cq vN vals pb s m nb (rows qn) m W) (hrl : (rows qn).length = m) (hmx : m ≤ maxLen) (hwf : ∀ x ∈ rows qn, (Lit.int .i64 x).wf = true) (hown : w3.ownsRow wb.heap.size 23 1 (.slice (some ⟨g', 0, none⟩) (qn + 1) cap') (qn + 1) (vals ++ [.slice (some ⟨nb, 0, none⟩) m m])) (hgrow : (W.alloc o).grownBy w3 vN.ownBlock) (hat : vN.ownBlock = some g' ∨ g' = W.heap.size + 1) :
    MtI wb rows (paint (fun x => if x = nb then 5 else col x) W.heap.size 4) L (qn + 1) mb bq cq (.slice (some ⟨g', 0, none⟩) (qn + 1) cap') (vals ++ [.slice (some ⟨nb, 0, none⟩) m m]) w3 := by
  obtain ⟨h, hrow, hncl, hnbs, -, -⟩ := h
  have hne : ∀ {x k : Nat}, col x = k → k ≠ 7 → x ≠ nb := fun {x k} hx hk e => hk (by rw [← hx, e, hncl])
  have hc : ∀ {x k : Nat}, col x = k → k ≠ 7 → (fun x => if x = nb then 5 else col x) x = k := fun {x k} hx hk => by show (if x = nb then 5 else col x) = k; rw [if_neg (hne hx hk)]; exact hx
  have hs : Sl W (some ⟨nb, 0, none⟩) (rows qn).length (rows qn) := sl_of_rowIs rfl (by rw [hrl]; exact hmx) hwf (by rw [hrl]; exact hrow.congr fun q hq => by rw [if_pos hq])
  have hnx : OwC wb.heap.size (fun x => if x = nb then 5 else col x) 4 W 23 vN vals := ⟨h.nx.own, fun x hx => hc (h.nx.clr x hx) (by decide)⟩
  have hr5 : RowsC (fun x => if x = nb then 5 else col x) 5 W rows qn vals := ⟨h.rw_.1, fun j hj => by
    obtain ⟨gj, cj, e1, e2, e3, e4⟩ := h.rw_.2 j hj
    exact ⟨gj, cj, e1, e2, hc e3 (by decide), e4⟩⟩
  obtain ⟨h1, hk⟩ := owC_push hnx h.rw_.1 hown hgrow hat
  have hr6 := rowsC_keep hr5 hk (by decide)
  have lq := queW_lt h.que
  refine ⟨h.map.of_block (hk.block mb h.map.lt (by show (if mb = nb then 5 else col mb) ≠ 4; rw [if_neg (hne h.mcl (by decide)), h.mcl]; decide)), by rw [paint_old h.map.lt]; exact hc h.mcl (by decide), h.mbs, queW_kept h.que (hk.block bq lq (by show (if bq = nb then 5 else col bq) ≠ 4; rw [if_neg (hne h.qcl (by decide)), h.qcl]; decide)), by rw [paint_old lq]; exact hc h.qcl (by decide), h.qbs, h1, ⟨by rw [List.length_append, h.rw_.1]; rfl, fun j hj => ?_⟩,
    Below.grown (h.bel.alloc h.bel.size o) hgrow (by have := h.bel.size; rw [World.size_alloc]; omega) (fun x hx => (h.nx.own.lt x hx).1), fun v hv g hg => ?_⟩
  rotate_left
  · rcases List.mem_append.1 hv with hv | hv
    · exact h.rb v hv g hg
    · simp only [List.mem_singleton] at hv
      subst hv
      have e1 : nb = g := by simpa [Value.ownBlock] using hg
      omega
  by_cases e : j = qn
  · subst e
    exact ⟨nb, m, by rw [List.getElem?_append_right (by rw [h.rw_.1]; omega), h.rw_.1]; simp [hrl], sl_block hs (hk.block nb hrow.lt (by show (if nb = nb then 5 else col nb) ≠ 4; rw [if_pos rfl]; decide)), by rw [paint_old hrow.lt]; show (if nb = nb then 5 else col nb) = 5; rw [if_pos rfl], by have := hk.size; have := hrow.lt; omega⟩
  · obtain ⟨gj, cj, e1, e2⟩ := hr6.2 j (by omega)
    exact ⟨gj, cj, by rw [List.getElem?_append_left (by rw [h.rw_.1]; omega)]; exact e1, e2⟩
/-- Rows and spots in the end. -/
def MetNew (wb : World) (bq cq : Nat) (L : List Nat) (aN : Option Addr) (n : Nat) (N : List (List Int)) (W : World) : Prop := ∀ W' : World, (∀ x, wb.heap.size ≤ x → x < W.heap.size → W'.heap[x]? = W.heap[x]?) → QueW W' bq L.length cq L ∧ Sl2 W' aN n N
theorem mtI_end {aN : Option Addr} {cN : Nat} (h : MtI wb rows col L qn mb bq cq (.slice aN qn cN) vals W) (hk : qn ≤ maxLen) (N : List (List Int)) (hN : N.length = qn) (hr : ∀ j, j < qn → N.getD j [] = rows j) :
    MetNew wb bq cq L aN qn N W := fun W' hW' => by
  have hvl := h.rw_.1
  have h2 := ownsRow_of_block (w' := W') h.nx.own (fun x hx => hW' x (h.nx.own.lt x hx).1 (h.nx.own.lt x hx).2)
  rw [hvl] at h2
  refine ⟨queW_kept h.que (hW' bq h.qbs (queW_lt h.que)), ?_⟩
  rcases h2.2 with ⟨-, e2⟩ | ⟨g, cap, cur, e1, _⟩
  · exact ⟨hN, hk, Or.inl e2⟩
  · cases e1
    refine ⟨hN, hk, Or.inr ⟨g, 0, rfl, fun i hi => ?_⟩⟩
    obtain ⟨gi, ci, e1, e2, -, e4⟩ := h.rw_.2 i hi
    have hb := h.rb _ (List.mem_of_getElem? e1) gi (by simp [Value.ownBlock])
    rw [hr i hi, Nat.zero_add, h2.cellAt i (by omega)]
    exact ⟨_, ci, e1, sl_block e2 (hW' gi hb e4)⟩
end
theorem mtI_start {w wp : World} {f : Nat} (rows : Nat → List Int) {wv : World} (hbw : Below w.heap.size w wv) (hmp : MapAt Tryd.prog 81 wp wv.heap.size ([] ++ [(spU f, .int .i64 0)])) (htn : (wv.alloc (.map #[] 0)).mapTurned wp wv.heap.size) : ∃ col, MtI w rows col [f] 0 wv.heap.size wp.heap.size 1 (.slice none 0 0) [] (wp.alloc (.cells #[.int .i64 (spA f), .int .i64 (spB f)] 81)) := by
  have s1 := htn.grown.size
  rw [World.size_alloc] at s1
  have sw := hbw.size
  have bp : Below w.heap.size w wp := Below.grown (hbw.alloc hbw.size (.map #[] 0)) htn.grown (by rw [World.size_alloc]; omega) (fun x e => by cases e; exact hbw.size)
  refine ⟨fun x => if x = wv.heap.size then 1 else 2, ?_, if_pos rfl, sw, ⟨rfl, by simp, by decide, #[.int .i64 (spA f), .int .i64 (spB f)], heap_alloc_last _ _, by simp, fun q hq => ?_⟩, if_neg (by omega), by omega, owC_nil _ _ _ _ _, ⟨rfl, fun j hj => by omega⟩, bp.alloc bp.size _, fun v hv => by simp at hv⟩
  · have e : numW [f] = [] ++ [(spU f, .int .i64 0)] := by simp [numW, List.range_succ]
    rw [e]
    exact hmp.alloc _
  · simp at hq
    rcases (show q = 0 ∨ q = 1 by omega) with rfl | rfl
    · simp [stC]
    · simp [stC]
end Go.Proofs.YtgbmemkoggogdaaDoor

/- The reference's Waits: contract. -/
namespace Go.Proofs.YtgbmemkoggogdaaDoor
open Go.RowKit

/-- Rows, numbers and a row that grow side by side. -/
structure WtI (wb : World) (rows : Nat → List Int) (col : Nat → Nat) (qn : Nat) (vN vO vR : Value) (vals : List Value) (O R : List Int) (W : World) : Prop where
  nx : OwC wb.heap.size col 4 W 23 vN vals
  rw_ : RowsC col 5 W rows qn vals
  ou : OwC wb.heap.size col 6 W 3 vO (O.map (Value.int .i64))
  ro : OwC wb.heap.size col 7 W 3 vR (R.map (Value.int .i64))
  bel : Below wb.heap.size wb W
section
variable {wb : World} {rows : Nat → List Int} {col : Nat → Nat} {qn : Nat} {vN vO vR : Value} {vals : List Value} {O R : List Int} {W : World}
theorem wtI_start (wb : World) (rows : Nat → List Int) : WtI wb rows (fun _ => 0) 0 (.slice none 0 0) (.slice none 0 0) (.slice none 0 0) [] [] [] wb :=
  ⟨owC_nil _ _ _ _ _, ⟨rfl, fun j hj => by omega⟩, owC_nil _ _ _ _ _, owC_nil _ _ _ _ _, Below.refl _ _⟩
theorem wtI_R {w3 : World} {o : Obj} {z : Int} {n g' cap' : Nat} (h : WtI wb rows col qn vN vO vR vals O R W) (hn : R.length = n) (hown : w3.ownsRow wb.heap.size 3 1 (.slice (some ⟨g', 0, none⟩) (n + 1) cap') (n + 1) ((R.map (Value.int .i64)) ++ [.int .i64 z])) (hgrow : (W.alloc o).grownBy w3 vR.ownBlock) (hat : vR.ownBlock = some g' ∨ g' = W.heap.size + 1) :
    WtI wb rows (paint col W.heap.size 7) qn vN vO (.slice (some ⟨g', 0, none⟩) (n + 1) cap') vals O (R ++ [z]) w3 := by
  obtain ⟨h1, hk⟩ := owC_push h.ro (by rw [List.length_map, hn]) hown hgrow hat
  exact ⟨owC_keep h.nx hk (by decide), rowsC_keep h.rw_ hk (by decide), owC_keep h.ou hk (by decide), by rw [List.map_append]; exact h1,
    Below.grown (h.bel.alloc h.bel.size o) hgrow (by have := h.bel.size; rw [World.size_alloc]; omega) (fun x hx => (h.ro.own.lt x hx).1)⟩
theorem wtI_O {w3 : World} {o : Obj} {z : Int} {n g' cap' : Nat} (h : WtI wb rows col qn vN vO vR vals O R W) (hn : O.length = n) (hown : w3.ownsRow wb.heap.size 3 1 (.slice (some ⟨g', 0, none⟩) (n + 1) cap') (n + 1) ((O.map (Value.int .i64)) ++ [.int .i64 z])) (hgrow : (W.alloc o).grownBy w3 vO.ownBlock) (hat : vO.ownBlock = some g' ∨ g' = W.heap.size + 1) :
    WtI wb rows (paint col W.heap.size 6) qn vN (.slice (some ⟨g', 0, none⟩) (n + 1) cap') vR vals (O ++ [z]) R w3 := by
  obtain ⟨h1, hk⟩ := owC_push h.ou (by rw [List.length_map, hn]) hown hgrow hat
  exact ⟨owC_keep h.nx hk (by decide), rowsC_keep h.rw_ hk (by decide), by rw [List.map_append]; exact h1, owC_keep h.ro hk (by decide),
    Below.grown (h.bel.alloc h.bel.size o) hgrow (by have := h.bel.size; rw [World.size_alloc]; omega) (fun x hx => (h.ou.own.lt x hx).1)⟩
/-- The row is put to the others. -/
theorem wtI_N {w3 : World} {o : Obj} {g c g' cap' : Nat} (h : WtI wb rows col qn vN vO (.slice (some ⟨g, 0, none⟩) (rows qn).length c) vals O (rows qn) W) (hs : Sl W (some ⟨g, 0, none⟩) (rows qn).length (rows qn)) (hown : w3.ownsRow wb.heap.size 23 1 (.slice (some ⟨g', 0, none⟩) (qn + 1) cap') (qn + 1) (vals ++ [.slice (some ⟨g, 0, none⟩) (rows qn).length c])) (hgrow : (W.alloc o).grownBy w3 vN.ownBlock) (hat : vN.ownBlock = some g' ∨ g' = W.heap.size + 1) :
    WtI wb rows (paint (recol col (.slice (some ⟨g, 0, none⟩) (rows qn).length c) 5) W.heap.size 4) (qn + 1) (.slice (some ⟨g', 0, none⟩) (qn + 1) cap') vO (.slice none 0 0) (vals ++ [.slice (some ⟨g, 0, none⟩) (rows qn).length c]) O [] w3 := by
  have hv : ∀ x, (Value.slice (some ⟨g, 0, none⟩) (rows qn).length c).ownBlock = some x → col x = 7 := h.ro.clr
  have hgl := h.ro.own.lt g (by simp [Value.ownBlock])
  have hg5 : recol col (.slice (some ⟨g, 0, none⟩) (rows qn).length c) 5 g = 5 := by unfold recol; rw [if_pos (by simp [Value.ownBlock])]
  have hr5 : RowsC (recol col (.slice (some ⟨g, 0, none⟩) (rows qn).length c) 5) 5 W rows qn vals := ⟨h.rw_.1, fun j hj => by
    obtain ⟨gj, cj, e1, e2, e3, e4⟩ := h.rw_.2 j hj
    exact ⟨gj, cj, e1, e2, by unfold recol; split; rfl; exact e3, e4⟩⟩
  obtain ⟨h1, hk⟩ := owC_push (owC_recol (k := 5) h.nx hv (by decide)) h.rw_.1 hown hgrow hat
  have hr6 := rowsC_keep hr5 hk (by decide)
  refine ⟨h1, ⟨by rw [List.length_append, h.rw_.1]; rfl, fun j hj => ?_⟩, owC_keep (owC_recol h.ou hv (by decide)) hk (by decide), owC_nil _ _ _ _ _,
    Below.grown (h.bel.alloc h.bel.size o) hgrow (by have := h.bel.size; rw [World.size_alloc]; omega) (fun x hx => (h.nx.own.lt x hx).1)⟩
  by_cases e : j = qn
  · subst e
    exact ⟨g, c, by rw [List.getElem?_append_right (by rw [h.rw_.1]; omega), h.rw_.1]; simp, sl_block hs (hk.block g hgl.2 (by rw [hg5]; decide)), by rw [paint_old hgl.2]; exact hg5, by have := hk.size; omega⟩
  · obtain ⟨gj, cj, e1, e2⟩ := hr6.2 j (by omega)
    exact ⟨gj, cj, by rw [List.getElem?_append_left (by rw [h.rw_.1]; omega)]; exact e1, e2⟩
theorem wtI_end (h : WtI wb rows col qn vN vO vR vals O R W) (hk : qn ≤ maxLen) (N : List (List Int)) (hN : N.length = qn) (hr : ∀ j, j < qn → N.getD j [] = rows j) :
    ∃ a c, vN = .slice a qn c ∧ Sl2 W a qn N := by
  have h2 := h.nx.own
  rw [h.rw_.1] at h2
  rcases h2.2 with ⟨rfl, rfl⟩ | ⟨g, cap, cur, rfl, _⟩
  · exact ⟨none, 0, rfl, hN, hk, Or.inl rfl⟩
  · refine ⟨_, cap, rfl, hN, hk, Or.inr ⟨g, 0, rfl, fun i hi => ?_⟩⟩
    obtain ⟨gi, ci, e1, e2, -⟩ := h.rw_.2 i hi
    rw [hr i hi, Nat.zero_add, h2.cellAt i (by omega)]
    exact ⟨_, ci, e1, e2⟩
theorem wtI_row (h : WtI wb rows col qn vN vO vR vals O R W) (hm : R.length ≤ maxLen) (hw : ∀ x ∈ R, (Lit.int .i64 x).wf = true) : ∃ a c, vR = .slice a R.length c ∧ Sl W a R.length R := by
  have h1 := h.ro.own
  rw [List.length_map] at h1
  obtain ⟨a, c, e, hs⟩ := sl_of_owns rfl hm hw h1
  exact ⟨a, c, e, hs.1⟩
theorem wtI_out (h : WtI wb rows col qn vN vO vR vals O R W) (hm : O.length ≤ maxLen) (hw : ∀ x ∈ O, (Lit.int .i64 x).wf = true) : ∃ a c, vO = .slice a O.length c ∧ Sl W a O.length O := by
  have h1 := h.ou.own
  rw [List.length_map] at h1
  obtain ⟨a, c, e, hs⟩ := sl_of_owns rfl hm hw h1
  exact ⟨a, c, e, hs.1⟩
end
/-- What Waits hands back. -/
def WaitsR (w : World) (N : List (List Int)) (O : List Int) (e : Ending) (w' : World) : Prop := ∃ aN cN aO cO, e = .returned (.tuple #[.slice aN (N.length + 1) cN, .slice aO (O.length + 1) cO]) ∧ Sl2 w' aN (N.length + 1) (wN N) ∧ Sl w' aO (O.length + 1) (wO O) ∧ Below w.heap.size w w'
theorem wO_take {O : List Int} {q : Nat} (hq : q < O.length + 1) : (wO O).take (q + 1) = (wO O).take q ++ [O.getD (q - 1) 0] := by
  have h : q < (wO O).length := by rw [wO_len]; exact hq
  rw [List.take_succ_eq_append_getElem h]
  congr 1
  cases q with
  | zero => simp [wO]
  | succ q =>
    have : q < O.length := by omega
    simp [wO, List.getD, this]
theorem take_snocV {l : List Int} {k : Nat} (hk : k < l.length) : l.take (k + 1) = l.take k ++ [l.getD k 0] := by
  rw [List.take_succ_eq_append_getElem hk]
  simp [List.getD, hk]
/-- A cell of a row of Waits. -/
theorem wN_cell {k : Nat} {N : List (List Int)} (hG : GoodN k N.length N) {q x : Nat} (hq : q < N.length + 1) (hx : x < k) : ((wN N).getD q []).getD x 0 = if q = 0 ∧ x = 0 then 0 else (N.getD (q - 1) []).getD x 0 + 1 := by
  cases q with
  | zero =>
    have h0 := (hG.2.2.2.2.2 0 hG.2.1).1
    rw [wN_zero_get (by rw [h0]; exact hx)]
    by_cases e : x = 0
    · rw [if_pos e, if_pos ⟨rfl, e⟩]
    · rw [if_neg e, if_neg (fun h => e h.2)]
  | succ q =>
    have h0 := (hG.2.2.2.2.2 q (by omega)).1
    rw [wN_succ (by omega), upR_get (by rw [h0]; exact hx), if_neg (by omega)]
    rfl
set_option maxHeartbeats 16000000 in
set_option maxRecDepth 8000 in
theorem waits_any (b : Int) (a : Option Addr) (n cap : Nat) (ao : Option Addr) (no co : Nat) (N : List (List Int)) (O : List Int) (w : World) (hs : Sl2 w a n N) (ho : Sl w ao no O) (hC : outC b N O = 0) :
    Calls Tryd.prog 14 #[outV b a n cap ao no co] w (WaitsR w N O) := by
  obtain ⟨h1, h2, h20, hO, hG, hrange⟩ := outC_zero hC
  have hL := hs.1
  have hLo := ho.1
  obtain ⟨k1, k2, k3⟩ := kinds_nat h1 h2
  have HBX := hide (outBox w b a n cap ao no co 25 hs ho)
  have hW := wN_good hG h20
  have HRL : Hid (∀ q, q < n + 1 → ((wN N).getD q []).length = (kindsI b).toNat) := fun q hq => (hW.2.2.2.2.2 q (by omega)).1
  have HRC : Hid (∀ q x, q < n + 1 → x < (kindsI b).toNat → ((wN N).getD q []).getD x 0 = if q = 0 ∧ x = 0 then 0 else (N.getD (q - 1) []).getD x 0 + 1) := fun q x hq hx => wN_cell hG (by omega) hx
  have HRW : Hid (∀ q, q < n + 1 → ∀ x ∈ (wN N).getD q [], (Lit.int .i64 x).wf = true) := fun q hq => ((good_wf hW) q (by omega)).2
  have HNR : Hid (∀ s, s < n → (N.getD s []).length = (kindsI b).toNat) := fun s hsn => (hG.2.2.2.2.2 s (by omega)).1
  have HNV : Hid (∀ s x, s < n → x < (kindsI b).toNat → 0 ≤ (N.getD s []).getD x 0 ∧ (N.getD s []).getD x 0 < 21) := fun s x hsn hx => by have := (hG.2.2.2.2.2 s (by omega)).2 x hx; omega
  have HOT : Hid (∀ q, q < n + 1 → (wO O).take (q + 1) = (wO O).take q ++ [O.getD (q - 1) 0]) := fun q hq => wO_take (by omega)
  have HOL : Hid (∀ q, q ≤ n + 1 → ((wO O).take q).length = q) := fun q hq => by rw [List.length_take, wO_len]; omega
  have HOW : Hid (∀ x ∈ wO O, (Lit.int .i64 x).wf = true) := fun x hx => by
    rcases List.mem_cons.1 hx with rfl | hx
    · have := hrange 0 hG.2.1
      exact WalkArith.wf_i64 (by omega)
    · exact ho.2.2.1 x hx
  have HEND : Hid (∀ (e : Ending) (w' : World) (aN : Option Addr) (cN : Nat) (aO : Option Addr) (cO : Nat), e = .returned (.tuple #[.slice aN (n + 1) cN, .slice aO (n + 1) cO]) → Sl2 w' aN (n + 1) (wN N) → Sl w' aO (n + 1) (wO O) → Below w.heap.size w w' → WaitsR w N O e w') := fun e w' aN cN aO cO h1 h2 h3 h4 => ⟨aN, cN, aO, cO, by rw [hL, hO, hL]; exact h1, by rw [hL]; exact h2, by rw [hO, hL]; exact h3, h4⟩
  have HWL : Hid ((wN N).length = n + 1) := by show _ = _; rw [wN_len, hL]
  have HNO : Hid (no = n) := by show _ = _; omega
  have hn20 : n ≤ 20 := by omega
  have hn1 : 1 ≤ n := by have := hG.2.1; omega
  have HOF : Hid ((wO O).take (n + 1) = wO O) := List.take_of_length_le (by rw [wO_len]; omega)
  have HOFL : Hid ((wO O).length = n + 1) := by show _ = _; rw [wO_len]; omega
  clear hs ho hC hG hW hrange hO hL hLo h20
  generalize wO O = WO at HOT HOL HOW HEND HOF HOFL
  obtain ⟨RF, hRF⟩ : ∃ RF : Nat → List Int, RF = fun j => (wN N).getD j [] := ⟨_, rfl⟩
  have HRFE : Hid (∀ j, (wN N).getD j [] = RF j) := fun j => by rw [hRF]
  simp only [HRFE.out] at HRL HRC HRW
  generalize hWN : wN N = WN at HEND HWL HRFE
  clear hWN hRF
  generalize (kindsI b).toNat = k at HRL HRC HNR HNV k1 k2 k3
  clear k3
  obtain ⟨i0, hi0, hz0, hz1, hz2⟩ := info_parts info3
  obtain ⟨j0, hj0, hy0, hy1, hy2⟩ := info_parts infoS2
  unfold outV
  have HB0 := hide ((Below.refl w.heap.size w).alloc (Nat.le_refl _) (.cells #[.int .i64 b, .slice a n cap, .slice ao no co] 25))
  go_enter Tryd.func14, Tryd.ntmps14
  go_wp2_with fail
  generalize w.alloc (.cells #[.int .i64 b, .slice a n cap, .slice ao no co] 25) = wb at HBX HB0 ⊢
  go_loopw [4, 5, 6] (fun vN vO iv wx => ∃ (q : Nat) (col : Nat → Nat) (vals : List Value), q ≤ n + 1 ∧ iv = .int .i64 ((q : Int) - 1) ∧ WtI wb RF col q vN vO (.slice none 0 0) vals (WO.take q) [] wx) (fun _ _ iv _ => n + 1 - (intOf iv + 1).toNat)
  case atStart => exact ⟨0, fun _ => 0, [], by omega, rfl, wtI_start wb RF⟩
  case round =>
    obtain ⟨q, col, vals, hq, rfl, hwt⟩ := hrel
    have HWT := hide hwt
    obtain ⟨⟨c0, c1, c2⟩, hs2, ho2, hbw⟩ := HBX.out wr hwt.bel
    have HBW := hide hbw
    clear hwt hbw
    by_cases hlt : q < n + 1
    · have hlti : (q : Int) - 1 < (n : Int) := by omega
      obtain ⟨bb, o, a1, cc1, rfl, hck, -⟩ := sl2_cell hs2 (q - 1) (by omega)
      rw [HNR.out (q - 1) (by omega)] at hck
      clear hs2 ho2
      by_cases hq0 : q = 0
      · have hsn : (q : Int) - 1 < 0 := by omega
        have HQ0 := hide hq0
        have HFR : Hid (q - 1 = 0) := by show _ = _; omega
        rw [HFR.out, Nat.add_zero] at hck
        clear hq0
        go_wp2_with fail
        obtain ⟨wq, hwq⟩ : ∃ wq : World, wq = wr := ⟨_, rfl⟩
        rw [← hwq] at HWT HBW ⊢
        clear hwq wr c0 c1 c2 hck
        go_loopw [8, 9] (fun v xv wx => ∃ (x : Nat) (col' : Nat → Nat), x ≤ k ∧ xv = .int .i64 x ∧ WtI wb RF col' q u4 u5 v vals (WO.take q) ((RF q).take x) wx) (fun _ xv _ => k - (intOf xv).toNat)
        case atStart => exact ⟨0, col, by omega, rfl, HWT.out⟩
        case round =>
          obtain ⟨x, col', hx, rfl, hwx⟩ := hrel
          have HWX := hide hwx
          obtain ⟨⟨c0, c1, c2⟩, hs3, ho3, hbw⟩ := HBX.out wr hwx.bel
          have HBW3 := hide hbw
          obtain ⟨bb2, o2, a1, cc1, e, hck, hsl⟩ := sl2_cell hs3 (q - 1) (by omega)
          cases e
          rw [HNR.out (q - 1) (by omega)] at hck hsl
          rw [HFR.out, Nat.add_zero] at hck
          have HO3 := hide ho3
          clear hwx hbw hs3 ho3
          by_cases hxt : x < k
          · have hxti : (x : Int) < (k : Int) := by omega
            obtain ⟨b1, o1, rfl, hcx⟩ := sl_cell hsl x hxt
            have hval := HRC.out q x hlt hxt
            have hbd := HNV.out (q - 1) x (by omega) hxt
            have HTX : Hid ((RF q).take (x + 1) = (RF q).take x ++ [(RF q).getD x 0]) := take_snocV (by rw [HRL.out q hlt]; exact hxt)
            have HTL : Hid (((RF q).take x).length = x) := by show _ = _; rw [List.length_take, HRL.out q hlt]; omega
            have HOWN : Hid (wr.ownsRow wb.heap.size 3 1 u8 x (((RF q).take x).map (Value.int .i64))) := by have h := HWX.out.ro.own; rw [List.length_map, HTL.out] at h; exact h
            have HSZ : Hid (wb.heap.size ≤ wr.heap.size) := HWX.out.bel.size
            generalize (N.getD (q - 1) []).getD x 0 = y at hcx hval hbd
            clear hsl
            by_cases hx0 : x = 0
            · subst hx0
              rw [if_pos ⟨HQ0.out, rfl⟩] at hval
              rw [Nat.add_zero] at hcx
              rw [hval] at HTX
              have HNXT := hide (fun w3 o g' cap' k1 k2 k3 => @wtI_R wb _ col' q _ _ _ vals _ _ wr w3 o 0 0 g' cap' HWX.out HTL.out k1 k2 k3)
              go_wp2_with (at_builtin; refine wpList_append_lies _ rfl _ _ 23 rfl wb.heap.size 3 i0 (.int .i64 0) 1 8 Tryd.underlying23 hi0 hz0 hz1 hz2 rfl (by decide) _ 0 _ rfl (HOWN.out.alloc _) ⟨wr.heap.size, 0, none⟩ 1 1 [.int .i64 0] rfl rfl (one_new _ _ _) (fun u hu => by simp at hu; subst hu; rfl) (by omega) (by unfold maxLen; omega) (by omega) (by have := HSZ.out; simp; omega) (wr.heap.size + 1) (by simp) ?_; intro g' cg w5 hown hgrow hat hlt2; have HW5 := hide (HNXT.out w5 _ g' cg hown hgrow hat); clear hown hgrow hat hlt2)
              go_roundw
              case rel => exact ⟨0 + 1, paint col' wr.heap.size 7, by omega, by go_num, by rw [HTX.out]; exact HW5.out⟩
              case measure => simp [intOf]; omega
            · have hx0i : ((x : Int) == 0) = false := by simp; omega
              rw [if_neg (fun h => hx0 h.2)] at hval
              rw [hval] at HTX
              have HNXT := hide (fun w3 o g' cap' k1 k2 k3 => @wtI_R wb _ col' q _ _ _ vals _ _ wr w3 o (y + 1) x g' cap' HWX.out HTL.out k1 k2 k3)
              go_wp2_with (at_builtin; refine wpList_append_lies _ rfl _ _ 23 rfl wb.heap.size 3 i0 (.int .i64 0) 1 8 Tryd.underlying23 hi0 hz0 hz1 hz2 rfl (by decide) _ x _ rfl (HOWN.out.alloc _) ⟨wr.heap.size, 0, none⟩ 1 1 [.int .i64 (y + 1)] rfl rfl (one_new _ _ _) (fun u hu => by simp at hu; subst hu; rfl) (by omega) (by unfold maxLen; omega) (by omega) (by have := HSZ.out; simp; omega) (wr.heap.size + 1) (by simp) ?_; intro g' cg w5 hown hgrow hat hlt2; have HW5 := hide (HNXT.out w5 _ g' cg hown hgrow hat); clear hown hgrow hat hlt2)
              go_roundw
              case rel => exact ⟨x + 1, paint col' wr.heap.size 7, by omega, by go_num, by rw [HTX.out]; exact HW5.out⟩
              case measure => simp [intOf]; omega
          · have hxti : ¬ (x : Int) < (k : Int) := by omega
            obtain rfl : x = k := by omega
            have HFUL : Hid ((RF q).take x = RF q) := List.take_of_length_le (by rw [HRL.out q hlt]; exact Nat.le_refl _)
            rw [HFUL.out] at HWX
            have hrl := HRL.out q hlt
            have HOWR : Hid (wr.ownsRow wb.heap.size 3 1 u8 x ((RF q).map (Value.int .i64))) := by have h := HWX.out.ro.own; rw [List.length_map, hrl] at h; exact h
            obtain ⟨g8, c8, hv8⟩ : ∃ g8 c8, u8 = .slice (some ⟨g8, 0, none⟩) x c8 := by
              rcases HOWR.out.2 with ⟨-, e2⟩ | ⟨g, cap, cur, e1, _⟩
              · omega
              · exact ⟨g, cap, e1⟩
            subst hv8
            obtain ⟨g9, c9, e9, hsr⟩ := wtI_row HWX.out (by rw [hrl]; unfold maxLen; omega) (HRW.out q hlt)
            rw [hrl] at e9 hsr
            cases e9
            have HNXT : Hid (∀ w3 o g' cap', w3.ownsRow wb.heap.size 23 1 (.slice (some ⟨g', 0, none⟩) (q + 1) cap') (q + 1) (vals ++ [.slice (some ⟨g8, 0, none⟩) x c8]) → (wr.alloc o).grownBy w3 u4.ownBlock → (u4.ownBlock = some g' ∨ g' = wr.heap.size + 1) → ∃ col2, WtI wb RF col2 (q + 1) (.slice (some ⟨g', 0, none⟩) (q + 1) cap') u5 (.slice none 0 0) (vals ++ [.slice (some ⟨g8, 0, none⟩) x c8]) (WO.take q) [] w3) := fun w3 o g' cap' m1 m2 m3 => by
              have h1 : WtI wb RF col' q u4 u5 (.slice (some ⟨g8, 0, none⟩) (RF q).length c8) vals (WO.take q) (RF q) wr := by rw [hrl]; exact HWX.out
              have h2 : Sl wr (some ⟨g8, 0, none⟩) (RF q).length (RF q) := by rw [hrl]; exact hsr
              have h3 := wtI_N (o := o) (g' := g') (cap' := cap') (w3 := w3) h1 h2 (by rw [hrl]; exact m1) m2 m3
              rw [hrl] at h3
              exact ⟨_, h3⟩
            have HOWN : Hid (wr.ownsRow wb.heap.size 23 1 u4 q vals) := by have h := HWX.out.nx.own; rw [HWX.out.rw_.1] at h; exact h
            have HSZ : Hid (wb.heap.size ≤ wr.heap.size) := HWX.out.bel.size
            have HOTq := hide (HOT.out q hlt)
            obtain ⟨OV, hOV⟩ : ∃ OV, O.getD (q - 1) 0 = OV := ⟨_, rfl⟩
            rw [hOV] at HOTq
            have HOV := hide hOV
            clear hOV
            have HOLq := hide (HOL.out q (by omega))
            clear hsr hsl hrl HOWR
            go_wp2_with (first
              | (at_builtin; refine wpList_append_lies _ rfl _ _ 22 rfl wb.heap.size 23 j0 (.slice none 0 0) 1 24 Tryd.underlying22 hj0 hy0 hy1 hy2 rfl (by decide) u4 q vals rfl (HOWN.out.alloc _) ⟨wr.heap.size, 0, none⟩ 1 1 [.slice (some ⟨g8, 0, none⟩) x c8] rfl rfl (one_new _ _ _) (fun u hu => by simp at hu; subst hu; rfl) (by omega) (by unfold maxLen; omega) (by omega) (by have := HSZ.out; simp; omega) (wr.heap.size + 1) (by simp) ?_; intro g5 c5 w5 hown hgrow hat hlt2; obtain ⟨col5, h5⟩ := HNXT.out w5 _ g5 c5 hown hgrow hat; have HW5 := hide h5; obtain ⟨⟨d0, d1, d2⟩, -, ho5, -⟩ := HBX.out w5 h5.bel; obtain ⟨bo, oo, rfl, hco⟩ := sl_cell ho5 (q - 1) (by have := HNO.out; omega); rw [HOV.out] at hco; rw [HFR.out, Nat.add_zero] at hco; have HOWO : Hid (w5.ownsRow wb.heap.size 3 1 u5 q ((WO.take q).map (Value.int .i64))) := (by have h := HW5.out.ou.own; rw [List.length_map, HOLq.out] at h; exact h); have HSZ5 : Hid (wb.heap.size ≤ w5.heap.size) := HW5.out.bel.size; have hqno : (0 : Int) < (no : Int) := (by have := HNO.out; omega); clear hown hgrow hat hlt2 h5 ho5)
              | (at_builtin; refine wpList_append_lies _ rfl _ _ 23 rfl wb.heap.size 3 i0 (.int .i64 0) 1 8 Tryd.underlying23 hi0 hz0 hz1 hz2 rfl (by decide) u5 q _ rfl (HOWO.out.alloc _) ⟨w5.heap.size, 0, none⟩ 1 1 [.int .i64 OV] rfl rfl (one_new _ _ _) (fun u hu => by simp at hu; subst hu; rfl) (by omega) (by unfold maxLen; omega) (by omega) (by have := HSZ5.out; simp; omega) (w5.heap.size + 1) (by simp) ?_; intro g6 c6 w6 hown hgrow hat hlt2; have HW6 := hide (wtI_O HW5.out HOLq.out hown hgrow hat); clear hown hgrow hat hlt2))
            go_roundw
            case rel => exact ⟨q + 1, _, _, by omega, by go_num, by rw [HOTq.out]; exact HW6.out⟩
            case measure => simp [intOf]; omega
      · have hsn : ¬ (q : Int) - 1 < 0 := by omega
        have hfr : (q : Int) - 1 = ((q - 1 : Nat) : Int) := by omega
        go_wp2_with fail
        obtain ⟨wq, hwq⟩ : ∃ wq : World, wq = wr := ⟨_, rfl⟩
        rw [← hwq] at HWT HBW ⊢
        clear hwq wr c0 c1 c2 hck
        go_loopw [8, 9] (fun v xv wx => ∃ (x : Nat) (col' : Nat → Nat), x ≤ k ∧ xv = .int .i64 x ∧ WtI wb RF col' q u4 u5 v vals (WO.take q) ((RF q).take x) wx) (fun _ xv _ => k - (intOf xv).toNat)
        case atStart => exact ⟨0, col, by omega, rfl, HWT.out⟩
        case round =>
          obtain ⟨x, col', hx, rfl, hwx⟩ := hrel
          have HWX := hide hwx
          obtain ⟨⟨c0, c1, c2⟩, hs3, ho3, hbw⟩ := HBX.out wr hwx.bel
          have HBW3 := hide hbw
          obtain ⟨bb2, o2, a1, cc1, e, hck, hsl⟩ := sl2_cell hs3 (q - 1) (by omega)
          cases e
          rw [HNR.out (q - 1) (by omega)] at hck hsl
          have HO3 := hide ho3
          clear hwx hbw hs3 ho3
          by_cases hxt : x < k
          · have hxti : (x : Int) < (k : Int) := by omega
            obtain ⟨b1, o1, rfl, hcx⟩ := sl_cell hsl x hxt
            have hval := HRC.out q x hlt hxt
            have hbd := HNV.out (q - 1) x (by omega) hxt
            have HTX : Hid ((RF q).take (x + 1) = (RF q).take x ++ [(RF q).getD x 0]) := take_snocV (by rw [HRL.out q hlt]; exact hxt)
            have HTL : Hid (((RF q).take x).length = x) := by show _ = _; rw [List.length_take, HRL.out q hlt]; omega
            have HOWN : Hid (wr.ownsRow wb.heap.size 3 1 u8 x (((RF q).take x).map (Value.int .i64))) := by have h := HWX.out.ro.own; rw [List.length_map, HTL.out] at h; exact h
            have HSZ : Hid (wb.heap.size ≤ wr.heap.size) := HWX.out.bel.size
            generalize (N.getD (q - 1) []).getD x 0 = y at hcx hval hbd
            clear hsl
            rw [if_neg (fun h => hq0 h.1)] at hval
            rw [hval] at HTX
            have HNXT := hide (fun w3 o g' cap' k1 k2 k3 => @wtI_R wb _ col' q _ _ _ vals _ _ wr w3 o (y + 1) x g' cap' HWX.out HTL.out k1 k2 k3)
            go_wp2_with (at_builtin; refine wpList_append_lies _ rfl _ _ 23 rfl wb.heap.size 3 i0 (.int .i64 0) 1 8 Tryd.underlying23 hi0 hz0 hz1 hz2 rfl (by decide) _ x _ rfl (HOWN.out.alloc _) ⟨wr.heap.size, 0, none⟩ 1 1 [.int .i64 (y + 1)] rfl rfl (one_new _ _ _) (fun u hu => by simp at hu; subst hu; rfl) (by omega) (by unfold maxLen; omega) (by omega) (by have := HSZ.out; simp; omega) (wr.heap.size + 1) (by simp) ?_; intro g' cg w5 hown hgrow hat hlt2; have HW5 := hide (HNXT.out w5 _ g' cg hown hgrow hat); clear hown hgrow hat hlt2)
            go_roundw
            case rel => exact ⟨x + 1, by omega, by omega, paint col' wr.heap.size 7, by rw [HTX.out]; exact HW5.out⟩
            case measure => simp [intOf]; omega
          · have hxti : ¬ (x : Int) < (k : Int) := by omega
            obtain rfl : x = k := by omega
            have HFUL : Hid ((RF q).take x = RF q) := List.take_of_length_le (by rw [HRL.out q hlt]; exact Nat.le_refl _)
            rw [HFUL.out] at HWX
            have hrl := HRL.out q hlt
            have HOWR : Hid (wr.ownsRow wb.heap.size 3 1 u8 x ((RF q).map (Value.int .i64))) := by have h := HWX.out.ro.own; rw [List.length_map, hrl] at h; exact h
            obtain ⟨g8, c8, hv8⟩ : ∃ g8 c8, u8 = .slice (some ⟨g8, 0, none⟩) x c8 := by
              rcases HOWR.out.2 with ⟨-, e2⟩ | ⟨g, cap, cur, e1, _⟩
              · omega
              · exact ⟨g, cap, e1⟩
            subst hv8
            obtain ⟨g9, c9, e9, hsr⟩ := wtI_row HWX.out (by rw [hrl]; unfold maxLen; omega) (HRW.out q hlt)
            rw [hrl] at e9 hsr
            cases e9
            have HNXT : Hid (∀ w3 o g' cap', w3.ownsRow wb.heap.size 23 1 (.slice (some ⟨g', 0, none⟩) (q + 1) cap') (q + 1) (vals ++ [.slice (some ⟨g8, 0, none⟩) x c8]) → (wr.alloc o).grownBy w3 u4.ownBlock → (u4.ownBlock = some g' ∨ g' = wr.heap.size + 1) → ∃ col2, WtI wb RF col2 (q + 1) (.slice (some ⟨g', 0, none⟩) (q + 1) cap') u5 (.slice none 0 0) (vals ++ [.slice (some ⟨g8, 0, none⟩) x c8]) (WO.take q) [] w3) := fun w3 o g' cap' m1 m2 m3 => by
              have h1 : WtI wb RF col' q u4 u5 (.slice (some ⟨g8, 0, none⟩) (RF q).length c8) vals (WO.take q) (RF q) wr := by rw [hrl]; exact HWX.out
              have h2 : Sl wr (some ⟨g8, 0, none⟩) (RF q).length (RF q) := by rw [hrl]; exact hsr
              have h3 := wtI_N (o := o) (g' := g') (cap' := cap') (w3 := w3) h1 h2 (by rw [hrl]; exact m1) m2 m3
              rw [hrl] at h3
              exact ⟨_, h3⟩
            have HOWN : Hid (wr.ownsRow wb.heap.size 23 1 u4 q vals) := by have h := HWX.out.nx.own; rw [HWX.out.rw_.1] at h; exact h
            have HSZ : Hid (wb.heap.size ≤ wr.heap.size) := HWX.out.bel.size
            have HOTq := hide (HOT.out q hlt)
            obtain ⟨OV, hOV⟩ : ∃ OV, O.getD (q - 1) 0 = OV := ⟨_, rfl⟩
            rw [hOV] at HOTq
            have HOV := hide hOV
            clear hOV
            have HOLq := hide (HOL.out q (by omega))
            clear hsr hsl hrl HOWR
            go_wp2_with (first
              | (at_builtin; refine wpList_append_lies _ rfl _ _ 22 rfl wb.heap.size 23 j0 (.slice none 0 0) 1 24 Tryd.underlying22 hj0 hy0 hy1 hy2 rfl (by decide) u4 q vals rfl (HOWN.out.alloc _) ⟨wr.heap.size, 0, none⟩ 1 1 [.slice (some ⟨g8, 0, none⟩) x c8] rfl rfl (one_new _ _ _) (fun u hu => by simp at hu; subst hu; rfl) (by omega) (by unfold maxLen; omega) (by omega) (by have := HSZ.out; simp; omega) (wr.heap.size + 1) (by simp) ?_; intro g5 c5 w5 hown hgrow hat hlt2; obtain ⟨col5, h5⟩ := HNXT.out w5 _ g5 c5 hown hgrow hat; have HW5 := hide h5; obtain ⟨⟨d0, d1, d2⟩, -, ho5, -⟩ := HBX.out w5 h5.bel; obtain ⟨bo, oo, rfl, hco⟩ := sl_cell ho5 (q - 1) (by have := HNO.out; omega); rw [HOV.out] at hco; have HOWO : Hid (w5.ownsRow wb.heap.size 3 1 u5 q ((WO.take q).map (Value.int .i64))) := (by have h := HW5.out.ou.own; rw [List.length_map, HOLq.out] at h; exact h); have HSZ5 : Hid (wb.heap.size ≤ w5.heap.size) := HW5.out.bel.size; have hqno : ((q - 1 : Nat) : Int) < (no : Int) := (by have := HNO.out; omega); clear hown hgrow hat hlt2 h5 ho5)
              | (at_builtin; refine wpList_append_lies _ rfl _ _ 23 rfl wb.heap.size 3 i0 (.int .i64 0) 1 8 Tryd.underlying23 hi0 hz0 hz1 hz2 rfl (by decide) u5 q _ rfl (HOWO.out.alloc _) ⟨w5.heap.size, 0, none⟩ 1 1 [.int .i64 OV] rfl rfl (one_new _ _ _) (fun u hu => by simp at hu; subst hu; rfl) (by omega) (by unfold maxLen; omega) (by omega) (by have := HSZ5.out; simp; omega) (w5.heap.size + 1) (by simp) ?_; intro g6 c6 w6 hown hgrow hat hlt2; have HW6 := hide (wtI_O HW5.out HOLq.out hown hgrow hat); clear hown hgrow hat hlt2))
            go_roundw
            case rel => exact ⟨q + 1, _, _, by omega, by go_num, by rw [HOTq.out]; exact HW6.out⟩
            case measure => simp [intOf]; omega
    · have hlti : ¬ (q : Int) - 1 < (n : Int) := by omega
      obtain rfl : q = n + 1 := by omega
      rw [HOF.out] at HWT
      obtain ⟨a1, d1, rfl, hsn⟩ := wtI_end HWT.out (by unfold maxLen; omega) WN HWL.out (fun j hj => HRFE.out j)
      obtain ⟨a2, d2, rfl, hso⟩ := wtI_out HWT.out (by rw [HOFL.out]; unfold maxLen; omega) HOW.out
      rw [HOFL.out] at hso ⊢
      have HFI := hide (fun e h => HEND.out e wr a1 d1 a2 d2 h hsn hso HBW.out)
      clear hsn hso hs2 ho2
      go_wp2
      go_ret2
      exact HFI.out _ rfl
end Go.Proofs.YtgbmemkoggogdaaDoor
