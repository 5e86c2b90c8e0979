/- Rows that a call builds side by side, each block with a colour: what holds between the rounds of the reference's LineOf. -/
import Derived.Test.YthadkoplbgibgaeDoorZCi
import Derived.Test.YthadkoplbgibgaeDoorZHh
import Derived.Test.YthadkoplbgibgaeDoorZKa
namespace Go.Proofs.YthadkoplbgibgaeDoor
open Go.RowKit

/-- New blocks bear this colour. -/
def paint (col : Nat → Nat) (s k x : Nat) : Nat := if x < s then col x else k
theorem paint_old {col : Nat → Nat} {s k x : Nat} (h : x < s) : paint col s k x = col x := by unfold paint; rw [if_pos h]
theorem paint_new {col : Nat → Nat} {s k x : Nat} (h : ¬ x < s) : paint col s k x = k := by unfold paint; rw [if_neg h]
/-- A row of its own, in a block of this colour. -/
structure OwC (base : Nat) (col : Nat → Nat) (k : Nat) (W : World) (e : TypeId) (v : Value) (xs : List Value) : Prop where
  own : W.ownsRow base e 1 v xs.length xs
  clr : ∀ x, v.ownBlock = some x → col x = k
/-- Blocks of other colours are as they were. -/
structure KeptC (col : Nat → Nat) (k : Nat) (W W' : World) : Prop where
  size : W.heap.size ≤ W'.heap.size
  block : ∀ x, x < W.heap.size → col x ≠ k → W'.heap[x]? = W.heap[x]?
theorem owC_nil (base : Nat) (col : Nat → Nat) (k : Nat) (W : World) (e : TypeId) : OwC base col k W e (.slice none 0 0) [] := ⟨World.ownsRow_nil _ _ _ _, fun x hx => by simp [Value.ownBlock] at hx⟩
theorem owC_push {base : Nat} {col : Nat → Nat} {k : Nat} {W w3 : World} {e : TypeId} {v y : Value} {xs : List Value} {o : Obj} {n g' cap' : Nat} (h : OwC base col k W e v xs) (hn : xs.length = n) (hown : w3.ownsRow base e 1 (.slice (some ⟨g', 0, none⟩) (n + 1) cap') (n + 1) (xs ++ [y])) (hgrow : (W.alloc o).grownBy w3 v.ownBlock) (hat : v.ownBlock = some g' ∨ g' = W.heap.size + 1) :
    OwC base (paint col W.heap.size k) k w3 e (.slice (some ⟨g', 0, none⟩) (n + 1) cap') (xs ++ [y]) ∧ KeptC col k W w3 := by
  have s3 := hgrow.size
  rw [World.size_alloc] at s3
  refine ⟨⟨by rw [List.length_append, List.length_singleton, hn]; exact hown, fun x hx => ?_⟩, ⟨by omega, fun x hx hc => ?_⟩⟩
  · have e1 : g' = x := by simpa [Value.ownBlock] using hx
    subst e1
    rcases hat with h1 | h1
    · rw [paint_old (h.own.lt _ h1).2]; exact h.clr _ h1
    · rw [paint_new (by omega)]
  · rw [hgrow.block x (by rw [World.size_alloc]; omega) (fun e => hc (h.clr x e.symm)), Below.heap_alloc _ _ _ hx]
theorem owC_keep {base : Nat} {col : Nat → Nat} {j k : Nat} {W W' : World} {e : TypeId} {v : Value} {xs : List Value} (h : OwC base col j W e v xs) (hk : KeptC col k W W') (hj : j ≠ k) : OwC base (paint col W.heap.size k) j W' e v xs :=
  ⟨ownsRow_of_block h.own (fun x hx => hk.block x (h.own.lt x hx).2 (by rw [h.clr x hx]; exact hj)), fun x hx => by rw [paint_old (h.own.lt x hx).2]; exact h.clr x hx⟩
/-- Rows of numbers that were gathered. -/
def RowsC (col : Nat → Nat) (k : Nat) (W : World) (rows : Nat → List Int) (q : Nat) (vals : List Value) : Prop := vals.length = q ∧ ∀ j, j < q → ∃ g cap, vals[j]? = some (.slice (some ⟨g, 0, none⟩) (rows j).length cap) ∧ Sl W (some ⟨g, 0, none⟩) (rows j).length (rows j) ∧ col g = k ∧ g < W.heap.size
theorem sl_block {W W' : World} {g len : Nat} {l : List Int} (h : Sl W (some ⟨g, 0, none⟩) len l) (hk : W'.heap[g]? = W.heap[g]?) : Sl W' (some ⟨g, 0, none⟩) len l := sl_keep h fun x hx => by
  obtain ⟨_, ad, e, rfl⟩ := hx
  cases e
  exact hk
theorem rowsC_keep {col : Nat → Nat} {j k : Nat} {W W' : World} {rows : Nat → List Int} {q : Nat} {vals : List Value} (h : RowsC col j W rows q vals) (hk : KeptC col k W W') (hj : j ≠ k) : RowsC (paint col W.heap.size k) j W' rows q vals :=
  ⟨h.1, fun i hi => by
    obtain ⟨g, cap, e1, e2, e3, e4⟩ := h.2 i hi
    exact ⟨g, cap, e1, sl_block e2 (hk.block g e4 (by rw [e3]; exact hj)), by rw [paint_old e4]; exact e3, by have := hk.size; omega⟩⟩
/-- Another colour for a row that is done. -/
def recol (col : Nat → Nat) (v : Value) (k x : Nat) : Nat := if v.ownBlock = some x then k else col x
theorem owC_recol {base : Nat} {col : Nat → Nat} {i j k : Nat} {W : World} {e : TypeId} {v v' : Value} {xs : List Value} (h : OwC base col j W e v' xs) (hv : ∀ x, v.ownBlock = some x → col x = i) (hj : j ≠ i) : OwC base (recol col v k) j W e v' xs :=
  ⟨h.own, fun x hx => by
    unfold recol
    rw [if_neg (fun e => hj (by rw [← h.clr x hx, hv x e]))]
    exact h.clr x hx⟩
/-- What was numbered, and what not. -/
def nmbS (L : List Nat) (s : Nat) : Int := if s ∈ L then ((L.idxOf s : Nat) : Int) + 1 else 0
theorem nmbS_pos {L : List Nat} {s : Nat} (h : s ∈ L) : nmbS L s = ((L.idxOf s : Nat) : Int) + 1 := by unfold nmbS; rw [if_pos h]
theorem nmbS_zero {L : List Nat} {s : Nat} (h : ¬ s ∈ L) : nmbS L s = 0 := by unfold nmbS; rw [if_neg h]
theorem nmbS_push {L : List Nat} {s x : Nat} (h : ¬ s ∈ L) : nmbS (L ++ [s]) x = if x = s then ((L.length : Nat) : Int) + 1 else nmbS L x := by
  by_cases e : x = s
  · subst e
    rw [if_pos rfl, nmbS_pos (by simp), List.idxOf_append, if_neg h]
    simp
  · rw [if_neg e]
    by_cases hx : x ∈ L
    · rw [nmbS_pos (by simp [hx]), nmbS_pos hx, List.idxOf_append, if_pos hx]
    · rw [nmbS_zero (by simp [hx, e]), nmbS_zero hx]
/-- What holds along the way: LN was numbered, LA and LB stand in the two rows; qn rows and qe ends; a row R. -/
structure LnI (wb : World) (g0 : Nat) (rows : Nat → List Int) (es : Nat → Bool) (col : Nat → Nat) (LN LA LB : List Nat) (qn qe : Nat) (vA vB vN vE vR : Value) (vals : List Value) (R : List Int) (W : World) : Prop where
  num : W.rowIs g0 3 47089 (fun s => .int .i64 (nmbS LN s))
  ncl : col g0 = 1
  nbs : wb.heap.size ≤ g0
  at_ : OwC wb.heap.size col 2 W 3 vA (LA.map fun s => .int .i64 (unspot s).1)
  low : OwC wb.heap.size col 3 W 3 vB (LB.map fun s => .int .i64 (unspot s).2)
  nx : OwC wb.heap.size col 4 W 40 vN vals
  rw_ : RowsC col 5 W rows qn vals
  en : OwC wb.heap.size col 6 W 4 vE ((List.range qe).map fun j => .bool (es j))
  ro : OwC wb.heap.size col 7 W 3 vR (R.map (Value.int .i64))
  bel : Below wb.heap.size wb W
section
variable {wb : World} {g0 : Nat} {rows : Nat → List Int} {es : Nat → Bool} {col : Nat → Nat} {LN LA LB : List Nat} {qn qe : Nat} {vA vB vN vE vR : Value} {vals : List Value} {R : List Int} {W : World}
theorem num_keep {L : List Nat} {k : Nat} {W' : World} (hn : W.rowIs g0 3 47089 (fun s => .int .i64 (nmbS L s))) (hc : col g0 = 1) (hk : KeptC col k W W') (h1 : 1 ≠ k) : W'.rowIs g0 3 47089 (fun s => .int .i64 (nmbS L s)) ∧ paint col W.heap.size k g0 = 1 :=
  ⟨hn.of_block (hk.block g0 hn.lt (by rw [hc]; exact h1)), by rw [paint_old hn.lt]; exact hc⟩
theorem lnI_A {w3 : World} {o : Obj} {s n g' cap' : Nat} (h : LnI wb g0 rows es col LN LA LB qn qe vA vB vN vE vR vals R W) (hn : LA.length = n) (hown : w3.ownsRow wb.heap.size 3 1 (.slice (some ⟨g', 0, none⟩) (n + 1) cap') (n + 1) ((LA.map fun s => Value.int .i64 (unspot s).1) ++ [.int .i64 (unspot s).1])) (hgrow : (W.alloc o).grownBy w3 vA.ownBlock) (hat : vA.ownBlock = some g' ∨ g' = W.heap.size + 1) :
    LnI wb g0 rows es (paint col W.heap.size 2) LN (LA ++ [s]) LB qn qe (.slice (some ⟨g', 0, none⟩) (n + 1) cap') vB vN vE vR vals R w3 := by
  obtain ⟨h1, hk⟩ := owC_push h.at_ (by rw [List.length_map, hn]) hown hgrow hat
  obtain ⟨n1, n2⟩ := num_keep h.num h.ncl hk (by decide)
  exact ⟨n1, n2, h.nbs, by rw [List.map_append]; exact h1, owC_keep h.low hk (by decide), owC_keep h.nx hk (by decide), rowsC_keep h.rw_ hk (by decide), owC_keep h.en hk (by decide), owC_keep h.ro hk (by decide),
    Below.grown (h.bel.alloc h.bel.size o) hgrow (by have := h.bel.size; rw [World.size_alloc]; omega) (fun x hx => (h.at_.own.lt x hx).1)⟩
theorem lnI_B {w3 : World} {o : Obj} {s n g' cap' : Nat} (h : LnI wb g0 rows es col LN LA LB qn qe vA vB vN vE vR vals R W) (hn : LB.length = n) (hown : w3.ownsRow wb.heap.size 3 1 (.slice (some ⟨g', 0, none⟩) (n + 1) cap') (n + 1) ((LB.map fun s => Value.int .i64 (unspot s).2) ++ [.int .i64 (unspot s).2])) (hgrow : (W.alloc o).grownBy w3 vB.ownBlock) (hat : vB.ownBlock = some g' ∨ g' = W.heap.size + 1) :
    LnI wb g0 rows es (paint col W.heap.size 3) LN LA (LB ++ [s]) qn qe vA (.slice (some ⟨g', 0, none⟩) (n + 1) cap') vN vE vR vals R w3 := by
  obtain ⟨h1, hk⟩ := owC_push h.low (by rw [List.length_map, hn]) hown hgrow hat
  obtain ⟨n1, n2⟩ := num_keep h.num h.ncl hk (by decide)
  exact ⟨n1, n2, h.nbs, owC_keep h.at_ hk (by decide), by rw [List.map_append]; exact h1, owC_keep h.nx hk (by decide), rowsC_keep h.rw_ hk (by decide), owC_keep h.en hk (by decide), owC_keep h.ro hk (by decide),
    Below.grown (h.bel.alloc h.bel.size o) hgrow (by have := h.bel.size; rw [World.size_alloc]; omega) (fun x hx => (h.low.own.lt x hx).1)⟩
theorem lnI_E {w3 : World} {o : Obj} {g' cap' : Nat} (h : LnI wb g0 rows es col LN LA LB qn qe vA vB vN vE vR vals R W) (hown : w3.ownsRow wb.heap.size 4 1 (.slice (some ⟨g', 0, none⟩) (qe + 1) cap') (qe + 1) (((List.range qe).map fun j => Value.bool (es j)) ++ [.bool (es qe)])) (hgrow : (W.alloc o).grownBy w3 vE.ownBlock) (hat : vE.ownBlock = some g' ∨ g' = W.heap.size + 1) :
    LnI wb g0 rows es (paint col W.heap.size 6) LN LA LB qn (qe + 1) vA vB vN (.slice (some ⟨g', 0, none⟩) (qe + 1) cap') vR vals R w3 := by
  obtain ⟨h1, hk⟩ := owC_push h.en (by simp) hown hgrow hat
  obtain ⟨n1, n2⟩ := num_keep h.num h.ncl hk (by decide)
  exact ⟨n1, n2, h.nbs, owC_keep h.at_ hk (by decide), owC_keep h.low hk (by decide), owC_keep h.nx hk (by decide), rowsC_keep h.rw_ hk (by decide), by rw [List.range_succ, List.map_append]; exact h1, owC_keep h.ro hk (by decide),
    Below.grown (h.bel.alloc h.bel.size o) hgrow (by have := h.bel.size; rw [World.size_alloc]; omega) (fun x hx => (h.en.own.lt x hx).1)⟩
theorem lnI_R {w3 : World} {o : Obj} {z : Int} {n g' cap' : Nat} (h : LnI wb g0 rows es col LN LA LB qn qe vA vB vN vE vR vals R W) (hn : R.length = n) (hown : w3.ownsRow wb.heap.size 3 1 (.slice (some ⟨g', 0, none⟩) (n + 1) cap') (n + 1) ((R.map (Value.int .i64)) ++ [.int .i64 z])) (hgrow : (W.alloc o).grownBy w3 vR.ownBlock) (hat : vR.ownBlock = some g' ∨ g' = W.heap.size + 1) :
    LnI wb g0 rows es (paint col W.heap.size 7) LN LA LB qn qe vA vB vN vE (.slice (some ⟨g', 0, none⟩) (n + 1) cap') vals (R ++ [z]) w3 := by
  obtain ⟨h1, hk⟩ := owC_push h.ro (by rw [List.length_map, hn]) hown hgrow hat
  obtain ⟨n1, n2⟩ := num_keep h.num h.ncl hk (by decide)
  exact ⟨n1, n2, h.nbs, owC_keep h.at_ hk (by decide), owC_keep h.low hk (by decide), owC_keep h.nx hk (by decide), rowsC_keep h.rw_ hk (by decide), owC_keep h.en hk (by decide), by rw [List.map_append]; exact h1,
    Below.grown (h.bel.alloc h.bel.size o) hgrow (by have := h.bel.size; rw [World.size_alloc]; omega) (fun x hx => (h.ro.own.lt x hx).1)⟩
/-- A number more is given. -/
theorem lnI_num {s : Nat} (h : LnI wb g0 rows es col LN LA LB qn qe vA vB vN vE vR vals R W) (hs : ¬ s ∈ LN) : LnI wb g0 rows es (paint col W.heap.size 1) (LN ++ [s]) LA LB qn qe vA vB vN vE vR vals R (W.setCell ⟨g0, s, none⟩ (.int .i64 ((LN.length : Int) + 1))) := by
  have hk : KeptC col 1 W (W.setCell ⟨g0, s, none⟩ (.int .i64 ((LN.length : Int) + 1))) := ⟨by simp, fun x hx hc => Below.heap_setCell _ _ _ _ (fun e => hc (by rw [show x = g0 from e]; exact h.ncl))⟩
  exact ⟨(h.num.set s _).congr fun p hp => by rw [nmbS_push hs]; split <;> rfl, by rw [paint_old h.num.lt]; exact h.ncl, h.nbs, owC_keep h.at_ hk (by decide), owC_keep h.low hk (by decide), owC_keep h.nx hk (by decide), rowsC_keep h.rw_ hk (by decide), owC_keep h.en hk (by decide), owC_keep h.ro hk (by decide),
    h.bel.setCell h.nbs _⟩
/-- The row is put to the others. -/
theorem lnI_N {w3 : World} {o : Obj} {g c g' cap' : Nat} (h : LnI wb g0 rows es col LN LA LB qn qe vA vB vN vE (.slice (some ⟨g, 0, none⟩) (rows qn).length c) vals (rows qn) W) (hs : Sl W (some ⟨g, 0, none⟩) (rows qn).length (rows qn)) (hown : w3.ownsRow wb.heap.size 40 1 (.slice (some ⟨g', 0, none⟩) (qn + 1) cap') (qn + 1) (vals ++ [.slice (some ⟨g, 0, none⟩) (rows qn).length c])) (hgrow : (W.alloc o).grownBy w3 vN.ownBlock) (hat : vN.ownBlock = some g' ∨ g' = W.heap.size + 1) :
    LnI wb g0 rows es (paint (recol col (.slice (some ⟨g, 0, none⟩) (rows qn).length c) 5) W.heap.size 4) LN LA LB (qn + 1) qe vA vB (.slice (some ⟨g', 0, none⟩) (qn + 1) cap') vE (.slice none 0 0) (vals ++ [.slice (some ⟨g, 0, none⟩) (rows qn).length c]) [] w3 := by
  have hv : ∀ x, (Value.slice (some ⟨g, 0, none⟩) (rows qn).length c).ownBlock = some x → col x = 7 := h.ro.clr
  have hgl := h.ro.own.lt g (by simp [Value.ownBlock])
  have hg5 : recol col (.slice (some ⟨g, 0, none⟩) (rows qn).length c) 5 g = 5 := by unfold recol; rw [if_pos (by simp [Value.ownBlock])]
  have hn0 : recol col (.slice (some ⟨g, 0, none⟩) (rows qn).length c) 5 g0 = 1 := by
    unfold recol
    rw [if_neg (fun e => by have := hv _ e; rw [h.ncl] at this; omega)]
    exact h.ncl
  have hr5 : RowsC (recol col (.slice (some ⟨g, 0, none⟩) (rows qn).length c) 5) 5 W rows qn vals := ⟨h.rw_.1, fun j hj => by
    obtain ⟨gj, cj, e1, e2, e3, e4⟩ := h.rw_.2 j hj
    exact ⟨gj, cj, e1, e2, by unfold recol; split; rfl; exact e3, e4⟩⟩
  obtain ⟨h1, hk⟩ := owC_push (owC_recol (k := 5) h.nx hv (by decide)) h.rw_.1 hown hgrow hat
  obtain ⟨n1, n2⟩ := num_keep h.num hn0 hk (by decide)
  have hr6 := rowsC_keep hr5 hk (by decide)
  refine ⟨n1, n2, h.nbs, owC_keep (owC_recol h.at_ hv (by decide)) hk (by decide), owC_keep (owC_recol h.low hv (by decide)) hk (by decide), h1, ⟨by rw [List.length_append, h.rw_.1]; rfl, fun j hj => ?_⟩, owC_keep (owC_recol h.en hv (by decide)) hk (by decide), owC_nil _ _ _ _ _,
    Below.grown (h.bel.alloc h.bel.size o) hgrow (by have := h.bel.size; rw [World.size_alloc]; omega) (fun x hx => (h.nx.own.lt x hx).1)⟩
  by_cases e : j = qn
  · subst e
    exact ⟨g, c, by rw [List.getElem?_append_right (by rw [h.rw_.1]; omega), h.rw_.1]; simp, sl_block hs (hk.block g hgl.2 (by rw [hg5]; decide)), by rw [paint_old hgl.2]; exact hg5, by have := hk.size; omega⟩
  · obtain ⟨gj, cj, e1, e2⟩ := hr6.2 j (by omega)
    exact ⟨gj, cj, by rw [List.getElem?_append_left (by rw [h.rw_.1]; omega)]; exact e1, e2⟩
theorem lnI_below {W' : World} (h : LnI wb g0 rows es col LN LA LB qn qe vA vB vN vE vR vals R W) (hb : Below W.heap.size W W') : ∃ col', LnI wb g0 rows es col' LN LA LB qn qe vA vB vN vE vR vals R W' := by
  have hk : KeptC col 8 W W' := ⟨hb.size, fun x hx _ => hb.block x hx⟩
  obtain ⟨n1, n2⟩ := num_keep h.num h.ncl hk (by decide)
  exact ⟨_, n1, n2, h.nbs, owC_keep h.at_ hk (by decide), owC_keep h.low hk (by decide), owC_keep h.nx hk (by decide), rowsC_keep h.rw_ hk (by decide), owC_keep h.en hk (by decide), owC_keep h.ro hk (by decide), below_step h.bel hb⟩
end
end Go.Proofs.YthadkoplbgibgaeDoor
