/- 3 texts in one. -/
import Derived.Deep.AppendLies
import Derived.Laws.AppendOwnNone
import Derived.Laws.BytesArg
import Derived.Lib.SlicesCompact
import Derived.StringKeys
import Derived.Test.YthadkoplbgibgafZNx
import Derived.Test.YthadkoplbgibgafEe
import Derived.Test.YthadkoplbgibgafZMp
import Derived.Test.YthadkoplbgibgafLq
/- The closure of some.setsOf that numbers the sets: contract. -/
namespace Go.Proofs.Ythadkoplbgibgaf
open Go.RowKit

/-- Nothing of what was there has turned but what F names. -/
structure Tch (F : Nat → Prop) (W W' : World) : Prop where
  os : W'.os = W.os
  tape : W'.tape = W.tape
  output : W'.output = W.output
  size : W.heap.size ≤ W'.heap.size
  block : ∀ x, x < W.heap.size → ¬ F x → W'.heap[x]? = W.heap[x]?
theorem tch_trans {F F1 : Nat → Prop} {W W1 W2 : World} (h : Tch F W W1) (h1 : Tch F1 W1 W2) (hF : ∀ x, x < W.heap.size → F1 x → F x) : Tch F W W2 :=
  ⟨h1.os.trans h.os, h1.tape.trans h.tape, h1.output.trans h.output, Nat.le_trans h.size h1.size, fun x hx hn => (h1.block x (Nat.lt_of_lt_of_le hx h.size) (fun k => hn (hF x hx k))).trans (h.block x hx hn)⟩
theorem tch_below {F : Nat → Prop} {W W' : World} (h : Below W.heap.size W W') : Tch F W W' := ⟨h.os, h.tape, h.output, h.size, fun x hx _ => h.block x hx⟩
theorem below_tch {F : Nat → Prop} {B : Nat} {w W W' : World} (h : Below B w W) (h1 : Tch F W W') (hF : ∀ x, F x → B ≤ x) (hB : B ≤ W.heap.size) : Below B w W' :=
  ⟨h1.os.trans h.os, h1.tape.trans h.tape, h1.output.trans h.output, Nat.le_trans h.size h1.size, fun x hx => (h1.block x (by omega) (fun k => by have := hF x k; omega)).trans (h.block x hx)⟩
theorem tch_grown {F : Nat → Prop} {W W' : World} {r : Option Nat} (h : W.grownBy W' r) (hr : ∀ x, r = some x → F x) : Tch F W W' := ⟨h.os, h.tape, h.output, h.size, fun x hx hn => h.block x hx (fun e => hn (hr x e.symm))⟩
theorem tch_alloc {F : Nat → Prop} (W : World) (o : Obj) : Tch F W (W.alloc o) := tch_below ((Below.refl _ _).alloc (Nat.le_refl _) _)
theorem tch_set {F : Nat → Prop} (W : World) {a : Addr} (ha : F a.block) (v : Value) : Tch F W (W.setCell a v) := ⟨rfl, rfl, rfl, by simp, fun x _ hn => Below.heap_setCell _ _ _ _ (fun e => hn (e ▸ ha))⟩
theorem infoSl : (Try.prog.info? 22).map (fun i => (i.zero, i.size, i.bytes)) = some (some (.slice none 0 0), 1, 24) := by kernel_rfl
theorem zeroI_any (w : World) : (zeroValue 3).run Try.prog w = .ok (.int .i64 0) w := Try.zeroValue3 w
end Go.Proofs.Ythadkoplbgibgaf

/- An automaton that a call builds, its rows each in a block of its own. -/
namespace Go.Proofs.Ythadkoplbgibgaf
open Go.RowKit

structure AutI (base bx m : Nat) (b t : Int) (rows : Nat → List Int) (es : Nat → Bool) (qn qe : Nat) (G : Nat → Prop) (W : World) (vN vE : Value) (vals : List Value) : Prop where
  box : W.heap[bx]? = some (.cells #[.int .i64 b, .int .i64 t, vN, vE] 26 (0, 0))
  ownN : W.ownsRow base 22 1 vN qn vals
  ownE : W.ownsRow base 4 1 vE qe ((List.range qe).map fun j => Value.bool (es j))
  rw_ : ∀ j, j < qn → ∃ g, vals[j]? = some (.slice (some ⟨g, 0, none⟩) m m) ∧ (W.rowIs g 3 m fun i => .int .i64 ((rows j).getD i 0)) ∧ G g ∧ g ≠ bx ∧ vN.ownBlock ≠ some g ∧ vE.ownBlock ≠ some g
  inj : ∀ i j, i < qn → j < qn → vals[i]? = vals[j]? → i = j
  gb : G bx
  gN : ∀ x, vN.ownBlock = some x → G x ∧ x ≠ bx ∧ vE.ownBlock ≠ some x
  gE : ∀ x, vE.ownBlock = some x → G x ∧ x ≠ bx
  lt : ∀ x, G x → base ≤ x ∧ x < W.heap.size
  hb : base ≤ W.heap.size
theorem autI_keep {base bx m : Nat} {b t : Int} {rows : Nat → List Int} {es : Nat → Bool} {qn qe : Nat} {G : Nat → Prop} {W W' : World} {vN vE : Value} {vals : List Value} (h : AutI base bx m b t rows es qn qe G W vN vE vals) (hk : ∀ x, G x → W'.heap[x]? = W.heap[x]?) (hsz : W.heap.size ≤ W'.heap.size) : AutI base bx m b t rows es qn qe G W' vN vE vals where
  box := (hk _ h.gb).trans h.box
  ownN := ownsRow_of_block h.ownN fun x hx => hk x (h.gN x hx).1
  ownE := ownsRow_of_block h.ownE fun x hx => hk x (h.gE x hx).1
  rw_ := fun j hj => by
    obtain ⟨g, e1, e2, e3⟩ := h.rw_ j hj
    exact ⟨g, e1, e2.of_block (hk g e3.1), e3⟩
  inj := h.inj
  gb := h.gb
  gN := h.gN
  gE := h.gE
  lt := fun x hx => ⟨(h.lt x hx).1, Nat.lt_of_lt_of_le (h.lt x hx).2 hsz⟩
  hb := Nat.le_trans h.hb hsz
def AutSt (base bx m : Nat) (b t : Int) (rows : Nat → List Int) (es : Nat → Bool) (qn qe : Nat) (G : Nat → Prop) (W : World) : Prop := ∃ vN vE vals, AutI base bx m b t rows es qn qe G W vN vE vals
theorem autI_start {base bx m : Nat} {b t : Int} {W : World} (rows : Nat → List Int) (es : Nat → Bool) (hb : base ≤ W.heap.size) (hbx : base ≤ bx) (h : W.heap[bx]? = some (.cells #[.int .i64 b, .int .i64 t, .slice none 0 0, .slice none 0 0] 26 (0, 0))) : AutI base bx m b t rows es 0 0 (fun x => x = bx) W (.slice none 0 0) (.slice none 0 0) [] :=
  ⟨h, World.ownsRow_nil _ _ _ _, World.ownsRow_nil _ _ _ _, fun j hj => by omega, fun i j hi => by omega, rfl, fun x hx => by simp [Value.ownBlock] at hx, fun x hx => by simp [Value.ownBlock] at hx, fun x hx => ⟨hx ▸ hbx, hx ▸ (Array.getElem?_eq_some_iff.1 h).1⟩, hb⟩

def autF (G : Nat → Prop) (nb lo hi : Nat) (x : Nat) : Prop := G x ∨ x = nb ∨ (lo ≤ x ∧ x < hi)
/-- One row more. -/
theorem autI_N {base bx m : Nat} {b t : Int} {rows : Nat → List Int} {es : Nat → Bool} {q qe : Nat} {G : Nat → Prop} {W w3 : World} {vN vE : Value} {vals : List Value} {nb : Nat} {o : Obj} {g' cap' : Nat} (h : AutI base bx m b t rows es q qe G W vN vE vals)
    (hr : W.rowIs nb 3 m fun i => .int .i64 ((rows q).getD i 0)) (hnb : ¬ G nb ∧ base ≤ nb)
    (hown : w3.ownsRow base 22 1 (.slice (some ⟨g', 0, none⟩) (q + 1) cap') (q + 1) (vals ++ [.slice (some ⟨nb, 0, none⟩) m m])) (hgrow : (W.alloc o).grownBy w3 vN.ownBlock) (hat : vN.ownBlock = some g' ∨ g' = (W.alloc o).heap.size) :
    (w3.cell? ⟨bx, 2, none⟩ = some vN ∧ w3.frozen? ⟨bx, 2, none⟩ = false) ∧ AutI base bx m b t rows es (q + 1) qe (autF G nb W.heap.size w3.heap.size) (w3.setCell ⟨bx, 2, none⟩ (.slice (some ⟨g', 0, none⟩) (q + 1) cap')) (.slice (some ⟨g', 0, none⟩) (q + 1) cap') vE (vals ++ [.slice (some ⟨nb, 0, none⟩) m m]) ∧ Tch G W (w3.setCell ⟨bx, 2, none⟩ (.slice (some ⟨g', 0, none⟩) (q + 1) cap')) := by
  have s3 := hgrow.size
  rw [World.size_alloc] at s3
  have k3 : ∀ x, x < W.heap.size → vN.ownBlock ≠ some x → w3.heap[x]? = W.heap[x]? := fun x hx hv => by
    rw [hgrow.block x (by rw [World.size_alloc]; omega) (fun e => hv e.symm), Below.heap_alloc _ _ _ hx]
  have k4 : ∀ x, x < W.heap.size → vN.ownBlock ≠ some x → x ≠ bx → (w3.setCell ⟨bx, 2, none⟩ (.slice (some ⟨g', 0, none⟩) (q + 1) cap')).heap[x]? = W.heap[x]? := fun x hx hv hb => by
    rw [Below.heap_setCell _ _ _ _ hb, k3 x hx hv]
  have nbx : vN.ownBlock ≠ some bx := fun e => (h.gN _ e).2.1 rfl
  have nnb : vN.ownBlock ≠ some nb := fun e => hnb.1 (h.gN _ e).1
  have lbx := (h.lt _ h.gb).2
  have hbx3 := (k3 bx lbx nbx).trans h.box
  have hgn : ∀ x, x < W.heap.size → vN.ownBlock ≠ some x → x ≠ g' := fun x hx hv e => by
    rcases hat with h1 | h1
    · exact hv (by rw [e]; exact h1)
    · rw [World.size_alloc] at h1; omega
  have hvl : vals.length = q := by have := h.ownN.1; omega
  have glt : g' < w3.heap.size := (hown.lt g' (by simp [Value.ownBlock])).2
  have hsz : (w3.setCell ⟨bx, 2, none⟩ (.slice (some ⟨g', 0, none⟩) (q + 1) cap')).heap.size = w3.heap.size := by simp
  have hob : ∀ x, (Value.slice (some ⟨g', 0, none⟩) (q + 1) cap').ownBlock = some x → g' = x := fun x e => by simpa [Value.ownBlock] using e
  refine ⟨⟨by simp [World.cell?, hbx3], by simp [World.frozen?, hbx3]⟩, ?_, tch_trans (tch_trans (tch_alloc (F := G) W o) (tch_grown (F := G) hgrow (fun x e => (h.gN x e).1)) (fun _ _ hx => hx)) (tch_set (F := G) w3 (a := ⟨bx, 2, none⟩) h.gb _) (fun _ _ hx => hx)⟩
  refine ⟨?_, ownsRow_setCell_other hown (fun e => hgn bx lbx nbx (hob _ e).symm) _, ownsRow_of_block h.ownE fun x hx => ?_, fun j hj => ?_, fun i j hi hj e => ?_, .inl h.gb, fun x hx => ?_, fun x hx => ⟨.inl (h.gE x hx).1, (h.gE x hx).2⟩, fun x hx => ?_, by rw [hsz]; have := h.hb; omega⟩
  · simp [World.setCell, Array.getElem?_modify, hbx3]
  · exact k4 x (h.lt _ (h.gE x hx).1).2 (fun e => (h.gN x e).2.2 hx) (h.gE x hx).2
  · by_cases e : j = q
    · subst e
      exact ⟨nb, by rw [List.getElem?_append_right (by omega), hvl]; simp, hr.of_block (k4 nb hr.lt nnb (fun e => hnb.1 (e ▸ h.gb))), .inr (.inl rfl), fun e => hnb.1 (e ▸ h.gb), fun e => hgn nb hr.lt nnb (hob _ e).symm, fun e => hnb.1 (h.gE _ e).1⟩
    · obtain ⟨g, r1, r2, r3, r4, r5, r6⟩ := h.rw_ j (by omega)
      exact ⟨g, by rw [List.getElem?_append_left (by omega)]; exact r1, r2.of_block (k4 g (h.lt _ r3).2 r5 r4), .inl r3, r4, fun e => hgn g (h.lt _ r3).2 r5 (hob _ e).symm, r6⟩
  · have hnew : ∀ i, i < q → vals[i]? ≠ some (.slice (some ⟨nb, 0, none⟩) m m) := fun i hi e => by
      obtain ⟨g, r1, r2, r3, -⟩ := h.rw_ i hi
      rw [r1] at e
      simp only [Option.some.injEq, Value.slice.injEq, Addr.mk.injEq, and_true] at e
      exact hnb.1 (e ▸ r3)
    by_cases e1 : i = q
    · by_cases e2 : j = q
      · omega
      · subst e1
        rw [List.getElem?_append_right (by omega), hvl, List.getElem?_append_left (by omega)] at e
        simp at e
        exact absurd e.symm (hnew j (by omega))
    · by_cases e2 : j = q
      · subst e2
        rw [List.getElem?_append_left (by omega), List.getElem?_append_right (by omega), hvl] at e
        simp at e
        exact absurd e (hnew i (by omega))
      · rw [List.getElem?_append_left (by omega), List.getElem?_append_left (by omega)] at e
        exact h.inj i j (by omega) (by omega) e
  · have e := hob _ hx
    subst e
    rcases hat with h1 | h1
    · obtain ⟨q1, q2, q3⟩ := h.gN _ h1
      exact ⟨.inl q1, q2, q3⟩
    · rw [World.size_alloc] at h1
      exact ⟨.inr (.inr ⟨by omega, glt⟩), by omega, fun e => by have := (h.lt _ (h.gE _ e).1).2; omega⟩
  · rw [hsz]
    rcases hx with hx | hx | hx
    · have := h.lt x hx; omega
    · have := hr.lt; rw [hx]; omega
    · have := h.hb; omega
/-- One end more. -/
theorem autI_E {base bx m : Nat} {b t : Int} {rows : Nat → List Int} {es : Nat → Bool} {qn q : Nat} {G : Nat → Prop} {W w3 : World} {vN vE : Value} {vals : List Value} {o : Obj} {g' cap' : Nat} (h : AutI base bx m b t rows es qn q G W vN vE vals)
    (hown : w3.ownsRow base 4 1 (.slice (some ⟨g', 0, none⟩) (q + 1) cap') (q + 1) (((List.range q).map fun j => Value.bool (es j)) ++ [.bool (es q)])) (hgrow : (W.alloc o).grownBy w3 vE.ownBlock) (hat : vE.ownBlock = some g' ∨ g' = (W.alloc o).heap.size) :
    (w3.cell? ⟨bx, 3, none⟩ = some vE ∧ w3.frozen? ⟨bx, 3, none⟩ = false) ∧ AutI base bx m b t rows es qn (q + 1) (autF G bx W.heap.size w3.heap.size) (w3.setCell ⟨bx, 3, none⟩ (.slice (some ⟨g', 0, none⟩) (q + 1) cap')) vN (.slice (some ⟨g', 0, none⟩) (q + 1) cap') vals ∧ Tch G W (w3.setCell ⟨bx, 3, none⟩ (.slice (some ⟨g', 0, none⟩) (q + 1) cap')) := by
  have s3 := hgrow.size
  rw [World.size_alloc] at s3
  have k3 : ∀ x, x < W.heap.size → vE.ownBlock ≠ some x → w3.heap[x]? = W.heap[x]? := fun x hx hv => by
    rw [hgrow.block x (by rw [World.size_alloc]; omega) (fun e => hv e.symm), Below.heap_alloc _ _ _ hx]
  have k4 : ∀ x, x < W.heap.size → vE.ownBlock ≠ some x → x ≠ bx → (w3.setCell ⟨bx, 3, none⟩ (.slice (some ⟨g', 0, none⟩) (q + 1) cap')).heap[x]? = W.heap[x]? := fun x hx hv hb => by
    rw [Below.heap_setCell _ _ _ _ hb, k3 x hx hv]
  have nbx : vE.ownBlock ≠ some bx := fun e => (h.gE _ e).2 rfl
  have lbx := (h.lt _ h.gb).2
  have hbx3 := (k3 bx lbx nbx).trans h.box
  have hgn : ∀ x, x < W.heap.size → vE.ownBlock ≠ some x → x ≠ g' := fun x hx hv e => by
    rcases hat with h1 | h1
    · exact hv (by rw [e]; exact h1)
    · rw [World.size_alloc] at h1; omega
  have glt : g' < w3.heap.size := (hown.lt g' (by simp [Value.ownBlock])).2
  have hsz : (w3.setCell ⟨bx, 3, none⟩ (.slice (some ⟨g', 0, none⟩) (q + 1) cap')).heap.size = w3.heap.size := by simp
  have hob : ∀ x, (Value.slice (some ⟨g', 0, none⟩) (q + 1) cap').ownBlock = some x → g' = x := fun x e => by simpa [Value.ownBlock] using e
  refine ⟨⟨by simp [World.cell?, hbx3], by simp [World.frozen?, hbx3]⟩, ?_, tch_trans (tch_trans (tch_alloc (F := G) W o) (tch_grown (F := G) hgrow (fun x e => (h.gE x e).1)) (fun _ _ hx => hx)) (tch_set (F := G) w3 (a := ⟨bx, 3, none⟩) h.gb _) (fun _ _ hx => hx)⟩
  refine ⟨?_, ownsRow_of_block h.ownN fun x hx => ?_, ?_, fun j hj => ?_, h.inj, .inl h.gb, fun x hx => ?_, fun x hx => ?_, fun x hx => ?_, by rw [hsz]; have := h.hb; omega⟩
  · simp [World.setCell, Array.getElem?_modify, hbx3]
  · exact k4 x (h.lt _ (h.gN x hx).1).2 (h.gN x hx).2.2 (h.gN x hx).2.1
  · rw [List.range_succ, List.map_append]
    exact ownsRow_setCell_other hown (fun e => hgn bx lbx nbx (hob _ e).symm) _
  · obtain ⟨g, r1, r2, r3, r4, r5, r6⟩ := h.rw_ j hj
    exact ⟨g, r1, r2.of_block (k4 g (h.lt _ r3).2 r6 r4), .inl r3, r4, r5, fun e => hgn g (h.lt _ r3).2 r6 (hob _ e).symm⟩
  · obtain ⟨q1, q2, q3⟩ := h.gN x hx
    exact ⟨.inl q1, q2, fun e => hgn x (h.lt _ q1).2 q3 (hob _ e).symm⟩
  · have e := hob _ hx
    subst e
    rcases hat with h1 | h1
    · obtain ⟨q1, q2⟩ := h.gE _ h1
      exact ⟨.inl q1, q2⟩
    · rw [World.size_alloc] at h1
      exact ⟨.inr (.inr ⟨by omega, glt⟩), by omega⟩
  · rw [hsz]
    rcases hx with hx | hx | hx
    · have := h.lt x hx; omega
    · have := h.lt _ h.gb; rw [hx]; omega
    · have := h.hb; omega
end Go.Proofs.Ythadkoplbgibgaf

/- The rows as they are found, one after another; an automaton that a call builds: more. -/
namespace Go.Proofs.Ythadkoplbgibgaf
open Go.RowKit

/-- The rows and the ends as they are found, one after another. -/
def foundR (d : Nat → Nat → Nat) (m f : Nat) (j : Nat) : List Int := (List.range m).map fun l => (((outG d m f (j + 1)).idxOf (d ((outG d m f j).getD j 0) l) : Nat) : Int)
theorem foundR_len (d : Nat → Nat → Nat) (m f j : Nat) : (foundR d m f j).length = m := by simp [foundR]
theorem foundR_get {d : Nat → Nat → Nat} {m f j l : Nat} (hl : l < m) : (foundR d m f j).getD l 0 = (((outG d m f (j + 1)).idxOf (d ((outG d m f j).getD j 0) l) : Nat) : Int) := by simp [foundR, List.getD, hl]
theorem idx_pre {a b : List Nat} (h : a <+: b) {x : Nat} (hx : x ∈ a) : b.idxOf x = a.idxOf x := by
  obtain ⟨c, rfl⟩ := h
  rw [List.idxOf_append, if_pos hx]
theorem outG_nextH {d : Nat → Nat → Nat} {m f i : Nat} (h : i < (outG d m f i).length) : outG d m f (i + 1) = rowG d (outG d m f i) ((outG d m f i).getD i 0) m := by simp only [outG]; rw [if_pos h]
theorem rowG_succ (d : Nat → Nat → Nat) (L : List Nat) (x l : Nat) : rowG d L x (l + 1) = addG (rowG d L x l) (d x l) := rfl
theorem rowG_lenH (d : Nat → Nat → Nat) (L : List Nat) (x : Nat) : ∀ l, (rowG d L x l).length ≤ L.length + l
  | 0 => Nat.le_refl _
  | l + 1 => by rw [rowG_succ]; have := addG_len (rowG d L x l) (d x l); have := rowG_lenH d L x l; omega
/-- Behind l letters the number of what the next one leads to is the one that it has in the end. -/
theorem found_idx {d : Nat → Nat → Nat} {m f i l : Nat} (h : i < (outG d m f i).length) (hl : l < m) : (addG (rowG d (outG d m f i) ((outG d m f i).getD i 0) l) (d ((outG d m f i).getD i 0) l)).idxOf (d ((outG d m f i).getD i 0) l) = (outG d m f (i + 1)).idxOf (d ((outG d m f i).getD i 0) l) := by
  rw [outG_nextH h]
  have e : m = l + 1 + (m - (l + 1)) := by omega
  have hp : rowG d (outG d m f i) ((outG d m f i).getD i 0) (l + 1) <+: rowG d (outG d m f i) ((outG d m f i).getD i 0) m := by
    have := rowG_pre d (outG d m f i) ((outG d m f i).getD i 0) (l + 1) (m - (l + 1))
    rwa [← e] at this
  rw [idx_pre hp (by rw [rowG_succ]; exact addG_mem.2 (.inr rfl))]
  rfl
/-- In the end it is the automaton of the sets. -/
theorem found_end {d : Nat → Nat → Nat} {m f i : Nat} (h : (outG d m f i).length ≤ i) (hi : i ≤ (outG d m f i).length) (j : Nat) (hj : j < i) : (gN d m (outG d m f i)).getD j [] = foundR d m f j := by
  have hj2 : j < (outG d m f i).length := by omega
  rw [gN_row hj2]
  unfold foundR
  refine List.map_congr_left fun l hl => ?_
  have hlm := List.mem_range.1 hl
  have hjl : j < (outG d m f j).length := by
    rcases Nat.lt_or_ge j (outG d m f j).length with h1 | h1
    · exact h1
    · have := outG_stay h1 (i - j)
      rw [show j + (i - j) = i by omega] at this
      rw [this] at hj2; omega
  have e1 : (outG d m f i).getD j 0 = (outG d m f j).getD j 0 := pre_getN (outG_le (by omega)) hjl
  rw [e1]
  have hmem : d ((outG d m f j).getD j 0) l ∈ outG d m f (j + 1) := by
    rw [outG_nextH hjl]
    exact rowG_mem.2 (.inr ⟨l, hlm, rfl⟩)
  rw [idx_pre (outG_le (show j + 1 ≤ i by omega)) hmem]
theorem found_ends {d : Nat → Nat → Nat} {m f i : Nat} (p : Nat → Bool) (h : (outG d m f i).length ≤ i) (hi : i ≤ (outG d m f i).length) (j : Nat) (hj : j < i) : (gE p (outG d m f i)).getD j false = p ((outG d m f j).getD j 0) := by
  have hj2 : j < (outG d m f i).length := by omega
  rw [gE_get hj2]
  have hjl : j < (outG d m f j).length := by
    rcases Nat.lt_or_ge j (outG d m f j).length with h1 | h1
    · exact h1
    · have := outG_stay h1 (i - j)
      rw [show j + (i - j) = i by omega] at this
      rw [this] at hj2; omega
  rw [pre_getN (outG_le (by omega)) hjl]
theorem owns_sl {W : World} {base : Nat} {e : TypeId} {v : Value} {n : Nat} {xs : List Value} (h : W.ownsRow base e 1 v n xs) : ∃ a c, v = .slice a n c := by
  rcases h.2 with ⟨rfl, rfl⟩ | ⟨g, cap, cur, rfl, _⟩
  · exact ⟨none, 0, rfl⟩
  · exact ⟨_, _, rfl⟩
theorem autI_congr {base bx m : Nat} {b t : Int} {rows rows' : Nat → List Int} {es es' : Nat → Bool} {qn qe : Nat} {G : Nat → Prop} {W : World} {vN vE : Value} {vals : List Value} (h : AutI base bx m b t rows es qn qe G W vN vE vals) (h1 : ∀ j, j < qn → rows j = rows' j) (h2 : ∀ j, j < qe → es j = es' j) : AutI base bx m b t rows' es' qn qe G W vN vE vals :=
  ⟨h.box, h.ownN, by
    have e : ((List.range qe).map fun j => Value.bool (es' j)) = (List.range qe).map fun j => Value.bool (es j) := List.map_congr_left fun j hj => by rw [h2 j (List.mem_range.1 hj)]
    rw [e]; exact h.ownE, fun j hj => by
    obtain ⟨g, e1, e2, e3⟩ := h.rw_ j hj
    exact ⟨g, e1, by rw [← h1 j hj]; exact e2, e3⟩, h.inj, h.gb, h.gN, h.gE, h.lt, h.hb⟩
theorem autI_sl2 {base bx m : Nat} {b t : Int} {G : Nat → Prop} {W : World} {vN vE : Value} {vals : List Value} {SN : List (List Int)} {SE : List Bool} (h : AutI base bx m b t (fun j => SN.getD j []) (fun j => SE.getD j false) SN.length SN.length G W vN vE vals) (hk : SN.length ≤ 100000000) (hm : m ≤ 36) (hl : ∀ j, j < SN.length → (SN.getD j []).length = m) (hw : ∀ j, j < SN.length → ∀ x ∈ SN.getD j [], (Lit.int .i64 x).wf = true) (hE : SE.length = SN.length) : ∃ aN cN aE cE, vN = .slice aN SN.length cN ∧ vE = .slice aE SN.length cE ∧ Sl2 W aN SN.length SN ∧ SlB W aE SN.length SE := by
  have hr : ∀ j, j < SN.length → ∃ g, vals[j]? = some (.slice (some ⟨g, 0, none⟩) m m) ∧ Sl W (some ⟨g, 0, none⟩) m (SN.getD j []) := fun j hj => by
    obtain ⟨g, r1, r2, -⟩ := h.rw_ j hj
    exact ⟨g, r1, sl_of_rowIs (hl j hj) (by unfold maxLen; omega) (hw j hj) r2⟩
  rcases h.ownN.2 with ⟨e1, e2⟩ | ⟨g, c, cur, e, _⟩
  · rcases h.ownE.2 with ⟨k1, k2⟩ | ⟨g', c', cur', e', _⟩
    · exact ⟨none, 0, none, 0, by rw [e1, e2], by rw [k1, e2], ⟨rfl, by unfold maxLen; omega, Or.inl e2⟩, ⟨hE, by unfold maxLen; omega, Or.inl e2⟩⟩
    · exact ⟨none, 0, some ⟨g', 0, none⟩, c', by rw [e1, e2], e', ⟨rfl, by unfold maxLen; omega, Or.inl e2⟩, ⟨hE, by unfold maxLen; omega, Or.inl e2⟩⟩
  · have hN : Sl2 W (some ⟨g, 0, none⟩) SN.length SN := ⟨rfl, by unfold maxLen; omega, Or.inr ⟨g, 0, rfl, fun j hj => by
      obtain ⟨gj, r1, r2⟩ := hr j hj
      have ho := h.ownN
      rw [e] at ho
      rw [hl j hj]
      exact ⟨some ⟨gj, 0, none⟩, m, by rw [Nat.zero_add]; exact (ho.cellAt j (by omega)).trans r1, r2⟩⟩⟩
    rcases h.ownE.2 with ⟨k1, k2⟩ | ⟨g', c', cur', e', _⟩
    · exact ⟨some ⟨g, 0, none⟩, c, none, 0, e, by rw [k1, k2], hN, ⟨hE, by unfold maxLen; omega, Or.inl k2⟩⟩
    · refine ⟨some ⟨g, 0, none⟩, c, some ⟨g', 0, none⟩, c', e, e', hN, ⟨hE, by unfold maxLen; omega, Or.inr ⟨g', 0, rfl, fun j hj => ?_⟩⟩⟩
      have ho := h.ownE
      rw [e'] at ho
      rw [Nat.zero_add, ho.cellAt j (by omega)]
      simp [hj]
theorem good_wf {m n : Nat} {N : List (List Int)} (hG : GoodN m n N) : ∀ j, j < n → (N.getD j []).length = m ∧ ∀ x ∈ N.getD j [], (Lit.int .i64 x).wf = true := fun j hj => by
  obtain ⟨h1, h2⟩ := hG.2.2.2.2.2 j hj
  have hn := hG.2.2.1
  refine ⟨h1, fun x hx => ?_⟩
  obtain ⟨l, hl, rfl⟩ := List.getElem_of_mem hx
  have := h2 l (by omega)
  rw [getD_at _ l hl] at this
  exact Go.WalkArith.wf_i64 (by omega)
end Go.Proofs.Ythadkoplbgibgaf
