/- A range over a function whose iterator keeps state of its own in cells: the law for the caller, the iterator's word. -/
import Derived.LoopIn
import Derived.LoopNIn
import Derived.OwnWalkIn
import Derived.RangeFuncBound
import Derived.RangeFuncCalls
import Derived.RangeFuncLeaves
import Derived.RangeFuncNested
import Derived.Shelf.Abstract
import Derived.Shelf.RegionOpen
import Derived.TacticsInMore
import Derived.WalkKit
namespace Go.Proofs.Ytebbjmcjgjecmaa
open Go.RowKit Go.Shelf

/-- What is said does not speak of the blocks X: it abides whatever is done to these, and new blocks, which may then be counted among them. -/
def FreeJ {α : Type} (J : (Nat → Prop) → List α → World → Prop) : Prop :=
  ∀ X Y s W W' row, J X s W → W.grownBy W' row → (∀ r, row = some r → X r) → (∀ r, Y r → X r ∨ (W.heap.size ≤ r ∧ r < W'.heap.size)) → J Y s W'
theorem FreeJ.alloc {α : Type} {J : (Nat → Prop) → List α → World → Prop} (h : FreeJ J) {X : Nat → Prop} {s : List α} {W : World} (o : Obj) (hj : J X s W) : J X s (W.alloc o) :=
  h X X s W _ none hj (World.grownBy_alloc W o none) (fun _ e => by cases e) (fun _ hr => .inl hr)

/-- What a round keeps: the blocks X, and whatever lay below n₀. -/
def KeptX (n₀ : Nat) (X : Nat → Prop) (W W' : World) : Prop := (∀ r, X r → r < W.heap.size → W'.heap[r]? = W.heap[r]?) ∧ Below n₀ W W'
theorem KeptX.trans {n₀ : Nat} {X : Nat → Prop} {A B C : World} (h : KeptX n₀ X A B) (k : KeptX n₀ X B C) : KeptX n₀ X A C :=
  ⟨fun r hr hl => (k.1 r hr (Nat.lt_of_lt_of_le hl h.2.size)).trans (h.1 r hr hl), h.2.trans k.2⟩

/-- The iterator's word. -/
def SeqFree {α : Type} (F : Fence) (n : Nat) (P : Program) (g : Nat) (lb : Array Value) (encs : α → Array Value) (n₀ : Nat) (X₀ : Nat → Prop) (S : List α → Prop) (N : Nat) (w : World) : Prop :=
  ∀ (l : Nat) (J : (Nat → Prop) → List α → World → Prop) (W : World), Below w.heap.size w W → FreeJ J →
    (∀ X pre x W1, J X pre W1 → pre.length < N → YieldAt F (n - 1) P l (encs x) W1 fun e W' => e = .returned (.bool true) ∧ J X (pre ++ [x]) W' ∧ KeptX n₀ X W1 W') →
    J X₀ [] W →
    CallsIn F n P g (#[.func (.yield l) #[] #[]] ++ lb) W fun e W' => (∃ v, e = .returned v) ∧ ∃ xs X, S xs ∧ J X xs W'

/-- How the body of a round is left: it goes on. -/
def postX {α : Type} (n₀ : Nat) (I : (Nat → Prop) → List α → World → Prop) (X : Nat → Prop) (xs : List α) (W : World) : Exit → Act → World → Prop
  | .normal, _, W' => KeepsOthers W W' ∧ KeptX n₀ X W W' ∧ I X xs W'
  | .ret, _, _ => False
  | .exit _, _, _ => False
  | .goto _, _, _ => False
  | .panic _, _, _ => False
  | .outgrown, _, _ => False

theorem wpIn_rangeFunc_free {F : Fence} {n : Nat} {P : Program} {α : Type} {g : Operand} {ps : Array Tmp} {assign body : Code} {Q : Exit → Act → World → Prop} {a : Act} {w : World}
    (hro : F.round = none) (h1 : 1 ≤ n) {gf : Nat} {lb : Array Value} (hg : a.eval g = .func (.func gf) #[] lb) (hFg : F.fn gf) (eg : ∀ args w, (callFunc gf args).run P w = .ok (.enter gf args) w)
    {encs : α → Array Value} {n₀ : Nat} {X₀ : Nat → Prop} {S : List α → Prop} {N : Nat} (hseq : SeqFree F (n - 1) P gf lb encs n₀ X₀ S N w) (hn₀ : n₀ ≤ w.heap.size) (hX₀ : ∀ r, X₀ r → r < w.heap.size) (hps : ∀ x, (encs x).size = ps.size)
    (I : (Nat → Prop) → List α → World → Prop) (hI : FreeJ I) (hIo : ∀ X s W l o o', I X s W → w.heap.size ≤ l → W.heap[l]? = some o → o.isCells = false → I X s (W.putObj l o')) (h0 : I X₀ [] w) (a₁ : α → Act)
    (hassign : ∀ (l : Nat) (x : α) (W : World) (K : Act → World → Prop), K (a₁ x) W →
      assign.wpIn (F.inRound l) (n - 1 - 1) P (Exit.then K (fun _ _ _ => False)) { tmps := (ps.zip (encs x)).foldl (fun t (p, v) => t.setIfInBounds p v) a.tmps, defers := [] } W)
    (hbody : ∀ (l : Nat) (X : Nat → Prop) (pre : List α) (x : α) (W : World), I X pre W → pre.length < N → body.wpIn (F.inRound l) (n - 1 - 1) P (postX n₀ I X (pre ++ [x]) W) (a₁ x) W)
    (hdone : ∀ (D : Nat) (xs : List α) (X : Nat → Prop) (W : World), w.heap.size ≤ D → S xs → I X xs W → W.heap[D]? = some (.deferred (some [])) → Q .normal { a with defers := { target := .collected D, args := #[] } :: a.defers } W) :
    (Code.rangeFunc g ps assign body).wpIn F n P Q a w := by
  refine wpIn_rangeFunc ?_
  intro fn hfn
  rw [hro]
  obtain ⟨rec, hrec⟩ : ∃ rec : LoopState → Option Code → Loop, rec = fun st pe => { state := st, pending := pe, fn, tmps := a.tmps, params := ps, assign, body, defers := w.heap.size } := ⟨_, rfl⟩
  obtain ⟨W1, hW1⟩ : ∃ W1, (w.alloc (.deferred (some []))).alloc (.loop (rec .ready none)) = W1 := ⟨_, rfl⟩
  have hL1 : W1.heap[w.heap.size + 1]? = some (.loop (rec .ready none)) := by
    rw [← hW1]; have := World.alloc_heap_new (w.alloc (.deferred (some []))) (.loop (rec .ready none)); rwa [World.size_alloc] at this
  have hK1 : W1.heap[w.heap.size]? = some (.deferred (some [])) := by
    rw [← hW1]; exact (Below.heap_alloc _ _ _ (by simp)).trans (World.alloc_heap_new w _)
  have hI1 : I X₀ [] W1 := by rw [← hW1]; exact hI.alloc _ (hI.alloc _ h0)
  have hb1 : Below w.heap.size w W1 := by
    rw [← hW1]; exact ((Below.refl _ w).alloc (Nat.le_refl _) _).alloc (by simp) _
  refine ⟨w.heap.size + 1, [{ target := .collected w.heap.size, args := #[] }], W1, { target := .fn (.func gf) lb, args := #[.func (.yield (w.heap.size + 1)) #[] #[]] }, W1, gf,
    #[.func (.yield (w.heap.size + 1)) #[] #[]] ++ lb, W1, ?_, ?_, ?_, ?_, fun _ => h1, ?_⟩
  · rw [← hW1, hrec]; exact run_enterLoop_outer _ _ _ _ _
  · simp only [resolve, hg]
    simp [go_sem]
  · intro f' hf'; simp [Target.leads] at hf'; subst hf'; exact hFg
  · simp [invoke, go_sem, eg]
  · have hput : ∀ (X : Nat → Prop) (W : World) (o o' : Obj), ¬ X (w.heap.size + 1) → W.heap[w.heap.size + 1]? = some o → KeptX n₀ X W (W.putObj (w.heap.size + 1) o') := fun X W o o' hx hl =>
      ⟨fun r hr _ => World.putObj_heap_other (fun e => hx (by rw [← e]; exact hr)), (Below.refl n₀ W).grown (grownBy_putObj' W _ o') (by have := (Array.getElem?_eq_some_iff.1 hl).1; omega) (fun k e => by cases e; omega)⟩
    refine (hseq (w.heap.size + 1)
      (fun X pre W => I X pre W ∧ W.heap[w.heap.size + 1]? = some (.loop (rec .ready none)) ∧ W.heap[w.heap.size]? = some (.deferred (some [])) ∧ ¬ X (w.heap.size + 1) ∧ ¬ X w.heap.size)
      W1 hb1 ?_ ?_ ⟨hI1, hL1, hK1, fun h => by have := hX₀ _ h; omega, fun h => by have := hX₀ _ h; omega⟩).mono ?_
    · rintro X Y s A B row ⟨hi, hl, hk, hx1, hx2⟩ hg' hr hm
      have hlt1 := (Array.getElem?_eq_some_iff.1 hl).1
      have hlt2 := (Array.getElem?_eq_some_iff.1 hk).1
      refine ⟨hI X Y s A B row hi hg' hr hm, (hg'.block _ hlt1 (fun e => hx1 (hr _ e.symm))).trans hl, (hg'.block _ hlt2 (fun e => hx2 (hr _ e.symm))).trans hk, fun hy => ?_, fun hy => ?_⟩
      · rcases hm _ hy with h | h
        · exact hx1 h
        · omega
      · rcases hm _ hy with h | h
        · exact hx2 h
        · omega
    · rintro X pre x W ⟨hi, hl, hk, hx1, hx2⟩ hlen
      have hlt : w.heap.size + 1 < W.heap.size := (Array.getElem?_eq_some_iff.1 hl).1
      have hy := run_yield (P := P) (args := encs x) hl (by rw [hrec]; exact hps x)
      rw [hrec] at hy
      refine ⟨fn, _, assign, body, hy, roundIn_of_wpIn hfn (hassign _ x W _ ⟨_, run_beginRound hl (by rw [hrec]), ?_⟩)⟩
      have hl2 : (W.putObj (w.heap.size + 1) (.loop { rec .ready none with state := .busy })).heap[w.heap.size + 1]? = some (.loop { rec .ready none with state := .busy }) := World.putObj_heap_same hlt
      have hk2 : (W.putObj (w.heap.size + 1) (.loop { rec .ready none with state := .busy })).heap[w.heap.size]? = some (.deferred (some [])) := (World.putObj_heap_other (by omega)).trans hk
      have hw2 : KeptX n₀ X W (W.putObj (w.heap.size + 1) (.loop { rec .ready none with state := .busy })) := hput X W _ _ hx1 hl
      refine wpIn_mono (hbody _ X pre x _ (hIo _ _ _ _ _ _ hi (by omega) hl rfl) hlen) ?_
      rintro e a3 W3 hp
      cases e with
      | normal =>
        obtain ⟨hk3, hkp3, hi3⟩ := hp
        have hl3 := hk3.same _ _ hl2 rfl
        have hr := run_endRound (P := P) none hl3
        have hl4 : (W3.putObj (w.heap.size + 1) (.loop (rec .ready none))).heap[w.heap.size + 1]? = some (.loop (rec .ready none)) := World.putObj_heap_same (Array.getElem?_eq_some_iff.1 hl3).1
        have hk4 : (W3.putObj (w.heap.size + 1) (.loop (rec .ready none))).heap[w.heap.size]? = some (.deferred (some [])) := (World.putObj_heap_other (by omega)).trans (hk3.same _ _ hk2 rfl)
        rw [hrec] at hr hl3 hl4 hk4 hw2 hkp3
        rw [hrec]
        exact ⟨_, _, hr, rfl, ⟨hIo _ _ _ _ _ _ hi3 (by omega) hl3 rfl, hl4, hk4, hx1, hx2⟩, (hw2.trans hkp3).trans (hput X W3 _ _ hx1 hl3)⟩
      | ret => exact hp.elim
      | exit id => exact hp.elim
      | goto t => exact hp.elim
      | panic ch => exact hp.elim
      | outgrown => exact hp.elim
    · rintro e W2 ⟨⟨v, rfl⟩, xs, X, hS, hi, hl, hk, hx1, hx2⟩
      exact ⟨none, _, by have := run_endLoop (P := P) hl (by rw [hrec]; simp); rw [hrec] at this; exact this, hdone _ xs X _ (Nat.le_refl _) hS (hIo _ _ _ _ _ _ hi (by omega) hl rfl) ((World.putObj_heap_other (by omega)).trans hk)⟩
end Go.Proofs.Ytebbjmcjgjecmaa
