/- turn.fromBehind: what holds between two rounds. -/
import Derived.Test.YtokcejakjaimlaeZHh
import Derived.Test.YtokcejakjaimlaeZJc
namespace Go.Proofs.Ytokcejakjaimlae
open Go.RowKit

theorem leadU_bit {F : Nat → Nat} {M s : Nat} : ∀ {k : Nat}, (leadU F M k).testBit s = true ↔ ∃ j, j < k ∧ M.testBit j = true ∧ (F j).testBit s = true
  | 0 => by simp [leadU]
  | k + 1 => by
    unfold leadU
    have ih := leadU_bit (F := F) (M := M) (s := s) (k := k)
    by_cases h : M.testBit k = true
    · rw [if_pos h, Nat.testBit_or, Bool.or_eq_true, ih]
      constructor
      · rintro (⟨j, h1, h2⟩ | h1)
        · exact ⟨j, by omega, h2⟩
        · exact ⟨k, by omega, h, h1⟩
      · rintro ⟨j, h1, h2, h3⟩
        by_cases e : j = k
        · subst e; exact .inr h3
        · exact .inl ⟨j, by omega, h2, h3⟩
    · rw [if_neg h, ih]
      constructor
      · rintro ⟨j, h1, h2⟩
        exact ⟨j, by omega, h2⟩
      · rintro ⟨j, h1, h2, h3⟩
        by_cases e : j = k
        · subst e; exact absurd h2 h
        · exact ⟨j, by omega, h2, h3⟩
/-- What leads into a set: by doors as it is said. -/
theorem lead_is {m n : Nat} {N : List (List Int)} (hG : GoodN m n N) {l : Nat} (hl : l < m) (M : Nat) : leadU (doorF N n 0 l) M n = dB N n M l := by
  have hd : ∀ k, doorF N n 0 l k < 2 ^ n := fun k => by unfold doorF; rw [if_neg (by omega)]; exact maskB_lt _ _
  refine mask_ext (leadU_lt hd n) (dB_lt _ _ _ _) fun s hs => ?_
  rw [Bool.eq_iff_iff, leadU_bit, dB_bit hs]
  have hb : ∀ j, (doorF N n 0 l j).testBit s = true ↔ nxt N s l = j := fun j => by
    unfold doorF
    rw [if_neg (by omega), maskB_bit]
    simp [hs]
  constructor
  · rintro ⟨j, _, h2, h3⟩
    rw [(hb j).1 h3]; exact h2
  · intro h
    exact ⟨nxt N s l, (nxt_cell hG hs hl).1, h, (hb _).2 rfl⟩

/-- Behind i of the sets: these have been found; the rows and ends of i of them stand in the automaton. -/
def TuAt (wc : World) (mb bx m : Nat) (b t : Int) (rows : Nat → List Int) (es : Nat → Bool) (i : Nat) (L : List Nat) (bq cq : Nat) (W : World) : Prop :=
  ∃ G, QueT W bq L.length cq L ∧ MapAt Try.prog 45 W mb (numT L) ∧ AutSt bx bx m b t rows es i i G W ∧ (¬ G mb ∧ ¬ G bq) ∧ (∀ x, G x → x = bx ∨ wc.heap.size ≤ x) ∧ (mb ≠ bq ∧ wc.heap.size ≤ mb ∧ wc.heap.size ≤ bq) ∧ Tch (fun x => x = bx) wc W
/-- .. and behind l letters of the next one: its row stands in block nb. -/
def TxAt (wc : World) (mb bx m : Nat) (b t : Int) (rows : Nat → List Int) (es : Nat → Bool) (i nb : Nat) (row : List Int) (l : Nat) (L : List Nat) (bq cq : Nat) (W : World) : Prop :=
  ∃ G, QueT W bq L.length cq L ∧ MapAt Try.prog 45 W mb (numT L) ∧ AutSt bx bx m b t rows es i i G W ∧ (¬ G mb ∧ ¬ G bq ∧ ¬ G nb) ∧ (∀ x, G x → x = bx ∨ wc.heap.size ≤ x) ∧ (mb ≠ bq ∧ wc.heap.size ≤ mb ∧ wc.heap.size ≤ bq ∧ nb ≠ mb ∧ nb ≠ bq ∧ wc.heap.size ≤ nb) ∧ Tch (fun x => x = bx) wc W ∧ W.rowIs nb 3 m fun q => .int .i64 (if q < l then row.getD q 0 else 0)

section
variable {wc : World} {mb bx m : Nat} {b t : Int} {rows : Nat → List Int} {es : Nat → Bool} {i nb : Nat} {row : List Int} {l : Nat} {L : List Nat} {bq cq : Nat} {W W' : World}
theorem autSt_lt {base : Nat} {qn qe : Nat} {G : Nat → Prop} (h : AutSt base bx m b t rows es qn qe G W) {x : Nat} (hx : G x) : base ≤ x ∧ x < W.heap.size := by
  obtain ⟨_, _, _, h⟩ := h
  exact h.lt x hx
theorem txAt_start (row : List Int) (h : TuAt wc mb bx m b t rows es i L bq cq W) : TxAt wc mb bx m b t rows es i W.heap.size row 0 L bq cq (W.alloc (.cells (madeCells #[.int .i64 0] m) 3)) := by
  obtain ⟨G, h1, h2, h3, h4, h5, h6, h7⟩ := h
  have hb := (Below.refl W.heap.size W).alloc (Nat.le_refl _) (.cells (madeCells #[.int .i64 0] m) 3)
  have l1 := queT_lt h1
  have l2 := h2.lt
  refine ⟨G, queT_kept h1 (hb.block _ l1), h2.below hb, autSt_keep h3 (fun x hx => hb.block x (autSt_lt h3 hx).2) hb.size, ⟨h4.1, h4.2, fun hx => ?_⟩, h5, ⟨h6.1, h6.2.1, h6.2.2, by omega, by omega, h7.size⟩, tch_trans h7 (tch_below (F := fun x => x = bx) hb) (fun _ _ hx => hx), (World.rowIs_made W (.int .i64 0) m 3).congr fun p hp => by rw [if_neg (by omega)]⟩
  have := (autSt_lt h3 hx).2
  omega
theorem txAt_below (h : TxAt wc mb bx m b t rows es i nb row l L bq cq W) (hb : Below W.heap.size W W') : TxAt wc mb bx m b t rows es i nb row l L bq cq W' := by
  obtain ⟨G, h1, h2, h3, h4, h5, h6, h7, h8⟩ := h
  exact ⟨G, queT_kept h1 (hb.block _ (queT_lt h1)), h2.below hb, autSt_keep h3 (fun x hx => hb.block x (autSt_lt h3 hx).2) hb.size, h4, h5, h6, tch_trans h7 (tch_below (F := fun x => x = bx) hb) (fun _ _ hx => hx), h8.of_block (hb.block _ h8.lt)⟩
theorem txAt_cell (h : TxAt wc mb bx m b t rows es i nb row l L bq cq W) (hl : l < m) : W.cell? ⟨nb, l, none⟩ = some (.int .i64 0) ∧ W.frozen? ⟨nb, l, none⟩ = false := by
  obtain ⟨G, h1, h2, h3, h4, h5, h6, h7, h8⟩ := h
  have := h8.cell hl
  rw [if_neg (Nat.lt_irrefl _)] at this
  exact ⟨this, h8.frozen l⟩
theorem txAt_set {z : Int} (h : TxAt wc mb bx m b t rows es i nb row l L bq cq W) (hz : row.getD l 0 = z) : TxAt wc mb bx m b t rows es i nb row (l + 1) L bq cq (W.setCell ⟨nb, l, none⟩ (.int .i64 z)) := by
  obtain ⟨G, h1, h2, h3, h4, h5, h6, h7, h8⟩ := h
  have hk : ∀ x, x ≠ nb → (W.setCell ⟨nb, l, none⟩ (.int .i64 z)).heap[x]? = W.heap[x]? := fun x hx => Below.heap_setCell _ _ _ _ hx
  refine ⟨G, queT_kept h1 (hk _ (Ne.symm h6.2.2.2.2.1)), h2.of_block (hk _ (Ne.symm h6.2.2.2.1)), autSt_keep h3 (fun x hx => hk x (fun e => h4.2.2 (e ▸ hx))) (by simp), h4, h5, h6, ⟨h7.os, h7.tape, h7.output, by simp; exact h7.size, fun x hx hn => (hk x (by omega)).trans (h7.block x hx hn)⟩, (h8.set _ _).congr fun q _ => ?_⟩
  by_cases e : q = l
  · subst e; rw [if_pos rfl, if_pos (by omega), hz]
  · rw [if_neg e]
    congr 1
    by_cases e2 : q < l
    · rw [if_pos e2, if_pos (by omega)]
    · rw [if_neg e2, if_neg (by omega)]
/-- One set is numbered anew. -/
theorem txAt_new {M : Nat} {w5 w6 : World} {o : Obj} {b' cap' : Nat} (h : TxAt wc mb bx m b t rows es i nb row l L bq cq W)
    (hm : MapAt Try.prog 45 w5 mb (numT L ++ [(setT M, .int .i64 (L.length : Int))])) (ht : W.mapTurned w5 mb) (hq : QueT w6 b' (L.length + 1) cap' (L ++ [M])) (hg : (w5.alloc o).grownBy w6 (some bq)) (hb' : b' = bq ∨ (w5.alloc o).heap.size ≤ b') :
    TxAt wc mb bx m b t rows es i nb row l (L ++ [M]) b' cap' w6 := by
  obtain ⟨G, h1, h2, h3, h4, h5, h6, h7, h8⟩ := h
  have s5 := ht.grown.size
  have s6 := hg.size
  rw [World.size_alloc] at s6 hb'
  have l1 := queT_lt h1
  have l2 := h2.lt
  have l8 := h8.lt
  have hk : ∀ x, x < W.heap.size → x ≠ mb → x ≠ bq → w6.heap[x]? = W.heap[x]? := fun x hx e1 e2 => by
    rw [hg.block x (by rw [World.size_alloc]; omega) (fun e => e2 (by cases e; rfl)), Below.heap_alloc _ _ _ (by omega), ht.grown.block x hx (fun e => e1 (by cases e; rfl))]
  have hgl : ∀ x, G x → x < W.heap.size ∧ x ≠ mb ∧ x ≠ bq := fun x hx => ⟨(autSt_lt h3 hx).2, fun e => h4.1 (e ▸ hx), fun e => h4.2.1 (e ▸ hx)⟩
  refine ⟨G, by rw [List.length_append]; exact hq, ?_, autSt_keep h3 (fun x hx => hk x (hgl x hx).1 (hgl x hx).2.1 (hgl x hx).2.2) (by omega), ⟨h4.1, fun hx => ?_, h4.2.2⟩, h5, ⟨by omega, h6.2.1, by omega, h6.2.2.2.1, by omega, h6.2.2.2.2.2⟩, ⟨?_, ?_, ?_, by have := h7.size; omega, fun x hx hn => ?_⟩, h8.of_block (hk nb l8 h6.2.2.2.1 h6.2.2.2.2.1)⟩
  · rw [numT_new]
    exact (hm.alloc o).grown hg (fun e => h6.1 (by cases e; rfl))
  · rcases hb' with rfl | hb'
    · exact h4.2.1 hx
    · have := (hgl _ hx).1; omega
  · exact hg.os.trans (ht.grown.os.trans h7.os)
  · exact hg.tape.trans (ht.grown.tape.trans h7.tape)
  · exact hg.output.trans (ht.grown.output.trans h7.output)
  · rw [hk x (Nat.lt_of_lt_of_le hx h7.size) (by omega) (by omega)]
    exact h7.block x hx hn
theorem tuAt_start {wp : World} {f : Nat} (hbx : wc.heap[bx]? = some (.cells #[.int .i64 b, .int .i64 t, .slice none 0 0, .slice none 0 0] 25 (0, 0))) (hmp : MapAt Try.prog 45 wp wc.heap.size ([] ++ [(setT f, .int .i64 0)])) (htn : (wc.alloc (.map #[] 0)).mapTurned wp wc.heap.size) : TuAt wc wc.heap.size bx m b t rows es 0 [f] wp.heap.size 1 (wp.alloc (.cells #[.int .u64 (loT f), .int .u64 (hiT f)] 45)) := by
  have s1 := htn.grown.size
  rw [World.size_alloc] at s1
  have lb := (Array.getElem?_eq_some_iff.1 hbx).1
  have hk : ∀ x, x < wc.heap.size → (wp.alloc (.cells #[.int .u64 (loT f), .int .u64 (hiT f)] 45)).heap[x]? = wc.heap[x]? := fun x hx => by
    rw [Below.heap_alloc _ _ _ (by omega), htn.grown.block x (by rw [World.size_alloc]; omega) (fun e => by have := Option.some.inj e; omega), Below.heap_alloc _ _ _ hx]
  refine ⟨fun x => x = bx, ⟨rfl, by simp, by decide, #[.int .u64 (loT f), .int .u64 (hiT f)], heap_alloc_last _ _, by simp, fun q hq => ?_⟩, ?_, ⟨_, _, _, autI_start rows es (by simp; omega) (Nat.le_refl _) ((hk bx lb).trans hbx)⟩, ⟨by omega, by omega⟩, fun x hx => .inl hx, ⟨by omega, Nat.le_refl _, by omega⟩, ⟨?_, ?_, ?_, by simp; omega, fun x hx _ => hk x hx⟩⟩
  · simp at hq
    rcases (show q = 0 ∨ q = 1 by omega) with rfl | rfl
    · simp [setCT]
    · simp [setCT]
  · have e : numT [f] = [] ++ [(setT f, .int .i64 0)] := by simp [numT, List.range_succ]
    rw [e]
    exact hmp.alloc _
  · exact htn.grown.os
  · exact htn.grown.tape
  · exact htn.grown.output
/-- The next one. -/
theorem tuAt_next {G : Nat → Prop} {w5 w6 W8 : World} {hi : Nat} {vN vE : Value} {vals : List Value} (hq : QueT w5 bq L.length cq L) (hm : MapAt Try.prog 45 w5 mb (numT L)) (hb6 : Below w5.heap.size w5 w6) (hA : AutI bx bx m b t rows es (i + 1) (i + 1) (autF G bx w6.heap.size hi) W8 vN vE vals) (hT : Tch G w6 W8)
    (hD : ¬ G mb ∧ ¬ G bq) (hgb : G bx) (hG : ∀ x, G x → x = bx ∨ wc.heap.size ≤ x) (h6 : mb ≠ bq ∧ wc.heap.size ≤ mb ∧ wc.heap.size ≤ bq) (h7 : Tch (fun x => x = bx) wc w5) : TuAt wc mb bx m b t rows es (i + 1) L bq cq W8 := by
  have l1 := queT_lt hq
  have l2 := hm.lt
  have s6 := hb6.size
  have s7 := h7.size
  have hk : ∀ x, x < w5.heap.size → ¬ G x → W8.heap[x]? = w5.heap[x]? := fun x hx hn => (hT.block x (by omega) hn).trans (hb6.block x hx)
  have hF : ∀ x, x < w5.heap.size → ¬ G x → ¬ autF G bx w6.heap.size hi x := fun x hx hn hh => by
    rcases hh with k | k | k
    · exact hn k
    · exact hn (k ▸ hgb)
    · omega
  refine ⟨_, queT_kept hq (hk _ l1 hD.2), hm.of_block (hk _ l2 hD.1), ⟨vN, vE, vals, hA⟩, ⟨hF mb l2 hD.1, hF bq l1 hD.2⟩, fun x hx => ?_, h6, tch_trans (tch_trans h7 (tch_below (F := fun x => x = bx) hb6) (fun _ _ hx => hx)) hT (fun x hx hg => ?_)⟩
  · rcases hx with k | k | k
    · exact hG x k
    · exact .inl k
    · exact .inr (by omega)
  · rcases hG x hg with e | e
    · exact e
    · omega
end
end Go.Proofs.Ytokcejakjaimlae
