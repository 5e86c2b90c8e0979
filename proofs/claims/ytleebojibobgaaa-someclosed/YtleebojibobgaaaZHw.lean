/- 3 texts in one. -/
import Derived.Deep.AppendLies
import Derived.Deep.RegionLaw
import Derived.Shelf.Slices.Clone
import Derived.Deep.DeepCutAuto
import Derived.Deep.RegionHeldLaw
import Derived.Test.YtleebojibobgaaaHs
import Derived.Test.YtleebojibobgaaaZHn
import Derived.Test.YtleebojibobgaaaZGu
/- some.stayAtZeros: contract. -/
namespace Go.Proofs.Ytleebojibobgaaa
open Go.RowKit

def clnRen : Go.Shelf.Ren := ⟨fun | 15 => 38 | n => n, fun | 3 => 3 | 4 => 4 | 22 => 26 | n => n, fun n => n⟩
theorem clnLays : Lays2.n15 Try.prog clnRen where
  mixed := by kernel_rfl
  f15 := Try.func38.trans (congrArg some (by kernel_rfl))
  t3 := Try.underlying3
  a3 := Try.isAgg3
  z3 := Try.sizeOf3
  v3 := Try.zeroValue3
  t4 := Try.underlying4
  a4 := Try.isAgg4
  z4 := Try.sizeOf4
  v4 := Try.zeroValue4
  t22 := Try.underlying26
  a22 := Try.isAgg26
  z22 := Try.sizeOf26
  v22 := Try.zeroValue26
  i3 := by kernel_rfl
/-- One more at the end of a row whose slice lies in a box. -/
theorem push_box {W w3 : World} {B base : Nat} {e : TypeId} {v : Value} {n : Nat} {xs : List Value} {u0 u1 u2 u3 : Value} {T : TypeId} {o : Obj} {g' c' : Nat} (hbox : W.heap[B]? = some (.cells #[u0, u1, u2, u3] T (0, 0))) (hB : v.ownBlock ≠ some B) (hown : w3.ownsRow base e 1 (.slice (some ⟨g', 0, none⟩) n c') n xs) (hgrow : (W.alloc o).grownBy w3 v.ownBlock) (hat : v.ownBlock = some g' ∨ g' = (W.alloc o).heap.size) (i : Nat) (u : Value) :
    w3.heap[B]? = some (.cells #[u0, u1, u2, u3] T (0, 0)) ∧ (∀ x, x < W.heap.size → v.ownBlock ≠ some x → x ≠ B → (w3.setCell ⟨B, i, none⟩ u).heap[x]? = W.heap[x]?) ∧ (∀ x, x < W.heap.size → v.ownBlock ≠ some x → x ≠ g') ∧ W.heap.size < (w3.setCell ⟨B, i, none⟩ u).heap.size ∧ (w3.setCell ⟨B, i, none⟩ u).ownsRow base e 1 (.slice (some ⟨g', 0, none⟩) n c') n xs ∧
      ∀ (W0 : World) (b0 : Nat), b0 ≤ B → b0 ≤ W.heap.size → (∀ x, v.ownBlock = some x → b0 ≤ x) → Below b0 W0 W → Below b0 W0 (w3.setCell ⟨B, i, none⟩ u) := by
  have hBl := (Array.getElem?_eq_some_iff.1 hbox).1
  have s3 := hgrow.size
  rw [World.size_alloc] at s3
  have k3 : ∀ x, x < W.heap.size → v.ownBlock ≠ some x → w3.heap[x]? = W.heap[x]? := fun x hx hv => by
    rw [hgrow.block x (by rw [World.size_alloc]; omega) (fun e => hv e.symm), Below.heap_alloc _ _ _ hx]
  have hgn : ∀ x, x < W.heap.size → v.ownBlock ≠ some x → x ≠ g' := fun x hx hv e => by
    rcases hat with h1 | h1
    · exact hv (by rw [e]; exact h1)
    · rw [World.size_alloc] at h1; omega
  refine ⟨(k3 B hBl hB).trans hbox, fun x hx hv hb => by rw [Below.heap_setCell _ _ _ _ hb, k3 x hx hv], hgn, by simp; omega, ownsRow_setCell_other hown (fun e => hgn B hBl hB (show g' = B by simpa [Value.ownBlock] using e).symm) _, fun W0 b0 h1 h2 h3 hW => ?_⟩
  exact (Below.grown (hW.alloc h2 o) hgrow (by rw [World.size_alloc]; omega) h3).setCell h1 _

theorem autI_read {base bx m : Nat} {b t : Int} {rows : Nat → List Int} {es : Nat → Bool} {q qe : Nat} {G : Nat → Prop} {W : World} {aN : Option Addr} {cN : Nat} {vE : Value} {vals : List Value} (h : AutI base bx m b t rows es q qe G W (.slice aN q cN) vE vals) (hq : 0 < q) : ∃ gN, aN = some ⟨gN, 0, none⟩ ∧ ∀ j, j < q → ∃ g, vals[j]? = some (.slice (some ⟨g, 0, none⟩) m m) ∧ W.cell? ⟨gN, j, none⟩ = some (.slice (some ⟨g, 0, none⟩) m m) ∧ (W.rowIs g 3 m fun i => .int .i64 ((rows j).getD i 0)) ∧ G g := by
  rcases h.ownN.2 with ⟨e1, e2⟩ | ⟨g, c, cur, e, _⟩
  · omega
  · injection e with e1 e2 e3
    refine ⟨g, e1, fun j hj => ?_⟩
    obtain ⟨gj, r1, r2, r3, -⟩ := h.rw_ j hj
    have ho := h.ownN
    rw [e1] at ho
    exact ⟨gj, r1, (ho.cellAt j (by omega)).trans r1, r2, r3⟩
theorem autI_ends {base bx m : Nat} {b t : Int} {rows : Nat → List Int} {es : Nat → Bool} {q qe : Nat} {G : Nat → Prop} {W : World} {vN : Value} {aE : Option Addr} {cE : Nat} {vals : List Value} (h : AutI base bx m b t rows es q qe G W vN (.slice aE qe cE) vals) (hq : 0 < qe) : ∃ gE, aE = some ⟨gE, 0, none⟩ ∧ W.cell? ⟨gE, 0, none⟩ = some (.bool (es 0)) := by
  rcases h.ownE.2 with ⟨e1, e2⟩ | ⟨g, c, cur, e, _⟩
  · omega
  · injection e with e1 e2 e3
    have ho := h.ownE
    rw [e1] at ho
    refine ⟨g, e1, (ho.cellAt 0 (by omega)).trans ?_⟩
    simp [hq]
def StayU (base : Nat) (w : World) (b t : Int) (SN : List (List Int)) (SE : List Bool) (e : Ending) (w' : World) : Prop :=
  ∃ aN cN aE cE, e = .returned (.agg #[.int .i64 b, .int .i64 t, .slice aN (SN.length + 1) cN, .slice aE (SN.length + 1) cE]) ∧ Sl2 w' aN (SN.length + 1) (stayN SN) ∧ SlB w' aE (SN.length + 1) (stayE SE) ∧ ∀ (W0 : World) (b0 : Nat), b0 ≤ base → Below b0 W0 w → Below b0 W0 w'
/-- All put together. -/
theorem stay_fin {base bx m lo : Nat} {b t : Int} {G : Nat → Prop} {W1 w2 W4 W6 W8 : World} {vN vE : Value} {vals : List Value} {SN : List (List Int)} {SE : List Bool} {g0 gc cc g' cN e' cE : Nat}
    (hA : AutI base bx m b t (zR SN SN.length 0) (fun j => SE.getD j false) SN.length SN.length G W1 vN vE vals) (hm1 : 1 ≤ m) (hm : m ≤ 36) (hq : 1 ≤ SN.length) (hq2 : SN.length ≤ 2000) (hGN : GoodN m SN.length SN) (hE : SE.length = SN.length)
    (hlo : lo + 2 ≤ W1.heap.size) (hGlo : ∀ x, G x → x < lo) (hg0 : vals[0]? = some (.slice (some ⟨g0, 0, none⟩) m m))
    (hb2 : Below W1.heap.size W1 w2) (hcl : w2.ownsRow W1.heap.size 3 1 (.slice (some ⟨gc, 0, none⟩) m cc) m ((zL SN.length (SN.getD 0 [])).map (Value.int .i64)))
    (h4k : ∀ x, x < w2.heap.size → vN.ownBlock ≠ some x → x ≠ lo → W4.heap[x]? = w2.heap[x]?) (h4n : ∀ x, x < w2.heap.size → vN.ownBlock ≠ some x → x ≠ g') (h4s : w2.heap.size < W4.heap.size)
    (h4o : W4.ownsRow base 26 1 (.slice (some ⟨g', 0, none⟩) (SN.length + 1) cN) (SN.length + 1) (vals ++ [.slice (some ⟨gc, 0, none⟩) m cc]))
    (h6k : ∀ x, x < W4.heap.size → vE.ownBlock ≠ some x → x ≠ lo → W6.heap[x]? = W4.heap[x]?) (h6n : ∀ x, x < W4.heap.size → vE.ownBlock ≠ some x → x ≠ e')
    (h6o : W6.ownsRow base 4 1 (.slice (some ⟨e', 0, none⟩) (SN.length + 1) cE) (SN.length + 1) (((List.range SN.length).map fun j => Value.bool (SE.getD j false)) ++ [.bool (SE.getD 0 false)]))
    (h8 : ∀ x, x ≠ lo + 1 → W8.heap[x]? = (W6.setCell ⟨g0, 0, none⟩ (.int .i64 0)).heap[x]?) :
    Sl2 W8 (some ⟨g', 0, none⟩) (SN.length + 1) (stayN SN) ∧ SlB W8 (some ⟨e', 0, none⟩) (SN.length + 1) (stayE SE) := by
  obtain ⟨g0', r1, r2, r3, r4, r5, r6⟩ := hA.rw_ 0 (by omega)
  rw [hg0] at r1
  simp only [Option.some.injEq, Value.slice.injEq, Addr.mk.injEq, and_true] at r1
  subst r1
  have hb2s := hb2.size
  have hvl : vals.length = SN.length := by have := hA.ownN.1; omega
  have nN : ∀ x, vN.ownBlock = some x → x < lo := fun x hx => hGlo x (hA.gN x hx).1
  have nE : ∀ x, vE.ownBlock = some x → x < lo := fun x hx => hGlo x (hA.gE x hx).1
  have hg0lo := hGlo _ r3
  have hgW4 : g' < W4.heap.size := (h4o.lt g' (by simp [Value.ownBlock])).2
  -- blocks that stay as they are
  have kk : ∀ x, x < w2.heap.size → vN.ownBlock ≠ some x → vE.ownBlock ≠ some x → x ≠ lo → x ≠ lo + 1 → x ≠ g0 → W8.heap[x]? = w2.heap[x]? := fun x h1 h2 h3 h4 h5 h6 => by
    rw [h8 x h5, Below.heap_setCell _ _ _ _ (show x ≠ g0 from h6), h6k x (by omega) h3 h4, h4k x h1 h2 h4]
  have hg'lo : g' ≠ lo ∧ g' ≠ lo + 1 ∧ g' ≠ g0 ∧ vE.ownBlock ≠ some g' := by
    refine ⟨fun e => h4n lo (by omega) (fun h => by have := nN _ h; omega) e.symm, fun e => h4n (lo + 1) (by omega) (fun h => by have := nN _ h; omega) e.symm, fun e => h4n g0 (by omega) r5 e.symm, fun e => ?_⟩
    have h1 := nE _ e
    have h2 : vN.ownBlock = some g' := Classical.byContradiction fun hn => h4n g' (by omega) hn rfl
    exact (hA.gN _ h2).2.2 e
  have hoN : W8.ownsRow base 26 1 (.slice (some ⟨g', 0, none⟩) (SN.length + 1) cN) (SN.length + 1) (vals ++ [.slice (some ⟨gc, 0, none⟩) m cc]) := ownsRow_of_block h4o fun x hx => by
    have e : g' = x := by simpa [Value.ownBlock] using hx
    subst e
    rw [h8 _ hg'lo.2.1, Below.heap_setCell _ _ _ _ (show g' ≠ g0 from hg'lo.2.2.1), h6k g' hgW4 hg'lo.2.2.2 hg'lo.1]
  have he'lo : e' ≠ lo + 1 ∧ e' ≠ g0 := ⟨fun e => h6n (lo + 1) (by omega) (fun h => by have := nE _ h; omega) e.symm, fun e => h6n g0 (by omega) r6 e.symm⟩
  have hoE : W8.ownsRow base 4 1 (.slice (some ⟨e', 0, none⟩) (SN.length + 1) cE) (SN.length + 1) (((List.range SN.length).map fun j => Value.bool (SE.getD j false)) ++ [.bool (SE.getD 0 false)]) := ownsRow_of_block h6o fun x hx => by
    have e : e' = x := by simpa [Value.ownBlock] using hx
    subst e
    rw [h8 _ he'lo.1, Below.heap_setCell _ _ _ _ (show e' ≠ g0 from he'lo.2)]
  have hwfG := stay_good hGN (by omega)
  have hwf := good_wf hwfG
  constructor
  · refine ⟨stayN_len SN, by unfold maxLen; omega, Or.inr ⟨g', 0, rfl, fun j hj => ?_⟩⟩
    have hst := hwf j hj
    rw [stayN_get (by omega)] at hst ⊢
    rw [hst.1, Nat.zero_add, hoN.cellAt j (by omega)]
    by_cases ej : j = SN.length
    · subst ej
      refine ⟨some ⟨gc, 0, none⟩, cc, by rw [List.getElem?_append_right (by omega), hvl]; simp, ?_⟩
      have hr : stayRow SN SN.length = zL SN.length (SN.getD 0 []) := by unfold stayRow; rw [if_neg (by omega), if_pos rfl]
      rw [hr] at hst ⊢
      have hcl2 := (hcl.lt gc (by simp [Value.ownBlock])).1
      have hcl3 := (hcl.lt gc (by simp [Value.ownBlock])).2
      have ho := ownsRow_of_block (w' := W8) hcl fun x hx => by
        have e : gc = x := by simpa [Value.ownBlock] using hx
        subst e
        exact kk gc hcl3 (fun h => by have := nN _ h; omega) (fun h => by have := nE _ h; omega) (by omega) (by omega) (by omega)
      refine ⟨hst.1, by unfold maxLen; omega, hst.2, Or.inr ⟨gc, 0, rfl, fun i hi => ?_⟩⟩
      rw [Nat.zero_add, ho.cellAt i (by omega)]
      have hi' : i < (zL SN.length (SN.getD 0 [])).length := by omega
      rw [List.getElem?_map, List.getElem?_eq_getElem hi', getD_at _ i hi']
      rfl
    · obtain ⟨gj, s1, s2, s3, s4, s5, s6⟩ := hA.rw_ j (by omega)
      refine ⟨some ⟨gj, 0, none⟩, m, by rw [List.getElem?_append_left (by omega)]; exact s1, ?_⟩
      have hjl := hGlo _ s3
      have hz : zR SN SN.length 0 j = zL SN.length (SN.getD j []) := by unfold zR; rw [if_pos (by omega)]
      rw [hz] at s2
      by_cases e0 : j = 0
      · subst e0
        rw [hg0] at s1
        simp only [Option.some.injEq, Value.slice.injEq, Addr.mk.injEq, and_true] at s1
        subst s1
        have hr : stayRow SN 0 = (zL SN.length (SN.getD 0 [])).set 0 0 := by unfold stayRow; rw [if_pos rfl]
        rw [hr] at hst ⊢
        have h6b : W6.heap[g0]? = W1.heap[g0]? := by rw [h6k g0 (by omega) s6 (by omega), h4k g0 (by omega) s5 (by omega), hb2.block g0 (by omega)]
        have hrw := ((s2.of_block h6b).set 0 (.int .i64 0)).of_block (h8 g0 (by omega))
        refine sl_of_rowIs hst.1 (by unfold maxLen; omega) hst.2 (hrw.congr fun i hi => ?_)
        by_cases ei : i = 0
        · subst ei
          rw [if_pos rfl]
          have hl0 : 0 < (zL SN.length (SN.getD 0 [])).length := by have := hst.1; rw [List.length_set] at this; omega
          rw [getD_at _ 0 (by rw [List.length_set]; exact hl0), List.getElem_set_self]
        · rw [if_neg ei]
          simp only [List.getD, List.getElem?_set]
          rw [if_neg (fun h => ei h.symm)]
      · have hr : stayRow SN j = zL SN.length (SN.getD j []) := by unfold stayRow; rw [if_neg e0, if_neg ej]
        rw [hr] at hst ⊢
        have hne : gj ≠ g0 := fun e => e0 (hA.inj j 0 (by omega) (by omega) (by rw [s1, hg0, e]))
        refine sl_of_rowIs hst.1 (by unfold maxLen; omega) hst.2 (s2.of_block ?_)
        rw [kk gj (by omega) s5 s6 (by omega) (by omega) hne, hb2.block gj (by omega)]
  · refine ⟨by rw [stayE_len, hE], by unfold maxLen; omega, Or.inr ⟨e', 0, rfl, fun j hj => ?_⟩⟩
    rw [Nat.zero_add, hoE.cellAt j (by omega)]
    by_cases ej : j = SN.length
    · subst ej
      rw [List.getElem?_append_right (by simp)]
      unfold stayE
      simp [List.getD, ← hE]
    · rw [List.getElem?_append_left (by simp; omega)]
      unfold stayE
      simp only [List.getD]
      rw [List.getElem?_append_left (by omega)]
      simp [show j < SN.length by omega]

theorem stay_mid {base bx m lo : Nat} {b t : Int} {es : Nat → Bool} {G : Nat → Prop} {W1 w2 W4 W6 : World} {vN vE : Value} {vals : List Value} {rows : Nat → List Int} {q g0 gc cc g' cN' : Nat} {f : Nat → Value} {u0 u1 u2 u3 : Value} (hA : AutI base bx m b t rows es q q G W1 vN vE vals) (hq : 0 < q) (hGlo : ∀ x, G x → x < lo) (hg0 : vals[0]? = some (.slice (some ⟨g0, 0, none⟩) m m)) (hr0 : W1.rowIs g0 3 m f) (hlo : lo + 2 ≤ W1.heap.size) (hb2 : Below W1.heap.size W1 w2)
    (h4k : ∀ x, x < w2.heap.size → vN.ownBlock ≠ some x → x ≠ lo → W4.heap[x]? = w2.heap[x]?) (h4n : ∀ x, x < w2.heap.size → vN.ownBlock ≠ some x → x ≠ g') (h4s : w2.heap.size < W4.heap.size) (h4o : W4.ownsRow base 26 1 (.slice (some ⟨g', 0, none⟩) (q + 1) cN') (q + 1) (vals ++ [.slice (some ⟨gc, 0, none⟩) m cc]))
    (h6k : ∀ x, x < W4.heap.size → vE.ownBlock ≠ some x → x ≠ lo → W6.heap[x]? = W4.heap[x]?) (hR : W1.heap[lo + 1]? = some (.cells #[.int .i64 0, .int .i64 0, .slice none 0 0, .slice none 0 0] 25 (0, 0))) (hB : W6.heap[lo]? = some (.cells #[u0, u1, u2, u3] 25 (0, 0))) :
    (0 < m → W6.cell? ⟨g0, 0, none⟩ = some (f 0) ∧ W6.frozen? ⟨g0, 0, none⟩ = false ∧ W6.cell? ⟨g', 0, none⟩ = some (.slice (some ⟨g0, 0, none⟩) m m)) ∧
    (W6.setCell ⟨g0, 0, none⟩ (.int .i64 0)).heap[lo]? = some (.cells #[u0, u1, u2, u3] 25 (0, 0)) ∧ (W6.setCell ⟨g0, 0, none⟩ (.int .i64 0)).heap[lo + 1]? = some (.cells #[.int .i64 0, .int .i64 0, .slice none 0 0, .slice none 0 0] 25 (0, 0)) := by
  obtain ⟨g0', r1, r2, r3, r4, r5, r6⟩ := hA.rw_ 0 hq
  rw [hg0] at r1
  simp only [Option.some.injEq, Value.slice.injEq, Addr.mk.injEq, and_true] at r1
  subst r1
  have hb2s := hb2.size
  have nN : ∀ x, vN.ownBlock = some x → x < lo := fun x hx => hGlo x (hA.gN x hx).1
  have nE : ∀ x, vE.ownBlock = some x → x < lo := fun x hx => hGlo x (hA.gE x hx).1
  have hg0lo := hGlo _ r3
  have hvl : vals.length = q := by have := hA.ownN.1; omega
  have h60 : W6.heap[g0]? = W1.heap[g0]? := by rw [h6k g0 (by omega) r6 (by omega), h4k g0 (by omega) r5 (by omega), hb2.block g0 (by omega)]
  have hgW4 : g' < W4.heap.size := (h4o.lt g' (by simp [Value.ownBlock])).2
  have hg'lo : g' ≠ lo := fun e => h4n lo (by omega) (fun h => by have := nN _ h; omega) e.symm
  have hg'E : vE.ownBlock ≠ some g' := fun e => by
    have h1 := nE _ e
    have h2 : vN.ownBlock = some g' := Classical.byContradiction fun hn => h4n g' (by omega) hn rfl
    exact (hA.gN _ h2).2.2 e
  refine ⟨fun hm => ⟨(hr0.of_block h60).cell hm, (hr0.of_block h60).frozen 0, ?_⟩, ?_, ?_⟩
  · have ho := ownsRow_of_block (w' := W6) h4o (fun x hx => by
      have e : g' = x := by simpa [Value.ownBlock] using hx
      subst e
      exact h6k g' hgW4 hg'E hg'lo)
    rw [ho.cellAt 0 (by omega), List.getElem?_append_left (by omega)]
    exact hg0
  · rw [Below.heap_setCell _ _ _ _ (show lo ≠ g0 by omega)]; exact hB
  · rw [Below.heap_setCell _ _ _ _ (show lo + 1 ≠ g0 by omega), h6k (lo + 1) (by omega) (fun h => by have := nE _ h; omega) (by omega), h4k (lo + 1) (by omega) (fun h => by have := nN _ h; omega) (by omega), hb2.block _ (by omega)]
    exact hR

set_option maxHeartbeats 8000000 in
set_option maxRecDepth 8000 in
theorem stayAtZeros_any (base bx m : Nat) (b t : Int) (G : Nat → Prop) (vals : List Value) (SN : List (List Int)) (SE : List Bool) (aN : Option Addr) (cN : Nat) (aE : Option Addr) (cE : Nat) (w : World) (hA : AutI base bx m b t (fun j => SN.getD j []) (fun j => SE.getD j false) SN.length SN.length G w (.slice aN SN.length cN) (.slice aE SN.length cE) vals) (hGN : GoodN m SN.length SN) (hq2 : SN.length ≤ 2000) (hE : SE.length = SN.length) :
    Calls Try.prog 24 #[.agg #[.int .i64 b, .int .i64 t, .slice aN SN.length cN, .slice aE SN.length cE]] w (StayU base w b t SN SE) := by
  have hq1 := hGN.2.1
  have hm36 := hGN.2.2.2.1
  have hm1 := hGN.2.2.2.2.1
  have HRL : Hid (∀ j, j < SN.length → (SN.getD j []).length = m) := fun j hj => (hGN.2.2.2.2.2 j hj).1
  have HRB : Hid (∀ j x, j < SN.length → x < m → 0 ≤ (SN.getD j []).getD x 0 ∧ (SN.getD j []).getD x 0 < (SN.length : Int)) := fun j x hj hx => (hGN.2.2.2.2.2 j hj).2 x hx
  have HB0 := hide (below_two w (.cells #[.int .i64 b, .int .i64 t, .slice aN SN.length cN, .slice aE SN.length cE] 25) (.cells #[.int .i64 0, .int .i64 0, .slice none 0 0, .slice none 0 0] 25))
  have HX1 := hide (heap_alloc2_fst w (.cells #[.int .i64 b, .int .i64 t, .slice aN SN.length cN, .slice aE SN.length cE] 25) (.cells #[.int .i64 0, .int .i64 0, .slice none 0 0, .slice none 0 0] 25))
  have HX2 := hide (heap_alloc2_snd w (.cells #[.int .i64 b, .int .i64 t, .slice aN SN.length cN, .slice aE SN.length cE] 25) (.cells #[.int .i64 0, .int .i64 0, .slice none 0 0, .slice none 0 0] 25))
  generalize hwb : (w.alloc (.cells #[.int .i64 b, .int .i64 t, .slice aN SN.length cN, .slice aE SN.length cE] 25)).alloc (.cells #[.int .i64 0, .int .i64 0, .slice none 0 0, .slice none 0 0] 25) = wb at HB0 HX1 HX2
  have HSZ : Hid (wb.heap.size = w.heap.size + 2) := by show _ = _; rw [← hwb]; simp
  have HA0 := hide (autI_congr (rows' := zR SN 0 0) (es' := fun j => SE.getD j false) (autI_keep hA (fun x hx => HB0.out.block x (hA.lt x hx).2) HB0.out.size) (fun j _ => (zR_start SN j).symm) (fun _ _ => rfl))
  have HGlo : Hid (∀ x, G x → x < w.heap.size) := fun x hx => (hA.lt x hx).2
  have HGbs : Hid (∀ x, G x → base ≤ x) := fun x hx => (hA.lt x hx).1
  have HBS : Hid (base ≤ w.heap.size) := hA.hb
  have HGN := hide hGN
  have HEL := hide hE
  clear hA hGN hE
  obtain ⟨⟨p0, p1, p2, p3⟩, -⟩ := box_cells HX1.out
  obtain ⟨gN, rfl, -⟩ := autI_read HA0.out (by omega)
  have HT0 := hide (tch_refl G wb)
  have HZS : Hid (∀ i x, i < SN.length → x < m → ∀ j, (if j = i then (zR SN i x i).set x (if (SN.getD i []).getD x 0 = 0 then (SN.length : Int) else (SN.getD i []).getD x 0) else zR SN i x j) = zR SN i (x + 1) j) := fun i x hi hx j => zR_step (by rw [HRL.out i hi]; exact hx) j
  have HZL : Hid (∀ i x, i < SN.length → (zR SN i x i).length = m) := fun i x hi => zR_len (HRL.out i hi)
  have HZA : Hid (∀ i x, i < SN.length → x < m → (zR SN i x i).getD x 0 = (SN.getD i []).getD x 0) := fun i x hi hx => by
    unfold zR
    rw [if_neg (Nat.lt_irrefl _), if_pos rfl]
    exact zP_at (by rw [HRL.out i hi]; exact hx)
  have HZN : Hid (∀ i, i < SN.length → ∀ j, zR SN i m j = zR SN (i + 1) 0 j) := fun i hi j => by
    rw [← HRL.out i hi]; exact zR_next j
  go_enter Try.func24, Try.ntmps24
  go_wp2_with fail
  clear hwb p0 p1 p2 p3
  go_loopg [14] SN.length (fun g u wx => ∃ i : Nat, g = SN.length - i ∧ i ≤ SN.length ∧ u = .int .i64 i ∧ AutI base bx m b t (zR SN i 0) (fun j => SE.getD j false) SN.length SN.length G wx (.slice (some ⟨gN, 0, none⟩) SN.length cN) (.slice aE SN.length cE) vals ∧ Tch G wb wx)
  case atStart => exact ⟨0, rfl, by omega, rfl, HA0.out, HT0.out⟩
  case round =>
    obtain ⟨i, hgi, hi, rfl, hA, hT⟩ := hrel
    have HGI := hide hgi
    have HA := hide hA
    have HT := hide hT
    clear hgi hA hT HA0
    by_cases hlt : i < SN.length
    · have hlti : (i : Int) < (SN.length : Int) := by omega
      obtain ⟨gN2, e, hrd⟩ := autI_read HA.out (by omega)
      cases e
      obtain ⟨gi, hv, hcr, -, hGg⟩ := hrd i hlt
      have HV := hide hv
      have HZS' := hide (fun x hx => HZS.out i x hlt hx)
      have HZL' := hide (fun x => HZL.out i x hlt)
      have HZA' := hide (fun x hx => HZA.out i x hlt hx)
      have HZN' := hide (HZN.out i hlt)
      have HRB' := hide (fun x hx => HRB.out i x hlt hx)
      clear hrd hv
      go_wp2
      obtain ⟨wo, hwo⟩ : ∃ wo : World, wo = wr := ⟨_, rfl⟩
      rw [← hwo] at HA HT ⊢
      clear hwo hcr wr
      go_loopw [20] (fun u wx => ∃ x : Nat, x ≤ m ∧ u = .int .i64 x ∧ AutI base bx m b t (zR SN i x) (fun j => SE.getD j false) SN.length SN.length G wx (.slice (some ⟨gN, 0, none⟩) SN.length cN) (.slice aE SN.length cE) vals ∧ Tch G wb wx) (fun u _ => m - (intOf u).toNat)
      case atStart => exact ⟨0, by omega, rfl, HA.out, HT.out⟩
      case round =>
        obtain ⟨x, hx, rfl, hA, hT⟩ := hrel
        have HAx := hide hA
        have HTx := hide hT
        clear hA hT
        by_cases hxm : x < m
        · have hxmi : (x : Int) < (m : Int) := by omega
          obtain ⟨g2, s1, s2, -⟩ := HAx.out.rw_ i hlt
          rw [HV.out] at s1
          simp only [Option.some.injEq, Value.slice.injEq, Addr.mk.injEq, and_true] at s1
          subst s1
          have hcx := s2.cell hxm
          have hfx := s2.frozen x
          rw [HZA'.out x hxm] at hcx
          have HST := hide (HZS'.out x hxm)
          have HRW := hide (fun z => autI_row (z := z) HAx.out hlt HV.out (HZL'.out x) hxm)
          have HZX := hide (HZA'.out x hxm)
          have HLX := hide (HZL'.out x)
          clear s2
          by_cases hz : (SN.getD i []).getD x 0 = 0
          · rw [hz] at hcx
            rw [if_pos hz] at HST
            clear hz
            go_wp2
            go_roundw
            case rel => exact ⟨x + 1, by omega, by go_num, autI_congr (HRW.out (SN.length : Int)) (fun j _ => HST.out j) (fun _ _ => rfl), tch_trans HTx.out (tch_set (F := G) wr (a := ⟨gi, x, none⟩) hGg _) (fun _ _ h => h)⟩
            case measure => simp [intOf]; omega
          · rw [if_neg hz] at HST
            generalize hvv : (SN.getD i []).getD x 0 = vv at hcx hz HST HZX
            clear hvv
            have hzb : (vv == 0) = false := by simp [hz]
            have HSS : Hid (∀ j, zR SN i x j = zR SN i (x + 1) j) := fun j => by
              rw [← HST.out j]
              by_cases e : j = i
              · subst e
                rw [if_pos rfl, ← HZX.out, set_self (by rw [HLX.out]; exact hxm)]
              · rw [if_neg e]
            clear hz
            go_wp2
            go_roundw
            case rel => exact ⟨x + 1, by omega, by go_num, autI_congr HAx.out (fun j _ => HSS.out j) (fun _ _ => rfl), HTx.out⟩
            case measure => simp [intOf]; omega
        · have hxmi : ¬ (x : Int) < (m : Int) := by omega
          obtain rfl : x = m := by omega
          go_wp2
          go_roundg (SN.length - (i + 1))
          case measure => have := HGI.out; omega
          case rel => exact ⟨i + 1, rfl, by omega, by go_num, autI_congr HAx.out (fun j _ => HZN'.out j) (fun _ _ => rfl), HTx.out⟩
    · have hlti : ¬ (i : Int) < (SN.length : Int) := by omega
      obtain rfl : i = SN.length := by omega
      have HBX : Hid (wr.heap[w.heap.size]? = some (.cells #[.int .i64 b, .int .i64 t, .slice (some ⟨gN, 0, none⟩) SN.length cN, .slice aE SN.length cE] 25 (0, 0))) := (HT.out.block _ (by rw [HSZ.out]; omega) (fun h => by have := HGlo.out _ h; omega)).trans HX1.out
      have HRX : Hid (wr.heap[w.heap.size + 1]? = some (.cells #[.int .i64 0, .int .i64 0, .slice none 0 0, .slice none 0 0] 25 (0, 0))) := (HT.out.block _ (by rw [HSZ.out]; omega) (fun h => by have := HGlo.out _ h; omega)).trans HX2.out
      obtain ⟨⟨q0, q1, q2, q3⟩, -⟩ := box_cells HBX.out
      obtain ⟨gN2, e, hrd⟩ := autI_read HA.out (by omega)
      cases e
      obtain ⟨g0, hv0, hc0, hr0, hG0⟩ := hrd 0 (by omega)
      obtain ⟨gE, rfl, hcE⟩ := autI_ends HA.out (by omega)
      have hz0 : zR SN SN.length 0 0 = zL SN.length (SN.getD 0 []) := by unfold zR; rw [if_pos (by omega)]
      rw [hz0] at hr0
      have hzl : (zL SN.length (SN.getD 0 [])).length = m := by rw [zL_len]; exact HRL.out 0 (by omega)
      have HCL : Hid (Calls Try.prog 38 #[.slice (some ⟨g0, 0, none⟩) m m] wr.drew fun e w' => ∃ gc cc, e = .returned (.slice (some ⟨gc, 0, none⟩) m cc) ∧ w'.ownsRow wr.heap.size 3 1 (.slice (some ⟨gc, 0, none⟩) m cc) m ((zL SN.length (SN.getD 0 [])).map (Value.int .i64)) ∧ Below wr.heap.size wr w') := by
        have h := Any.slices_Clone_int clnLays g0 0 m m (zL SN.length (SN.getD 0 [])) wr.drew (by omega) (by omega) (fun j hj => by rw [Nat.zero_add]; exact hr0.cell (by omega))
        refine Calls.mono h ?_
        rintro e w' ⟨v', rfl, ho, hne, hb⟩
        rw [List.take_of_length_le (by omega)] at ho
        have ho2 : w'.ownsRow wr.heap.size 3 1 v' m ((zL SN.length (SN.getD 0 [])).map (Value.int .i64)) := ho
        rcases ho2.2 with ⟨e1, e2⟩ | ⟨g, c, cur, e1, _⟩
        · omega
        · subst e1
          exact ⟨g, c, rfl, ho2, (Below.refl wr.heap.size wr).drew.trans hb⟩
      have HV0 := hide hv0
      have HR0 := hide hr0
      have hq1i : (0 : Int) < (SN.length : Int) := by omega
      have hm1i : (0 : Int) < (m : Int) := by omega
      have hq1n : 0 < SN.length := by omega
      have hm1n : 0 < m := by omega
      obtain ⟨j0, hj0, hy0, hy1, hy2⟩ := info_parts infoSl
      obtain ⟨l0, hl0, hv0', hv1, hv2⟩ := info_parts infoB
      have HNB : Hid ((Value.slice (some ⟨gN, 0, none⟩) SN.length cN).ownBlock ≠ some w.heap.size) := fun e => by have := HGlo.out _ (HA.out.gN _ e).1; omega
      have HEB : Hid ((Value.slice (some ⟨gE, 0, none⟩) SN.length cE).ownBlock ≠ some w.heap.size) := fun e => by have := HGlo.out _ (HA.out.gE _ e).1; omega
      have HSR : Hid (w.heap.size + 2 ≤ wr.heap.size) := by have := HT.out.size; have := HSZ.out; show _ ≤ _; omega
      have HON : Hid (∀ w2, Below wr.heap.size wr w2 → w2.ownsRow base 26 1 (.slice (some ⟨gN, 0, none⟩) SN.length cN) SN.length vals ∧ w2.heap[w.heap.size]? = some (.cells #[.int .i64 b, .int .i64 t, .slice (some ⟨gN, 0, none⟩) SN.length cN, .slice (some ⟨gE, 0, none⟩) SN.length cE] 25 (0, 0)) ∧ base ≤ w2.heap.size) := fun w2 h => ⟨ownsRow_of_block HA.out.ownN (fun x hx => h.block x (HA.out.ownN.lt x hx).2), (h.block _ (by have := HSR.out; omega)).trans HBX.out, Nat.le_trans HA.out.hb h.size⟩
      have HC2 : Hid (∀ w2, Below wr.heap.size wr w2 → w2.cell? ⟨w.heap.size, 2, none⟩ = some (.slice (some ⟨gN, 0, none⟩) SN.length cN)) := fun w2 h => (box_cells (HON.out w2 h).2.1).1.2.2.1
      clear hrd hv0 hr0 hz0
      go_wp2_with fail
      go_region_law (first
        | (refine step_append_lies _ rfl (.tmp 34) (.tmp 40) 22 rfl base 26 j0 (.slice none 0 0) 1 24 Try.underlying22 hj0 hy0 hy1 hy2 rfl (by decide) (.slice (some ⟨gN, 0, none⟩) SN.length cN) SN.length vals (by simp [Act.eval]) ((HON.out w2 HB2.out).1.alloc _) ⟨w2.heap.size, 0, none⟩ 1 1 [.slice (some ⟨gc, 0, none⟩) m cc] (by simp [Act.eval]) rfl (one_new _ _ _) (fun u hu => by simp at hu; subst hu; rfl) (by omega) (by unfold maxLen; omega) (by omega) (by have := (HON.out w2 HB2.out).2.2; simp; omega) (w2.heap.size + 1) (by simp) ?_; intro g' cN' w3 hown3 hgrow3 hat3 hlt3; obtain ⟨hbx3, h4k, h4n, h4s, h4o, h4b⟩ := push_box (HON.out w2 HB2.out).2.1 HNB.out hown3 hgrow3 (by rw [World.size_alloc]; exact hat3) 2 (.slice (some ⟨g', 0, none⟩) (SN.length + 1) cN'); have hw3c := (box_cells hbx3).1.2.2.1; have hw3f := (box_cells hbx3).2 2; have HBX3 := hide hbx3; have H4K := hide h4k; have H4N := hide h4n; have H4S := hide h4s; have H4O := hide h4o; have H4B := hide h4b; clear hbx3 h4k h4n h4s h4o h4b hown3 hgrow3 hat3 hlt3)
        | (go_simp; go_at_call 38; refine HCL.out.mono ?_; rintro e w2 ⟨gc, cc, rfl, hoc, hb2⟩; have HOC := hide hoc; have HB2 := hide hb2; have hcB := HC2.out w2 hb2; have hcB2 := HC2.out (w2.alloc (.cells #[.slice (some ⟨gc, 0, none⟩) m cc] 26)) (hb2.trans (((Below.refl w2.heap.size w2).alloc (Nat.le_refl _) _).mono hb2.size)); clear hoc hb2))
      all_goals
        have HW4 : Hid ((w3.setCell ⟨w.heap.size, 2, none⟩ (.slice (some ⟨g', 0, none⟩) (SN.length + 1) cN')).heap[w.heap.size]? = some (.cells #[.int .i64 b, .int .i64 t, .slice (some ⟨g', 0, none⟩) (SN.length + 1) cN', .slice (some ⟨gE, 0, none⟩) SN.length cE] 25 (0, 0))) := (set_box HBX3.out _).1
        generalize w3.setCell ⟨w.heap.size, 2, none⟩ (.slice (some ⟨g', 0, none⟩) (SN.length + 1) cN') = W4 at HW4 H4K H4S H4O H4B ⊢
        clear hw3c hw3f hcB hcB2 q0 q1 q2 q3 hc0
        have HGE : Hid (gE < w.heap.size ∧ G gE) := ⟨HGlo.out _ (HA.out.gE gE (by simp [Value.ownBlock])).1, (HA.out.gE gE (by simp [Value.ownBlock])).1⟩
        have HNE : Hid (some gN ≠ some gE) := fun e => (HA.out.gN gN (by simp [Value.ownBlock])).2.2 (by rw [show gN = gE from Option.some.inj e]; simp [Value.ownBlock])
        have HKE : Hid (W4.heap[gE]? = wr.heap[gE]?) := by
          have h1 := HGE.out
          have h2 := HSR.out
          have h3 := HB2.out.size
          show _ = _
          rw [H4K.out gE (by omega) (fun e => HNE.out (by simpa [Value.ownBlock] using e)) (by omega), HB2.out.block gE (by omega)]
        have hcE4 : W4.cell? ⟨gE, 0, none⟩ = some (.bool (SE.getD 0 false)) := (World.cell?_of_block (a := ⟨gE, 0, none⟩) HKE.out).trans hcE
        have HOE4 : Hid (W4.ownsRow base 4 1 (.slice (some ⟨gE, 0, none⟩) SN.length cE) SN.length ((List.range SN.length).map fun j => Value.bool (SE.getD j false))) := ownsRow_of_block HA.out.ownE (fun x hx => by
          have e : gE = x := by simpa [Value.ownBlock] using hx
          subst e; exact HKE.out)
        obtain ⟨⟨t0, t1, t2, t3⟩, -⟩ := box_cells HW4.out
        have HS4 : Hid (base ≤ W4.heap.size) := by have h1 := H4S.out; have h2 := HB2.out.size; have h3 := HA.out.hb; show _ ≤ _; omega
        have hd4 : Below W4.heap.size W4 W4.drew := (Below.refl _ _).drew
        generalize hev : SE.getD 0 false = ev at hcE4
        have HEV := hide hev
        clear hev hcE
        have t3a : (W4.alloc (.cells #[.bool ev] 4)).cell? ⟨w.heap.size, 3, none⟩ = some (.slice (some ⟨gE, 0, none⟩) SN.length cE) := (((Below.refl W4.heap.size W4).alloc (Nat.le_refl _) _).cell (p := ⟨w.heap.size, 3, none⟩) (World.block_lt_of_cell? W4 _ t3)).trans t3
        go_wp2_with fail
        go_region_law (first
          | (refine step_append_lies _ rfl (.tmp 44) (.tmp 49) 23 rfl base 4 l0 (.bool false) 1 1 Try.underlying23 hl0 hv0' hv1 hv2 rfl (by decide) (.slice (some ⟨gE, 0, none⟩) SN.length cE) SN.length _ (by simp [Act.eval]) (World.ownsRow.alloc (w := W4.drew) HOE4.out _) ⟨W4.heap.size, 0, none⟩ 1 1 [.bool ev] (by simp [Act.eval]) rfl (one_new_at _ _ _ _ (by simp)) (fun u hu => by simp at hu; subst hu; rfl) (by omega) (by unfold maxLen; omega) (by omega) (by have := HS4.out; simp; omega) (W4.heap.size + 1) (by simp) ?_; intro e' cE' w5 hown5 hgrow5 hat5 hlt5; obtain ⟨hbx5, h6k, h6n, h6s, h6o, h6b⟩ := push_box (W := W4.drew) HW4.out HEB.out hown5 hgrow5 (by rw [World.size_alloc]; exact hat5) 3 (.slice (some ⟨e', 0, none⟩) (SN.length + 1) cE'); have hw5c := (box_cells hbx5).1.2.2.2; have hw5f := (box_cells hbx5).2 3; have HBX5 := hide hbx5; have H6K := hide h6k; have H6N := hide h6n; have H6S := hide h6s; have H6O := hide h6o; have H6B := hide h6b; clear hbx5 h6k h6n h6s h6o h6b hown5 hgrow5 hat5 hlt5))
        all_goals
          have HW6 : Hid ((w5.setCell ⟨w.heap.size, 3, none⟩ (.slice (some ⟨e', 0, none⟩) (SN.length + 1) cE')).heap[w.heap.size]? = some (.cells #[.int .i64 b, .int .i64 t, .slice (some ⟨g', 0, none⟩) (SN.length + 1) cN', .slice (some ⟨e', 0, none⟩) (SN.length + 1) cE'] 25 (0, 0))) := (set_box HBX5.out _).2
          generalize w5.setCell ⟨w.heap.size, 3, none⟩ (.slice (some ⟨e', 0, none⟩) (SN.length + 1) cE') = W6 at HW6 H6K H6S H6O H6B ⊢
          clear hw5c hw5f t0 t1 t2 t3 t3a hcE4 hd4
          obtain ⟨HU1, HU2, HU3⟩ := stay_mid HA.out hq1n (HGlo.out) HV0.out HR0.out HSR.out HB2.out H4K.out H4N.out H4S.out H4O.out H6K.out HRX.out HW6.out
          obtain ⟨hc7, hf7, hrw6⟩ := HU1 hm1n
          obtain ⟨⟨v0, v1, v2, v3⟩, -⟩ := box_cells HW6.out
          obtain ⟨⟨s0, s1, s2, s3⟩, -⟩ := box_cells HU2
          obtain ⟨⟨r0, r1, r2, r3⟩, rf⟩ := box_cells HU3
          have HR7 := hide HU3
          have HB7 : Hid (∀ (W0 : World) (b0 : Nat), b0 ≤ base → Below b0 W0 w → Below b0 W0 (W6.setCell ⟨g0, 0, none⟩ (.int .i64 0))) := fun W0 b0 h0 hW => by
            have k1 : Below b0 W0 wb := hW.trans (HB0.out.mono (Nat.le_trans h0 HBS.out))
            have k2 : Below b0 W0 wr := below_tch k1 HT.out (fun x hx => Nat.le_trans h0 (HGbs.out x hx)) (Nat.le_trans h0 (Nat.le_trans HBS.out HB0.out.size))
            have k3 : Below b0 W0 w2 := k2.trans (HB2.out.mono (Nat.le_trans h0 HA.out.hb))
            have k4 : Below b0 W0 W4 := H4B.out W0 b0 (Nat.le_trans h0 HBS.out) (Nat.le_trans h0 (Nat.le_trans HA.out.hb HB2.out.size)) (fun x hx => Nat.le_trans h0 (HGbs.out x (HA.out.gN x hx).1)) k3
            have k5 : Below b0 W0 W6 := H6B.out W0 b0 (Nat.le_trans h0 HBS.out) (Nat.le_trans h0 HS4.out) (fun x hx => Nat.le_trans h0 (HGbs.out x (HA.out.gE x hx).1)) k4.drew
            exact k5.setCell (Nat.le_trans h0 (HGbs.out _ hG0)) _
          have HFIN := hide (fun W8 h8 => stay_fin (W8 := W8) HA.out hm1 hm36 hq1 hq2 HGN.out HEL.out HSR.out HGlo.out HV0.out HB2.out HOC.out H4K.out H4N.out H4S.out H4O.out H6K.out H6N.out (by rw [HEV.out]; exact H6O.out) h8)
          have hSN1 : (0 : Int) < ((SN.length : Int) + 1) := by omega
          clear HU1 HU2 HU3
          go_wp2
          obtain ⟨⟨hset, hsz, hoth⟩, hbel⟩ := box_set (v0 := .int .i64 b) (v1 := .int .i64 t) (v2 := .slice (some ⟨g', 0, none⟩) (SN.length + 1) cN') (v3 := .slice (some ⟨e', 0, none⟩) (SN.length + 1) cE') HR7.out rfl
          obtain ⟨⟨z0, z1, z2, z3⟩, -⟩ := box_cells hset
          obtain ⟨hf1, hf2⟩ := HFIN.out _ hoth
          exact bodyPost_ret (v := .agg #[.int .i64 b, .int .i64 t, .slice (some ⟨g', 0, none⟩) (SN.length + 1) cN', .slice (some ⟨e', 0, none⟩) (SN.length + 1) cE']) (by simp [results, Try.results24, go_sem, z0, z1, z2, z3]) rfl ⟨_, cN', _, cE', rfl, hf1, hf2, fun W0 b0 h0 hW => hbel W0 b0 (HB7.out W0 b0 h0 hW) (by have := HBS.out; omega)⟩
end Go.Proofs.Ytleebojibobgaaa

/- some.Close: contract. -/
namespace Go.Proofs.Ytleebojibobgaaa
open Go.RowKit

/-- What stays at its beginning takes the words of what waits there. -/
theorem close_same {b t : Int} {N : List (List Int)} {E : List Bool} {n m : Nat} (hG : GoodN m n N) (hm : (manyU b t).toNat = m) (h : (ccL b t N E).length ≤ 2000) :
    let SN := setN (leastN N E m) (leastN N E m).length (sglR m) ((sglR m).getD 0 [])
    let SE := setE (leastN N E m) (leastN N E m).length (leastE N E m) (sglR m) ((sglR m).getD 0 [])
    SN.length = (ccL b t N E).length ∧ SE.length = SN.length ∧ GoodN m SN.length SN ∧ leastN (stayN SN) (stayE SE) m = leastN (ccGN b t N E) (ccGE b t N E) m ∧ leastE (stayN SN) (stayE SE) m = leastE (ccGN b t N E) (ccGE b t N E) m := by
  intro SN SE
  have hm1 : 1 ≤ m := hG.2.2.2.2.1
  have hm36 : m ≤ 36 := hG.2.2.2.1
  have hz : (sglR m).getD 0 [] = [0] := sglR_get hm1
  have hL : setsS (leastN N E m) (leastN N E m).length (sglR m) ((sglR m).getD 0 []) = ccL b t N E := by
    unfold ccL
    rw [hz, hm, leastN_len]
  have hSN : SN = gN (dM (leastN N E m) (leastK N E m) (sglR m)) m (ccL b t N E) := by
    show setN _ _ _ _ = _
    unfold setN
    rw [hL, sglR_len, leastN_len]
  have hSE : SE = gE (endM (leastK N E m) (leastE N E m)) (ccL b t N E) := by
    show setE _ _ _ _ _ = _
    unfold setE
    rw [hL, leastN_len]
  have hcl : ClosedG (dM (leastN N E m) (leastK N E m) (sglR m)) m (ccL b t N E) := by
    have h1 := sets_closed (N := leastN N E m) (n := (leastN N E m).length) (read := sglR m) (ls := (sglR m).getD 0 []) (by rw [hL]; exact h)
    rw [hL, sglR_len, leastN_len] at h1
    exact h1
  have h0 : 0 < (ccL b t N E).length := by
    have h1 := (sets_first (leastN N E m) (leastN N E m).length (sglR m) ((sglR m).getD 0 [])).1
    rwa [hL] at h1
  have hlen : SN.length = (ccL b t N E).length := by rw [hSN, gN_len]
  have hGS : GoodN m SN.length SN := by rw [hlen, hSN]; exact gN_good hcl h0 (by omega) hm1 hm36
  have hEl : SE.length = SN.length := by rw [hSE, gE_len, hlen]
  have hcn : ccGN b t N E = clN (dM (leastN N E m) (leastK N E m) (sglR m)) m (ccL b t N E) := by unfold ccGN; rw [hm]
  have hce : ccGE b t N E = clE (endM (leastK N E m) (leastE N E m)) (ccL b t N E) := by unfold ccGE; rw [hm]
  have hGC : GoodN m ((ccL b t N E).length + 1) (ccGN b t N E) := by rw [hcn]; exact clN_good hcl h0 (by omega) hm1 hm36
  have hls := least_same (stay_good hGS (by omega)) hGC (stayE SE) (ccGE b t N E) (fun w hw => by
    have e1 := stay_tk hGS (by omega) hEl w hw
    have e2 : tkB SN SE (dropZ w) = endM (leastK N E m) (leastE N E m) (runG (dM (leastN N E m) (leastK N E m) (sglR m)) ((ccL b t N E).getD 0 0) (dropZ w)) := by
      rw [hSN, hSE]; exact gN_tk hcl h0 (dropZ w) (okW_dropZ hw)
    have e3 : tkB (ccGN b t N E) (ccGE b t N E) w = endM (leastK N E m) (leastE N E m) (runG (dM (leastN N E m) (leastK N E m) (sglR m)) ((ccL b t N E).getD 0 0) (dropZ w)) := by
      rw [hcn, hce]; exact clN_tk hcl h0 w hw
    show tkB (stayN SN) (stayE SE) w = tkB (ccGN b t N E) (ccGE b t N E) w
    rw [e1, e2, e3])
  exact ⟨hlen, hEl, hGS, hls.1, hls.2⟩

set_option maxHeartbeats 8000000 in
set_option maxRecDepth 8000 in
theorem close_no (b t : Int) (a : Option Addr) (n cap : Nat) (a' : Option Addr) (k cap' : Nat) (N : List (List Int)) (w : World) (hs : Sl2 w a n N) (hk : k ≤ maxLen) (hA : autoC b t N k ≠ 0) :
    Calls Try.prog 11 #[.agg #[.int .i64 b, .int .i64 t, .slice a n cap, .slice a' k cap']] w fun e w' => e = .returned (.tuple #[.agg #[.int .i64 0, .int .i64 0, .slice none 0 0, .slice none 0 0], errV (autoC b t N k)]) ∧ Below w.heap.size w w' := by
  have hB0 := below_two w (.cells #[.int .i64 b, .int .i64 t, .slice a n cap, .slice a' k cap'] 25) (.cells #[.int .i64 0, .int .i64 0, .slice none 0 0, .slice none 0 0] 25)
  have HB0 := hide hB0
  have HX1 := hide (heap_alloc2_fst w (.cells #[.int .i64 b, .int .i64 t, .slice a n cap, .slice a' k cap'] 25) (.cells #[.int .i64 0, .int .i64 0, .slice none 0 0, .slice none 0 0] 25))
  have HX2 := hide (heap_alloc2_snd w (.cells #[.int .i64 b, .int .i64 t, .slice a n cap, .slice a' k cap'] 25) (.cells #[.int .i64 0, .int .i64 0, .slice none 0 0, .slice none 0 0] 25))
  have HC := hide (least_no b t a n cap N a' k cap' _ (sl2_below hs hB0) hk hA)
  rw [errV_no hA] at HC ⊢
  clear hs hB0
  generalize autoC b t N k = c at HC ⊢
  clear hA
  generalize hwb : (w.alloc (.cells #[.int .i64 b, .int .i64 t, .slice a n cap, .slice a' k cap'] 25)).alloc (.cells #[.int .i64 0, .int .i64 0, .slice none 0 0, .slice none 0 0] 25) = wb at HB0 HX1 HX2 HC
  have HSZ : Hid (wb.heap.size = w.heap.size + 2) := by show _ = _; rw [← hwb]; simp
  obtain ⟨⟨p0, p1, p2, p3⟩, -⟩ := box_cells HX1.out
  go_enter Try.func11, Try.ntmps11
  go_wp2_with fail
  clear hwb p0 p1 p2 p3
  refine HC.out.mono ?_
  rintro e w1 ⟨rfl, hb1⟩
  have hr := (hb1.block (w.heap.size + 1) (by rw [HSZ.out]; omega)).trans HX2.out
  have hBA := (Below.refl w1.heap.size w1).alloc (Nat.le_refl _) (.cells #[.int .i64 0, .int .i64 0, .slice none 0 0, .slice none 0 0] 25)
  have HB5 : Hid (Below w.heap.size w (w1.alloc (.cells #[.int .i64 0, .int .i64 0, .slice none 0 0, .slice none 0 0] 25))) := below_step (below_step HB0.out hb1) hBA
  have hr2 := (hBA.block _ (Array.getElem?_eq_some_iff.1 hr).1).trans hr
  obtain ⟨⟨r0, r1, r2, r3⟩, rf⟩ := box_cells hr2
  have HR := hide hr2
  clear hr hb1 hBA hr2
  go_wp2
  obtain ⟨⟨hset, hsz, hoth⟩, hbel⟩ := box_set0 HR.out rfl
  have hb := hbel w w.heap.size HB5.out (by omega)
  obtain ⟨⟨z0, z1, z2, z3⟩, -⟩ := box_cells hset
  exact bodyPost_ret (v := .tuple #[.agg #[.int .i64 0, .int .i64 0, .slice none 0 0, .slice none 0 0], .iface 51 (.int .i64 c)]) (by simp [results, Try.results11, go_sem, z0, z1, z2, z3]) rfl ⟨rfl, hb⟩

/-- An automaton that was handed back lies in a box now. -/
def CloAt (wb : World) (b t : Int) (m : Nat) (SN : List (List Int)) (SE : List Bool) (P : Nat) (W : World) : Prop :=
  ∃ base bx aN cN aE cE vals G, W.heap[P]? = some (.cells #[.int .i64 b, .int .i64 t, .slice aN SN.length cN, .slice aE SN.length cE] 25 (0, 0)) ∧ AutI base bx m b t (fun j => SN.getD j []) (fun j => SE.getD j false) SN.length SN.length G W (.slice aN SN.length cN) (.slice aE SN.length cE) vals ∧ wb.heap.size ≤ base ∧ Below wb.heap.size wb W
def zBox : Obj := .cells #[.int .i64 0, .int .i64 0, .slice none 0 0, .slice none 0 0] 25
theorem cloAt_new {wb w5 : World} {b t : Int} {m base bx : Nat} {SN : List (List Int)} {SE : List Bool} {aN : Option Addr} {cN : Nat} {aE : Option Addr} {cE : Nat} {vals : List Value} {G : Nat → Prop} (hA : AutI base bx m b t (fun j => SN.getD j []) (fun j => SE.getD j false) SN.length SN.length G w5 (.slice aN SN.length cN) (.slice aE SN.length cE) vals) (hb : wb.heap.size ≤ base) (hB : Below wb.heap.size wb w5) : CloAt wb b t m SN SE w5.heap.size (w5.alloc (.cells #[.int .i64 b, .int .i64 t, .slice aN SN.length cN, .slice aE SN.length cE] 25)) := by
  have hba := (Below.refl w5.heap.size w5).alloc (Nat.le_refl _) (.cells #[.int .i64 b, .int .i64 t, .slice aN SN.length cN, .slice aE SN.length cE] 25)
  exact ⟨base, bx, aN, cN, aE, cE, vals, G, heap_alloc_last w5 _, autI_keep hA (fun x hx => hba.block x (hA.lt x hx).2) hba.size, hb, hB.alloc hB.size _⟩
theorem cloAt_old {wb w5 : World} {b t : Int} {m base bx P : Nat} {SN : List (List Int)} {SE : List Bool} {aN : Option Addr} {cN : Nat} {aE : Option Addr} {cE : Nat} {vals : List Value} {G : Nat → Prop} (hA : AutI base bx m b t (fun j => SN.getD j []) (fun j => SE.getD j false) SN.length SN.length G w5 (.slice aN SN.length cN) (.slice aE SN.length cE) vals) (hb : wb.heap.size ≤ base) (hB : Below wb.heap.size wb w5) (hP : w5.heap[P]? = some zBox) (hP1 : P < base) (hP2 : wb.heap.size ≤ P) : CloAt wb b t m SN SE P ((((w5.setCell ⟨P, 0, none⟩ (.int .i64 b)).setCell ⟨P, 1, none⟩ (.int .i64 t)).setCell ⟨P, 2, none⟩ (.slice aN SN.length cN)).setCell ⟨P, 3, none⟩ (.slice aE SN.length cE)) := by
  obtain ⟨⟨hset, hsz, hoth⟩, hbel⟩ := box_set (v0 := .int .i64 b) (v1 := .int .i64 t) (v2 := .slice aN SN.length cN) (v3 := .slice aE SN.length cE) hP rfl
  exact ⟨base, bx, aN, cN, aE, cE, vals, G, hset, autI_keep hA (fun x hx => hoth x (by have := (hA.lt x hx).1; omega)) (Nat.le_of_eq hsz.symm), hb, hbel wb wb.heap.size hB hP2⟩

set_option maxHeartbeats 8000000 in
set_option maxRecDepth 8000 in
theorem close_ok (b t : Int) (a : Option Addr) (n cap : Nat) (a' : Option Addr) (cap' : Nat) (N : List (List Int)) (E : List Bool) (w : World) (hs : Sl2 w a n N) (he : SlB w a' n E) (hA : autoC b t N n = 0) :
    Calls Try.prog 11 #[.agg #[.int .i64 b, .int .i64 t, .slice a n cap, .slice a' n cap']] w (PairR w (okI (ccC b t N E n) b) (okI (ccC b t N E n) t) (ccN b t N E n) (ccE b t N E n) (ccC b t N E n)) := by
  obtain ⟨hM, hk, hG, hmu⟩ := autoC_zero hA
  have hn80 : n ≤ 80 := by have := autoC_80 hA; rw [hs.1] at this; exact this
  rw [hs.1] at hG
  obtain ⟨m, hm⟩ : ∃ m, m = (manyU b t).toNat := ⟨_, rfl⟩
  rw [← hm] at hG
  have hGL := least_good hG E
  have hKL := leastK_80 hG E hn80
  have hm1 : 1 ≤ m := hG.2.2.2.2.1
  have hm36 : m ≤ 36 := hG.2.2.2.1
  have hB0 := below_two w (.cells #[.int .i64 b, .int .i64 t, .slice a n cap, .slice a' n cap'] 25) (.cells #[.int .i64 0, .int .i64 0, .slice none 0 0, .slice none 0 0] 25)
  have HB0 := hide hB0
  have HX1 := hide (heap_alloc2_fst w (.cells #[.int .i64 b, .int .i64 t, .slice a n cap, .slice a' n cap'] 25) (.cells #[.int .i64 0, .int .i64 0, .slice none 0 0, .slice none 0 0] 25))
  have HX2 := hide (heap_alloc2_snd w (.cells #[.int .i64 b, .int .i64 t, .slice a n cap, .slice a' n cap'] 25) (.cells #[.int .i64 0, .int .i64 0, .slice none 0 0, .slice none 0 0] 25))
  have HC := hide (least_ok b t a n cap N a' cap' E _ (sl2_below hs hB0) (slB_below he hB0) hA)
  rw [← hm] at HC
  unfold LeastU at HC
  have HEA : Hid (∀ (W : World) (a1 : Option Addr) (c1 : Nat) (a2 : Option Addr) (c2 : Nat), Sl2 W a1 (leastN N E m).length (leastN N E m) → Calls Try.prog 23 #[.agg #[.int .i64 b, .int .i64 t, .slice a1 (leastN N E m).length c1, .slice a2 (leastN N E m).length c2]] W (AloneU W m)) := fun W a1 c1 a2 c2 h1 => eachAlone_any b t a1 _ c1 a2 _ c2 m _ W h1 (by rw [leastN_len]; exact hGL)
  unfold AloneU at HEA
  have HSO : Hid (∀ (W : World) (a1 : Option Addr) (c1 : Nat) (a2 : Option Addr) (c2 : Nat) (g : Nat), Sl2 W a1 (leastN N E m).length (leastN N E m) → SlB W a2 (leastN N E m).length (leastE N E m) → Sl2 W (some ⟨g, 0, none⟩) m (sglR m) → Calls Try.prog 22 #[.agg #[.int .i64 b, .int .i64 t, .slice a1 (leastN N E m).length c1, .slice a2 (leastN N E m).length c2], .int .i64 t, .slice (some ⟨g, 0, none⟩) m m] W (SetsU W b t m (ccL b t N E).length (setN (leastN N E m) (leastN N E m).length (sglR m) ((sglR m).getD 0 [])) (setE (leastN N E m) (leastN N E m).length (leastE N E m) (sglR m) ((sglR m).getD 0 [])))) := fun W a1 c1 a2 c2 g h1 h2 h3 => by
    have h := setsOf_any b t t a1 _ c1 a2 c2 m (leastN N E m) (leastE N E m) (some ⟨g, 0, none⟩) m m (sglR m) W h1 h2 (by rw [leastN_len]; exact hGL) (by rw [leastN_len]; exact hKL) h3 (sglR_ok m) hm1 hm36 (by rw [sglR_get hm1]; simp)
    have e : setsS (leastN N E m) (leastN N E m).length (sglR m) ((sglR m).getD 0 []) = ccL b t N E := by
      unfold ccL
      rw [sglR_get hm1, ← hm, leastN_len]
      rfl
    rw [e] at h
    exact h
  have HSM : Hid ((ccL b t N E).length ≤ 2000 → _) := fun h => close_same (E := E) hG hm.symm h
  have HY : Hid (∀ (e : Ending) (w' : World), (ccL b t N E).length ≤ 2000 → leastK (ccGN b t N E) (ccGE b t N E) m ≤ 80 → PairR w b t (leastN (ccGN b t N E) (ccGE b t N E) m) (leastE (ccGN b t N E) (ccGE b t N E) m) 0 e w' → PairR w (okI (ccC b t N E n) b) (okI (ccC b t N E n) t) (ccN b t N E n) (ccE b t N E n) (ccC b t N E n) e w') := fun e w' h1 h2 h3 => by
    rw [hm] at h2 h3
    have hc : ccC b t N E n = 0 := by unfold ccC; rw [if_pos hA, if_neg (by omega), if_neg (by omega)]
    unfold ccN ccE
    rw [if_pos hc, if_pos hc, hc]
    exact h3
  have HZ : Hid (∀ (e : Ending) (w' : World), (2000 < (ccL b t N E).length ∨ ((ccL b t N E).length ≤ 2000 ∧ 80 < leastK (ccGN b t N E) (ccGE b t N E) m)) → PairR w 0 0 [] [] 3 e w' → PairR w (okI (ccC b t N E n) b) (okI (ccC b t N E n) t) (ccN b t N E n) (ccE b t N E n) (ccC b t N E n) e w') := fun e w' h1 h3 => by
    rw [hm] at h1
    have hc : ccC b t N E n = 3 := by
      unfold ccC
      rw [if_pos hA]
      rcases h1 with h | ⟨h, h'⟩
      · rw [if_pos h]
      · rw [if_neg (by omega), if_pos h']
    unfold ccN ccE
    rw [hc, if_neg (by decide), if_neg (by decide)]
    exact h3
  have HLW : Hid (∀ (SN : List (List Int)) (SE : List Bool) (W : World) (a1 : Option Addr) (c1 : Nat) (a2 : Option Addr) (c2 : Nat), GoodN m SN.length SN → SN.length ≤ 2000 → Sl2 W a1 (SN.length + 1) (stayN SN) → SlB W a2 (SN.length + 1) (stayE SE) → Calls Try.prog 16 #[.agg #[.int .i64 b, .int .i64 t, .slice a1 (SN.length + 1) c1, .slice a2 (SN.length + 1) c2]] W (LeastR W b t (stayN SN) (stayE SE) m)) := fun SN SE W a1 c1 a2 c2 h1 h2 h3 h4 => by
    have hG2 := stay_good h1 (by omega)
    exact leastw_any b t a1 _ c1 m _ a2 c2 _ W h3 h4 hG2 (autoM_good hM (by rw [← hm]; exact hG2) (by omega))
  unfold LeastR LeastU at HLW
  have HST := hide stayAtZeros_any
  unfold StayU at HST
  clear hs he hA hM hk hG hmu hB0 hGL hKL
  generalize hwb : (w.alloc (.cells #[.int .i64 b, .int .i64 t, .slice a n cap, .slice a' n cap'] 25)).alloc (.cells #[.int .i64 0, .int .i64 0, .slice none 0 0, .slice none 0 0] 25) = wb at HB0 HX1 HX2 HC
  have HSZ : Hid (wb.heap.size = w.heap.size + 2) := by show _ = _; rw [← hwb]; simp
  obtain ⟨⟨p0, p1, p2, p3⟩, -⟩ := box_cells HX1.out
  generalize setN (leastN N E m) (leastN N E m).length (sglR m) ((sglR m).getD 0 []) = SN at HSO HSM
  generalize setE (leastN N E m) (leastN N E m).length (leastE N E m) (sglR m) ((sglR m).getD 0 []) = SE at HSO HSM
  generalize (ccL b t N E).length = LEN at HSO HSM HY HZ
  generalize leastN N E m = LN at HC HEA HSO
  generalize leastE N E m = LE at HC HSO
  have HKC : Hid (leastK (ccGN b t N E) (ccGE b t N E) m = (leastN (ccGN b t N E) (ccGE b t N E) m).length) := (leastN_len _ _ _).symm
  rw [HKC.out] at HY HZ
  generalize leastN (ccGN b t N E) (ccGE b t N E) m = RN at HSM HY HZ
  generalize leastE (ccGN b t N E) (ccGE b t N E) m = RE at HSM HY
  generalize okI (ccC b t N E n) b = OB at HY HZ ⊢
  generalize okI (ccC b t N E n) t = OT at HY HZ ⊢
  generalize ccN b t N E n = ON at HY HZ ⊢
  generalize ccE b t N E n = OE at HY HZ ⊢
  generalize ccC b t N E n = OC at HY HZ ⊢
  clear hm HKC
  go_enter Try.func11, Try.ntmps11
  go_wp2_with fail
  clear hwb p0 p1 p2 p3
  refine HC.out.mono ?_
  rintro e w1 ⟨a1, c1, a2, c2, rfl, hn1, hb1⟩
  have HB1 := hide hb1
  have HN1 := hide hn1
  have HBA := hide ((Below.refl w1.heap.size w1).alloc (Nat.le_refl _) (.cells #[.int .i64 b, .int .i64 t, .slice a1 LN.length c1, .slice a2 LN.length c2] 25))
  have HXA := hide (heap_alloc_last w1 (.cells #[.int .i64 b, .int .i64 t, .slice a1 LN.length c1, .slice a2 LN.length c2] 25))
  clear hn1 hb1
  go_wp2_with fail
  generalize w1.alloc (.cells #[.int .i64 b, .int .i64 t, .slice a1 LN.length c1, .slice a2 LN.length c2] 25) = w3 at HBA HXA ⊢
  obtain ⟨⟨q0, q1, q2, q3⟩, -⟩ := box_cells HXA.out
  have HEAW : Hid (∀ (W : World), Below w3.heap.size w3 W → _) := fun W h1 => HEA.out W a1 c1 a2 c2 (sl2_below HN1.out.here.1 (HBA.out.trans (h1.mono HBA.out.size)))
  have HSOW : Hid (∀ (W : World) (g : Nat), Below w3.heap.size w3 W → Sl2 W (some ⟨g, 0, none⟩) m (sglR m) → _) := fun W g h1 h2 => HSO.out W a1 c1 a2 c2 g (sl2_below HN1.out.here.1 (HBA.out.trans (h1.mono HBA.out.size))) (slB_below HN1.out.here.2 (HBA.out.trans (h1.mono HBA.out.size))) h2
  unfold SetsU at HSOW
  have HBW3 : Hid (Below wb.heap.size wb w3) := HB1.out.trans (HBA.out.mono HB1.out.size)
  have HQW : Hid (∀ W, Below w3.heap.size w3 W → W.cell? ⟨w1.heap.size, 0, none⟩ = some (.int .i64 b) ∧ W.cell? ⟨w1.heap.size, 1, none⟩ = some (.int .i64 t) ∧ W.cell? ⟨w1.heap.size, 2, none⟩ = some (.slice a1 LN.length c1) ∧ W.cell? ⟨w1.heap.size, 3, none⟩ = some (.slice a2 LN.length c2)) := fun W h => (box_cells ((h.block _ (Array.getElem?_eq_some_iff.1 HXA.out).1).trans HXA.out)).1
  obtain ⟨n0, n1, n2, n3⟩ := HQW.out (w3.alloc (.cells #[.int .i64 0, .int .i64 0, .slice none 0 0, .slice none 0 0] 25)) ((Below.refl _ _).alloc (Nat.le_refl _) _)
  clear HEA HSO HC
  by_cases hL : LEN ≤ 2000
  · go_cut [5, 6] (fun s5 s6 wx => s5 = .nilIface ∧ ∃ P, s6 = .pointer (some ⟨P, 0, none⟩) ∧ CloAt wb b t m SN SE P wx)
    case first =>
      go_region_held_law (fun W => W.cell? ⟨w1.heap.size, 0, none⟩ = some (.int .i64 b) ∧ W.cell? ⟨w1.heap.size, 1, none⟩ = some (.int .i64 t) ∧ W.cell? ⟨w1.heap.size, 2, none⟩ = some (.slice a1 LN.length c1) ∧ W.cell? ⟨w1.heap.size, 3, none⟩ = some (.slice a2 LN.length c2)) (first | exact HQW.out _ (Below.refl w3.heap.size w3).drew | exact HQW.out _ HB4.out | exact HQW.out _ (HB4.out.trans (HB45.out.mono HB4.out.size)) | exact HQW.out _ ((Below.refl w3.heap.size w3).drew.alloc (Nat.le_refl _) _) | exact HQW.out _ (HB4.out.alloc HB4.out.size _) | exact HQW.out _ ((HB4.out.trans (HB45.out.mono HB4.out.size)).alloc (HB4.out.trans (HB45.out.mono HB4.out.size)).size _) | exact HQW.out _ (((((HB4.out.trans (HB45.out.mono HB4.out.size)).setCell HB4.out.size _).setCell HB4.out.size _).setCell HB4.out.size _).setCell HB4.out.size _) | exact HQW.out _ (((((HB4.out.trans (HB45.out.mono HB4.out.size)).setCell (Nat.le_refl _) _).setCell (Nat.le_refl _) _).setCell (Nat.le_refl _) _).setCell (Nat.le_refl _) _) | exact HQW.out _ ((((((HB4.out.trans (HB45.out.mono HB4.out.size)).alloc (HB4.out.trans (HB45.out.mono HB4.out.size)).size _).setCell (HB4.out.trans (HB45.out.mono HB4.out.size)).size _).setCell (HB4.out.trans (HB45.out.mono HB4.out.size)).size _).setCell (HB4.out.trans (HB45.out.mono HB4.out.size)).size _).setCell (HB4.out.trans (HB45.out.mono HB4.out.size)).size _) | go_keep) (first
        | (go_simp; go_at_call 23; refine (HEAW.out _ (by first | exact (Below.refl w3.heap.size w3).drew | exact ((Below.refl w3.heap.size w3).drew.alloc (Nat.le_refl _) _))).mono ?_; rintro e w4 ⟨g, rfl, hs4, hb4⟩; have HB4 : Hid (Below w3.heap.size w3 w4) := (by first | exact (Below.refl w3.heap.size w3).drew.trans hb4 | exact ((Below.refl w3.heap.size w3).drew.alloc (Nat.le_refl _) _).trans (hb4.mono (by simp))); have HS4 := hide hs4; first | (have HZA : Hid (w4.heap[w3.heap.size]? = some zBox) := ((hb4.block w3.heap.size (by simp)).trans (heap_alloc_last w3.drew zBox))) | skip; obtain ⟨y0, y1, y2, y3⟩ := HQW.out w4 HB4.out; obtain ⟨n40, n41, n42, n43⟩ := HQW.out (w4.alloc (.cells #[.int .i64 0, .int .i64 0, .slice none 0 0, .slice none 0 0] 25)) (HB4.out.alloc HB4.out.size _); clear hs4 hb4)
        | (go_simp; go_at_call 22; refine (HSOW.out _ g (by first | exact HB4.out | exact HB4.out.alloc HB4.out.size _) (by first | exact HS4.out | exact sl2_below HS4.out ((Below.refl w4.heap.size w4).alloc (Nat.le_refl _) _))).mono ?_; rintro e w5 ⟨hyes, hno⟩; obtain ⟨bx, vN, vE, vals, G, rfl, hA, hb5⟩ := hyes hL; obtain ⟨aN, cN, rfl⟩ := owns_sl hA.ownN; obtain ⟨aE, cE, rfl⟩ := owns_sl hA.ownE; have HA := hide hA; clear hA; have HB45 : Hid (Below w4.heap.size w4 w5) := (by first | exact hb5 | exact ((Below.refl w4.heap.size w4).alloc (Nat.le_refl _) _).trans (hb5.mono (by simp))); first | (have HZB : Hid (w5.heap[w4.heap.size]? = some zBox) := ((hb5.block w4.heap.size (by simp)).trans (heap_alloc_last w4 zBox)); obtain ⟨⟨k0, k1, k2, k3⟩, kf⟩ := box_cells HZB.out) | (have HZB : Hid (w5.heap[w3.heap.size]? = some zBox) := ((HB45.out.block _ (Array.getElem?_eq_some_iff.1 HZA.out).1).trans HZA.out); obtain ⟨⟨k0, k1, k2, k3⟩, kf⟩ := box_cells HZB.out) | skip; clear hyes hno hb5))
      all_goals
        go_wp2_with fail
        go_meet
        have HBF : Hid (Below wb.heap.size wb w5) := HBW3.out.trans ((HB4.out.trans (HB45.out.mono HB4.out.size)).mono HBW3.out.size)
        refine ⟨rfl, _, rfl, ?_⟩
        have h1 := HBW3.out.size
        have h2 := HB4.out.size
        first
          | exact cloAt_new HA.out (by simp; omega) HBF.out
          | exact cloAt_new HA.out (by omega) HBF.out
          | exact cloAt_old HA.out (by simp; omega) HBF.out HZB.out (by simp) (by omega)
          | exact cloAt_old HA.out (by omega) HBF.out HZB.out ((Array.getElem?_eq_some_iff.1 HZA.out).1) (by omega)
    case rest =>
      obtain ⟨rfl, P, rfl, hcl⟩ := hcut
      obtain ⟨base, bx, aN, cN, aE, cE, vals, G, hbox, hA, hbase, hbw⟩ := hcl
      obtain ⟨hlen, hEl, hGS, hRN, hRE⟩ := HSM.out hL
      have HC6 := hide (HST.out base bx m b t G vals SN SE aN cN aE cE wc hA hGS (by omega) hEl)
      have HLW6 := hide (fun W x1 y1 x2 y2 h1 h2 => HLW.out SN SE W x1 y1 x2 y2 hGS (by omega) h1 h2)
      have hKS : leastK (stayN SN) (stayE SE) m = RN.length := by rw [← leastN_len, hRN]
      rw [hRN, hRE, hKS] at HLW6
      obtain ⟨⟨v0, v1, v2, v3⟩, -⟩ := box_cells hbox
      have HBW := hide hbw
      have HBASE := hide hbase
      have HYL := hide (fun e w' => HY.out e w' hL)
      have HZL := hide (fun e w' h => HZ.out e w' (Or.inr ⟨hL, h⟩))
      clear hlen hEl hGS hRN hRE hKS hbox hA hbase hbw HST HLW HSM HSOW HEAW HQW q0 q1 q2 q3 n0 n1 n2 n3 hL
      go_wp2_with fail
      refine HC6.out.mono ?_
      rintro e w6 ⟨a6, c6, e6, d6, rfl, h61, h62, h6b⟩
      have HB6 := hide (h6b wb wb.heap.size HBASE.out HBW.out)
      have HC7 := hide (HLW6.out w6 a6 c6 e6 d6 h61 h62)
      clear h61 h62 h6b HC6 HLW6 v0 v1 v2 v3
      go_wp2_with fail
      refine HC7.out.mono ?_
      rintro e w7 ⟨hy7, hn7⟩
      by_cases hK : RN.length ≤ 80
      · obtain ⟨a7, c7, e7, d7, rfl, hnw, hb7⟩ := hy7 hK
        have hr := ((HB6.out.trans (hb7.mono HB6.out.size)).block (w.heap.size + 1) (by rw [HSZ.out]; omega)).trans HX2.out
        obtain ⟨⟨r0, r1, r2, r3⟩, rf⟩ := box_cells hr
        have HR := hide hr
        have HNW := hide hnw
        have HB8 : Hid (Below w.heap.size w w7) := (HB0.out.trans (HB6.out.mono HB0.out.size)).trans (hb7.mono (Nat.le_trans HB0.out.size HB6.out.size))
        have HSW : Hid (w.heap.size + 2 ≤ w6.heap.size) := by have := HB6.out.size; have := HSZ.out; show _ ≤ _; omega
        clear hr hnw hb7 hy7 hn7
        go_wp2
        obtain ⟨⟨hset, hsz, hoth⟩, hbel⟩ := box_set (v0 := .int .i64 b) (v1 := .int .i64 t) (v2 := .slice a7 RN.length c7) (v3 := .slice e7 RN.length d7) HR.out rfl
        have hfin : AutoNew w a7 RN.length RN e7 RE ((((w7.setCell ⟨w.heap.size + 1, 0, none⟩ (.int .i64 b)).setCell ⟨w.heap.size + 1, 1, none⟩ (.int .i64 t)).setCell ⟨w.heap.size + 1, 2, none⟩ (.slice a7 RN.length c7)).setCell ⟨w.heap.size + 1, 3, none⟩ (.slice e7 RN.length d7)) := fun W' hW' => HNW.out W' (fun x hx hxl => by
          have h1 := HSW.out
          rw [hW' x (by omega) (by rw [hsz]; exact hxl), hoth x (by omega)])
        have hb := hbel w w.heap.size HB8.out (by omega)
        obtain ⟨⟨z0, z1, z2, z3⟩, -⟩ := box_cells hset
        exact bodyPost_ret (v := .tuple #[.agg #[.int .i64 b, .int .i64 t, .slice a7 RN.length c7, .slice e7 RN.length d7], .nilIface]) (by simp [results, Try.results11, go_sem, z0, z1, z2, z3]) rfl (HYL.out _ _ hK ⟨a7, c7, e7, d7, rfl, hfin, hb⟩)
      · obtain ⟨rfl, hb7⟩ := hn7 (by omega)
        have hr := ((HB6.out.trans (hb7.mono HB6.out.size)).block (w.heap.size + 1) (by rw [HSZ.out]; omega)).trans HX2.out
        obtain ⟨⟨r0, r1, r2, r3⟩, rf⟩ := box_cells hr
        have HR := hide hr
        have HB8 : Hid (Below w.heap.size w w7) := (HB0.out.trans (HB6.out.mono HB0.out.size)).trans (hb7.mono (Nat.le_trans HB0.out.size HB6.out.size))
        clear hr hb7 hy7 hn7
        go_wp2
        obtain ⟨⟨hset, hsz, hoth⟩, hbel⟩ := box_set0 HR.out rfl
        have hb := hbel w w.heap.size HB8.out (by omega)
        obtain ⟨⟨z0, z1, z2, z3⟩, -⟩ := box_cells hset
        exact bodyPost_ret (v := .tuple #[.agg #[.int .i64 0, .int .i64 0, .slice none 0 0, .slice none 0 0], .iface 51 (.int .i64 3)]) (by simp [results, Try.results11, go_sem, z0, z1, z2, z3]) rfl (HZL.out _ _ (by omega) ⟨none, 0, none, 0, rfl, autoNew_nil _ _, hb⟩)
  · go_cut [5, 6] (fun s5 s6 wx => s5 = .iface 51 (.int .i64 3) ∧ Below wb.heap.size wb wx)
    case first =>
      go_region_held_law (fun W => W.cell? ⟨w1.heap.size, 0, none⟩ = some (.int .i64 b) ∧ W.cell? ⟨w1.heap.size, 1, none⟩ = some (.int .i64 t) ∧ W.cell? ⟨w1.heap.size, 2, none⟩ = some (.slice a1 LN.length c1) ∧ W.cell? ⟨w1.heap.size, 3, none⟩ = some (.slice a2 LN.length c2)) (first | exact HQW.out _ (Below.refl w3.heap.size w3).drew | exact HQW.out _ HB4.out | exact HQW.out _ (HB4.out.trans (HB45.out.mono HB4.out.size)) | exact HQW.out _ ((Below.refl w3.heap.size w3).drew.alloc (Nat.le_refl _) _) | exact HQW.out _ (HB4.out.alloc HB4.out.size _) | exact HQW.out _ ((HB4.out.trans (HB45.out.mono HB4.out.size)).alloc (HB4.out.trans (HB45.out.mono HB4.out.size)).size _) | exact HQW.out _ (((((HB4.out.trans (HB45.out.mono HB4.out.size)).setCell HB4.out.size _).setCell HB4.out.size _).setCell HB4.out.size _).setCell HB4.out.size _) | exact HQW.out _ (((((HB4.out.trans (HB45.out.mono HB4.out.size)).setCell (Nat.le_refl _) _).setCell (Nat.le_refl _) _).setCell (Nat.le_refl _) _).setCell (Nat.le_refl _) _) | exact HQW.out _ ((((((HB4.out.trans (HB45.out.mono HB4.out.size)).alloc (HB4.out.trans (HB45.out.mono HB4.out.size)).size _).setCell (HB4.out.trans (HB45.out.mono HB4.out.size)).size _).setCell (HB4.out.trans (HB45.out.mono HB4.out.size)).size _).setCell (HB4.out.trans (HB45.out.mono HB4.out.size)).size _).setCell (HB4.out.trans (HB45.out.mono HB4.out.size)).size _) | go_keep) (first
        | (go_simp; go_at_call 23; refine (HEAW.out _ (by first | exact (Below.refl w3.heap.size w3).drew | exact ((Below.refl w3.heap.size w3).drew.alloc (Nat.le_refl _) _))).mono ?_; rintro e w4 ⟨g, rfl, hs4, hb4⟩; have HB4 : Hid (Below w3.heap.size w3 w4) := (by first | exact (Below.refl w3.heap.size w3).drew.trans hb4 | exact ((Below.refl w3.heap.size w3).drew.alloc (Nat.le_refl _) _).trans (hb4.mono (by simp))); have HS4 := hide hs4; first | (have HZA : Hid (w4.heap[w3.heap.size]? = some zBox) := ((hb4.block w3.heap.size (by simp)).trans (heap_alloc_last w3.drew zBox))) | skip; obtain ⟨y0, y1, y2, y3⟩ := HQW.out w4 HB4.out; obtain ⟨n40, n41, n42, n43⟩ := HQW.out (w4.alloc (.cells #[.int .i64 0, .int .i64 0, .slice none 0 0, .slice none 0 0] 25)) (HB4.out.alloc HB4.out.size _); clear hs4 hb4)
        | (go_simp; go_at_call 22; refine (HSOW.out _ g (by first | exact HB4.out | exact HB4.out.alloc HB4.out.size _) (by first | exact HS4.out | exact sl2_below HS4.out ((Below.refl w4.heap.size w4).alloc (Nat.le_refl _) _))).mono ?_; rintro e w5 ⟨hyes, hno⟩; obtain ⟨rfl, hb5⟩ := hno (by omega); rw [errV_no (show (3 : Int) ≠ 0 by decide)]; have HB45 : Hid (Below w4.heap.size w4 w5) := (by first | exact hb5 | exact ((Below.refl w4.heap.size w4).alloc (Nat.le_refl _) _).trans (hb5.mono (by simp))); first | (have HZB : Hid (w5.heap[w4.heap.size]? = some zBox) := ((hb5.block w4.heap.size (by simp)).trans (heap_alloc_last w4 zBox)); obtain ⟨⟨k0, k1, k2, k3⟩, kf⟩ := box_cells HZB.out) | (have HZB : Hid (w5.heap[w3.heap.size]? = some zBox) := ((HB45.out.block _ (Array.getElem?_eq_some_iff.1 HZA.out).1).trans HZA.out); obtain ⟨⟨k0, k1, k2, k3⟩, kf⟩ := box_cells HZB.out) | skip; clear hyes hno hb5))
      all_goals
        go_wp2_with fail
        go_meet
        have HBF : Hid (Below wb.heap.size wb w5) := HBW3.out.trans ((HB4.out.trans (HB45.out.mono HB4.out.size)).mono HBW3.out.size)
        refine ⟨rfl, ?_⟩
        have h1 := HBW3.out.size
        have h2 := HB4.out.size
        first
          | exact HBF.out.alloc HBF.out.size _
          | exact (box_set HZB.out rfl).2 wb wb.heap.size HBF.out (by omega)
    case rest =>
      obtain ⟨rfl, hcl⟩ := hcut
      have HZL := hide (fun e w' => HZ.out e w' (Or.inl (by omega)))
      have hr := (hcl.block (w.heap.size + 1) (by rw [HSZ.out]; omega)).trans HX2.out
      obtain ⟨⟨r0, r1, r2, r3⟩, rf⟩ := box_cells hr
      have HR := hide hr
      have HB8 : Hid (Below w.heap.size w wc) := HB0.out.trans (hcl.mono HB0.out.size)
      clear hr hcl HST HLW HSM HSOW HEAW HQW q0 q1 q2 q3 n0 n1 n2 n3 hL
      go_wp2
      obtain ⟨⟨hset, hsz, hoth⟩, hbel⟩ := box_set0 HR.out rfl
      have hb := hbel w w.heap.size HB8.out (by omega)
      obtain ⟨⟨z0, z1, z2, z3⟩, -⟩ := box_cells hset
      exact bodyPost_ret (v := .tuple #[.agg #[.int .i64 0, .int .i64 0, .slice none 0 0, .slice none 0 0], .iface 51 (.int .i64 3)]) (by simp [results, Try.results11, go_sem, z0, z1, z2, z3]) rfl (HZL.out _ _ ⟨none, 0, none, 0, rfl, autoNew_nil _ _, hb⟩)

theorem close_saysH : CloseSays := by
  intro b t a n cap a' k cap' N E w hs he
  by_cases hA : autoC b t N k = 0
  · obtain ⟨-, hk, -, -⟩ := autoC_zero hA
    obtain rfl : k = n := by rw [hk, hs.1]
    exact close_ok b t a k cap a' cap' N E w hs he hA
  · have hc : ccC b t N E k = autoC b t N k := by unfold ccC; rw [if_neg hA]
    refine (close_no b t a n cap a' k cap' N w hs he.2.1 hA).mono ?_
    rintro e w' ⟨rfl, hb⟩
    unfold ccN ccE okI
    rw [hc, if_neg hA, if_neg hA, if_neg hA, if_neg hA]
    exact ⟨none, 0, none, 0, rfl, autoNew_nil _ _, hb⟩
end Go.Proofs.Ytleebojibobgaaa

/- The law SomeClosed: its walk. -/
namespace Go.Proofs.Ytleebojibobgaaa
open Go.RowKit

theorem someclosed_any (b t : Int) (a : Option Addr) (n cap : Nat) (a' : Option Addr) (k cap' : Nat) (N : List (List Int)) (E : List Bool) (tk : Int) (aw : Option Addr) (lw cw : Nat) (u : List Int) (zs : Int) (w : World) (hs : Sl2 w a n N) (he : SlB w a' k E) (hw : Sl w aw lw u) (hnw : aw = none → cw = 0) (hbw : lw * 8 ≤ 140737488351232) :
    Calls Try.prog 4 #[.agg #[.int .i64 b, .int .i64 t, .slice a n cap, .slice a' k cap'], .int .i64 tk, .slice aw lw cw, .int .i64 zs] w fun e w' => e = .returned (.bool true) ∧ Below w.heap.size w w' :=
  someclosed_of b t a n cap a' k cap' N E tk aw lw cw u zs w hs he hw hnw hbw some_saysH close_saysH closed_saysH
end Go.Proofs.Ytleebojibobgaaa
