/- some.stayAtZeros: what holds along its way. -/
import Derived.Deep.RegionWith
import Derived.Test.YtleebojibobgaaaDoorAx
import Derived.Test.YtleebojibobgaaaDoorBy
import Derived.Test.YtleebojibobgaaaDoorGu
import Derived.Test.YtleebojibobgaaaDoorHj
import Derived.Test.YtleebojibobgaaaDoorHk
import Derived.Test.YtleebojibobgaaaDoorZGb
import Derived.Test.YtleebojibobgaaaDoorZNx
namespace Go.Proofs.YtleebojibobgaaaDoor
open Go.RowKit

/-- A number in a row of an automaton that was built is another one now. -/
theorem autI_row {base bx m : Nat} {b t : Int} {rows : Nat → List Int} {es : Nat → Bool} {qn qe : Nat} {G : Nat → Prop} {W : World} {vN vE : Value} {vals : List Value} (h : AutI base bx m b t rows es qn qe G W vN vE vals) {j g x : Nat} {z : Int} (hj : j < qn) (hg : vals[j]? = some (.slice (some ⟨g, 0, none⟩) m m)) (hl : (rows j).length = m) (hx : x < m) :
    AutI base bx m b t (fun k => if k = j then (rows j).set x z else rows k) es qn qe G (W.setCell ⟨g, x, none⟩ (.int .i64 z)) vN vE vals := by
  obtain ⟨g', r1, r2, r3, r4, r5, r6⟩ := h.rw_ j hj
  rw [hg] at r1
  simp only [Option.some.injEq, Value.slice.injEq, Addr.mk.injEq, and_true] at r1
  subst r1
  have hk : ∀ y, y ≠ g → (W.setCell ⟨g, x, none⟩ (.int .i64 z)).heap[y]? = W.heap[y]? := fun y hy => Below.heap_setCell _ _ _ _ hy
  have hsz : (W.setCell ⟨g, x, none⟩ (.int .i64 z)).heap.size = W.heap.size := by simp
  refine ⟨(hk _ (Ne.symm r4)).trans h.box, ownsRow_of_block h.ownN fun y hy => hk y (fun e => r5 (e ▸ hy)), ownsRow_of_block h.ownE fun y hy => hk y (fun e => r6 (e ▸ hy)), fun k hk2 => ?_, h.inj, h.gb, h.gN, h.gE, fun y hy => ⟨(h.lt y hy).1, by rw [hsz]; exact (h.lt y hy).2⟩, by rw [hsz]; exact h.hb⟩
  obtain ⟨gk, s1, s2, s3, s4, s5, s6⟩ := h.rw_ k hk2
  by_cases e : k = j
  · subst e
    rw [hg] at s1
    simp only [Option.some.injEq, Value.slice.injEq, Addr.mk.injEq, and_true] at s1
    subst s1
    refine ⟨g, hg, (s2.set x _).congr fun q hq => ?_, s3, s4, s5, s6⟩
    simp only [if_true]
    by_cases e2 : q = x
    · subst e2
      rw [if_pos rfl]
      simp [List.getD, hl, hq]
    · rw [if_neg e2]
      simp only [List.getD, List.getElem?_set]
      rw [if_neg (fun h => e2 h.symm)]
  · refine ⟨gk, s1, ?_, s3, s4, s5, s6⟩
    simp only [if_neg e]
    exact s2.of_block (hk gk (fun e2 => e (h.inj k j hk2 hj (by rw [s1, hg, e2]))))

/-- A row of which x places were seen. -/
def zP (q : Nat) (r : List Int) (x : Nat) : List Int := (zL q (r.take x)) ++ r.drop x
theorem zP_zero (q : Nat) (r : List Int) : zP q r 0 = r := by simp [zP, zL]
theorem zP_all (q : Nat) (r : List Int) : zP q r r.length = zL q r := by simp [zP]
theorem zP_len (q : Nat) (r : List Int) (x : Nat) : (zP q r x).length = r.length := by simp [zP, zL]; omega
theorem zP_at {q : Nat} {r : List Int} {x : Nat} (hx : x < r.length) : (zP q r x).getD x 0 = r.getD x 0 := by
  have hl : (zL q (r.take x)).length = x := by simp [zL]; omega
  simp only [zP, List.getD]
  rw [List.getElem?_append_right (by omega), hl, Nat.sub_self, List.getElem?_drop, Nat.add_zero]
theorem zP_step {q : Nat} {r : List Int} {x : Nat} (hx : x < r.length) : zP q r (x + 1) = (zP q r x).set x (if r.getD x 0 = 0 then (q : Int) else r.getD x 0) := by
  have hl : (zL q (r.take x)).length = x := by simp [zL]; omega
  unfold zP
  rw [List.take_succ_eq_append_getElem hx, List.drop_eq_getElem_cons hx, List.set_append_right _ _ (by omega), hl, Nat.sub_self, List.set_cons_zero]
  unfold zL
  rw [List.map_append, List.append_assoc, getD_at _ x hx]
  rfl
theorem set_self {l : List Int} {x : Nat} (hx : x < l.length) : l.set x (l.getD x 0) = l := by
  rw [getD_at _ x hx, List.set_getElem_self]
/-- The rows behind i of them and x places of the next one. -/
def zR (SN : List (List Int)) (i x : Nat) (j : Nat) : List Int := if j < i then zL SN.length (SN.getD j []) else if j = i then zP SN.length (SN.getD j []) x else SN.getD j []
theorem zR_step {SN : List (List Int)} {i x : Nat} (hx : x < (SN.getD i []).length) (j : Nat) : (if j = i then (zR SN i x i).set x (if (SN.getD i []).getD x 0 = 0 then (SN.length : Int) else (SN.getD i []).getD x 0) else zR SN i x j) = zR SN i (x + 1) j := by
  have hz : ∀ y, zR SN i y i = zP SN.length (SN.getD i []) y := fun y => by unfold zR; rw [if_neg (Nat.lt_irrefl _), if_pos rfl]
  by_cases e : j = i
  · subst e
    rw [if_pos rfl, hz, hz, zP_step hx]
  · rw [if_neg e]
    unfold zR
    by_cases e2 : j < i
    · rw [if_pos e2, if_pos e2]
    · rw [if_neg e2, if_neg e, if_neg e2, if_neg e]
theorem zR_next {SN : List (List Int)} {i : Nat} (j : Nat) : zR SN i (SN.getD i []).length j = zR SN (i + 1) 0 j := by
  unfold zR
  by_cases e : j = i
  · subst e
    rw [if_neg (by omega), if_pos rfl, if_pos (by omega), zP_all]
  · by_cases e2 : j < i
    · rw [if_pos e2, if_pos (by omega)]
    · rw [if_neg e2, if_neg e, if_neg (by omega)]
      split
      · rw [zP_zero]
      · rfl
theorem zR_start (SN : List (List Int)) (j : Nat) : zR SN 0 0 j = SN.getD j [] := by
  unfold zR
  rw [if_neg (by omega)]
  split
  · rw [zP_zero]
  · rfl
theorem zR_len {SN : List (List Int)} {i x j m : Nat} (h : (SN.getD j []).length = m) : (zR SN i x j).length = m := by
  unfold zR
  split
  · rw [zL_len, h]
  · split
    · rw [zP_len, h]
    · exact h
end Go.Proofs.YtleebojibobgaaaDoor
