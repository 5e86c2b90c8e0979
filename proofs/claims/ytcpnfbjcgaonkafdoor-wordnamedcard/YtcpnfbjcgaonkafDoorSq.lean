/- word.Morph: what holds between its rounds; contract. -/
import Derived.Test.YtcpnfbjcgaonkafDoorHw
import Derived.Test.YtcpnfbjcgaonkafDoorPe
import Derived.Test.YtcpnfbjcgaonkafDoorSi
import Derived.Test.YtcpnfbjcgaonkafDoorSp
import Derived.Deep.AppendLies
import Derived.Deep.DeepCutAuto
import Derived.Deep.RegionHeldLaw
namespace Go.Proofs.YtcpnfbjcgaonkafDoor
open Go.RowKit

theorem owC_bel {base : Nat} {col : Nat → Nat} {j k : Nat} {W W' : World} {e : TypeId} {v : Value} {xs : List Value} (h : OwC base col j W e v xs) (hb : Below W.heap.size W W') : OwC base (paint col W.heap.size k) j W' e v xs :=
  ⟨ownsRow_of_block h.own (fun x hx => hb.block x (h.own.lt x hx).2), fun x hx => by rw [paint_old (h.own.lt x hx).2]; exact h.clr x hx⟩
theorem rowsC_bel {col : Nat → Nat} {j k : Nat} {W W' : World} {rows : Nat → List Int} {q : Nat} {vals : List Value} (h : RowsC col j W rows q vals) (hb : Below W.heap.size W W') : RowsC (paint col W.heap.size k) j W' rows q vals :=
  ⟨h.1, fun i hi => by
    obtain ⟨g, cap, e1, e2, e3, e4⟩ := h.2 i hi
    exact ⟨g, cap, e1, sl_block e2 (hb.block g e4), by rw [paint_old e4]; exact e3, by have := hb.size; omega⟩⟩
structure MpI (wb : World) (rows : Nat → List Int) (col : Nat → Nat) (B : Nat) (k : Int) (vO : Value) (K : List Int) (qn : Nat) (vN : Value) (vals : List Value) (W : World) : Prop where
  box : W.heap[B]? = some (.cells #[.int .i64 k, vN, vO] 25)
  bcl : col B = 1
  bbs : wb.heap.size ≤ B
  ow : OwC wb.heap.size col 6 W 3 vO (K.map (Value.int .i64))
  nx : OwC wb.heap.size col 4 W 23 vN vals
  rw_ : RowsC col 5 W rows qn vals
  bel : Below wb.heap.size wb W
  rb : ∀ v ∈ vals, ∀ g, v.ownBlock = some g → wb.heap.size ≤ g
section
variable {wb : World} {rows : Nat → List Int} {col : Nat → Nat} {B : Nat} {k : Int} {vO : Value} {K : List Int} {qn : Nat} {vN : Value} {vals : List Value} {W : World}
theorem mp_start (rows : Nat → List Int) (hbox : W.heap[B]? = some (.cells #[.int .i64 k, .slice none 0 0, vO] 25)) (hown : W.ownsRow wb.heap.size 3 1 vO K.length (K.map (Value.int .i64))) (hne : vO.ownBlock ≠ some B) (hB : wb.heap.size ≤ B) (hb : Below wb.heap.size wb W) : ∃ col, MpI wb rows col B k vO K 0 (.slice none 0 0) [] W :=
  ⟨fun x => if x = B then 1 else 6, hbox, if_pos rfl, hB, ⟨by rw [List.length_map]; exact hown, fun x hx => if_neg (fun e => hne (by rw [hx, e]))⟩, owC_nil _ _ _ _ _, ⟨rfl, fun j hj => by omega⟩, hb, fun v hv => by simp at hv⟩
theorem mp_push {w2 w3 : World} {o : Obj} {g c g' cap' : Nat} (h : MpI wb rows col B k vO K qn vN vals W) (hb : Below W.heap.size W w2) (hcl : w2.ownsRow W.heap.size 3 1 (.slice (some ⟨g, 0, none⟩) (rows qn).length c) (rows qn).length ((rows qn).map (Value.int .i64))) (hm : (rows qn).length ≤ maxLen) (hwf : ∀ x ∈ rows qn, (Lit.int .i64 x).wf = true)
    (hown : w3.ownsRow wb.heap.size 23 1 (.slice (some ⟨g', 0, none⟩) (qn + 1) cap') (qn + 1) (vals ++ [.slice (some ⟨g, 0, none⟩) (rows qn).length c])) (hgrow : (w2.alloc o).grownBy w3 vN.ownBlock) (hat : vN.ownBlock = some g' ∨ g' = w2.heap.size + 1) :
    w3.heap[B]? = some (.cells #[.int .i64 k, vN, vO] 25) ∧ ∃ col', MpI wb rows col' B k vO K (qn + 1) (.slice (some ⟨g', 0, none⟩) (qn + 1) cap') (vals ++ [.slice (some ⟨g, 0, none⟩) (rows qn).length c]) (w3.setCell ⟨B, 1, none⟩ (.slice (some ⟨g', 0, none⟩) (qn + 1) cap')) := by
  have hBl := (Array.getElem?_eq_some_iff.1 h.box).1
  have hB2 : paint col W.heap.size 5 B = 1 := by rw [paint_old hBl]; exact h.bcl
  have nx2 := owC_bel (k := 5) h.nx hb
  have ow2 := owC_bel (k := 5) h.ow hb
  have rw2 := rowsC_bel (k := 5) h.rw_ hb
  obtain ⟨hg1, hg2⟩ := hcl.lt g (by simp [Value.ownBlock])
  have hgc : paint col W.heap.size 5 g = 5 := paint_new (by omega)
  obtain ⟨a0, c0, e0, hsl⟩ := sl_of_owns rfl hm hwf hcl
  have e0' : a0 = some ⟨g, 0, none⟩ := by simp at e0; exact e0.1.symm
  subst e0'
  have hb2 := below_step h.bel hb
  obtain ⟨nx3, hk⟩ := owC_push nx2 rw2.1 hown hgrow hat
  have ow3 := owC_keep ow2 hk (by decide)
  have rw3 := rowsC_keep rw2 hk (by decide)
  have sz2 := hb.size
  have hB3 : w3.heap[B]? = some (.cells #[.int .i64 k, vN, vO] 25) := (hk.block B (by omega) (by rw [hB2]; decide)).trans ((hb.block B hBl).trans h.box)
  have hcB3 : paint (paint col W.heap.size 5) w2.heap.size 4 B = 1 := by rw [paint_old (by omega)]; exact hB2
  have hsg := sl_block hsl.1 (hk.block g hg2 (by rw [hgc]; decide))
  have hk4 : KeptC (paint (paint col W.heap.size 5) w2.heap.size 4) 1 w3 (w3.setCell ⟨B, 1, none⟩ (.slice (some ⟨g', 0, none⟩) (qn + 1) cap')) := ⟨by simp [World.setCell], fun x hx hc => Below.heap_setCell _ _ _ _ (fun e => hc (by rw [show x = B from e]; exact hcB3))⟩
  have rwN : RowsC (paint (paint col W.heap.size 5) w2.heap.size 4) 5 w3 rows (qn + 1) (vals ++ [.slice (some ⟨g, 0, none⟩) (rows qn).length c]) := ⟨by rw [List.length_append, h.rw_.1]; rfl, fun j hj => by
    by_cases e : j = qn
    · subst e
      exact ⟨g, c, by rw [List.getElem?_append_right (by rw [h.rw_.1]; omega), h.rw_.1]; simp, hsg, by rw [paint_old hg2]; exact hgc, by have := hk.size; omega⟩
    · obtain ⟨gj, cj, e1, e2⟩ := rw3.2 j (by omega)
      exact ⟨gj, cj, by rw [List.getElem?_append_left (by rw [h.rw_.1]; omega)]; exact e1, e2⟩⟩
  have hb3 : Below wb.heap.size wb w3 := Below.grown (hb2.alloc hb2.size o) hgrow (by have := hb2.size; rw [World.size_alloc]; omega) (fun x hx => (h.nx.own.lt x hx).1)
  have hl3 := (Array.getElem?_eq_some_iff.1 hB3).1
  refine ⟨hB3, _, ?_, by rw [paint_old hl3]; exact hcB3, h.bbs, owC_keep ow3 hk4 (by decide), owC_keep nx3 hk4 (by decide), rowsC_keep rwN hk4 (by decide), hb3.setCell h.bbs _, fun v hv g2 hg => ?_⟩
  · simp [World.setCell, Array.getElem?_modify, hB3]
  · rcases List.mem_append.1 hv with hv | hv
    · exact h.rb v hv g2 hg
    · simp only [List.mem_singleton] at hv
      subst hv
      have e1 : g = g2 := by simpa [Value.ownBlock] using hg
      have := h.bel.size
      omega
theorem mp_end {aN : Option Addr} {cN : Nat} {aO : Option Addr} {nO cO : Nat} (h : MpI wb rows col B k (.slice aO nO cO) K qn (.slice aN qn cN) vals W) (hk : qn ≤ maxLen) (hO : K.length = nO) (hmO : nO ≤ maxLen) (hwO : ∀ x ∈ K, (Lit.int .i64 x).wf = true) (N : List (List Int)) (hN : N.length = qn) (hr : ∀ j, j < qn → N.getD j [] = rows j) :
    ∀ W' : World, (∀ x, wb.heap.size ≤ x → x < W.heap.size → W'.heap[x]? = W.heap[x]?) → Sl2 W' aN qn N ∧ Sl W' aO nO K := fun W' hW' => by
  have hvl := h.rw_.1
  have h2 := ownsRow_of_block (w' := W') h.nx.own (fun x hx => hW' x (h.nx.own.lt x hx).1 (h.nx.own.lt x hx).2)
  rw [hvl] at h2
  have h3 := ownsRow_of_block (w' := W') h.ow.own (fun x hx => hW' x (h.ow.own.lt x hx).1 (h.ow.own.lt x hx).2)
  rw [List.length_map, hO] at h3
  obtain ⟨a1, c1, e1, hs1⟩ := sl_of_owns hO hmO hwO h3
  have e2 : a1 = aO := by simp at e1; exact e1.1.symm
  subst e2
  refine ⟨?_, hs1.1⟩
  rcases h2.2 with ⟨-, e2⟩ | ⟨g, cap, cur, e1, _⟩
  · exact ⟨hN, hk, Or.inl e2⟩
  · cases e1
    refine ⟨hN, hk, Or.inr ⟨g, 0, rfl, fun i hi => ?_⟩⟩
    obtain ⟨gi, ci, e1, e2, -, e4⟩ := h.rw_.2 i hi
    have hb := h.rb _ (List.mem_of_getElem? e1) gi (by simp [Value.ownBlock])
    rw [hr i hi, Nat.zero_add, h2.cellAt i (by omega)]
    exact ⟨_, ci, e1, sl_block e2 (hW' gi hb e4)⟩
end
def CloneR (w : World) (len : Nat) (l : List Int) (e : Ending) (w' : World) : Prop := ∃ g c, e = .returned (.slice (some ⟨g, 0, none⟩) len c) ∧ w'.ownsRow w.heap.size 3 1 (.slice (some ⟨g, 0, none⟩) len c) len (l.map (Value.int .i64)) ∧ Below w.heap.size w w'
theorem clone_any (a : Option Addr) (len cap : Nat) (l : List Int) (w : World) (hs : Sl w a len l) (h0 : 0 < len) (h1 : len ≤ 1000) : Calls Tryd.prog 42 #[.slice a len cap] w (CloneR w len l) := by
  obtain ⟨hl, hm, hw, hc⟩ := hs
  rcases hc with hc | ⟨b, o, rfl, hc⟩
  · omega
  · have h := Any.slices_Clone_int clnLays b o len cap l w (by omega) (by omega) (fun j hj => hc j (by omega))
    refine Calls.mono h ?_
    rintro e w' ⟨v', rfl, ho, hne, hb⟩
    rw [List.take_of_length_le (by omega)] at ho
    have ho2 : w'.ownsRow w.heap.size 3 1 v' len (l.map (Value.int .i64)) := ho
    rcases ho2.2 with ⟨e1, e2⟩ | ⟨g, c, cur, e1, _⟩
    · omega
    · subst e1
      exact ⟨g, c, rfl, ho2, hb⟩
end Go.Proofs.YtcpnfbjcgaonkafDoor
