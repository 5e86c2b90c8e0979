/- 2 texts in one. -/
import Derived.Test.YtleebojibobgaaaGreatDoorMa
import Derived.Test.YtleebojibobgaaaGreatDoorB
import Derived.Test.YtleebojibobgaaaGreatDoorZG
import Derived.Test.YtleebojibobgaaaGreatDoorZLb
import Derived.Test.YtleebojibobgaaaGreatDoorZNx
import Derived.Test.YtleebojibobgaaaGreatDoorZLp
/- The reference's words: TrackOf, WordFault, RightWord: contracts. -/
namespace Go.Proofs.YtleebojibobgaaaGreatDoor
open Go.RowKit

/-- A row that the call appends to, and what it has. -/
def Grow (w : World) (xs : List Int) (v : Value) (wr : World) : Prop := wr.ownsRow w.heap.size 3 1 v xs.length (xs.map (Value.int .i64)) ∧ Below w.heap.size w wr

theorem grow_nil (w : World) : Grow w [] (.slice none 0 0) w := ⟨World.ownsRow_nil _ _ _ _, Below.refl _ _⟩
theorem grow_push {w wr w3 : World} {xs : List Int} {v v' : Value} {x : Int} {o : Obj} (h : Grow w xs v wr) (hown : w3.ownsRow w.heap.size 3 1 v' (xs.length + 1) (xs.map (Value.int .i64) ++ [.int .i64 x])) (hgrow : (wr.alloc o).grownBy w3 v.ownBlock) : Grow w (xs ++ [x]) v' w3 := by
  refine ⟨by rw [List.length_append, List.map_append]; exact hown, ?_⟩
  exact Below.grown (h.2.alloc h.2.size o) hgrow (by have := h.2.size; simp; omega) (fun k hk => (h.1.lt k hk).1)
theorem grow_below {w wr w' : World} {xs : List Int} {v : Value} (h : Grow w xs v wr) (hb : Below wr.heap.size wr w') : Grow w xs v w' :=
  ⟨ownsRow_of_block h.1 (fun k hk => hb.block _ (h.1.lt k hk).2), below_step h.2 hb⟩
end Go.Proofs.YtleebojibobgaaaGreatDoor

/- The reference's WordOf: contract. -/
namespace Go.Proofs.YtleebojibobgaaaGreatDoor
open Go.RowKit

/-- Rows gathered by append, behind k numbers. -/
def RwAt (w : World) (ls : Nat → List Int) (k : Nat) (v : Value) (wr : World) : Prop :=
  ∃ vals : List Value, wr.ownsRow w.heap.size 42 1 v k vals ∧ (∀ j, j < k → ∃ a cap, vals[j]? = some (.slice a (ls j).length cap) ∧ Sl wr a (ls j).length (ls j) ∧ ∀ x, slB a (ls j).length x → v.ownBlock ≠ some x) ∧ Below w.heap.size w wr

theorem rwAt_nil (w : World) (ls : Nat → List Int) : RwAt w ls 0 (.slice none 0 0) w := ⟨[], World.ownsRow_nil _ _ _ _, fun j hj => by omega, Below.refl _ _⟩

theorem rwAt_push {w wr w2 : World} {ls : Nat → List Int} {k : Nat} {v : Value} {a : Option Addr} {cap : Nat} (h : RwAt w ls k v wr) (hb : Below wr.heap.size wr w2) (hs : SlN wr.heap.size w2 a (ls k).length (ls k)) :
    ∃ vals : List Value, w2.ownsRow w.heap.size 42 1 v k vals ∧ w.heap.size ≤ w2.heap.size ∧
      ∀ (w3 : World) (o : Obj) (g' cap' : Nat), w3.ownsRow w.heap.size 42 1 (.slice (some ⟨g', 0, none⟩) (k + 1) cap') (k + 1) (vals ++ [.slice a (ls k).length cap]) → (w2.alloc o).grownBy w3 v.ownBlock → (v.ownBlock = some g' ∨ g' = (w2.alloc o).heap.size) → RwAt w ls (k + 1) (.slice (some ⟨g', 0, none⟩) (k + 1) cap') w3 := by
  obtain ⟨vals, h1, h2, h3⟩ := h
  have h1' : w2.ownsRow w.heap.size 42 1 v k vals := ownsRow_of_block h1 (fun x hx => hb.block _ (h1.lt x hx).2)
  have hvl : vals.length = k := by have := h1.1; omega
  refine ⟨vals, h1', Nat.le_trans h3.size hb.size, fun w3 o g' cap' hown hgrow hat => ?_⟩
  have hsz : (w2.alloc o).heap.size = w2.heap.size + 1 := by simp
  have keep : ∀ {a' len' l'}, Sl w2 a' len' l' → (∀ x, slB a' len' x → v.ownBlock ≠ some x) → Sl w3 a' len' l' := fun {a' len' l'} hs' hne => sl_keep hs' fun x hx => by
    have hlt := slB_lt hs' hx
    rw [hgrow.block x (by omega) (fun e => hne x hx e.symm), Below.heap_alloc _ _ _ hlt]
  have far : ∀ {a' len' l'}, Sl w2 a' len' l' → (∀ x, slB a' len' x → v.ownBlock ≠ some x) → ∀ x, slB a' len' x → Value.ownBlock (.slice (some ⟨g', 0, none⟩) (k + 1) cap') ≠ some x := fun {a' len' l'} hs' hne x hx e => by
    have hlt := slB_lt hs' hx
    have e' : g' = x := by simpa [Value.ownBlock] using e
    subst e'
    rcases hat with h | h
    · exact hne _ hx h
    · omega
  have hnew : ∀ x, slB a (ls k).length x → v.ownBlock ≠ some x := fun x hx e => by
    obtain ⟨_, ad, e1, rfl⟩ := hx
    have := hs.2 ad e1
    have := (h1.lt _ e).2
    omega
  refine ⟨vals ++ [.slice a (ls k).length cap], hown, fun j hj => ?_, Below.grown ((below_step h3 hb).alloc (below_step h3 hb).size o) hgrow (by have := (below_step h3 hb).size; omega) (fun x hx => (h1.lt x hx).1)⟩
  by_cases e : j = k
  · subst e
    exact ⟨a, cap, by rw [List.getElem?_append_right (by omega), hvl]; simp, keep hs.1 hnew, far hs.1 hnew⟩
  · obtain ⟨a', cap', e1, e2, e3⟩ := h2 j (by omega)
    exact ⟨a', cap', by rw [List.getElem?_append_left (by omega)]; exact e1, keep (sl_below e2 hb) e3, far (sl_below e2 hb) e3⟩

theorem rwAt_end {w wr : World} {ls : Nat → List Int} {k : Nat} {v : Value} (h : RwAt w ls k v wr) (hk : k ≤ maxLen) (L : List (List Int)) (hL : L.length = k) (hl : ∀ j, j < k → L.getD j [] = ls j) : ∃ a cap, v = .slice a k cap ∧ Sl2 wr a k L := by
  obtain ⟨vals, ⟨h0, h1⟩, h2, h3⟩ := h
  rcases h1 with ⟨rfl, rfl⟩ | ⟨g, cap, cur, rfl, hg, hh, hc, hcm, hcs, ht⟩
  · exact ⟨none, 0, rfl, hL, hk, Or.inl rfl⟩
  · refine ⟨_, cap, rfl, hL, hk, Or.inr ⟨g, 0, rfl, fun i hi => ?_⟩⟩
    obtain ⟨a', cap', e1, e2, _⟩ := h2 i hi
    rw [hl i hi]
    refine ⟨a', cap', ?_, e2⟩
    rw [cell_of_row wr g (0 + i) cur 42 (0, 0) hh, Nat.zero_add]
    have h3 : (cur.toList.take (k * 1))[i]? = vals[i]? := by rw [ht]
    rw [List.getElem?_take, if_pos (by omega), Array.getElem?_toList] at h3
    rw [h3, e1]

end Go.Proofs.YtleebojibobgaaaGreatDoor
