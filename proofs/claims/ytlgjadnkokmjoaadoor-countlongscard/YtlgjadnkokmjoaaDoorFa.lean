/- An automaton that came in: opened. -/
import Derived.Deep.Grids
import Derived.Deep.Matrix
import Derived.Lib.SmallJoins
import Derived.Test.YtlgjadnkokmjoaaDoorZNx
import Derived.Test.YtlgjadnkokmjoaaDoorFr
namespace Go.Proofs.YtlgjadnkokmjoaaDoor
open Go.ChangeShapes Go.WideShapes Go.ChangeAt Go.RowKit Go.Joins Go.Deep

theorem rows_at {w : World} {x : Addr} {V : Nat → Value} {n : Nat} (h : ∀ i, i < n → w.cell? (x.add i) = some (V i)) (hp : 0 < n) :
    ∃ b off, x = ⟨b, off, none⟩ ∧ ∀ j, j < n → w.cell? ⟨b, off + j, none⟩ = some (V j) := by
  obtain ⟨b, off, spot⟩ := x
  have hspot : spot = none := by simpa [Addr.add] using World.cell?_spot (h 0 hp)
  subst hspot
  exact ⟨b, off, rfl, fun j hj => by rw [← Go.WideShapes.add_plain]; exact h j hj⟩

theorem rows_open {H : Type} {enc : TypeId × Value → H} {W : World} {base : Nat} {held : Bool} {fuel : Nat} {v : Value} {x : DataW H × List MemPlace} (h : DataW.trod enc Tryd.prog W base (fun _ => true) held fuel 22 [v] = some x) :
    ∃ a len cap N, v = .slice a len cap ∧ Sl2 W a len N := by
  rcases open_int_rows Tryd.underlying22 Tryd.underlying35 Tryd.underlying3 (by kernel_rfl) (by kernel_rfl) h with ⟨hcs, _⟩ | ⟨a, len, cap, Ad, L, C, Z, hcs, _, hl, hm, _, hr⟩
  · simp at hcs
    exact ⟨none, 0, 0, [], hcs, rfl, by decide, Or.inl rfl⟩
  · simp at hcs
    refine ⟨some a, len, cap, (List.range len).map fun r => (Z r).take (L r), hcs, by simp, by omega, ?_⟩
    by_cases h0 : len = 0
    · exact Or.inl h0
    · obtain ⟨b, o, rfl, hc⟩ := rows_at (V := fun r => .slice (Ad r) (L r) (C r)) (n := cap) (fun i hi => (hr i hi).1) (by omega)
      refine Or.inr ⟨b, o, rfl, fun i hi => ?_⟩
      have hget : ((List.range len).map fun r => (Z r).take (L r)).getD i [] = (Z i).take (L i) := by simp [List.getD, hi]
      obtain ⟨_, h1, h2, h3, h4, h5, h6⟩ := hr i (by omega)
      have hlen : ((Z i).take (L i)).length = L i := by rw [List.length_take]; omega
      rw [hget, hlen]
      refine ⟨Ad i, C i, hc i (by omega), ?_⟩
      cases hA : Ad i with
      | none =>
        have hC := h5 hA
        have hL : L i = 0 := by omega
        refine ⟨hlen, by omega, fun n hn => h4 n (List.mem_of_mem_take hn), Or.inl hL⟩
      | some ad =>
        exact sl_of_row (cap := C i) (Or.inr ⟨ad, rfl, h1, h2, h3, fun c hc' => (h6 ad hA).2 c (by omega), h4⟩)

theorem bools_open {H : Type} {enc : TypeId × Value → H} {W : World} {base : Nat} {held : Bool} {fuel : Nat} {v : Value} {x : DataW H × List MemPlace} (h : DataW.trod enc Tryd.prog W base (fun _ => true) held fuel 23 [v] = some x) :
    ∃ a len cap E, v = .slice a len cap ∧ SlB W a len E := by
  rcases open_bools Tryd.underlying23 Tryd.underlying4 (by kernel_rfl) h with ⟨hcs, _⟩ | ⟨a, len, cap, B, hcs, _, hl, hm, _, hc⟩
  · simp at hcs
    exact ⟨none, 0, 0, [], hcs, rfl, by decide, Or.inl rfl⟩
  · simp at hcs
    refine ⟨some a, len, cap, (List.range len).map B, hcs, by simp, by omega, ?_⟩
    by_cases h0 : len = 0
    · exact Or.inl h0
    · obtain ⟨b, o, rfl, hc'⟩ := rows_at (V := fun r => .bool (B r)) (n := cap) hc (by omega)
      refine Or.inr ⟨b, o, rfl, fun i hi => ?_⟩
      rw [hc' i (by omega)]
      simp [List.getD, hi]

set_option maxRecDepth 8000 in
theorem auto_open {H : Type} {enc : TypeId × Value → H} {W : World} {base base' : Nat} {r : Reach} {v : Value} {d : DataW H} {p : List MemPlace} (hv : Value.okWide Tryd.prog W r base' 25 v) (h : DataW.Trod enc Tryd.prog W base (fun _ => true) true 25 v d p) :
    ∃ b t a len cap a' len' cap' N E, v = .agg #[.int .i64 b, .int .i64 t, .slice a len cap, .slice a' len' cap'] ∧ Sl2 W a len N ∧ SlB W a' len' E := by
  obtain ⟨v0, v1, v2, v3, y0, y1, y2, y3, n, rfl, _, _, h0, h1, h2, h3⟩ := open_agg4 Tryd.underlying25 (by kernel_rfl) (by kernel_rfl) hv h
  obtain ⟨b, e0, _, _⟩ := DataW.trod_int Tryd.underlying3 h0
  obtain ⟨t, e1, _, _⟩ := DataW.trod_int Tryd.underlying3 h1
  obtain ⟨a, len, cap, N, rfl, hN⟩ := rows_open h2
  obtain ⟨a', len', cap', E, rfl, hE⟩ := bools_open h3
  simp at e0 e1
  subst e0 e1
  exact ⟨b, t, a, len, cap, a', len', cap', N, E, rfl, hN, hE⟩
end Go.Proofs.YtlgjadnkokmjoaaDoor
