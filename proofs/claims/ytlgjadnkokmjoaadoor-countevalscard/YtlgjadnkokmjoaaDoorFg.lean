/- What counts by matrices, that came in: opened. -/
import Derived.Test.YtlgjadnkokmjoaaDoorCtf
import Derived.Test.YtlgjadnkokmjoaaDoorFb
import Derived.Deep.Slices
namespace Go.Proofs.YtlgjadnkokmjoaaDoor
open Go.ChangeShapes Go.WideShapes Go.ChangeAt Go.RowKit Go.Joins Go.Deep

set_option maxRecDepth 8000 in
theorem squares_open {H : Type} {enc : TypeId × Value → H} {W : World} {base : Nat} {held : Bool} {fuel : Nat} {v : Value} {x : DataW H × List MemPlace} (h : DataW.trod enc Tryd.prog W base (fun _ => true) held fuel 36 [v] = some x) :
    ∃ a len cap L, v = .slice a len cap ∧ Sl3 W a len L := by
  rcases open_slice Tryd.underlying36 h with ⟨hcs, _⟩ | ⟨a, len, cap, m, n, D, Pl, hcs, hb, hl, hm, hmm, _, hx⟩
  · simp at hcs
    exact ⟨none, 0, 0, [], hcs, rfl, by decide, Or.inl rfl⟩
  · simp at hcs
    have hmc : m = cap := by simpa using hmm
    subst hmc
    have each : ∀ i, i < m → ∃ q : List (List Int) × Option Addr × Nat, W.cell? (a.add i) = some (.slice q.2.1 q.1.length q.2.2) ∧ Sl2 W q.2.1 q.1.length q.1 := by
      intro i hi
      obtain ⟨cs', h1, h2⟩ := hx i hi
      rw [show Tryd.prog.cellsOf 22 = 1 by kernel_rfl, Nat.mul_one] at h1
      obtain ⟨_, hlen, hcell⟩ := World.cells?_some h1
      match cs', hlen with
      | [c0], _ =>
        obtain ⟨a1, l1, c1, N, rfl, hs⟩ := rows_open h2
        have q0 := hcell 0 (by decide)
        rw [add_add] at q0
        have hl1 := hs.1
        subst hl1
        exact ⟨(N, a1, c1), by simpa using q0, hs⟩
    obtain ⟨q, hq⟩ := choose_lt each
    refine ⟨some a, len, m, (List.range len).map fun i => (q i).1, hcs, by simp, by omega, ?_⟩
    by_cases h0 : len = 0
    · exact .inl h0
    · obtain ⟨b, off, spot⟩ := a
      have hspot : spot = none := by simpa [Addr.add] using World.cell?_spot (hq 0 (by omega)).1
      subst hspot
      refine .inr ⟨b, off, rfl, fun i hi => ⟨(q i).2.1, (q i).2.2, ?_⟩⟩
      have hget : ((List.range len).map fun i => (q i).1).getD i [] = (q i).1 := by simp [List.getD, hi]
      rw [hget]
      obtain ⟨e0, hs⟩ := hq i (by omega)
      rw [Go.WideShapes.add_plain] at e0
      exact ⟨e0, hs⟩
theorem fiveL {α : Type} {cs : Array α} (h : cs.size = 5) : ∃ c0 c1 c2 c3 c4, cs = #[c0, c1, c2, c3, c4] := by
  obtain ⟨l⟩ := cs
  match l, h with
  | [c0, c1, c2, c3, c4], _ => exact ⟨c0, c1, c2, c3, c4, rfl⟩
set_option maxRecDepth 8000 in
theorem rep_open {H : Type} {enc : TypeId × Value → H} {W : World} {base base' : Nat} {r : Reach} {v : Value} {d : DataW H} {p : List MemPlace} (hv : Value.okWide Tryd.prog W r base' 38 v) (h : DataW.Trod enc Tryd.prog W base (fun _ => true) true 38 v d p) :
    ∃ b t a1 n1 c1 a2 n2 c2 a3 n3 c3 F S L, v = .agg #[.int .i64 b, .int .i64 t, .slice a1 n1 c1, .slice a2 n2 c2, .slice a3 n3 c3] ∧ Sl W a1 n1 F ∧ Sl3 W a2 n2 S ∧ Sl W a3 n3 L := by
  obtain ⟨cs, rfl, hsz⟩ := okWide_struct Tryd.underlying38 hv
  obtain ⟨c0, c1, c2, c3, c4, rfl⟩ := fiveL (hsz.trans (show Tryd.prog.cellsOf 38 = 5 by kernel_rfl))
  obtain ⟨fuel, hf⟩ := h
  obtain ⟨xs, k, hk, hxy, _, hxl, hq⟩ := DataW.trod_struct Tryd.underlying38 hf
  match xs, hxl with
  | [y0, y1, y2, y3, y4], _ =>
    have g0 := hq 0 _ rfl
    have g1 := hq 1 _ rfl
    have g2 := hq 2 _ rfl
    have g3 := hq 3 _ rfl
    have g4 := hq 4 _ rfl
    have ci : Tryd.prog.cellsOf 3 = 1 := by kernel_rfl
    have cl : Tryd.prog.cellsOf 35 = 1 := by kernel_rfl
    have cq : Tryd.prog.cellsOf 36 = 1 := by kernel_rfl
    simp [ci, cl, cq, Value.cells] at g0 g1 g2 g3 g4
    obtain ⟨b, e0, _, _⟩ := DataW.trod_int Tryd.underlying3 g0
    obtain ⟨t, e1, _, _⟩ := DataW.trod_int Tryd.underlying3 g1
    obtain ⟨a1, n1, k1, F, rfl, hF⟩ := ints_open g2
    obtain ⟨a2, n2, k2, S, rfl, hS⟩ := squares_open g3
    obtain ⟨a3, n3, k3, L, rfl, hL⟩ := ints_open g4
    simp at e0 e1
    subst e0 e1
    exact ⟨b, t, a1, n1, k1, a2, n2, k2, a3, n3, k3, F, S, L, rfl, hF, hS, hL⟩
end Go.Proofs.YtlgjadnkokmjoaaDoor
