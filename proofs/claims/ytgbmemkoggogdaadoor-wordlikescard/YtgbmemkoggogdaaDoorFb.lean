/- An automaton with outputs, and rows, that came in: opened. -/
import Derived.Test.YtgbmemkoggogdaaDoorFa
import Derived.Test.YtgbmemkoggogdaaDoorZKa
namespace Go.Proofs.YtgbmemkoggogdaaDoor
open Go.ChangeShapes Go.WideShapes Go.ChangeAt Go.RowKit Go.Joins Go.Deep

theorem ints_open {H : Type} {enc : TypeId × Value → H} {W : World} {base : Nat} {held : Bool} {fuel : Nat} {v : Value} {x : DataW H × List MemPlace} (h : DataW.trod enc Tryd.prog W base (fun _ => true) held fuel 23 [v] = some x) :
    ∃ a len cap l, v = .slice a len cap ∧ Sl W a len l := by
  rcases open_ints Tryd.underlying23 Tryd.underlying3 (by kernel_rfl) h with ⟨hcs, _⟩ | ⟨x, l, c, zs, hcs, _, hl, hm, hz, _, hcell, hwz⟩
  · simp at hcs
    exact ⟨none, 0, 0, _, hcs, sl_of_row (cap := 0) (zs := []) (.inl ⟨rfl, rfl, rfl, rfl⟩)⟩
  · simp at hcs
    exact ⟨some x, l, c, zs.take l, hcs, sl_of_row (.inr ⟨_, rfl, hl, hm, by simpa using hz, hcell, hwz⟩)⟩
set_option maxRecDepth 8000 in
theorem out_open {H : Type} {enc : TypeId × Value → H} {W : World} {base base' : Nat} {r : Reach} {v : Value} {d : DataW H} {p : List MemPlace} (hv : Value.okWide Tryd.prog W r base' 25 v) (h : DataW.Trod enc Tryd.prog W base (fun _ => true) true 25 v d p) :
    ∃ b a len cap a' len' cap' N O, v = outV b a len cap a' len' cap' ∧ Sl2 W a len N ∧ Sl W a' len' O := by
  obtain ⟨v0, v1, v2, y0, y1, y2, n, rfl, _, _, h0, h1, h2⟩ := open_agg3 Tryd.underlying25 (by kernel_rfl) (by kernel_rfl) hv h
  obtain ⟨b, e0, _, _⟩ := DataW.trod_int Tryd.underlying3 h0
  obtain ⟨a, len, cap, N, rfl, hN⟩ := rows_open h1
  obtain ⟨a', len', cap', O, rfl, hO⟩ := ints_open h2
  simp at e0
  subst e0
  exact ⟨b, a, len, cap, a', len', cap', N, O, rfl, hN, hO⟩
end Go.Proofs.YtgbmemkoggogdaaDoor
