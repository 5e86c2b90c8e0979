/- A slice appended to another one; the automaton twos of the laws; a fact of it. -/
import Derived.Laws.AppendOwnNone
import Derived.Test.YtkighkpmebcnhacZNx
namespace Go.Proofs.Ytkighkpmebcnhac
open Go.RowKit

theorem sl_news {w : World} {ad : Addr} {len : Nat} {l : List Int} (h : Sl w (some ad) len l) : ∀ j u, (l.map (Value.int .i64))[j]? = some u → w.cell? (ad.add j) = some u := by
  intro j u hj
  have hjl : j < l.length := by have := (List.getElem?_eq_some_iff.1 hj).1; simpa using this
  obtain ⟨b, o, e, hc⟩ := sl_cell h j (by rw [← h.1]; exact hjl)
  cases e
  rw [Addr.add_lit, hc]
  simp [hjl] at hj
  simp [List.getD, hjl, hj]

def TwosU (w : World) (e : Ending) (w' : World) : Prop := ∃ a c a' c', e = .returned (.agg #[.int .i64 2, .int .i64 1, .slice a 2 c, .slice a' 2 c']) ∧ Sl2 w' a 2 [[0, 1], [1, 0]] ∧ SlB w' a' 2 [false, true] ∧ Below w.heap.size w w'

theorem twos_world (w : World) (T T2 T3 : TypeId) (o : Obj) :
    Sl2 (((((w.alloc o).alloc (.cells #[.int .i64 0, .int .i64 1] T)).alloc (.cells #[.int .i64 1, .int .i64 0] T)).alloc (.cells #[.slice (some ⟨w.heap.size + 1, 0, none⟩) 2 2, .slice (some ⟨w.heap.size + 2, 0, none⟩) 2 2] T2)).alloc (.cells #[.bool false, .bool true] T3)) (some ⟨w.heap.size + 3, 0, none⟩) 2 [[0, 1], [1, 0]] ∧
    SlB (((((w.alloc o).alloc (.cells #[.int .i64 0, .int .i64 1] T)).alloc (.cells #[.int .i64 1, .int .i64 0] T)).alloc (.cells #[.slice (some ⟨w.heap.size + 1, 0, none⟩) 2 2, .slice (some ⟨w.heap.size + 2, 0, none⟩) 2 2] T2)).alloc (.cells #[.bool false, .bool true] T3)) (some ⟨w.heap.size + 4, 0, none⟩) 2 [false, true] ∧
    Below w.heap.size w (((((w.alloc o).alloc (.cells #[.int .i64 0, .int .i64 1] T)).alloc (.cells #[.int .i64 1, .int .i64 0] T)).alloc (.cells #[.slice (some ⟨w.heap.size + 1, 0, none⟩) 2 2, .slice (some ⟨w.heap.size + 2, 0, none⟩) 2 2] T2)).alloc (.cells #[.bool false, .bool true] T3)) := by
  have h1 := heap_alloc_last (w.alloc o) (.cells #[.int .i64 0, .int .i64 1] T)
  have h2 := heap_alloc_last ((w.alloc o).alloc (.cells #[.int .i64 0, .int .i64 1] T)) (.cells #[.int .i64 1, .int .i64 0] T)
  have h3 := heap_alloc_last (((w.alloc o).alloc (.cells #[.int .i64 0, .int .i64 1] T)).alloc (.cells #[.int .i64 1, .int .i64 0] T)) (.cells #[.slice (some ⟨w.heap.size + 1, 0, none⟩) 2 2, .slice (some ⟨w.heap.size + 2, 0, none⟩) 2 2] T2)
  have h4 := heap_alloc_last ((((w.alloc o).alloc (.cells #[.int .i64 0, .int .i64 1] T)).alloc (.cells #[.int .i64 1, .int .i64 0] T)).alloc (.cells #[.slice (some ⟨w.heap.size + 1, 0, none⟩) 2 2, .slice (some ⟨w.heap.size + 2, 0, none⟩) 2 2] T2)) (.cells #[.bool false, .bool true] T3)
  simp only [World.size_alloc] at h1 h2 h3 h4
  have g3 := (Below.heap_alloc _ (.cells #[.bool false, .bool true] T3) (w.heap.size + 3) (by simp)).trans h3
  have g2 := (Below.heap_alloc _ (.cells #[.bool false, .bool true] T3) (w.heap.size + 2) (by simp)).trans ((Below.heap_alloc _ (.cells #[.slice (some ⟨w.heap.size + 1, 0, none⟩) 2 2, .slice (some ⟨w.heap.size + 2, 0, none⟩) 2 2] T2) (w.heap.size + 2) (by simp)).trans h2)
  have g1 := (Below.heap_alloc _ (.cells #[.bool false, .bool true] T3) (w.heap.size + 1) (by simp)).trans ((Below.heap_alloc _ (.cells #[.slice (some ⟨w.heap.size + 1, 0, none⟩) 2 2, .slice (some ⟨w.heap.size + 2, 0, none⟩) 2 2] T2) (w.heap.size + 1) (by simp)).trans ((Below.heap_alloc _ (.cells #[.int .i64 1, .int .i64 0] T) (w.heap.size + 1) (by simp)).trans h1))
  have hB : Below w.heap.size w (((((w.alloc o).alloc (.cells #[.int .i64 0, .int .i64 1] T)).alloc (.cells #[.int .i64 1, .int .i64 0] T)).alloc (.cells #[.slice (some ⟨w.heap.size + 1, 0, none⟩) 2 2, .slice (some ⟨w.heap.size + 2, 0, none⟩) 2 2] T2)).alloc (.cells #[.bool false, .bool true] T3)) :=
    (((((Below.refl _ _).alloc (Nat.le_refl _) _).alloc (by simp) _).alloc (by simp; omega) _).alloc (by simp; omega) _).alloc (by simp; omega) _
  generalize (((((w.alloc o).alloc (.cells #[.int .i64 0, .int .i64 1] T)).alloc (.cells #[.int .i64 1, .int .i64 0] T)).alloc (.cells #[.slice (some ⟨w.heap.size + 1, 0, none⟩) 2 2, .slice (some ⟨w.heap.size + 2, 0, none⟩) 2 2] T2)).alloc (.cells #[.bool false, .bool true] T3)) = W at g1 g2 g3 h4 hB ⊢
  have c1 : ∀ i, W.cell? ⟨w.heap.size + 1, i, none⟩ = #[Value.int .i64 0, .int .i64 1][i]? := fun i => by simp [World.cell?, g1]
  have c2 : ∀ i, W.cell? ⟨w.heap.size + 2, i, none⟩ = #[Value.int .i64 1, .int .i64 0][i]? := fun i => by simp [World.cell?, g2]
  have c3 : ∀ i, W.cell? ⟨w.heap.size + 3, i, none⟩ = #[Value.slice (some ⟨w.heap.size + 1, 0, none⟩) 2 2, .slice (some ⟨w.heap.size + 2, 0, none⟩) 2 2][i]? := fun i => by simp [World.cell?, g3]
  have c4 : ∀ i, W.cell? ⟨w.heap.size + 4, i, none⟩ = #[Value.bool false, .bool true][i]? := fun i => by simp [World.cell?, h4]
  have two : ∀ i, i < 2 → i = 0 ∨ i = 1 := by omega
  have s1 : Sl W (some ⟨w.heap.size + 1, 0, none⟩) 2 [0, 1] := ⟨rfl, by decide, by decide, Or.inr ⟨_, 0, rfl, fun i hi => by rcases two i hi with rfl | rfl <;> exact c1 _⟩⟩
  have s2 : Sl W (some ⟨w.heap.size + 2, 0, none⟩) 2 [1, 0] := ⟨rfl, by decide, by decide, Or.inr ⟨_, 0, rfl, fun i hi => by rcases two i hi with rfl | rfl <;> exact c2 _⟩⟩
  refine ⟨⟨rfl, by decide, Or.inr ⟨_, 0, rfl, fun i hi => ?_⟩⟩, ⟨rfl, by decide, Or.inr ⟨_, 0, rfl, fun i hi => by rcases two i hi with rfl | rfl <;> exact c4 _⟩⟩, hB⟩
  rcases two i hi with rfl | rfl
  · exact ⟨_, 2, c3 0, s1⟩
  · exact ⟨_, 2, c3 1, s2⟩

set_option maxHeartbeats 1000000 in
set_option maxRecDepth 4000 in
theorem twos_any (w : World) : Calls Try.prog 8 #[] w (TwosU w) := by
  go_enter Try.func8, Try.ntmps8
  go_wp2
  exact bodyPost_ret (v := .agg #[.int .i64 2, .int .i64 1, .slice (some ⟨w.heap.size + 3, 0, none⟩) 2 2, .slice (some ⟨w.heap.size + 4, 0, none⟩) 2 2]) (by simp [results, Try.results8, go_sem]) rfl ⟨_, 2, _, 2, rfl, twos_world w 3 26 4 _⟩

end Go.Proofs.Ytkighkpmebcnhac
