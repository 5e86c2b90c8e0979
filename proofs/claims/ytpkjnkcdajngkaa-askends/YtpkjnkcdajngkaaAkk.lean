/- The laws' automaton of multiples of three: contract, and what is answered about it. -/
import Derived.Test.YtpkjnkcdajngkaaAkh
import Derived.Test.YtpkjnkcdajngkaaU
import Derived.BigQuiet
namespace Go.Proofs.Ytpkjnkcdajngkaa
open Go.RowKit

def thrN : List (List Int) := [[0, 1], [2, 0], [1, 2]]
def thrE : List Bool := [true, false, false]
theorem thr_world (w : World) (T T2 T3 : TypeId) (o : Obj) (W : World) (h : (((((w.alloc o).alloc (.cells #[.int .i64 0, .int .i64 1] T)).alloc (.cells #[.int .i64 2, .int .i64 0] T)).alloc (.cells #[.int .i64 1, .int .i64 2] T)).alloc (.cells #[.slice (some ⟨w.heap.size + 1, 0, none⟩) 2 2, .slice (some ⟨w.heap.size + 2, 0, none⟩) 2 2, .slice (some ⟨w.heap.size + 3, 0, none⟩) 2 2] T2)).alloc (.cells #[.bool true, .bool false, .bool false] T3) = W) :
    Sl2 W (some ⟨w.heap.size + 4, 0, none⟩) 3 thrN ∧ SlB W (some ⟨w.heap.size + 5, 0, none⟩) 3 thrE ∧ Below w.heap.size w W := by
  obtain ⟨-, hB, -, g1, g2, g3, g4, g5⟩ := six_boxes w _ _ _ _ _ _ W h
  have c1 : ∀ i, W.cell? ⟨w.heap.size + 1, i, none⟩ = #[Value.int .i64 0, .int .i64 1][i]? := fun i => by simp [World.cell?, g1]
  have c2 : ∀ i, W.cell? ⟨w.heap.size + 2, i, none⟩ = #[Value.int .i64 2, .int .i64 0][i]? := fun i => by simp [World.cell?, g2]
  have c3 : ∀ i, W.cell? ⟨w.heap.size + 3, i, none⟩ = #[Value.int .i64 1, .int .i64 2][i]? := fun i => by simp [World.cell?, g3]
  have c4 : ∀ i, W.cell? ⟨w.heap.size + 4, i, none⟩ = #[Value.slice (some ⟨w.heap.size + 1, 0, none⟩) 2 2, .slice (some ⟨w.heap.size + 2, 0, none⟩) 2 2, .slice (some ⟨w.heap.size + 3, 0, none⟩) 2 2][i]? := fun i => by simp [World.cell?, g4]
  have c5 : ∀ i, W.cell? ⟨w.heap.size + 5, i, none⟩ = #[Value.bool true, .bool false, .bool false][i]? := fun i => by simp [World.cell?, g5]
  have two : ∀ i, i < 2 → i = 0 ∨ i = 1 := by omega
  have three : ∀ i, i < 3 → i = 0 ∨ i = 1 ∨ i = 2 := by omega
  have s1 : Sl W (some ⟨w.heap.size + 1, 0, none⟩) 2 [0, 1] := ⟨rfl, by decide, by decide, Or.inr ⟨_, 0, rfl, fun i hi => by rcases two i hi with rfl | rfl <;> exact c1 _⟩⟩
  have s2 : Sl W (some ⟨w.heap.size + 2, 0, none⟩) 2 [2, 0] := ⟨rfl, by decide, by decide, Or.inr ⟨_, 0, rfl, fun i hi => by rcases two i hi with rfl | rfl <;> exact c2 _⟩⟩
  have s3 : Sl W (some ⟨w.heap.size + 3, 0, none⟩) 2 [1, 2] := ⟨rfl, by decide, by decide, Or.inr ⟨_, 0, rfl, fun i hi => by rcases two i hi with rfl | rfl <;> exact c3 _⟩⟩
  refine ⟨⟨rfl, by decide, Or.inr ⟨_, 0, rfl, fun i hi => ?_⟩⟩, ⟨rfl, by decide, Or.inr ⟨_, 0, rfl, fun i hi => by rcases three i hi with rfl | rfl | rfl <;> exact c5 _⟩⟩, hB⟩
  rcases three i hi with rfl | rfl | rfl
  · exact ⟨_, 2, c4 0, s1⟩
  · exact ⟨_, 2, c4 1, s2⟩
  · exact ⟨_, 2, c4 2, s3⟩
end Go.Proofs.Ytpkjnkcdajngkaa
