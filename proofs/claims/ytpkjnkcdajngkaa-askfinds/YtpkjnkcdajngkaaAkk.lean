/- The laws' automaton of multiples of three: contract, and what is answered about it. -/
import Derived.Test.YtpkjnkcdajngkaaAkj
namespace Go.Proofs.Ytpkjnkcdajngkaa
open Go.RowKit

def thrN : List (List Int) := [[0, 1], [2, 0], [1, 2]]
def thrE : List Bool := [true, false, false]
def ThrU (w : World) (e : Ending) (w' : World) : Prop := ∃ a c a' c', e = .returned (.agg #[.int .i64 2, .int .i64 1, .slice a 3 c, .slice a' 3 c']) ∧ Sl2 w' a 3 thrN ∧ SlB w' a' 3 thrE ∧ Below w.heap.size w w'
theorem thr_world (w : World) (T T2 T3 : TypeId) (o : Obj) (W : World) (h : (((((w.alloc o).alloc (.cells #[.int .i64 0, .int .i64 1] T)).alloc (.cells #[.int .i64 2, .int .i64 0] T)).alloc (.cells #[.int .i64 1, .int .i64 2] T)).alloc (.cells #[.slice (some ⟨w.heap.size + 1, 0, none⟩) 2 2, .slice (some ⟨w.heap.size + 2, 0, none⟩) 2 2, .slice (some ⟨w.heap.size + 3, 0, none⟩) 2 2] T2)).alloc (.cells #[.bool true, .bool false, .bool false] T3) = W) :
    Sl2 W (some ⟨w.heap.size + 4, 0, none⟩) 3 thrN ∧ SlB W (some ⟨w.heap.size + 5, 0, none⟩) 3 thrE ∧ Below w.heap.size w W := by
  obtain ⟨-, hB, -, g1, g2, g3, g4, g5⟩ := six_boxes w _ _ _ _ _ _ W h
  have c1 : ∀ i, W.cell? ⟨w.heap.size + 1, i, none⟩ = #[Value.int .i64 0, .int .i64 1][i]? := fun i => by simp [World.cell?, g1]
  have c2 : ∀ i, W.cell? ⟨w.heap.size + 2, i, none⟩ = #[Value.int .i64 2, .int .i64 0][i]? := fun i => by simp [World.cell?, g2]
  have c3 : ∀ i, W.cell? ⟨w.heap.size + 3, i, none⟩ = #[Value.int .i64 1, .int .i64 2][i]? := fun i => by simp [World.cell?, g3]
  have c4 : ∀ i, W.cell? ⟨w.heap.size + 4, i, none⟩ = #[Value.slice (some ⟨w.heap.size + 1, 0, none⟩) 2 2, .slice (some ⟨w.heap.size + 2, 0, none⟩) 2 2, .slice (some ⟨w.heap.size + 3, 0, none⟩) 2 2][i]? := fun i => by simp [World.cell?, g4]
  have c5 : ∀ i, W.cell? ⟨w.heap.size + 5, i, none⟩ = #[Value.bool true, .bool false, .bool false][i]? := fun i => by simp [World.cell?, g5]
  have two : ∀ i, i < 2 → i = 0 ∨ i = 1 := by omega
  have three : ∀ i, i < 3 → i = 0 ∨ i = 1 ∨ i = 2 := by omega
  have s1 : Sl W (some ⟨w.heap.size + 1, 0, none⟩) 2 [0, 1] := ⟨rfl, by decide, by decide, Or.inr ⟨_, 0, rfl, fun i hi => by rcases two i hi with rfl | rfl <;> exact c1 _⟩⟩
  have s2 : Sl W (some ⟨w.heap.size + 2, 0, none⟩) 2 [2, 0] := ⟨rfl, by decide, by decide, Or.inr ⟨_, 0, rfl, fun i hi => by rcases two i hi with rfl | rfl <;> exact c2 _⟩⟩
  have s3 : Sl W (some ⟨w.heap.size + 3, 0, none⟩) 2 [1, 2] := ⟨rfl, by decide, by decide, Or.inr ⟨_, 0, rfl, fun i hi => by rcases two i hi with rfl | rfl <;> exact c3 _⟩⟩
  refine ⟨⟨rfl, by decide, Or.inr ⟨_, 0, rfl, fun i hi => ?_⟩⟩, ⟨rfl, by decide, Or.inr ⟨_, 0, rfl, fun i hi => by rcases three i hi with rfl | rfl | rfl <;> exact c5 _⟩⟩, hB⟩
  rcases three i hi with rfl | rfl | rfl
  · exact ⟨_, 2, c4 0, s1⟩
  · exact ⟨_, 2, c4 1, s2⟩
  · exact ⟨_, 2, c4 2, s3⟩
set_option maxHeartbeats 1000000 in
set_option maxRecDepth 4000 in
theorem threes_any (w : World) : Calls Try.prog 6 #[] w (ThrU w) := by
  go_enter Try.func6, Try.ntmps6
  go_wp2
  exact bodyPost_ret (v := .agg #[.int .i64 2, .int .i64 1, .slice (some ⟨w.heap.size + 4, 0, none⟩) 3 3, .slice (some ⟨w.heap.size + 5, 0, none⟩) 3 3]) (by simp [results, Try.results6, go_sem]) rfl ⟨_, 3, _, 3, rfl, thr_world w 3 26 4 _ _ rfl⟩
theorem cln_take {N : List (List Int)} {E : List Bool} {K M m : Nat} (hKM : K ≤ M) (h : m ≤ (clnL N E K).length) : (clnL N E M).take m = (clnL N E K).take m := by
  unfold clnL at h ⊢
  obtain ⟨j, rfl⟩ : ∃ j, M = K + j := ⟨M - K, by omega⟩
  rw [List.range_add, List.flatMap_append, List.take_append_of_le_length h]
theorem thr_code : listC 2 1 thrN thrE.length 4 = 0 := by decide +kernel
theorem thr_list : (clnL thrN thrE 401).take 4 = [[], [1, 1], [1, 1, 0], [1, 0, 0, 1]] := by
  rw [cln_take (K := 5) (by omega) (by decide +kernel)]
  decide +kernel
end Go.Proofs.Ytpkjnkcdajngkaa
