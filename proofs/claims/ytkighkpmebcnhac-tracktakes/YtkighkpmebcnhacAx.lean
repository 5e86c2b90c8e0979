/- A slice appended to another one; the automaton twos of the laws; a fact of it. -/
import Derived.Laws.AppendOwnNone
import Derived.Test.YtkighkpmebcnhacZNx
namespace Go.Proofs.Ytkighkpmebcnhac
open Go.RowKit

theorem sl_news {w : World} {ad : Addr} {len : Nat} {l : List Int} (h : Sl w (some ad) len l) : ∀ j u, (l.map (Value.int .i64))[j]? = some u → w.cell? (ad.add j) = some u := by
  intro j u hj
  have hjl : j < l.length := by have := (List.getElem?_eq_some_iff.1 hj).1; simpa using this
  obtain ⟨b, o, e, hc⟩ := sl_cell h j (by rw [← h.1]; exact hjl)
  cases e
  rw [Addr.add_lit, hc]
  simp [hjl] at hj
  simp [List.getD, hjl, hj]

/-- 'append(xs, l...)': xs a row of the call's own. -/
theorem wpList_append_sl {w : World} {ops : Array Oper} {rest : List Oper} {o : Oper} {a : Act} {Q : Exit → Act → World → Prop} (hgd : o.guard = none) (s x : Operand)
    (ho : o.op = .call { callee := .builtin .append, args := #[s, x], argTypes := #[26, 26] })
    (base : Nat) (v : Value) (xs : List Int) (hs : a.eval s = v) (hown : w.ownsRow base 3 1 v xs.length (xs.map (Value.int .i64))) (ax : Option Addr) (m c : Nat) (l : List Int) (hx : a.eval x = .slice ax m c) (hsl : Sl w ax m l) (hn : ax = none → c = 0)
    (hb1 : xs.length ≤ 4000000) (hb2 : m ≤ 4000000) (hbase : base ≤ w.heap.size)
    (h : ∀ v' w', w'.ownsRow base 3 1 v' (xs ++ l).length ((xs ++ l).map (Value.int .i64)) → w.grownBy w' v.ownBlock → wpList Try.prog ops Q rest (a.put o.dst v') w') : wpList Try.prog ops Q (o :: rest) a w := by
  obtain ⟨i, hi, hz0, hz1, hz2⟩ := info_parts info3
  have hL := hsl.1
  cases ax with
  | none =>
    have hm : m = 0 := by
      rcases hsl.2.2.2 with h0 | ⟨_, _, e, _⟩
      · exact h0
      · cases e
    obtain rfl := hn rfl
    subst hm
    obtain rfl : l = [] := List.eq_nil_of_length_eq_zero hL
    refine wpList_append_own_none hgd s x 26 ho base 3 i 1 Try.underlying26 hi v xs.length _ hs hown hx (h v w (by rw [List.append_nil]; exact hown) ⟨rfl, rfl, rfl, Nat.le_refl _, fun _ _ _ => rfl⟩)
  | some ad =>
    refine wpList_append_own _ hgd s x 26 ho base 3 i (.int .i64 0) 1 8 Try.underlying26 hi hz0 hz1 hz2 rfl (by decide) v xs.length _ hs hown ad m c (l.map (Value.int .i64)) hx (by simp [hL]) (sl_news hsl) (fun u hu => by obtain ⟨z, _, rfl⟩ := List.mem_map.1 hu; rfl) (by unfold maxLen; omega) (by omega) hbase (fun v' w' h1 h2 _ => h v' w' ?_ h2)
    rw [List.length_append, hL, List.map_append]
    exact h1

def TwosU (w : World) (e : Ending) (w' : World) : Prop := ∃ a c a' c', e = .returned (.agg #[.int .i64 2, .int .i64 1, .slice a 2 c, .slice a' 2 c']) ∧ Sl2 w' a 2 [[0, 1], [1, 0]] ∧ SlB w' a' 2 [false, true] ∧ Below w.heap.size w w'

theorem twos_world (w : World) (T T2 T3 : TypeId) (o : Obj) :
    Sl2 (((((w.alloc o).alloc (.cells #[.int .i64 0, .int .i64 1] T)).alloc (.cells #[.int .i64 1, .int .i64 0] T)).alloc (.cells #[.slice (some ⟨w.heap.size + 1, 0, none⟩) 2 2, .slice (some ⟨w.heap.size + 2, 0, none⟩) 2 2] T2)).alloc (.cells #[.bool false, .bool true] T3)) (some ⟨w.heap.size + 3, 0, none⟩) 2 [[0, 1], [1, 0]] ∧
    SlB (((((w.alloc o).alloc (.cells #[.int .i64 0, .int .i64 1] T)).alloc (.cells #[.int .i64 1, .int .i64 0] T)).alloc (.cells #[.slice (some ⟨w.heap.size + 1, 0, none⟩) 2 2, .slice (some ⟨w.heap.size + 2, 0, none⟩) 2 2] T2)).alloc (.cells #[.bool false, .bool true] T3)) (some ⟨w.heap.size + 4, 0, none⟩) 2 [false, true] ∧
    Below w.heap.size w (((((w.alloc o).alloc (.cells #[.int .i64 0, .int .i64 1] T)).alloc (.cells #[.int .i64 1, .int .i64 0] T)).alloc (.cells #[.slice (some ⟨w.heap.size + 1, 0, none⟩) 2 2, .slice (some ⟨w.heap.size + 2, 0, none⟩) 2 2] T2)).alloc (.cells #[.bool false, .bool true] T3)) := by
  have h1 := heap_alloc_last (w.alloc o) (.cells #[.int .i64 0, .int .i64 1] T)
  have h2 := heap_alloc_last ((w.alloc o).alloc (.cells #[.int .i64 0, .int .i64 1] T)) (.cells #[.int .i64 1, .int .i64 0] T)
  have h3 := heap_alloc_last (((w.alloc o).alloc (.cells #[.int .i64 0, .int .i64 1] T)).alloc (.cells #[.int .i64 1, .int .i64 0] T)) (.cells #[.slice (some ⟨w.heap.size + 1, 0, none⟩) 2 2, .slice (some ⟨w.heap.size + 2, 0, none⟩) 2 2] T2)
  have h4 := heap_alloc_last ((((w.alloc o).alloc (.cells #[.int .i64 0, .int .i64 1] T)).alloc (.cells #[.int .i64 1, .int .i64 0] T)).alloc (.cells #[.slice (some ⟨w.heap.size + 1, 0, none⟩) 2 2, .slice (some ⟨w.heap.size + 2, 0, none⟩) 2 2] T2)) (.cells #[.bool false, .bool true] T3)
  simp only [World.size_alloc] at h1 h2 h3 h4
  have g3 := (Below.heap_alloc _ (.cells #[.bool false, .bool true] T3) (w.heap.size + 3) (by simp)).trans h3
  have g2 := (Below.heap_alloc _ (.cells #[.bool false, .bool true] T3) (w.heap.size + 2) (by simp)).trans ((Below.heap_alloc _ (.cells #[.slice (some ⟨w.heap.size + 1, 0, none⟩) 2 2, .slice (some ⟨w.heap.size + 2, 0, none⟩) 2 2] T2) (w.heap.size + 2) (by simp)).trans h2)
  have g1 := (Below.heap_alloc _ (.cells #[.bool false, .bool true] T3) (w.heap.size + 1) (by simp)).trans ((Below.heap_alloc _ (.cells #[.slice (some ⟨w.heap.size + 1, 0, none⟩) 2 2, .slice (some ⟨w.heap.size + 2, 0, none⟩) 2 2] T2) (w.heap.size + 1) (by simp)).trans ((Below.heap_alloc _ (.cells #[.int .i64 1, .int .i64 0] T) (w.heap.size + 1) (by simp)).trans h1))
  have hB : Below w.heap.size w (((((w.alloc o).alloc (.cells #[.int .i64 0, .int .i64 1] T)).alloc (.cells #[.int .i64 1, .int .i64 0] T)).alloc (.cells #[.slice (some ⟨w.heap.size + 1, 0, none⟩) 2 2, .slice (some ⟨w.heap.size + 2, 0, none⟩) 2 2] T2)).alloc (.cells #[.bool false, .bool true] T3)) :=
    (((((Below.refl _ _).alloc (Nat.le_refl _) _).alloc (by simp) _).alloc (by simp; omega) _).alloc (by simp; omega) _).alloc (by simp; omega) _
  generalize (((((w.alloc o).alloc (.cells #[.int .i64 0, .int .i64 1] T)).alloc (.cells #[.int .i64 1, .int .i64 0] T)).alloc (.cells #[.slice (some ⟨w.heap.size + 1, 0, none⟩) 2 2, .slice (some ⟨w.heap.size + 2, 0, none⟩) 2 2] T2)).alloc (.cells #[.bool false, .bool true] T3)) = W at g1 g2 g3 h4 hB ⊢
  have c1 : ∀ i, W.cell? ⟨w.heap.size + 1, i, none⟩ = #[Value.int .i64 0, .int .i64 1][i]? := fun i => by simp [World.cell?, g1]
  have c2 : ∀ i, W.cell? ⟨w.heap.size + 2, i, none⟩ = #[Value.int .i64 1, .int .i64 0][i]? := fun i => by simp [World.cell?, g2]
  have c3 : ∀ i, W.cell? ⟨w.heap.size + 3, i, none⟩ = #[Value.slice (some ⟨w.heap.size + 1, 0, none⟩) 2 2, .slice (some ⟨w.heap.size + 2, 0, none⟩) 2 2][i]? := fun i => by simp [World.cell?, g3]
  have c4 : ∀ i, W.cell? ⟨w.heap.size + 4, i, none⟩ = #[Value.bool false, .bool true][i]? := fun i => by simp [World.cell?, h4]
  have two : ∀ i, i < 2 → i = 0 ∨ i = 1 := by omega
  have s1 : Sl W (some ⟨w.heap.size + 1, 0, none⟩) 2 [0, 1] := ⟨rfl, by decide, by decide, Or.inr ⟨_, 0, rfl, fun i hi => by rcases two i hi with rfl | rfl <;> exact c1 _⟩⟩
  have s2 : Sl W (some ⟨w.heap.size + 2, 0, none⟩) 2 [1, 0] := ⟨rfl, by decide, by decide, Or.inr ⟨_, 0, rfl, fun i hi => by rcases two i hi with rfl | rfl <;> exact c2 _⟩⟩
  refine ⟨⟨rfl, by decide, Or.inr ⟨_, 0, rfl, fun i hi => ?_⟩⟩, ⟨rfl, by decide, Or.inr ⟨_, 0, rfl, fun i hi => by rcases two i hi with rfl | rfl <;> exact c4 _⟩⟩, hB⟩
  rcases two i hi with rfl | rfl
  · exact ⟨_, 2, c3 0, s1⟩
  · exact ⟨_, 2, c3 1, s2⟩

set_option maxHeartbeats 1000000 in
set_option maxRecDepth 4000 in
theorem twos_any (w : World) : Calls Try.prog 8 #[] w (TwosU w) := by
  go_enter Try.func8, Try.ntmps8
  go_wp2
  exact bodyPost_ret (v := .agg #[.int .i64 2, .int .i64 1, .slice (some ⟨w.heap.size + 3, 0, none⟩) 2 2, .slice (some ⟨w.heap.size + 4, 0, none⟩) 2 2]) (by simp [results, Try.results8, go_sem]) rfl ⟨_, 2, _, 2, rfl, twos_world w 3 26 4 _⟩

end Go.Proofs.Ytkighkpmebcnhac
