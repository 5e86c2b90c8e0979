/- A slice appended to another one; the automaton twos of the laws; a fact of it. -/
import Derived.Laws.AppendOwnNone
import Derived.Test.YtlgjadnkokmjoaaDoorZNx
namespace Go.Proofs.YtlgjadnkokmjoaaDoor
open Go.RowKit

theorem sl_news {w : World} {ad : Addr} {len : Nat} {l : List Int} (h : Sl w (some ad) len l) : ∀ j u, (l.map (Value.int .i64))[j]? = some u → w.cell? (ad.add j) = some u := by
  intro j u hj
  have hjl : j < l.length := by have := (List.getElem?_eq_some_iff.1 hj).1; simpa using this
  obtain ⟨b, o, e, hc⟩ := sl_cell h j (by rw [← h.1]; exact hjl)
  cases e
  rw [Addr.add_lit, hc]
  simp [hjl] at hj
  simp [List.getD, hjl, hj]

/-- 'append(xs, l...)': xs a row of the call's own. -/
theorem wpList_append_sz {w : World} {ops : Array Oper} {rest : List Oper} {o : Oper} {a : Act} {Q : Exit → Act → World → Prop} (hgd : o.guard = none) (s x : Operand)
    (ho : o.op = .call { callee := .builtin .append, args := #[s, x], argTypes := #[35, 35] })
    (base : Nat) (v : Value) (xs : List Int) (hs : a.eval s = v) (hown : w.ownsRow base 3 1 v xs.length (xs.map (Value.int .i64))) (ax : Option Addr) (m c : Nat) (l : List Int) (hx : a.eval x = .slice ax m c) (hsl : Sl w ax m l) (hn : ax = none → c = 0)
    (hb : (xs.length + m) * 8 ≤ 140737488355328) (hbase : base ≤ w.heap.size)
    (h : ∀ v' w', w'.ownsRow base 3 1 v' (xs ++ l).length ((xs ++ l).map (Value.int .i64)) → w.grownBy w' v.ownBlock → wpList Tryd.prog ops Q rest (a.put o.dst v') w') : wpList Tryd.prog ops Q (o :: rest) a w := by
  obtain ⟨i, hi, hz0, hz1, hz2⟩ := info_parts info3
  have hL := hsl.1
  cases ax with
  | none =>
    have hm : m = 0 := by
      rcases hsl.2.2.2 with h0 | ⟨_, _, e, _⟩
      · exact h0
      · cases e
    obtain rfl := hn rfl
    subst hm
    obtain rfl : l = [] := List.eq_nil_of_length_eq_zero hL
    refine wpList_append_own_none hgd s x 35 ho base 3 i 1 Tryd.underlying35 hi v xs.length _ hs hown hx (h v w (by rw [List.append_nil]; exact hown) ⟨rfl, rfl, rfl, Nat.le_refl _, fun _ _ _ => rfl⟩)
  | some ad =>
    refine wpList_append_own _ hgd s x 35 ho base 3 i (.int .i64 0) 1 8 Tryd.underlying35 hi hz0 hz1 hz2 rfl (by decide) v xs.length _ hs hown ad m c (l.map (Value.int .i64)) hx (by simp [hL]) (sl_news hsl) (fun u hu => by obtain ⟨z, _, rfl⟩ := List.mem_map.1 hu; rfl) (by unfold maxLen; omega) hb hbase (fun v' w' h1 h2 _ => h v' w' ?_ h2)
    rw [List.length_append, hL, List.map_append]
    exact h1

theorem wpList_append_sl {w : World} {ops : Array Oper} {rest : List Oper} {o : Oper} {a : Act} {Q : Exit → Act → World → Prop} (hgd : o.guard = none) (s x : Operand)
    (ho : o.op = .call { callee := .builtin .append, args := #[s, x], argTypes := #[35, 35] })
    (base : Nat) (v : Value) (xs : List Int) (hs : a.eval s = v) (hown : w.ownsRow base 3 1 v xs.length (xs.map (Value.int .i64))) (ax : Option Addr) (m c : Nat) (l : List Int) (hx : a.eval x = .slice ax m c) (hsl : Sl w ax m l) (hn : ax = none → c = 0)
    (hb1 : xs.length ≤ 4000000) (hb2 : m ≤ 4000000) (hbase : base ≤ w.heap.size)
    (h : ∀ v' w', w'.ownsRow base 3 1 v' (xs ++ l).length ((xs ++ l).map (Value.int .i64)) → w.grownBy w' v.ownBlock → wpList Tryd.prog ops Q rest (a.put o.dst v') w') : wpList Tryd.prog ops Q (o :: rest) a w :=
  wpList_append_sz hgd s x ho base v xs hs hown ax m c l hx hsl hn (by omega) hbase h

end Go.Proofs.YtlgjadnkokmjoaaDoor
