/- A map that the call itself makes, whatever its elements: just these keys, each with its element. -/
import Derived.Test.YtihhlddbppljpacDoorNx
import Derived.DeepKeys4
import Derived.Maps.OwnSet
namespace Go.Proofs.YtihhlddbppljpacDoor
open Go.RowKit

/-- An element reads as itself. -/
def selfR (v : Value) : Option (DataW Value × List MemPlace) := some (.held v, [])

/-- Block b is a map of just these entries. -/
def MapAt (P : Program) (k : TypeId) (w : World) (b : Nat) (l : List (Value × Value)) : Prop :=
  ∃ D : DataW Value, w.ownsMap P k selfR b l.length D ∧ Maps.size D = l.length ∧
    ∀ key kl, keyOf P k key = some kl → (¬ key ∈ l.map Prod.fst → Maps.has D kl = false) ∧ ∀ v, (key, v) ∈ l → Maps.has D kl = true ∧ D.atKey kl .nil = .held v

theorem mapAt_made (w : World) (P : Program) (k : TypeId) : MapAt P k (w.alloc (.map #[] 0)) w.heap.size [] :=
  ⟨.map [], World.ownsMap_made w P k selfR, rfl, fun key kl _ => ⟨fun _ => by simp [Maps.has], fun v h => by simp at h⟩⟩

variable {P : Program} {k : TypeId} {w w' : World} {b : Nat} {l : List (Value × Value)}

theorem MapAt.lt (h : MapAt P k w b l) : b < w.heap.size := by obtain ⟨D, h1, _⟩ := h; exact h1.lt
theorem MapAt.of_block (h : MapAt P k w b l) (hb : w'.heap[b]? = w.heap[b]?) : MapAt P k w' b l := by
  obtain ⟨D, ⟨es, clock, h1, h2⟩, h3⟩ := h
  exact ⟨D, ⟨es, clock, by rw [hb]; exact h1, h2⟩, h3⟩
theorem MapAt.isMap (h : MapAt P k w b l) : ∃ es clock, w.heap[b]? = some (.map es clock) := by
  obtain ⟨D, ⟨es, clock, h1, h2⟩, h3⟩ := h
  exact ⟨es, clock, h1⟩
theorem MapAt.below (h : MapAt P k w b l) (hb : Below w.heap.size w w') : MapAt P k w' b l := h.of_block (hb.block _ h.lt)
theorem MapAt.alloc (h : MapAt P k w b l) (o : Obj) : MapAt P k (w.alloc o) b l := h.of_block (Below.heap_alloc _ _ _ h.lt)
theorem MapAt.setCell (h : MapAt P k w b l) {a : Addr} (ha : b ≠ a.block) (u : Value) : MapAt P k (w.setCell a u) b l := h.of_block (by rw [Below.heap_setCell _ _ _ _ ha])
theorem MapAt.drewN (h : MapAt P k w b l) (j : Nat) : MapAt P k (w.drewN j) b l := h.below (below_drewN (Below.refl _ _) j)
theorem MapAt.grown {row : Option Nat} (h : MapAt P k w b l) (hg : w.grownBy w' row) (hne : some b ≠ row) : MapAt P k w' b l := h.of_block (hg.block b h.lt hne)

/-- 'm[k]', 'v, ok := m[k]'. -/
theorem MapAt.look_yes (h : MapAt P k w b l) (K : Maps.Keyed P k) {t e : TypeId} (ht : P.underlying t = some (.map k e)) {z : Value} (hz : (zeroValue e).run P w = .ok z w) {key v : Value} {kl : Lit} (hkey : keyOf P k key = some kl) (hv : (key, v) ∈ l) (c : Bool) :
    (Instr.lookup t (.map (some b)) key c).run P w = .ok (if c then .tuple #[v, .bool true] else v) w := by
  obtain ⟨D, ⟨es, clock, hb, F, _, rfl⟩, h2, h3⟩ := h
  obtain ⟨_, h5⟩ := h3 key kl hkey
  obtain ⟨h4, h6⟩ := h5 v hv
  rcases Maps.fit_look c K ht hz hb F hkey with ⟨hrun, _, hat⟩ | ⟨e0, y, _, _, hrun, hRv, hat, _⟩
  · rw [Maps.has_false_of_atKey hat] at h4; cases h4
  · rw [hat .nil] at h6
    have h7 : y.1 = .held e0.val := by simp only [selfR, Option.some.injEq] at hRv; rw [← hRv]
    rw [h7] at h6
    injection h6 with h6
    rw [hrun, h6]
theorem MapAt.look_no (h : MapAt P k w b l) (K : Maps.Keyed P k) {t e : TypeId} (ht : P.underlying t = some (.map k e)) {z : Value} (hz : (zeroValue e).run P w = .ok z w) {key : Value} {kl : Lit} (hkey : keyOf P k key = some kl) (hv : ¬ key ∈ l.map Prod.fst) (c : Bool) :
    (Instr.lookup t (.map (some b)) key c).run P w = .ok (if c then .tuple #[z, .bool false] else z) w := by
  obtain ⟨D, ⟨es, clock, hb, F, _, rfl⟩, h2, h3⟩ := h
  have h4 := (h3 key kl hkey).1 hv
  rcases Maps.fit_look c K ht hz hb F hkey with ⟨hrun, _, hat⟩ | ⟨e0, y, _, _, hrun, hRv, hat, _⟩
  · exact hrun
  · rw [Maps.has_true_of_atKey hat] at h4; cases h4

/-- 'm[k] = v', where there was none. -/
theorem MapAt.put (h : MapAt P k w b l) (K : Maps.Keyed P k) {t e : TypeId} (ht : P.underlying t = some (.map k e)) (hn : l.length < maxLen) {key val : Value} {kl : Lit} (hkey : keyOf P k key = some kl) (hf : ¬ key ∈ l.map Prod.fst) :
    ∃ w', (Instr.mapUpdate t (.map (some b)) key val).run P w = .ok () w' ∧ MapAt P k w' b (l ++ [(key, val)]) ∧ w.mapTurned w' b := by
  obtain ⟨D, h1, h2, h3⟩ := h
  obtain ⟨w', r1, r2, r3⟩ := h1.store K ht hn (val := val) (d := .held val) (ps := []) hkey rfl
  have hnh : Maps.has D kl = false := (h3 key kl hkey).1 hf
  refine ⟨w', r1, ⟨_, by rw [List.length_append]; exact r2, ?_, fun x xl hx => ?_⟩, r3⟩
  · rw [Maps.size_put (h1.tidy K) _]
    simp [hnh, h2]
  · by_cases e : x = key
    · subst e
      rw [hkey] at hx; cases hx
      refine ⟨fun hn => absurd (by simp) hn, fun v hv => ⟨Maps.has_put_same h1.isMap (K.key hkey) _, ?_⟩⟩
      rcases List.mem_append.1 hv with hv | hv
      · exact absurd (List.mem_map.2 ⟨_, hv, rfl⟩) hf
      · simp at hv
        rw [hv]
        exact Maps.atKey_put_same h1.isMap (K.key hkey) _ _
    · have hne : xl ≠ kl := fun e' => e (K.inj hx (e' ▸ hkey))
      rw [Maps.has_put_other hne, Maps.atKey_put_other hne]
      refine ⟨fun hn => (h3 x xl hx).1 (fun hm => hn (by rw [List.map_append]; exact List.mem_append_left _ hm)), fun v hv => (h3 x xl hx).2 v ?_⟩
      rcases List.mem_append.1 hv with hv | hv
      · exact hv
      · simp at hv; exact absurd hv.1 e
theorem MapAt.len (h : MapAt P k w b l) {t e : TypeId} (ht : P.underlying t = some (.map k e)) (ty : TypeId) : (Builtin.len_ #[t] ty #[.map (some b)]).run P w = .ok (.int .i64 (l.length : Int)) w := by
  obtain ⟨D, h1, h2, _⟩ := h
  rw [← h2]
  exact h1.len ht ty

section
variable (w : World) {ops : Array Oper} {rest : List Oper} {o : Oper} {a : Act} {Q : Exit → Act → World → Prop}
/-- 'v, ok := m[k]', where there is one, and where there is none; 'm[k]', where there is one. -/
theorem wpList_look_yes (hg : o.guard = none) (m x : Operand) (t : TypeId) (hop : o.op = Op.lookup t m x true) (k e : TypeId) (K : Maps.Keyed P k) (ht : P.underlying t = some (.map k e)) {z : Value} (hz : (zeroValue e).run P w = .ok z w) (b : Nat) (l : List (Value × Value))
    (hm : a.eval m = .map (some b)) (hown : MapAt P k w b l) (key : Value) (kl : Lit) (hx : a.eval x = key) (hkey : keyOf P k key = some kl) (v : Value) (hv : (key, v) ∈ l)
    (hK : wpList P ops Q rest (a.put o.dst (.tuple #[v, .bool true])) w) :
    wpList P ops Q (o :: rest) a w := by
  refine wpList_plain hg fun K' hK' => ?_
  have hrun := hown.look_yes K ht hz hkey hv true
  rw [if_pos rfl] at hrun
  unfold Oper.wp
  simp [execOp, hop, hm, hx, hrun, Result.andThen]
  exact hK' _ _ hK
theorem wpList_look_no (hg : o.guard = none) (m x : Operand) (t : TypeId) (hop : o.op = Op.lookup t m x true) (k e : TypeId) (K : Maps.Keyed P k) (ht : P.underlying t = some (.map k e)) {z : Value} (hz : (zeroValue e).run P w = .ok z w) (b : Nat) (l : List (Value × Value))
    (hm : a.eval m = .map (some b)) (hown : MapAt P k w b l) (key : Value) (kl : Lit) (hx : a.eval x = key) (hkey : keyOf P k key = some kl) (hv : ¬ key ∈ l.map Prod.fst)
    (hK : wpList P ops Q rest (a.put o.dst (.tuple #[z, .bool false])) w) :
    wpList P ops Q (o :: rest) a w := by
  refine wpList_plain hg fun K' hK' => ?_
  have hrun := hown.look_no K ht hz hkey hv true
  rw [if_pos rfl] at hrun
  unfold Oper.wp
  simp [execOp, hop, hm, hx, hrun, Result.andThen]
  exact hK' _ _ hK
theorem wpList_put_at (hg : o.guard = none) (m x v : Operand) (t : TypeId) (hop : o.op = Op.mapUpdate t m x v) (k e : TypeId) (K : Maps.Keyed P k) (ht : P.underlying t = some (.map k e)) (b : Nat) (l : List (Value × Value))
    (hm : a.eval m = .map (some b)) (hown : MapAt P k w b l) (hn : l.length < maxLen) (key val : Value) (kl : Lit) (hx : a.eval x = key) (hv : a.eval v = val) (hkey : keyOf P k key = some kl) (hf : ¬ key ∈ l.map Prod.fst)
    (hK : ∀ w', MapAt P k w' b (l ++ [(key, val)]) → w.mapTurned w' b → wpList P ops Q rest (a.put o.dst undef) w') :
    wpList P ops Q (o :: rest) a w := by
  refine wpList_plain hg fun K' hK' => ?_
  obtain ⟨w', hrun, r1, r2⟩ := hown.put (val := val) K ht hn hkey hf
  unfold Oper.wp
  simp [execOp, hop, hm, hx, hv, hrun, Result.andThen]
  exact hK' _ _ (hK w' r1 r2)
theorem wpList_len_at (hg : o.guard = none) (m : Operand) (t : TypeId) (hop : o.op = Op.call { callee := Callee.builtin Builtin.len, args := #[m], argTypes := #[t] }) (k e : TypeId) (ht : P.underlying t = some (.map k e)) (b : Nat) (l : List (Value × Value))
    (hm : a.eval m = .map (some b)) (hown : MapAt P k w b l)
    (hK : wpList P ops Q rest (a.put o.dst (.int .i64 (l.length : Int))) w) :
    wpList P ops Q (o :: rest) a w := by
  refine wpList_plain hg fun K' hK' => ?_
  unfold Oper.wp
  simp [execOp, hop, resolve, invoke, builtin, hm, hown.len ht o.type, Result.andThen]
  exact hK' _ _ hK
end
theorem below_turned {base : Nat} {w W W' : World} {b : Nat} (h : Below base w W) (ht : W.mapTurned W' b) (hb : base ≤ b) (hs : base ≤ W.heap.size) : Below base w W' := Below.grown h ht.grown hs (fun k hk => by cases hk; exact hb)
end Go.Proofs.YtihhlddbppljpacDoor
