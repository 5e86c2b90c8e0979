/- 9 texts in one. -/
import Derived.DeepKeys4
import Derived.Maps.OwnSet
import Derived.Test.YtebbjmcjgjecmaaZNx
import Derived.Test.YtebbjmcjgjecmaaZG
/- A map that the call itself makes, whatever its elements: just these keys, each with its element. -/
namespace Go.Proofs.Ytebbjmcjgjecmaa
open Go.RowKit

/-- An element reads as itself. -/
def selfR (v : Value) : Option (DataW Value × List MemPlace) := some (.held v, [])

/-- Block b is a map of just these entries. -/
def MapAt (P : Program) (k : TypeId) (w : World) (b : Nat) (l : List (Value × Value)) : Prop :=
  ∃ D : DataW Value, w.ownsMap P k selfR b l.length D ∧ Maps.size D = l.length ∧
    ∀ key kl, keyOf P k key = some kl → (¬ key ∈ l.map Prod.fst → Maps.has D kl = false) ∧ ∀ v, (key, v) ∈ l → Maps.has D kl = true ∧ D.atKey kl .nil = .held v

theorem mapAt_made (w : World) (P : Program) (k : TypeId) : MapAt P k (w.alloc (.map #[] 0)) w.heap.size [] :=
  ⟨.map [], World.ownsMap_made w P k selfR, rfl, fun key kl _ => ⟨fun _ => by simp [Maps.has], fun v h => by simp at h⟩⟩

variable {P : Program} {k : TypeId} {w w' : World} {b : Nat} {l : List (Value × Value)}

theorem MapAt.lt (h : MapAt P k w b l) : b < w.heap.size := by obtain ⟨D, h1, _⟩ := h; exact h1.lt
theorem MapAt.of_block (h : MapAt P k w b l) (hb : w'.heap[b]? = w.heap[b]?) : MapAt P k w' b l := by
  obtain ⟨D, ⟨es, clock, h1, h2⟩, h3⟩ := h
  exact ⟨D, ⟨es, clock, by rw [hb]; exact h1, h2⟩, h3⟩
theorem MapAt.isMap (h : MapAt P k w b l) : ∃ es clock, w.heap[b]? = some (.map es clock) := by
  obtain ⟨D, ⟨es, clock, h1, h2⟩, h3⟩ := h
  exact ⟨es, clock, h1⟩
theorem MapAt.below (h : MapAt P k w b l) (hb : Below w.heap.size w w') : MapAt P k w' b l := h.of_block (hb.block _ h.lt)
theorem MapAt.alloc (h : MapAt P k w b l) (o : Obj) : MapAt P k (w.alloc o) b l := h.of_block (Below.heap_alloc _ _ _ h.lt)
theorem MapAt.setCell (h : MapAt P k w b l) {a : Addr} (ha : b ≠ a.block) (u : Value) : MapAt P k (w.setCell a u) b l := h.of_block (by rw [Below.heap_setCell _ _ _ _ ha])
theorem MapAt.drewN (h : MapAt P k w b l) (j : Nat) : MapAt P k (w.drewN j) b l := h.below (below_drewN (Below.refl _ _) j)
theorem MapAt.grown {row : Option Nat} (h : MapAt P k w b l) (hg : w.grownBy w' row) (hne : some b ≠ row) : MapAt P k w' b l := h.of_block (hg.block b h.lt hne)

/-- 'm[k]', 'v, ok := m[k]'. -/
theorem MapAt.look_yes (h : MapAt P k w b l) (K : Maps.Keyed P k) {t e : TypeId} (ht : P.underlying t = some (.map k e)) {z : Value} (hz : (zeroValue e).run P w = .ok z w) {key v : Value} {kl : Lit} (hkey : keyOf P k key = some kl) (hv : (key, v) ∈ l) (c : Bool) :
    (Instr.lookup t (.map (some b)) key c).run P w = .ok (if c then .tuple #[v, .bool true] else v) w := by
  obtain ⟨D, ⟨es, clock, hb, F, _, rfl⟩, h2, h3⟩ := h
  obtain ⟨_, h5⟩ := h3 key kl hkey
  obtain ⟨h4, h6⟩ := h5 v hv
  rcases Maps.fit_look c K ht hz hb F hkey with ⟨hrun, _, hat⟩ | ⟨e0, y, _, _, hrun, hRv, hat, _⟩
  · rw [Maps.has_false_of_atKey hat] at h4; cases h4
  · rw [hat .nil] at h6
    have h7 : y.1 = .held e0.val := by simp only [selfR, Option.some.injEq] at hRv; rw [← hRv]
    rw [h7] at h6
    injection h6 with h6
    rw [hrun, h6]
theorem MapAt.look_no (h : MapAt P k w b l) (K : Maps.Keyed P k) {t e : TypeId} (ht : P.underlying t = some (.map k e)) {z : Value} (hz : (zeroValue e).run P w = .ok z w) {key : Value} {kl : Lit} (hkey : keyOf P k key = some kl) (hv : ¬ key ∈ l.map Prod.fst) (c : Bool) :
    (Instr.lookup t (.map (some b)) key c).run P w = .ok (if c then .tuple #[z, .bool false] else z) w := by
  obtain ⟨D, ⟨es, clock, hb, F, _, rfl⟩, h2, h3⟩ := h
  have h4 := (h3 key kl hkey).1 hv
  rcases Maps.fit_look c K ht hz hb F hkey with ⟨hrun, _, hat⟩ | ⟨e0, y, _, _, hrun, hRv, hat, _⟩
  · exact hrun
  · rw [Maps.has_true_of_atKey hat] at h4; cases h4

/-- 'm[k] = v', where there was none. -/
theorem MapAt.put (h : MapAt P k w b l) (K : Maps.Keyed P k) {t e : TypeId} (ht : P.underlying t = some (.map k e)) (hn : l.length < maxLen) {key val : Value} {kl : Lit} (hkey : keyOf P k key = some kl) (hf : ¬ key ∈ l.map Prod.fst) :
    ∃ w', (Instr.mapUpdate t (.map (some b)) key val).run P w = .ok () w' ∧ MapAt P k w' b (l ++ [(key, val)]) ∧ w.mapTurned w' b := by
  obtain ⟨D, h1, h2, h3⟩ := h
  obtain ⟨w', r1, r2, r3⟩ := h1.store K ht hn (val := val) (d := .held val) (ps := []) hkey rfl
  have hnh : Maps.has D kl = false := (h3 key kl hkey).1 hf
  refine ⟨w', r1, ⟨_, by rw [List.length_append]; exact r2, ?_, fun x xl hx => ?_⟩, r3⟩
  · rw [Maps.size_put (h1.tidy K) _]
    simp [hnh, h2]
  · by_cases e : x = key
    · subst e
      rw [hkey] at hx; cases hx
      refine ⟨fun hn => absurd (by simp) hn, fun v hv => ⟨Maps.has_put_same h1.isMap (K.key hkey) _, ?_⟩⟩
      rcases List.mem_append.1 hv with hv | hv
      · exact absurd (List.mem_map.2 ⟨_, hv, rfl⟩) hf
      · simp at hv
        rw [hv]
        exact Maps.atKey_put_same h1.isMap (K.key hkey) _ _
    · have hne : xl ≠ kl := fun e' => e (K.inj hx (e' ▸ hkey))
      rw [Maps.has_put_other hne, Maps.atKey_put_other hne]
      refine ⟨fun hn => (h3 x xl hx).1 (fun hm => hn (by rw [List.map_append]; exact List.mem_append_left _ hm)), fun v hv => (h3 x xl hx).2 v ?_⟩
      rcases List.mem_append.1 hv with hv | hv
      · exact hv
      · simp at hv; exact absurd hv.1 e
theorem MapAt.len (h : MapAt P k w b l) {t e : TypeId} (ht : P.underlying t = some (.map k e)) (ty : TypeId) : (Builtin.len_ #[t] ty #[.map (some b)]).run P w = .ok (.int .i64 (l.length : Int)) w := by
  obtain ⟨D, h1, h2, _⟩ := h
  rw [← h2]
  exact h1.len ht ty

section
variable (w : World) {ops : Array Oper} {rest : List Oper} {o : Oper} {a : Act} {Q : Exit → Act → World → Prop}
/-- 'v, ok := m[k]', where there is one, and where there is none; 'm[k]', where there is one. -/
theorem wpList_look_yes (hg : o.guard = none) (m x : Operand) (t : TypeId) (hop : o.op = Op.lookup t m x true) (k e : TypeId) (K : Maps.Keyed P k) (ht : P.underlying t = some (.map k e)) {z : Value} (hz : (zeroValue e).run P w = .ok z w) (b : Nat) (l : List (Value × Value))
    (hm : a.eval m = .map (some b)) (hown : MapAt P k w b l) (key : Value) (kl : Lit) (hx : a.eval x = key) (hkey : keyOf P k key = some kl) (v : Value) (hv : (key, v) ∈ l)
    (hK : wpList P ops Q rest (a.put o.dst (.tuple #[v, .bool true])) w) :
    wpList P ops Q (o :: rest) a w := by
  refine wpList_plain hg fun K' hK' => ?_
  have hrun := hown.look_yes K ht hz hkey hv true
  rw [if_pos rfl] at hrun
  unfold Oper.wp
  simp [execOp, hop, hm, hx, hrun, Result.andThen]
  exact hK' _ _ hK
theorem wpList_look_no (hg : o.guard = none) (m x : Operand) (t : TypeId) (hop : o.op = Op.lookup t m x true) (k e : TypeId) (K : Maps.Keyed P k) (ht : P.underlying t = some (.map k e)) {z : Value} (hz : (zeroValue e).run P w = .ok z w) (b : Nat) (l : List (Value × Value))
    (hm : a.eval m = .map (some b)) (hown : MapAt P k w b l) (key : Value) (kl : Lit) (hx : a.eval x = key) (hkey : keyOf P k key = some kl) (hv : ¬ key ∈ l.map Prod.fst)
    (hK : wpList P ops Q rest (a.put o.dst (.tuple #[z, .bool false])) w) :
    wpList P ops Q (o :: rest) a w := by
  refine wpList_plain hg fun K' hK' => ?_
  have hrun := hown.look_no K ht hz hkey hv true
  rw [if_pos rfl] at hrun
  unfold Oper.wp
  simp [execOp, hop, hm, hx, hrun, Result.andThen]
  exact hK' _ _ hK
theorem wpList_put_at (hg : o.guard = none) (m x v : Operand) (t : TypeId) (hop : o.op = Op.mapUpdate t m x v) (k e : TypeId) (K : Maps.Keyed P k) (ht : P.underlying t = some (.map k e)) (b : Nat) (l : List (Value × Value))
    (hm : a.eval m = .map (some b)) (hown : MapAt P k w b l) (hn : l.length < maxLen) (key val : Value) (kl : Lit) (hx : a.eval x = key) (hv : a.eval v = val) (hkey : keyOf P k key = some kl) (hf : ¬ key ∈ l.map Prod.fst)
    (hK : ∀ w', MapAt P k w' b (l ++ [(key, val)]) → w.mapTurned w' b → wpList P ops Q rest (a.put o.dst undef) w') :
    wpList P ops Q (o :: rest) a w := by
  refine wpList_plain hg fun K' hK' => ?_
  obtain ⟨w', hrun, r1, r2⟩ := hown.put (val := val) K ht hn hkey hf
  unfold Oper.wp
  simp [execOp, hop, hm, hx, hv, hrun, Result.andThen]
  exact hK' _ _ (hK w' r1 r2)
theorem wpList_len_at (hg : o.guard = none) (m : Operand) (t : TypeId) (hop : o.op = Op.call { callee := Callee.builtin Builtin.len, args := #[m], argTypes := #[t] }) (k e : TypeId) (ht : P.underlying t = some (.map k e)) (b : Nat) (l : List (Value × Value))
    (hm : a.eval m = .map (some b)) (hown : MapAt P k w b l)
    (hK : wpList P ops Q rest (a.put o.dst (.int .i64 (l.length : Int))) w) :
    wpList P ops Q (o :: rest) a w := by
  refine wpList_plain hg fun K' hK' => ?_
  unfold Oper.wp
  simp [execOp, hop, resolve, invoke, builtin, hm, hown.len ht o.type, Result.andThen]
  exact hK' _ _ hK
end
theorem below_turned {base : Nat} {w W W' : World} {b : Nat} (h : Below base w W) (ht : W.mapTurned W' b) (hb : base ≤ b) (hs : base ≤ W.heap.size) : Below base w W' := Below.grown h ht.grown hs (fun k hk => by cases hk; exact hb)
end Go.Proofs.Ytebbjmcjgjecmaa

/- Classes by marks, numbered as they come; the way back from a state to the beginning: mathematics. -/
namespace Go.Proofs.Ytebbjmcjgjecmaa
open Go.RowKit

/-- Numbers that part the states that are met as k rounds do. -/
def LvAt (N : List (List Int)) (E : List Bool) (m n k : Nat) (C : List Int) : Prop := C.length = n ∧ ∀ s ∈ metL N, ∀ t ∈ metL N, (C.getD s.toNat 0 = C.getD t.toNat 0 ↔ simB N E m k s.toNat t.toNat = true)
theorem lvAt_of {m n : Nat} {N : List (List Int)} {E : List Bool} {k : Nat} {C : List Int} (h : CAt N E m n k C) : LvAt N E m n k C := ⟨h.1, fun _ hs _ ht => cAt_iff E h hs ht⟩
theorem lvAt_one {m n : Nat} {N : List (List Int)} {E : List Bool} {C : List Int} (hl : C.length = n) (h : ∀ s ∈ metL N, C.getD s.toNat 0 = if E.getD s.toNat false = true then 1 else 0) : LvAt N E m n 1 C := by
  refine ⟨hl, fun s hs t ht => ?_⟩
  rw [h s hs, h t ht, simB_succ]
  cases E.getD s.toNat false <;> cases E.getD t.toNat false <;> simp [simB]
theorem sim_ends {N : List (List Int)} {E : List Bool} {m k s t : Nat} (hk : 1 ≤ k) (h : simB N E m k s t = true) : E.getD s false = E.getD t false := by
  obtain ⟨j, rfl⟩ : ∃ j, k = j + 1 := ⟨k - 1, by omega⟩
  exact (simB_succ.1 h).1

/-- A state's mark: its number, and those of its nexts, and 0s behind. -/
def markF (N : List (List Int)) (C : List Int) (m s q : Nat) : Int := if q = 0 then C.getD s 0 else if q ≤ m then C.getD (nxt N s (q - 1)) 0 else 0
def markV (N : List (List Int)) (C : List Int) (m : Nat) (s : Int) : Value := .agg ((Array.range 37).map fun q => Value.int .i64 (markF N C m s.toNat q))
theorem agg_inj {n : Nat} {f g : Nat → Int} (h : (Value.agg ((Array.range n).map fun q => Value.int .i64 (f q))) = .agg ((Array.range n).map fun q => Value.int .i64 (g q))) (q : Nat) (hq : q < n) : f q = g q := by
  injection h with h
  have h1 : ((Array.range n).map fun q => Value.int .i64 (f q))[q]? = ((Array.range n).map fun q => Value.int .i64 (g q))[q]? := by rw [h]
  simpa [hq] using h1
theorem mark_iff {m n : Nat} {N : List (List Int)} (hG : GoodN m n N) {E : List Bool} {k : Nat} {C : List Int} (hk : 1 ≤ k) (hC : LvAt N E m n k C) {s t : Int} (hs : s ∈ metL N) (ht : t ∈ metL N) : markV N C m s = markV N C m t ↔ simB N E m (k + 1) s.toNat t.toNat = true := by
  have hm := hG.2.2.2.1
  rw [simB_succ, ← hC.2 s hs t ht]
  have hn : ∀ j, j < m → (C.getD (nxt N s.toNat j) 0 = C.getD (nxt N t.toNat j) 0 ↔ simB N E m k (nxt N s.toNat j) (nxt N t.toNat j) = true) := fun j hj => by
    have := hC.2 _ (met_nxt hG hs j hj).1 _ (met_nxt hG ht j hj).1
    rwa [Int.toNat_natCast, Int.toNat_natCast] at this
  constructor
  · intro h
    have h0 := agg_inj h 0 (by omega)
    simp only [markF, if_pos] at h0
    refine ⟨sim_ends hk ((hC.2 s hs t ht).1 h0), h0, fun j hj => (hn j hj).1 ?_⟩
    have h1 := agg_inj h (j + 1) (by omega)
    simp only [markF] at h1
    rw [if_neg (Nat.succ_ne_zero j), if_pos (show j + 1 ≤ m by omega), if_neg (Nat.succ_ne_zero j), if_pos (show j + 1 ≤ m by omega)] at h1
    simpa using h1
  · rintro ⟨_, h1, h2⟩
    unfold markV
    congr 2
    funext q
    simp only [markF]
    split
    · rw [h1]
    · split
      · rw [(hn (q - 1) (by omega)).2 (h2 _ (by omega))]
      · rfl

/-- The numbers of marks, as they come. -/
def numF (mv : Int → Value) (reps : List Int) : List (Value × Value) := (List.range reps.length).map fun i => (mv (reps.getD i 0), Value.int .i64 (i : Int))
theorem numF_len (mv : Int → Value) (reps : List Int) : (numF mv reps).length = reps.length := by simp [numF]
theorem numF_none {mv : Int → Value} {reps : List Int} {s : Int} (h : ∀ r ∈ reps, mv r ≠ mv s) : ¬ mv s ∈ (numF mv reps).map Prod.fst := by
  simp only [numF, List.map_map, List.mem_map, List.mem_range, Function.comp, not_exists, not_and]
  intro i hi
  exact h _ (by rw [getD_at _ i hi]; exact List.getElem_mem hi)
theorem numF_put (mv : Int → Value) (reps : List Int) (s : Int) : numF mv reps ++ [(mv s, .int .i64 (reps.length : Int))] = numF mv (reps ++ [s]) := by
  unfold numF
  rw [List.length_append, List.length_singleton, List.range_succ, List.map_append]
  congr 1
  · apply List.map_congr_left
    intro i hi
    rw [List.mem_range] at hi
    rw [pre_getD (List.prefix_append _ _) i hi]
  · simp [List.getD]
theorem numF_some {mv : Int → Value} {R : Nat → Nat → Bool} {reps : List Int} {s : Int} (h : ∀ r ∈ reps, (mv r = mv s ↔ R s.toNat r.toNat = true)) (hs : ∃ r ∈ reps, R s.toNat r.toNat = true) : (mv s, Value.int .i64 ((clsL R reps s : Nat) : Int)) ∈ numF mv reps := by
  have hl := cls_lt hs
  have hr := cls_R hl
  refine List.mem_map.2 ⟨clsL R reps s, List.mem_range.2 hl, ?_⟩
  rw [(h _ (by rw [getD_at _ _ hl]; exact List.getElem_mem hl)).2 hr]

/-- A spot's two numbers. -/
def hiI (M s : Nat) : Int := ((s / M : Nat) : Int)
def loI (M s : Nat) : Int := ((s % M : Nat) : Int)
/-- Spots (a state of the one, a state of the other, of M), and how they were met. -/
def spotV (M : Nat) (s : Int) : Value := .agg #[.int .i64 (hiI M (s.toNat)), .int .i64 (loI M (s.toNat))]
theorem spotV_inj {M : Nat} {s t : Int} (hs : 0 ≤ s) (ht : 0 ≤ t) (h : spotV M s = spotV M t) : s = t := by
  unfold spotV at h
  injection h with h
  have h1 : (s.toNat / M : Nat) = t.toNat / M ∧ (s.toNat % M : Nat) = t.toNat % M := by
    have h0 := congrArg (fun a : Array Value => a[0]?) h
    have h1 := congrArg (fun a : Array Value => a[1]?) h
    simp only [List.getElem?_toArray, List.getElem?_cons_zero, List.getElem?_cons_succ, Option.some.injEq, Value.int.injEq, true_and] at h0 h1
    unfold hiI at h0
    unfold loI at h1
    exact ⟨Int.ofNat.inj h0, Int.ofNat.inj h1⟩
  have := Nat.div_add_mod s.toNat M
  have h2 := Nat.div_add_mod t.toNat M
  rw [h1.1, h1.2, h2] at this
  omega
end Go.Proofs.Ytebbjmcjgjecmaa

/- First words: how long they are, the way back to the beginning; of two automata one: mathematics. -/
namespace Go.Proofs.Ytebbjmcjgjecmaa
open Go.RowKit

/-- OF TWO ONE: state x of the one and y of the other, of n', is x times n' and y. -/
def prodN (N N' : List (List Int)) (m : Nat) : List (List Int) := (List.range (N.length * N'.length)).map fun s => (List.range m).map fun l => (N.getD (s / N'.length) []).getD l 0 * (N'.length : Int) + (N'.getD (s % N'.length) []).getD l 0
/-- What how says of whether both take it. -/
def howB (how : Int) : Bool → Bool → Bool
  | false, false => how % 2 == 1
  | true, false => how / 2 % 2 == 1
  | false, true => how / 4 % 2 == 1
  | true, true => how / 8 % 2 == 1
def prodE (how : Int) (n n' : Nat) (E E' : List Bool) : List Bool := (List.range (n * n')).map fun s => howB how (E.getD (s / n') false) (E'.getD (s % n') false)
theorem pair_lt {n n' x y : Nat} (hx : x < n) (hy : y < n') : x * n' + y < n * n' := by
  have := Nat.mul_le_mul_right n' (show x + 1 ≤ n from hx)
  rw [Nat.add_mul] at this
  omega
theorem pair_parts {n n' x y : Nat} (_hx : x < n) (hy : y < n') : (x * n' + y) / n' = x ∧ (x * n' + y) % n' = y := by
  constructor
  · rw [Nat.mul_comm, Nat.mul_add_div (by omega), Nat.div_eq_of_lt hy]; omega
  · rw [Nat.mul_comm, Nat.mul_add_mod, Nat.mod_eq_of_lt hy]
theorem parts_lt {n n' s : Nat} (h : s < n * n') : s / n' < n ∧ s % n' < n' := by
  have h0 : 0 < n' := by
    rcases Nat.eq_zero_or_pos n' with e | e
    · rw [e, Nat.mul_zero] at h; omega
    · exact e
  exact ⟨Nat.div_lt_of_lt_mul (by rw [Nat.mul_comm]; exact h), Nat.mod_lt _ h0⟩
theorem prodN_get {N N' : List (List Int)} {m s : Nat} (h : s < N.length * N'.length) : (prodN N N' m).getD s [] = (List.range m).map fun l => (N.getD (s / N'.length) []).getD l 0 * (N'.length : Int) + (N'.getD (s % N'.length) []).getD l 0 := by simp [prodN, List.getD, h]
theorem prodE_get {how : Int} {n n' : Nat} {E E' : List Bool} {s : Nat} (h : s < n * n') : (prodE how n n' E E').getD s false = howB how (E.getD (s / n') false) (E'.getD (s % n') false) := by simp [prodE, List.getD, h]
theorem prod_cell {m n n' : Nat} {N N' : List (List Int)} (hG : GoodN m n N) (hG' : GoodN m n' N') {s l : Nat} (hs : s < n * n') (hl : l < m) : ((prodN N N' m).getD s []).getD l 0 = ((nxt N (s / n') l * n' + nxt N' (s % n') l : Nat) : Int) := by
  obtain ⟨h1, h2⟩ := parts_lt hs
  rw [prodN_get (by rw [hG.1, hG'.1]; exact hs), hG'.1]
  rw [show ((List.range m).map fun l => (N.getD (s / n') []).getD l 0 * (n' : Int) + (N'.getD (s % n') []).getD l 0).getD l 0 = (N.getD (s / n') []).getD l 0 * (n' : Int) + (N'.getD (s % n') []).getD l 0 by simp [List.getD, hl]]
  have e1 := (nxt_cell hG h1 hl).2
  have e2 := (nxt_cell hG' h2 hl).2
  rw [e1, e2]
  simp
theorem prod_nxt {m n n' : Nat} {N N' : List (List Int)} (hG : GoodN m n N) (hG' : GoodN m n' N') {s l : Nat} (hs : s < n * n') (hl : l < m) : nxt (prodN N N' m) s l = nxt N (s / n') l * n' + nxt N' (s % n') l := by
  unfold nxt
  have := prod_cell hG hG' hs hl
  unfold nxt at this
  rw [this, Int.toNat_natCast]
theorem prod_good {m n n' : Nat} {N N' : List (List Int)} (hG : GoodN m n N) (hG' : GoodN m n' N') (hn : n * n' ≤ 4000000) : GoodN m (n * n') (prodN N N' m) := by
  refine ⟨by simp [prodN, hG.1, hG'.1], Nat.mul_pos hG.2.1 hG'.2.1, hn, hG.2.2.2.1, hG.2.2.2.2.1, fun s hs => ⟨?_, fun j hj => ?_⟩⟩
  · rw [prodN_get (by rw [hG.1, hG'.1]; exact hs)]; simp
  · rw [prod_cell hG hG' hs hj]
    obtain ⟨h1, h2⟩ := parts_lt hs
    have := pair_lt (nxt_cell hG h1 hj).1 (nxt_cell hG' h2 hj).1
    omega
theorem leastK_80 {m n : Nat} {N : List (List Int)} (hG : GoodN m n N) (E : List Bool) (hn : n ≤ 80) : leastK N E m ≤ 80 := by
  unfold leastK
  exact Nat.le_trans (reps_count _ _) (Nat.le_trans (met_len hG) hn)
theorem autoC_80 {b t : Int} {N : List (List Int)} {e : Nat} (h : autoC b t N e = 0) : N.length ≤ 80 := by
  unfold autoC at h
  split at h
  · split at h
    · cases h
    · split at h
      · cases h
      · omega
  · contradiction
end Go.Proofs.Ytebbjmcjgjecmaa

/- What takes the same words has one least automaton: mathematics. -/
namespace Go.Proofs.Ytebbjmcjgjecmaa
open Go.RowKit

theorem okW_append {m : Nat} {u v : List Int} : okW m (u ++ v) ↔ okW m u ∧ okW m v := by
  unfold okW
  constructor
  · intro h; exact ⟨fun x hx => h x (by simp [hx]), fun x hx => h x (by simp [hx])⟩
  · rintro ⟨h1, h2⟩ x hx
    rcases List.mem_append.1 hx with h | h
    · exact h1 x h
    · exact h2 x h
theorem runL_runF (N : List (List Int)) (u v : List Int) : runL N (u ++ v) = runF N (runL N u) v := runL_append N u v
theorem run_lt {m n : Nat} {N : List (List Int)} (h : GoodN m n N) (w : List Int) (hw : okW m w) : runL N w < n := by
  have := runL_lt h w w.length (Nat.le_refl _) (fun j hj => hw _ (by rw [getD_at _ j hj]; exact List.getElem_mem hj))
  rwa [List.take_length] at this

/-- Two automata that take the same words; any two states of either part. -/
structure Twins (m K K' : Nat) (A : List (List Int)) (EA : List Bool) (B : List (List Int)) (EB : List Bool) : Prop where
  good : GoodN m K A
  good' : GoodN m K' B
  same : ∀ w, okW m w → EA.getD (runL A w) false = EB.getD (runL B w) false
  apart : ∀ s t, s < K → t < K → langE A EA m s t → s = t
  apart' : ∀ s t, s < K' → t < K' → langE B EB m s t → s = t
theorem Twins.symm {m K K' : Nat} {A : List (List Int)} {EA : List Bool} {B : List (List Int)} {EB : List Bool} (h : Twins m K K' A EA B EB) : Twins m K' K B EB A EA := ⟨h.good', h.good, fun w hw => (h.same w hw).symm, h.apart', h.apart⟩
/-- One word leads here and there. -/
def RelT (m : Nat) (A B : List (List Int)) (s t : Nat) : Prop := ∃ w, okW m w ∧ runL A w = s ∧ runL B w = t
theorem relT_right {m K K' : Nat} {A : List (List Int)} {EA : List Bool} {B : List (List Int)} {EB : List Bool} (h : Twins m K K' A EA B EB) {s t t' : Nat} (h1 : RelT m A B s t) (h2 : RelT m A B s t') : t = t' := by
  obtain ⟨u, hu, e1, rfl⟩ := h1
  obtain ⟨v, hv, e2, rfl⟩ := h2
  refine h.apart' _ _ (run_lt h.good' u hu) (run_lt h.good' v hv) fun z hz => ?_
  rw [← runL_runF, ← runL_runF, ← h.same _ (okW_append.2 ⟨hu, hz⟩), ← h.same _ (okW_append.2 ⟨hv, hz⟩), runL_runF, runL_runF, e1, e2]
theorem relT_left {m K K' : Nat} {A : List (List Int)} {EA : List Bool} {B : List (List Int)} {EB : List Bool} (h : Twins m K K' A EA B EB) {s s' t : Nat} (h1 : RelT m A B s t) (h2 : RelT m A B s' t) : s = s' := by
  obtain ⟨u, hu, e1, e2⟩ := h1
  obtain ⟨v, hv, e3, e4⟩ := h2
  exact relT_right h.symm ⟨u, hu, e2, e1⟩ ⟨v, hv, e4, e3⟩
theorem relT_step {m : Nat} {A B : List (List Int)} {s t j : Nat} (h : RelT m A B s t) (hj : j < m) : RelT m A B (nxt A s j) (nxt B t j) := by
  obtain ⟨u, hu, rfl, rfl⟩ := h
  exact ⟨u ++ [(j : Int)], okW_snoc.2 ⟨hu, by omega, by omega⟩, by rw [runL_snoc, step_nxt, Int.toNat_natCast], by rw [runL_snoc, step_nxt, Int.toNat_natCast]⟩
def RelI (m : Nat) (A B : List (List Int)) (x y : Int) : Prop := 0 ≤ x ∧ 0 ≤ y ∧ RelT m A B x.toNat y.toNat
def ParL (m : Nat) (A B : List (List Int)) (o o' : List Int) : Prop := o.length = o'.length ∧ ∀ i, i < o.length → RelI m A B (o.getD i 0) (o'.getD i 0)
theorem parL_snoc {m : Nat} {A B : List (List Int)} {o o' : List Int} {x y : Int} (h : ParL m A B o o') (hx : RelI m A B x y) : ParL m A B (o ++ [x]) (o' ++ [y]) := by
  refine ⟨by rw [List.length_append, List.length_append, h.1]; rfl, fun i hi => ?_⟩
  rw [List.length_append, List.length_singleton] at hi
  by_cases e : i < o.length
  · rw [pre_getD (List.prefix_append _ _) i e, pre_getD (List.prefix_append _ _) i (by rw [← h.1]; exact e)]
    exact h.2 i e
  · obtain rfl : i = o.length := by omega
    have e1 : (o ++ [x]).getD o.length 0 = x := by simp [List.getD]
    have e2 : (o' ++ [y]).getD o.length 0 = y := by rw [h.1]; simp [List.getD]
    rw [e1, e2]
    exact hx
theorem parL_mem {m K K' : Nat} {A : List (List Int)} {EA : List Bool} {B : List (List Int)} {EB : List Bool} (ht : Twins m K K' A EA B EB) {o o' : List Int} {x y : Int} (h : ParL m A B o o') (hx : RelI m A B x y) : x ∈ o ↔ y ∈ o' := by
  constructor
  · intro hm
    obtain ⟨i, hi, e⟩ := List.getElem_of_mem hm
    have h1 := h.2 i hi
    rw [getD_at _ i hi, e] at h1
    have := relT_right ht hx.2.2 h1.2.2
    have h2 := h1.2.1
    have h3 := hx.2.1
    have e2 : y = o'.getD i 0 := by omega
    rw [e2, getD_at _ i (by rw [← h.1]; exact hi)]
    exact List.getElem_mem _
  · intro hm
    obtain ⟨i, hi, e⟩ := List.getElem_of_mem hm
    have hi' : i < o.length := by rw [h.1]; exact hi
    have h1 := h.2 i hi'
    rw [getD_at o' i hi, e] at h1
    have := relT_left ht hx.2.2 h1.2.2
    have h2 := h1.1
    have h3 := hx.1
    have e2 : x = o.getD i 0 := by omega
    rw [e2, getD_at _ i hi']
    exact List.getElem_mem _
theorem parL_add {m K K' : Nat} {A : List (List Int)} {EA : List Bool} {B : List (List Int)} {EB : List Bool} (ht : Twins m K K' A EA B EB) {o o' : List Int} {x y : Int} (h : ParL m A B o o') (hx : RelI m A B x y) : ParL m A B (addL o x) (addL o' y) := by
  have hm := parL_mem ht h hx
  by_cases e : x ∈ o
  · rw [addL_yes e, addL_yes (hm.1 e)]; exact h
  · rw [addL_no e, addL_no (fun e' => e (hm.2 e'))]; exact parL_snoc h hx
theorem parL_row {m K K' : Nat} {A : List (List Int)} {EA : List Bool} {B : List (List Int)} {EB : List Bool} (ht : Twins m K K' A EA B EB) {o o' : List Int} {r r' : List Int} (h : ParL m A B o o') (hr : ParL m A B r r') (k : Nat) (hk : k ≤ r.length) : ParL m A B (rowAdd o (r.take k)) (rowAdd o' (r'.take k)) := by
  induction k with
  | zero => simpa [rowAdd] using h
  | succ k ih =>
    rw [rowAdd_take_succ _ _ k (by omega), rowAdd_take_succ _ _ k (by rw [← hr.1]; omega)]
    exact parL_add ht (ih (by omega)) (hr.2 k (by omega))
theorem parL_outs {m K K' : Nat} {A : List (List Int)} {EA : List Bool} {B : List (List Int)} {EB : List Bool} (ht : Twins m K K' A EA B EB) (i : Nat) : ParL m A B (outs A i) (outs B i) := by
  induction i with
  | zero =>
    refine ⟨rfl, fun i hi => ?_⟩
    simp [outs] at hi
    subst hi
    exact ⟨by simp [outs, List.getD], by simp [outs, List.getD], [], by simp [okW], by simp [outs, List.getD, runL], by simp [outs, List.getD, runL]⟩
  | succ i ih =>
    unfold outs
    by_cases hi : i < (outs A i).length
    · rw [if_pos hi, if_pos (by rw [← ih.1]; exact hi)]
      have hrel := ih.2 i hi
      have s1 := okO_get (outs_ok ht.good i) i hi
      have s2 := okO_get (outs_ok ht.good' i) i (by rw [← ih.1]; exact hi)
      have g1 := ht.good.2.2.2.2.2 _ (show ((outs A i).getD i 0).toNat < K by omega)
      have g2 := ht.good'.2.2.2.2.2 _ (show ((outs B i).getD i 0).toNat < K' by omega)
      have hrow : ParL m A B (A.getD ((outs A i).getD i 0).toNat []) (B.getD ((outs B i).getD i 0).toNat []) := by
        refine ⟨by rw [g1.1, g2.1], fun j hj => ?_⟩
        rw [g1.1] at hj
        exact ⟨(g1.2 j hj).1, (g2.2 j hj).1, relT_step hrel.2.2 hj⟩
      have := parL_row ht ih hrow _ (Nat.le_refl _)
      rw [List.take_length] at this
      have e : (B.getD ((outs B i).getD i 0).toNat []).take (A.getD ((outs A i).getD i 0).toNat []).length = B.getD ((outs B i).getD i 0).toNat [] := by rw [hrow.1, List.take_length]
      rwa [e] at this
    · rw [if_neg hi, if_neg (by rw [← ih.1]; exact hi)]
      exact ih
theorem outs_late {m n : Nat} {N : List (List Int)} (h : GoodN m n N) (j : Nat) : outs N (n + j) = metL N := by
  have e : outs N n = metL N := by unfold metL; rw [h.1]
  rw [← e]
  exact outs_stay N n (outs_len h n) j
/-- Where states are met in the order of their numbers: one and the same. -/
theorem twins_one {m K K' : Nat} {A : List (List Int)} {EA : List Bool} {B : List (List Int)} {EB : List Bool} (ht : Twins m K K' A EA B EB) (hA : metL A = natsL K) (hB : metL B = natsL K') (hEA : EA.length = K) (hEB : EB.length = K') : A = B ∧ EA = EB := by
  have hp := parL_outs ht (K + K')
  rw [outs_late ht.good K', Nat.add_comm, outs_late ht.good' K, hA, hB] at hp
  obtain rfl : K = K' := by have := hp.1; rwa [natsL_len, natsL_len] at this
  have hid : ∀ i, i < K → RelT m A B i i := fun i hi => by
    have := (hp.2 i (by rw [natsL_len]; exact hi)).2.2
    rwa [natsL_get hi, Int.toNat_natCast] at this
  constructor
  · apply List.ext_getElem
    · rw [ht.good.1, ht.good'.1]
    · intro i h1 h2
      have hi : i < K := by rw [← ht.good.1]; exact h1
      have g1 := ht.good.2.2.2.2.2 i hi
      have g2 := ht.good'.2.2.2.2.2 i hi
      have e1 : A.getD i [] = A[i] := by simp [List.getD, h1]
      have e2 : B.getD i [] = B[i] := by simp [List.getD, h2]
      rw [← e1, ← e2]
      apply List.ext_getElem
      · rw [g1.1, g2.1]
      · intro j j1 j2
        have hj : j < m := by rw [← g1.1]; exact j1
        have c1 := (nxt_cell ht.good hi hj)
        have c2 := (nxt_cell ht.good' hi hj)
        have hr := relT_step (hid i hi) hj
        have := relT_right ht hr (hid _ c1.1)
        rw [← getD_at _ j j1, ← getD_at _ j j2, c1.2, c2.2, this]
  · apply List.ext_getElem
    · rw [hEA, hEB]
    · intro i h1 h2
      obtain ⟨u, hu, e1, e2⟩ := hid i (by omega)
      have := ht.same u hu
      rw [e1, e2] at this
      simpa [List.getD, h1, h2] using this
/-- WHAT TAKES THE SAME WORDS HAS ONE LEAST AUTOMATON. -/
theorem least_same {m n n' : Nat} {N N' : List (List Int)} (hG : GoodN m n N) (hG' : GoodN m n' N') (E E' : List Bool) (h : ∀ w, okW m w → E.getD (runL N w) false = E'.getD (runL N' w) false) : leastN N E m = leastN N' E' m ∧ leastE N E m = leastE N' E' m :=
  twins_one (K := leastK N E m) (K' := leastK N' E' m) ⟨least_good hG E, least_good hG' E', fun w hw => by rw [least_takes hG E w hw, least_takes hG' E' w hw]; exact h w hw, fun s t hs ht => least_parts hG E hs ht, fun s t hs ht => least_parts hG' E' hs ht⟩ (least_met hG E) (least_met hG' E') (leastE_len N E m) (leastE_len N' E' m)
end Go.Proofs.Ytebbjmcjgjecmaa

/- Of two one, and not one: mathematics. -/
namespace Go.Proofs.Ytebbjmcjgjecmaa
open Go.RowKit

/-- Is the word taken? -/
def tkB (N : List (List Int)) (E : List Bool) (w : List Int) : Bool := E.getD (runL N w) false
theorem least_tk {m n n' : Nat} {N N' : List (List Int)} (hG : GoodN m n N) (hG' : GoodN m n' N') (E E' : List Bool) (h : ∀ w, okW m w → tkB N E w = tkB N' E' w) : leastN N E m = leastN N' E' m ∧ leastE N E m = leastE N' E' m ∧ leastK N E m = leastK N' E' m := by
  obtain ⟨h1, h2⟩ := least_same hG hG' E E' h
  exact ⟨h1, h2, by rw [← leastN_len, h1, leastN_len]⟩
end Go.Proofs.Ytebbjmcjgjecmaa

/- Sets of states as numbers, and the sets that come up, one after another: mathematics. -/
namespace Go.Proofs.Ytebbjmcjgjecmaa
open Go.RowKit

/-- The set of the states below n that p names: bit s for state s. -/
def maskB : Nat → (Nat → Bool) → Nat
  | 0, _ => 0
  | n + 1, p => if p n = true then maskB n p ||| 2 ^ n else maskB n p
theorem maskB_bit (n : Nat) (p : Nat → Bool) (s : Nat) : (maskB n p).testBit s = (decide (s < n) && p s) := by
  induction n with
  | zero => simp [maskB]
  | succ n ih =>
    unfold maskB
    by_cases hp : p n = true
    · rw [if_pos hp, Nat.testBit_or, ih, Nat.testBit_two_pow]
      by_cases e : n = s
      · subst e; simp [hp]
      · have : (s < n + 1) ↔ s < n := by omega
        simp [e, this]
    · rw [if_neg hp, ih]
      by_cases e : s = n
      · subst e; simp [hp]
      · have : (s < n + 1) ↔ s < n := by omega
        simp [this]
theorem maskB_lt (n : Nat) (p : Nat → Bool) : maskB n p < 2 ^ n := by
  apply Nat.lt_pow_two_of_testBit
  intro i hi
  rw [maskB_bit]
  simp; omega
theorem mask_ext {x y n : Nat} (hx : x < 2 ^ n) (hy : y < 2 ^ n) (h : ∀ s, s < n → x.testBit s = y.testBit s) : x = y := by
  apply Nat.eq_of_testBit_eq
  intro i
  by_cases hi : i < n
  · exact h i hi
  · have h2 : 2 ^ n ≤ 2 ^ i := Nat.pow_le_pow_right (by decide) (by omega)
    rw [Nat.testBit_lt_two_pow (Nat.lt_of_lt_of_le hx h2), Nat.testBit_lt_two_pow (Nat.lt_of_lt_of_le hy h2)]
theorem bit_lt {x n s : Nat} (hx : x < 2 ^ n) (h : x.testBit s = true) : s < n := by
  apply Classical.byContradiction
  intro hn
  rw [Nat.testBit_lt_two_pow (Nat.lt_of_lt_of_le hx (Nat.pow_le_pow_right (by decide) (by omega)))] at h
  cases h

/-- What comes up: in the order in which it is found. -/
def addG (L : List Nat) (x : Nat) : List Nat := if x ∈ L then L else L ++ [x]
def rowG (d : Nat → Nat → Nat) (L : List Nat) (x : Nat) : Nat → List Nat
  | 0 => L
  | l + 1 => addG (rowG d L x l) (d x l)
def outG (d : Nat → Nat → Nat) (m f : Nat) : Nat → List Nat
  | 0 => [f]
  | i + 1 => if i < (outG d m f i).length then rowG d (outG d m f i) ((outG d m f i).getD i 0) m else outG d m f i
def runG (d : Nat → Nat → Nat) (f : Nat) (w : List Int) : Nat := w.foldl (fun x l => d x l.toNat) f
theorem addG_pre (L : List Nat) (x : Nat) : L <+: addG L x := by unfold addG; split; exact List.prefix_refl _; exact List.prefix_append _ _
theorem addG_mem {L : List Nat} {x y : Nat} : y ∈ addG L x ↔ y ∈ L ∨ y = x := by
  unfold addG
  split
  · rename_i h
    constructor
    · exact Or.inl
    · rintro (h' | rfl)
      · exact h'
      · exact h
  · simp
theorem addG_nodup {L : List Nat} {x : Nat} (h : L.Nodup) : (addG L x).Nodup := by
  unfold addG
  split
  · exact h
  · rename_i hx
    rw [List.nodup_append]
    refine ⟨h, by simp, ?_⟩
    intro a ha b hb e
    simp at hb
    subst hb; subst e
    exact hx ha
theorem addG_old {L : List Nat} {x : Nat} (h : x ∈ L) : addG L x = L := by unfold addG; rw [if_pos h]
theorem addG_new {L : List Nat} {x : Nat} (h : ¬ x ∈ L) : addG L x = L ++ [x] := by unfold addG; rw [if_neg h]
theorem addG_len (L : List Nat) (x : Nat) : (addG L x).length ≤ L.length + 1 := by unfold addG; split <;> simp
theorem rowG_pre (d : Nat → Nat → Nat) (L : List Nat) (x l j : Nat) : rowG d L x l <+: rowG d L x (l + j) := by
  induction j with
  | zero => exact List.prefix_refl _
  | succ j ih => exact ih.trans (addG_pre _ _)
theorem rowG_from (d : Nat → Nat → Nat) (L : List Nat) (x l : Nat) : L <+: rowG d L x l := by
  have := rowG_pre d L x 0 l
  rwa [Nat.zero_add] at this
theorem rowG_mem {d : Nat → Nat → Nat} {L : List Nat} {x l y : Nat} : y ∈ rowG d L x l ↔ y ∈ L ∨ ∃ j, j < l ∧ y = d x j := by
  induction l with
  | zero => simp [rowG]
  | succ l ih =>
    unfold rowG
    rw [addG_mem, ih]
    constructor
    · rintro ((h | ⟨j, hj, h⟩) | h)
      · exact .inl h
      · exact .inr ⟨j, by omega, h⟩
      · exact .inr ⟨l, by omega, h⟩
    · rintro (h | ⟨j, hj, h⟩)
      · exact .inl (.inl h)
      · by_cases e : j = l
        · subst e; exact .inr h
        · exact .inl (.inr ⟨j, by omega, h⟩)
theorem rowG_nodup {d : Nat → Nat → Nat} {L : List Nat} {x : Nat} (h : L.Nodup) (l : Nat) : (rowG d L x l).Nodup := by
  induction l with
  | zero => exact h
  | succ l ih => exact addG_nodup ih
theorem outG_pre (d : Nat → Nat → Nat) (m f i j : Nat) : outG d m f i <+: outG d m f (i + j) := by
  induction j with
  | zero => exact List.prefix_refl _
  | succ j ih =>
    refine ih.trans ?_
    show _ <+: outG d m f (i + j + 1)
    conv => rhs; unfold outG
    split
    · exact rowG_from _ _ _ _
    · exact List.prefix_refl _
theorem outG_le {d : Nat → Nat → Nat} {m f i k : Nat} (h : i ≤ k) : outG d m f i <+: outG d m f k := by
  have := outG_pre d m f i (k - i)
  rwa [Nat.add_sub_cancel' h] at this
theorem outG_nodup (d : Nat → Nat → Nat) (m f i : Nat) : (outG d m f i).Nodup := by
  induction i with
  | zero => simp [outG]
  | succ i ih =>
    unfold outG
    split
    · exact rowG_nodup ih _
    · exact ih
theorem outG_pos (d : Nat → Nat → Nat) (m f i : Nat) : 0 < (outG d m f i).length ∧ (outG d m f i).getD 0 0 = f := by
  obtain ⟨t, ht⟩ := outG_le (d := d) (m := m) (f := f) (Nat.zero_le i)
  rw [← ht]
  simp [outG]
theorem pre_getN {a b : List Nat} (h : a <+: b) {i : Nat} (hi : i < a.length) : b.getD i 0 = a.getD i 0 := by
  obtain ⟨t, rfl⟩ := h
  simp [List.getD, List.getElem?_append_left hi]
theorem getN_mem {a : List Nat} {i : Nat} (hi : i < a.length) : a.getD i 0 ∈ a := by
  simp [List.getD, hi]
theorem mem_getN {a : List Nat} {x : Nat} (h : x ∈ a) : ∃ i, i < a.length ∧ a.getD i 0 = x := by
  obtain ⟨i, hi, rfl⟩ := List.getElem_of_mem h
  exact ⟨i, hi, by simp [List.getD, hi]⟩
/-- Those ahead of i have been seen through. -/
theorem outG_seen {d : Nat → Nat → Nat} {m f i p j : Nat} (hp : p < i) (hl : p < (outG d m f i).length) (hj : j < m) : d ((outG d m f i).getD p 0) j ∈ outG d m f i := by
  induction i with
  | zero => omega
  | succ i ih =>
    by_cases hd : i < (outG d m f i).length
    · have e : outG d m f (i + 1) = rowG d (outG d m f i) ((outG d m f i).getD i 0) m := by
        conv => lhs; unfold outG
        rw [if_pos hd]
      have hpl : p < (outG d m f i).length := by omega
      rw [pre_getN (outG_pre d m f i 1) hpl, e, rowG_mem]
      by_cases ep : p = i
      · subst ep; exact .inr ⟨j, hj, rfl⟩
      · exact .inl (ih (by omega) hpl)
    · have e : outG d m f (i + 1) = outG d m f i := by
        conv => lhs; unfold outG
        rw [if_neg hd]
      rw [e] at hl ⊢
      exact ih (by omega) hl
theorem runG_snoc (d : Nat → Nat → Nat) (f : Nat) (w : List Int) (x : Int) : runG d f (w ++ [x]) = d (runG d f w) x.toNat := by simp [runG, List.foldl_append]
theorem runG_cons (d : Nat → Nat → Nat) (f : Nat) (w : List Int) (x : Int) : runG d f (x :: w) = runG d (d f x.toNat) w := rfl
/-- Each of them comes of a word. -/
theorem outG_reach {d : Nat → Nat → Nat} {m f i x : Nat} (h : x ∈ outG d m f i) : ∃ w, okW m w ∧ runG d f w = x := by
  induction i generalizing x with
  | zero => simp [outG] at h; subst h; exact ⟨[], by simp [okW], rfl⟩
  | succ i ih =>
    unfold outG at h
    split at h
    · rename_i hi
      rcases rowG_mem.1 h with h | ⟨j, hj, rfl⟩
      · exact ih h
      · obtain ⟨w, hw, hr⟩ := ih (getN_mem hi)
        refine ⟨w ++ [(j : Int)], okW_append.2 ⟨hw, fun y hy => by simp at hy; omega⟩, ?_⟩
        rw [runG_snoc, hr, Int.toNat_natCast]
    · exact ih h
/-- All have been seen through. -/
def ClosedG (d : Nat → Nat → Nat) (m : Nat) (L : List Nat) : Prop := ∀ x ∈ L, ∀ j, j < m → d x j ∈ L
theorem outG_closed {d : Nat → Nat → Nat} {m f i : Nat} (h : (outG d m f i).length ≤ i) : ClosedG d m (outG d m f i) := fun x hx j hj => by
  obtain ⟨p, hp, rfl⟩ := mem_getN hx
  exact outG_seen (by omega) hp hj
theorem outG_stay {d : Nat → Nat → Nat} {m f i : Nat} (h : (outG d m f i).length ≤ i) (j : Nat) : outG d m f (i + j) = outG d m f i := by
  induction j with
  | zero => rfl
  | succ j ih =>
    show outG d m f (i + j + 1) = _
    conv => lhs; unfold outG
    rw [ih, if_neg (by omega)]
theorem closedG_run {d : Nat → Nat → Nat} {m f : Nat} {L : List Nat} (h : ClosedG d m L) (hf : f ∈ L) (w : List Int) (hw : okW m w) : runG d f w ∈ L := by
  induction w generalizing f with
  | nil => exact hf
  | cons x w ih =>
    rw [runG_cons]
    have hx := hw x (by simp)
    exact ih (h f hf _ (by omega)) (fun y hy => hw y (by simp [hy]))
theorem nodup_sub {L K : List Nat} (hn : L.Nodup) (h : ∀ x ∈ L, x ∈ K) : L.length ≤ K.length := by
  induction L generalizing K with
  | nil => simp
  | cons a L ih =>
    rw [List.nodup_cons] at hn
    have ha := h a (by simp)
    have := ih (K := K.erase a) hn.2 (fun x hx => (List.mem_erase_of_ne (by rintro rfl; exact hn.1 hx)).2 (h x (by simp [hx])))
    rw [List.length_erase_of_mem ha] at this
    have := List.length_pos_of_mem ha
    simp
    omega
/-- The automaton of them. -/
def gN (d : Nat → Nat → Nat) (m : Nat) (L : List Nat) : List (List Int) := L.map fun x => (List.range m).map fun l => ((L.idxOf (d x l) : Nat) : Int)
def gE (p : Nat → Bool) (L : List Nat) : List Bool := L.map p
theorem gN_len (d : Nat → Nat → Nat) (m : Nat) (L : List Nat) : (gN d m L).length = L.length := by simp [gN]
theorem gE_len (p : Nat → Bool) (L : List Nat) : (gE p L).length = L.length := by simp [gE]
theorem gN_row {d : Nat → Nat → Nat} {m : Nat} {L : List Nat} {i : Nat} (hi : i < L.length) : (gN d m L).getD i [] = (List.range m).map fun l => ((L.idxOf (d (L.getD i 0) l) : Nat) : Int) := by simp [gN, List.getD, hi]
theorem gN_cell {d : Nat → Nat → Nat} {m : Nat} {L : List Nat} {i l : Nat} (hi : i < L.length) (hl : l < m) : ((gN d m L).getD i []).getD l 0 = ((L.idxOf (d (L.getD i 0) l) : Nat) : Int) := by
  rw [gN_row hi]
  simp [List.getD, hl]
theorem gE_get {p : Nat → Bool} {L : List Nat} {i : Nat} (hi : i < L.length) : (gE p L).getD i false = p (L.getD i 0) := by simp [gE, List.getD, hi]
theorem gN_good {d : Nat → Nat → Nat} {m : Nat} {L : List Nat} (hc : ClosedG d m L) (h0 : 0 < L.length) (h64 : L.length ≤ 4000000) (h1 : 1 ≤ m) (h36 : m ≤ 36) : GoodN m L.length (gN d m L) := by
  refine ⟨gN_len _ _ _, h0, h64, h36, h1, fun s hs => ⟨by rw [gN_row hs]; simp, fun j hj => ?_⟩⟩
  rw [gN_cell hs hj]
  have := List.idxOf_lt_length_of_mem (hc _ (getN_mem hs) j hj)
  omega
theorem idx_get {L : List Nat} {x : Nat} (h : x ∈ L) : L.getD (L.idxOf x) 0 = x := by
  have hl := List.idxOf_lt_length_of_mem h
  simp [List.getD, hl]
/-- What comes of a set by letters; the set to which words of some letters lead; has a set an end? -/
def stepM (N : List (List Int)) (n : Nat) (ls : List Int) (M : Nat) : Nat := maskB n fun t => (List.range n).any fun s => M.testBit s && ls.any fun l => decide (stepL N s l = t)
def byL (N : List (List Int)) (ls : List Int) (s l : Nat) : Nat := stepL N s (ls.getD l 0)
def cloM (N : List (List Int)) (n : Nat) (ls : List Int) : Nat := maskB n fun t => decide (t ∈ outG (byL N ls) ls.length 0 n)
def endM (n : Nat) (E : List Bool) (M : Nat) : Bool := (List.range n).any fun s => E.getD s false && M.testBit s
theorem stepM_bit {N : List (List Int)} {n : Nat} {ls : List Int} {M t : Nat} : (stepM N n ls M).testBit t = true ↔ t < n ∧ ∃ s, s < n ∧ M.testBit s = true ∧ ∃ l ∈ ls, stepL N s l = t := by
  unfold stepM
  rw [maskB_bit, Bool.and_eq_true, decide_eq_true_iff, List.any_eq_true]
  constructor
  · rintro ⟨h0, s, hs, h⟩
    rw [Bool.and_eq_true, List.any_eq_true] at h
    obtain ⟨h1, l, hl, h2⟩ := h
    exact ⟨h0, s, List.mem_range.1 hs, h1, l, hl, by simpa using h2⟩
  · rintro ⟨h0, s, hs, h1, l, hl, h2⟩
    refine ⟨h0, s, List.mem_range.2 hs, ?_⟩
    rw [Bool.and_eq_true, List.any_eq_true]
    exact ⟨h1, l, hl, by simpa using h2⟩
theorem run_byL (N : List (List Int)) (ls : List Int) (w : List Int) : runG (byL N ls) 0 w = runL N (w.map fun x => ls.getD x.toNat 0) := by
  unfold runG runL
  rw [List.foldl_map]
  rfl
theorem cloM_bit {m n : Nat} {N : List (List Int)} (hG : GoodN m n N) {ls : List Int} (hl : ∀ x ∈ ls, 0 ≤ x ∧ x < (m : Int)) {t : Nat} : (cloM N n ls).testBit t = true ↔ ∃ z : List Int, (∀ x ∈ z, x ∈ ls) ∧ runL N z = t := by
  have hz : ∀ w, okW ls.length w → (∀ x ∈ w.map (fun x => ls.getD x.toNat 0), x ∈ ls) := fun w hw x hx => by
    obtain ⟨y, hy, rfl⟩ := List.mem_map.1 hx
    have := hw y hy
    rw [getD_at _ y.toNat (by omega)]
    exact List.getElem_mem _
  have hlt : ∀ z : List Int, (∀ x ∈ z, x ∈ ls) → runL N z < n := fun z hz => by
    have := runL_lt hG z z.length (Nat.le_refl _) (fun j hj => hl _ (hz _ (by rw [getD_at _ j hj]; exact List.getElem_mem _)))
    rwa [List.take_length] at this
  have hlen : (outG (byL N ls) ls.length 0 n).length ≤ n := by
    have := nodup_sub (K := List.range n) (outG_nodup (byL N ls) ls.length 0 n) (fun x hx => by
      obtain ⟨w, hw, rfl⟩ := outG_reach hx
      rw [run_byL]
      exact List.mem_range.2 (hlt _ (hz w hw)))
    rwa [List.length_range] at this
  have hp := outG_pos (byL N ls) ls.length 0 n
  have h0 : 0 ∈ outG (byL N ls) ls.length 0 n := by have := getN_mem hp.1; rwa [hp.2] at this
  unfold cloM
  rw [maskB_bit, Bool.and_eq_true, decide_eq_true_iff, decide_eq_true_iff]
  constructor
  · rintro ⟨-, h⟩
    obtain ⟨w, hw, rfl⟩ := outG_reach h
    rw [run_byL]
    exact ⟨_, hz w hw, rfl⟩
  · rintro ⟨z, hz1, rfl⟩
    refine ⟨hlt z hz1, ?_⟩
    have e : z = (z.map fun x => ((ls.idxOf x : Nat) : Int)).map fun x => ls.getD x.toNat 0 := by
      rw [List.map_map]
      conv => lhs; rw [← List.map_id z]
      apply List.map_congr_left
      intro x hx
      have := List.idxOf_lt_length_of_mem (hz1 x hx)
      simp [List.getD, this]
    rw [e, ← run_byL]
    refine closedG_run (outG_closed hlen) h0 _ fun y hy => ?_
    obtain ⟨x, hx, rfl⟩ := List.mem_map.1 hy
    have := List.idxOf_lt_length_of_mem (hz1 x hx)
    omega
theorem stepM_lt (N : List (List Int)) (n : Nat) (ls : List Int) (M : Nat) : stepM N n ls M < 2 ^ n := maskB_lt _ _
theorem cloM_lt (N : List (List Int)) (n : Nat) (ls : List Int) : cloM N n ls < 2 ^ n := maskB_lt _ _
theorem endM_iff {n : Nat} {E : List Bool} {M : Nat} : endM n E M = true ↔ ∃ s, s < n ∧ E.getD s false = true ∧ M.testBit s = true := by
  unfold endM
  rw [List.any_eq_true]
  constructor
  · rintro ⟨s, hs, h⟩
    rw [Bool.and_eq_true] at h
    exact ⟨s, List.mem_range.1 hs, h⟩
  · rintro ⟨s, hs, h1, h2⟩
    exact ⟨s, List.mem_range.2 hs, by rw [h1, h2]; rfl⟩

def dM (N : List (List Int)) (n : Nat) (read : List (List Int)) (M l : Nat) : Nat := stepM N n (read.getD l []) M
end Go.Proofs.Ytebbjmcjgjecmaa

/- The automaton of couples: states of two automata side by side, numbered as they are met: mathematics. -/
namespace Go.Proofs.Ytebbjmcjgjecmaa
open Go.RowKit

/-- One and the same. -/
def eqB (s t : Nat) : Bool := s == t
theorem eqB_iff {s t : Nat} : eqB s t = true ↔ s = t := by simp [eqB]
theorem eqB_eqv : EqvB eqB := ⟨fun _ => by simp [eqB], fun s t h => by rw [eqB_iff] at h ⊢; exact h.symm, fun s t u h h' => by rw [eqB_iff] at h h' ⊢; exact h.trans h'⟩
theorem eqB_stab (N : List (List Int)) (E : List Bool) (m : Nat) : Stab N E m eqB :=
  ⟨eqB_eqv, fun s _ t _ h => by rw [eqB_iff] at h; rw [h], fun s _ t _ h j _ => by rw [eqB_iff] at h ⊢; rw [h]⟩
theorem reps_self {n : Nat} {o : List Int} (h : OkO n o) : repsL eqB o = o := by
  induction o using list_snoc_ind with
  | h0 => rfl
  | h1 l x ih =>
    obtain ⟨h1, h2⟩ := h
    rw [List.nodup_append] at h1
    rw [repsL_snoc, ih ⟨h1.1, fun y hy => h2 y (by simp [hy])⟩]
    unfold repAdd
    rw [if_neg ?_]
    intro hx
    obtain ⟨r, hr, e⟩ := List.any_eq_true.1 hx
    rw [eqB_iff] at e
    have hr0 := (h2 r (by simp [hr])).1
    have hx0 := (h2 x (by simp)).1
    exact h1.2.2 r hr x (by simp) (by omega)
/-- Which of them it is. -/
def posL (o : List Int) (x : Int) : Nat := clsL eqB o x
theorem pos_lt {o : List Int} {x : Int} (hx : x ∈ o) : posL o x < o.length := cls_lt ⟨x, hx, by simp [eqB]⟩
theorem pos_pre {o o' : List Int} {x : Int} (h : o <+: o') (hx : x ∈ o) : posL o' x = posL o x := by
  obtain ⟨s, rfl⟩ := h
  have := pos_lt hx
  unfold posL clsL at this ⊢
  rw [List.findIdx_append, if_pos this]
theorem pos_none {n : Nat} {o : List Int} (h : OkO n o) {x : Int} (h0 : 0 ≤ x) (hx : ¬ x ∈ o) : posL o x = o.length := by
  unfold posL clsL
  rw [List.findIdx_eq_length]
  intro r hr
  cases e : eqB x.toNat r.toNat with
  | false => rfl
  | true =>
    rw [eqB_iff] at e
    have := (h.2 r hr).1
    exact absurd (show x = r by omega) (fun e' => hx (e' ▸ hr))
theorem pos_new {n : Nat} {o : List Int} (h : OkO n o) {x : Int} (h0 : 0 ≤ x) (hx : ¬ x ∈ o) : posL (o ++ [x]) x = o.length := by
  have := pos_none h h0 hx
  unfold posL clsL at this ⊢
  rw [List.findIdx_append, if_neg (by omega)]
  simp [eqB]

/-- The couples that are met, numbered as they come: the automaton of them. -/
def coupN (P : List (List Int)) : List (List Int) := quoN eqB (metL P) P
def coupE (P : List (List Int)) (Q : List Bool) : List Bool := quoE eqB (metL P) Q
section
variable {m n : Nat} {P : List (List Int)} (hG : GoodN m n P)
include hG
theorem coup_len : (coupN P).length = (metL P).length := by unfold coupN; rw [quoN_length, reps_self (met_ok hG)]
theorem coupE_len (Q : List Bool) : (coupE P Q).length = (metL P).length := by unfold coupE; rw [quoE_length, reps_self (met_ok hG)]
theorem coup_good : GoodN m (metL P).length (coupN P) := by
  have := quo_good hG (eqB_stab P [] m)
  rwa [reps_self (met_ok hG)] at this
theorem coup_tk (Q : List Bool) (w : List Int) (hw : okW m w) : tkB (coupN P) (coupE P Q) w = tkB P Q w := quo_takes hG (eqB_stab P Q m) w hw
theorem coup_least (Q : List Bool) : leastN (coupN P) (coupE P Q) m = leastN P Q m ∧ leastE (coupN P) (coupE P Q) m = leastE P Q m ∧ leastK (coupN P) (coupE P Q) m = leastK P Q m := least_tk (coup_good hG) hG _ _ fun w hw => coup_tk hG Q w hw
theorem coup_row {i : Nat} (hi : i < (metL P).length) : (coupN P).getD i [] = (P.getD ((metL P).getD i 0).toNat []).map fun x => ((posL (metL P) x : Nat) : Int) := by
  have h := reps_self (met_ok hG)
  unfold coupN
  rw [quoN_get (by rw [h]; exact hi), h]
  rfl
theorem coup_end (Q : List Bool) {i : Nat} (hi : i < (metL P).length) : (coupE P Q).getD i false = Q.getD ((metL P).getD i 0).toNat false := by
  have h := reps_self (met_ok hG)
  unfold coupE
  rw [quoE_get (by rw [h]; exact hi), h]
/-- What was met behind i of them is where all begins. -/
theorem outs_met (i : Nat) (hi : i ≤ (outs P i).length) : outs P i <+: metL P := by
  have h1 := outs_len hG i
  have h2 := outs_pre P i (n - i)
  unfold metL
  rwa [hG.1, show n = i + (n - i) by omega]
end
/-- Along the row of the i-th of them, l letters read. -/
def rowO (P : List (List Int)) (i l : Nat) : List Int := rowAdd (outs P i) ((P.getD ((outs P i).getD i 0).toNat []).take l)
theorem rowO_zero (P : List (List Int)) (i : Nat) : rowO P i 0 = outs P i := by simp [rowO, rowAdd]
theorem rowO_succ {P : List (List Int)} {i l : Nat} (hl : l < (P.getD ((outs P i).getD i 0).toNat []).length) : rowO P i (l + 1) = addL (rowO P i l) ((P.getD ((outs P i).getD i 0).toNat []).getD l 0) := rowAdd_take_succ _ _ _ hl
theorem rowO_end {P : List (List Int)} {i : Nat} (hi : i < (outs P i).length) : rowO P i (P.getD ((outs P i).getD i 0).toNat []).length = outs P (i + 1) := by
  unfold rowO; rw [List.take_length, outs_succ P i hi]
theorem rowAdd_app (o r s : List Int) : rowAdd o r <+: rowAdd o (r ++ s) := by
  unfold rowAdd
  rw [List.foldl_append]
  exact rowAdd_pre _ s
theorem rowO_outs {P : List (List Int)} {i : Nat} (hi : i < (outs P i).length) (l : Nat) : rowO P i l <+: outs P (i + 1) := by
  rw [outs_succ P i hi]
  unfold rowO
  have := rowAdd_app (outs P i) ((P.getD ((outs P i).getD i 0).toNat []).take l) ((P.getD ((outs P i).getD i 0).toNat []).drop l)
  rwa [List.take_append_drop] at this
section
variable {m n : Nat} {P : List (List Int)} (hG : GoodN m n P)
include hG
theorem rowO_ok {i : Nat} (hi : i < (outs P i).length) (l : Nat) : OkO n (rowO P i l) := okO_row (outs_ok hG i) _ fun x hx => (goodN_row hG _ (okO_get (outs_ok hG i) i hi)).2 x (List.mem_of_mem_take hx)
theorem rowO_met {i : Nat} (hi : i < (outs P i).length) (l : Nat) : rowO P i l <+: metL P := by
  have h1 := outs_pre P i 1
  exact (rowO_outs hi l).trans (outs_met hG (i + 1) (Nat.le_trans hi h1.length_le))
theorem rowO_le {i : Nat} (hi : i < (outs P i).length) (l : Nat) : (rowO P i l).length ≤ n := nodup_len n _ (rowO_ok hG hi l)
end
/-- The numbers of couples. -/
theorem numF_pos {M n : Nat} {o : List Int} (h : OkO n o) {x : Int} (hx : x ∈ o) : (spotV M x, Value.int .i64 ((posL o x : Nat) : Int)) ∈ numF (spotV M) o :=
  numF_some (R := eqB) (fun r hr => ⟨fun e => eqB_iff.2 (by rw [spotV_inj (h.2 r hr).1 (h.2 x hx).1 e]), fun e => by rw [eqB_iff] at e; rw [show r = x by have := (h.2 r hr).1; have := (h.2 x hx).1; omega]⟩) ⟨x, hx, by simp [eqB]⟩
theorem numF_not {M n : Nat} {o : List Int} (h : OkO n o) {x : Int} (h0 : 0 ≤ x) (hx : ¬ x ∈ o) : ¬ spotV M x ∈ (numF (spotV M) o).map Prod.fst :=
  numF_none fun r hr e => hx (by rw [← spotV_inj (h.2 r hr).1 h0 e]; exact hr)
end Go.Proofs.Ytebbjmcjgjecmaa

/- An automaton that a call builds beside blocks that turn meanwhile: these are put out of sight. -/
namespace Go.Proofs.Ytebbjmcjgjecmaa
open Go.RowKit

/-- The world with these blocks out of sight. -/
def maskW (X : List Nat) (W : World) : World := { W with heap := W.heap.mapIdx fun i o => if i ∈ X then .map #[] 0 else o }
theorem mask_size (X : List Nat) (W : World) : (maskW X W).heap.size = W.heap.size := by simp [maskW]
theorem mask_out {X : List Nat} {x : Nat} (hx : ¬ x ∈ X) (W : World) : (maskW X W).heap[x]? = W.heap[x]? := by
  simp [maskW, hx]
theorem mask_in {X : List Nat} {x : Nat} (hx : x ∈ X) (W : World) (cs : Array Value) (T : TypeId) (f : Nat × Nat) : (maskW X W).heap[x]? ≠ some (.cells cs T f) := by
  simp [maskW, hx]
theorem mask_cells {X : List Nat} {x : Nat} {W : World} {cs : Array Value} {T : TypeId} {f : Nat × Nat} (h : (maskW X W).heap[x]? = some (.cells cs T f)) : ¬ x ∈ X ∧ W.heap[x]? = some (.cells cs T f) := by
  have hx : ¬ x ∈ X := fun hx => mask_in hx W cs T f h
  exact ⟨hx, by rwa [mask_out hx] at h⟩
theorem cell_block {W : World} {p : Addr} {v : Value} (h : W.cell? p = some v) : ∃ cs T f, W.heap[p.block]? = some (.cells cs T f) := by
  unfold World.cell? at h
  split at h
  · exact ⟨_, _, _, by assumption⟩
  · cases h
theorem mask_cell {X : List Nat} {W : World} {p : Addr} {v : Value} (h : (maskW X W).cell? p = some v) : ¬ p.block ∈ X ∧ W.cell? p = some v := by
  obtain ⟨cs, T, f, hc⟩ := cell_block h
  obtain ⟨h1, h2⟩ := mask_cells hc
  refine ⟨h1, ?_⟩
  rw [← h]
  exact (World.cell?_of_block (mask_out h1 W)).symm
theorem mask_below {X : List Nat} {B : Nat} {w W : World} (h : Below B w W) (hX : ∀ x ∈ X, B ≤ x) : Below B w (maskW X W) :=
  ⟨h.os, h.tape, h.output, by rw [mask_size]; exact h.size, fun k hk => by rw [mask_out (fun hx => by have := hX k hx; omega)]; exact h.block k hk⟩
theorem mask_belows {X : List Nat} {B : Nat} {w W : World} (hs : w.heap.size ≤ W.heap.size) (hos : W.os = w.os) (htp : W.tape = w.tape) (hou : W.output = w.output) (h : ∀ x, x < B → ¬ x ∈ X → W.heap[x]? = w.heap[x]?) (hB : B ≤ w.heap.size) : Below B (maskW X w) (maskW X W) := by
  refine ⟨hos, htp, hou, by rw [mask_size, mask_size]; exact hs, fun k hk => ?_⟩
  by_cases hx : k ∈ X
  · simp only [maskW, Array.getElem?_mapIdx, hx, if_true]
    rw [Array.getElem?_eq_getElem (show k < W.heap.size by omega), Array.getElem?_eq_getElem (show k < w.heap.size by omega)]
    rfl
  · rw [mask_out hx, mask_out hx, h k hk hx]
theorem mask_owns {X : List Nat} {W : World} {base : Nat} {e : TypeId} {v : Value} {n : Nat} {xs : List Value} (h : (maskW X W).ownsRow base e 1 v n xs) : W.ownsRow base e 1 v n xs ∧ ∀ x, v.ownBlock = some x → ¬ x ∈ X := by
  obtain ⟨h0, h1⟩ := h
  rcases h1 with ⟨rfl, rfl⟩ | ⟨g, cap, cur, rfl, hg, hh, hr⟩
  · exact ⟨⟨h0, .inl ⟨rfl, rfl⟩⟩, fun x hx => by simp [Value.ownBlock] at hx⟩
  · obtain ⟨k1, k2⟩ := mask_cells hh
    refine ⟨⟨h0, .inr ⟨g, cap, cur, rfl, hg, k2, hr⟩⟩, fun x hx => ?_⟩
    simp [Value.ownBlock] at hx
    subst hx; exact k1
theorem owns_mask {X : List Nat} {W : World} {base : Nat} {e : TypeId} {v : Value} {n : Nat} {xs : List Value} (h : W.ownsRow base e 1 v n xs) (hX : ∀ x, v.ownBlock = some x → ¬ x ∈ X) : (maskW X W).ownsRow base e 1 v n xs := ownsRow_of_block h fun x hx => mask_out (hX x hx) W
theorem mask_sl {X : List Nat} {W : World} {a : Option Addr} {len : Nat} {l : List Int} (h : Sl (maskW X W) a len l) : Sl W a len l := by
  obtain ⟨h1, h2, h3, h4⟩ := h
  refine ⟨h1, h2, h3, ?_⟩
  rcases h4 with h4 | ⟨b, o, rfl, hc⟩
  · exact .inl h4
  · exact .inr ⟨b, o, rfl, fun i hi => (mask_cell (hc i hi)).2⟩
theorem mask_sl2 {X : List Nat} {W : World} {a : Option Addr} {len : Nat} {l : List (List Int)} (h : Sl2 (maskW X W) a len l) : Sl2 W a len l := by
  obtain ⟨h1, h2, h4⟩ := h
  refine ⟨h1, h2, ?_⟩
  rcases h4 with h4 | ⟨b, o, rfl, hc⟩
  · exact .inl h4
  · refine .inr ⟨b, o, rfl, fun i hi => ?_⟩
    obtain ⟨a', c', e1, e2⟩ := hc i hi
    exact ⟨a', c', (mask_cell e1).2, mask_sl e2⟩
theorem mask_slB {X : List Nat} {W : World} {a : Option Addr} {len : Nat} {l : List Bool} (h : SlB (maskW X W) a len l) : SlB W a len l := by
  obtain ⟨h1, h2, h4⟩ := h
  refine ⟨h1, h2, ?_⟩
  rcases h4 with h4 | ⟨b, o, rfl, hc⟩
  · exact .inl h4
  · exact .inr ⟨b, o, rfl, fun i hi => (mask_cell (hc i hi)).2⟩

/-- What is built hangs on blocks of cells alone. -/
theorem outAt_cells {wb : World} {b t : Int} {rows : Nat → List Int} {es : Nat → Bool} {qn qe : Nat} {W W2 : World} (h : OutAt wb b t rows es qn qe W) (hc : ∀ (x : Nat) (cs : Array Value) (T : TypeId) (f : Nat × Nat), W.heap[x]? = some (Obj.cells cs T f) → W2.heap[x]? = W.heap[x]?) (hb : Below wb.heap.size wb W2) : OutAt wb b t rows es qn qe W2 := by
  obtain ⟨vN, vE, vals, h1, h2, h3, h4, -⟩ := h
  have hown : ∀ {e : TypeId} {v : Value} {n : Nat} {xs : List Value}, W.ownsRow (wb.heap.size + 1) e 1 v n xs → W2.ownsRow (wb.heap.size + 1) e 1 v n xs := fun {e v n xs} h => ownsRow_of_block h fun x hx => by
    rcases h.2 with ⟨rfl, _⟩ | ⟨g, cap, cur, rfl, _, hh, _⟩
    · simp [Value.ownBlock] at hx
    · simp [Value.ownBlock] at hx
      subst hx
      exact hc _ _ _ _ hh
  refine ⟨vN, vE, vals, (hc _ _ _ _ h1).trans h1, hown h2, hown h3, fun j hj => ?_, hb⟩
  obtain ⟨a, cap, e1, e2, e3⟩ := h4 j hj
  refine ⟨a, cap, e1, ⟨sl_keep e2.1 fun x hx => ?_, e2.2⟩, e3⟩
  obtain ⟨h0, ad, rfl, rfl⟩ := hx
  obtain ⟨b', o, e, hcl⟩ := sl_cell e2.1 0 h0
  cases e
  obtain ⟨cs, T, f, hh⟩ := cell_block hcl
  exact hc _ _ _ _ hh

/-- .. built, and none of X belongs to it. -/
def OutX (wb : World) (b t : Int) (rows : Nat → List Int) (es : Nat → Bool) (qn qe : Nat) (X : List Nat) (W : World) : Prop := OutAt wb b t rows es qn qe (maskW X W) ∧ Below wb.heap.size wb W ∧ ∀ x ∈ X, wb.heap.size < x
theorem outX_turn {wb : World} {b t : Int} {rows : Nat → List Int} {es : Nat → Bool} {qn qe : Nat} {X X' : List Nat} {W W2 : World} (h : OutX wb b t rows es qn qe X W) (hk : ∀ x, x < W.heap.size → ¬ x ∈ X → W2.heap[x]? = W.heap[x]?) (hX : ∀ x ∈ X', x ∈ X ∨ W.heap.size ≤ x) (hb : Below wb.heap.size wb W2) (hX2 : ∀ x ∈ X', wb.heap.size < x) : OutX wb b t rows es qn qe X' W2 := by
  refine ⟨outAt_cells h.1 (fun x cs T f hx => ?_) (mask_below hb fun x hx => Nat.le_of_lt (hX2 x hx)), hb, hX2⟩
  obtain ⟨h1, h2⟩ := mask_cells hx
  have hlt := (Array.getElem?_eq_some_iff.1 h2).1
  rw [mask_out (fun hx' => by rcases hX x hx' with h | h; exact h1 h; omega), mask_out h1, hk x hlt h1]
theorem outX_start (wb : World) (b t : Int) (rows : Nat → List Int) (es : Nat → Bool) : OutX wb b t rows es 0 0 [] (wb.alloc (.cells #[.int .i64 b, .int .i64 t, .slice none 0 0, .slice none 0 0] 25)) := by
  have h := outAt_start wb b t rows es
  refine ⟨outAt_cells h (fun x cs T f hx => mask_out (by simp) _) (mask_below ((Below.refl _ _).alloc (Nat.le_refl _) _) (by simp)), (Below.refl _ _).alloc (Nat.le_refl _) _, by simp⟩
/-- A store into a block in sight. -/
theorem mask_set {X : List Nat} {W : World} {a : Addr} (ha : ¬ a.block ∈ X) (v : Value) (x : Nat) : (maskW X (W.setCell a v)).heap[x]? = ((maskW X W).setCell a v).heap[x]? := by
  by_cases hx : x = a.block
  · subst hx
    rw [mask_out ha]
    simp only [World.setCell, Array.getElem?_modify, if_true]
    rw [mask_out ha]
  · rw [Below.heap_setCell _ _ _ _ hx]
    by_cases hX : x ∈ X
    · simp only [maskW, Array.getElem?_mapIdx, hX, if_true]
      rw [Below.heap_setCell _ _ _ _ hx]
    · rw [mask_out hX, mask_out hX, Below.heap_setCell _ _ _ _ hx]
theorem mask_grown {X : List Nat} {W2 w3 : World} {o : Obj} {r : Option Nat} (hX : ∀ x ∈ X, x < W2.heap.size) (h : (W2.alloc o).grownBy w3 r) : ((maskW X W2).alloc o).grownBy (maskW X w3) r := by
  have hs := h.size
  rw [World.size_alloc] at hs
  refine ⟨h.os, h.tape, h.output, by rw [World.size_alloc, mask_size, mask_size]; exact hs, fun k hk hne => ?_⟩
  rw [World.size_alloc, mask_size] at hk
  by_cases hx : k ∈ X
  · have := hX k hx
    rw [Below.heap_alloc _ _ _ (by rw [mask_size]; exact this)]
    simp only [maskW, Array.getElem?_mapIdx, hx, if_true]
    rw [Array.getElem?_eq_getElem (show k < w3.heap.size by omega), Array.getElem?_eq_getElem this]
    rfl
  · rw [mask_out hx, h.block k (by rw [World.size_alloc]; exact hk) hne]
    by_cases e : k < W2.heap.size
    · rw [Below.heap_alloc _ _ _ e, Below.heap_alloc _ _ _ (by rw [mask_size]; exact e), mask_out hx]
    · obtain rfl : k = W2.heap.size := by omega
      have h2 := heap_alloc_last (maskW X W2) o
      rw [mask_size] at h2
      rw [heap_alloc_last, h2]

/-- One row more. -/
theorem outX_N {wb : World} {b t : Int} {rows : Nat → List Int} {es : Nat → Bool} {q qe : Nat} {X : List Nat} {W W2 : World} {br cr : Nat} (hW : OutX wb b t rows es q qe X W) (hb : Below W.heap.size (maskW X W) (maskW X W2)) (hB2 : Below wb.heap.size wb W2) (hs : Sl W2 (some ⟨br, 0, none⟩) (rows q).length (rows q)) (hbr : ¬ br ∈ X) (hbl : W.heap.size ≤ br) (hXlt : ∀ x ∈ X, x < W2.heap.size) :
    ∃ (vN : Value) (vals : List Value), W2.cell? ⟨wb.heap.size, 2, none⟩ = some vN ∧ W2.ownsRow (wb.heap.size + 1) 31 1 vN q vals ∧ wb.heap.size + 1 ≤ W2.heap.size ∧
      ∀ (w3 : World) (o : Obj) (g' cap' : Nat), w3.ownsRow (wb.heap.size + 1) 31 1 (.slice (some ⟨g', 0, none⟩) (q + 1) cap') (q + 1) (vals ++ [.slice (some ⟨br, 0, none⟩) (rows q).length cr]) → (W2.alloc o).grownBy w3 vN.ownBlock → (vN.ownBlock = some g' ∨ g' = W2.heap.size + 1) →
        (w3.cell? ⟨wb.heap.size, 2, none⟩ = some vN ∧ w3.frozen? ⟨wb.heap.size, 2, none⟩ = false) ∧ OutX wb b t rows es (q + 1) qe X (w3.setCell ⟨wb.heap.size, 2, none⟩ (.slice (some ⟨g', 0, none⟩) (q + 1) cap')) ∧ ∀ x, (x ∈ X ∨ (x < wb.heap.size)) → (w3.setCell ⟨wb.heap.size, 2, none⟩ (.slice (some ⟨g', 0, none⟩) (q + 1) cap')).heap[x]? = W2.heap[x]? := by
  obtain ⟨vN, vals, c1, c2, c3, c4⟩ := @outAt_N wb b t rows es q qe (maskW X W) (maskW X W2) (some ⟨br, 0, none⟩) cr hW.1 (by rw [mask_size]; exact hb) ⟨sl_keep hs (fun x hx => by obtain ⟨_, ad, e, rfl⟩ := hx; cases e; exact mask_out hbr _), fun ad e => by cases e; rw [mask_size]; exact hbl⟩
  obtain ⟨-, d1⟩ := mask_cell c1
  obtain ⟨d2, d3⟩ := mask_owns c2
  refine ⟨vN, vals, d1, d2, by rwa [mask_size] at c3, fun w3 o g' cap' hown hgrow hat => ?_⟩
  have hg' : ¬ g' ∈ X := by
    rcases hat with e | e
    · exact d3 g' e
    · intro hx; have := hXlt g' hx; omega
  obtain ⟨⟨f1, f2⟩, f3⟩ := c4 (maskW X w3) o g' cap' (owns_mask hown (fun x hx => by simp [Value.ownBlock] at hx; subst hx; exact hg')) (mask_grown hXlt hgrow) (by rw [mask_size]; exact hat)
  obtain ⟨e1, e2⟩ := mask_cell f1
  have hbel : Below wb.heap.size wb (w3.setCell ⟨wb.heap.size, 2, none⟩ (.slice (some ⟨g', 0, none⟩) (q + 1) cap')) := (Below.grown (hB2.alloc hB2.size o) hgrow (by have := hB2.size; simp; omega) (fun x hx => by have := (d2.lt x hx).1; omega)).setCell (Nat.le_refl _) _
  refine ⟨⟨e2, by rw [← f2]; exact (World.frozen?_of_block (a := ⟨wb.heap.size, 2, none⟩) (mask_out e1 w3)).symm⟩, ⟨outAt_cells f3 (fun x cs T f _ => mask_set e1 _ x) (mask_below hbel fun x hx => Nat.le_of_lt (hW.2.2 x hx)), hbel, hW.2.2⟩, fun x hx => ?_⟩
  have hxs : x < W2.heap.size ∧ x ≠ wb.heap.size ∧ vN.ownBlock ≠ some x := by
    rcases hx with hx | hx
    · exact ⟨hXlt x hx, by have := hW.2.2 x hx; omega, fun e => d3 x e hx⟩
    · exact ⟨by have := hB2.size; omega, by omega, fun e => by have := (d2.lt x e).1; omega⟩
  rw [Below.heap_setCell _ _ _ _ hxs.2.1, hgrow.block x (by simp; omega) (fun e => hxs.2.2 e.symm), Below.heap_alloc _ _ _ hxs.1]
/-- One end more. -/
theorem outX_E {wb : World} {b t : Int} {rows : Nat → List Int} {es : Nat → Bool} {qn q : Nat} {X : List Nat} {W2 : World} (hW : OutX wb b t rows es qn q X W2) (hXlt : ∀ x ∈ X, x < W2.heap.size) :
    ∃ (vE : Value), W2.cell? ⟨wb.heap.size, 3, none⟩ = some vE ∧ W2.ownsRow (wb.heap.size + 1) 4 1 vE q ((List.range q).map fun j => Value.bool (es j)) ∧ wb.heap.size + 1 ≤ W2.heap.size ∧
      ∀ (w3 : World) (o : Obj) (g' cap' : Nat), w3.ownsRow (wb.heap.size + 1) 4 1 (.slice (some ⟨g', 0, none⟩) (q + 1) cap') (q + 1) (((List.range q).map fun j => Value.bool (es j)) ++ [.bool (es q)]) → (W2.alloc o).grownBy w3 vE.ownBlock → (vE.ownBlock = some g' ∨ g' = W2.heap.size + 1) →
        (w3.cell? ⟨wb.heap.size, 3, none⟩ = some vE ∧ w3.frozen? ⟨wb.heap.size, 3, none⟩ = false) ∧ OutX wb b t rows es qn (q + 1) X (w3.setCell ⟨wb.heap.size, 3, none⟩ (.slice (some ⟨g', 0, none⟩) (q + 1) cap')) ∧ ∀ x, (x ∈ X ∨ (x < wb.heap.size)) → (w3.setCell ⟨wb.heap.size, 3, none⟩ (.slice (some ⟨g', 0, none⟩) (q + 1) cap')).heap[x]? = W2.heap[x]? := by
  have hB2 := hW.2.1
  obtain ⟨vN, c1, c2, c3, c4⟩ := outAt_E hW.1
  obtain ⟨-, d1⟩ := mask_cell c1
  obtain ⟨d2, d3⟩ := mask_owns c2
  refine ⟨vN, d1, d2, by rwa [mask_size] at c3, fun w3 o g' cap' hown hgrow hat => ?_⟩
  have hg' : ¬ g' ∈ X := by
    rcases hat with e | e
    · exact d3 g' e
    · intro hx; have := hXlt g' hx; omega
  obtain ⟨⟨f1, f2⟩, f3⟩ := c4 (maskW X w3) o g' cap' (owns_mask hown (fun x hx => by simp [Value.ownBlock] at hx; subst hx; exact hg')) (mask_grown hXlt hgrow) (by rw [mask_size]; exact hat)
  obtain ⟨e1, e2⟩ := mask_cell f1
  have hbel : Below wb.heap.size wb (w3.setCell ⟨wb.heap.size, 3, none⟩ (.slice (some ⟨g', 0, none⟩) (q + 1) cap')) := (Below.grown (hB2.alloc hB2.size o) hgrow (by have := hB2.size; simp; omega) (fun x hx => by have := (d2.lt x hx).1; omega)).setCell (Nat.le_refl _) _
  refine ⟨⟨e2, by rw [← f2]; exact (World.frozen?_of_block (a := ⟨wb.heap.size, 3, none⟩) (mask_out e1 w3)).symm⟩, ⟨outAt_cells f3 (fun x cs T f _ => mask_set e1 _ x) (mask_below hbel fun x hx => Nat.le_of_lt (hW.2.2 x hx)), hbel, hW.2.2⟩, fun x hx => ?_⟩
  have hxs : x < W2.heap.size ∧ x ≠ wb.heap.size ∧ vN.ownBlock ≠ some x := by
    rcases hx with hx | hx
    · exact ⟨hXlt x hx, by have := hW.2.2 x hx; omega, fun e => d3 x e hx⟩
    · exact ⟨by have := hB2.size; omega, by omega, fun e => by have := (d2.lt x e).1; omega⟩
  rw [Below.heap_setCell _ _ _ _ hxs.2.1, hgrow.block x (by simp; omega) (fun e => hxs.2.2 e.symm), Below.heap_alloc _ _ _ hxs.1]
/-- What it is in the end. -/
theorem outX_end {wb : World} {b t : Int} {rows : Nat → List Int} {es : Nat → Bool} {k : Nat} {X : List Nat} {W : World} (h : OutX wb b t rows es k k X W) (hk : k ≤ maxLen) (N : List (List Int)) (hN : N.length = k) (hr : ∀ j, j < k → N.getD j [] = rows j) (E : List Bool) (hE : E.length = k) (he : ∀ j, j < k → E.getD j false = es j) :
    ∃ a c a' c', W.heap[wb.heap.size]? = some (.cells #[.int .i64 b, .int .i64 t, .slice a k c, .slice a' k c'] 25 (0, 0)) ∧ Below wb.heap.size wb W ∧ ∀ W' : World, (∀ x, wb.heap.size < x → x < W.heap.size → W'.heap[x]? = W.heap[x]?) → Sl2 W' a k N ∧ SlB W' a' k E := by
  obtain ⟨a, c, a', c', h1, h2, h3⟩ := outAt_end h.1 hk N hN hr E hE he
  refine ⟨a, c, a', c', (mask_cells h1).2, h.2.1, fun W' hW' => ?_⟩
  obtain ⟨r1, r2⟩ := h3 (maskW X W') (fun x hx hl => by
    rw [mask_size] at hl
    by_cases hX : x ∈ X
    · simp only [maskW, Array.getElem?_mapIdx, hX, if_true]
      rw [hW' x hx hl]
    · rw [mask_out hX, mask_out hX, hW' x hx hl])
  exact ⟨mask_sl2 r1, mask_slB r2⟩
end Go.Proofs.Ytebbjmcjgjecmaa

/- A least automaton is known by what leads to it: mathematics. -/
namespace Go.Proofs.Ytebbjmcjgjecmaa
open Go.RowKit

theorem mor_run {m n : Nat} {N B : List (List Int)} (hG : GoodN m n N) (H : List Nat) (h0 : H.getD 0 0 = 0) (hH : ∀ s, s < n → ∀ j, j < m → H.getD (nxt N s j) 0 = nxt B (H.getD s 0) j) (w : List Int) : okW m w → runL B w = H.getD (runL N w) 0 := by
  induction w using list_snoc_ind with
  | h0 => exact fun _ => h0.symm
  | h1 w y ih =>
    intro hw
    obtain ⟨hw1, hw2⟩ := okW_append.1 hw
    have hy := hw2 y (by simp)
    rw [runL_snoc, runL_snoc, ih hw1, step_nxt, step_nxt, hH _ (run_lt hG w hw1) y.toNat (by omega)]
/-- What leads onto an automaton whose states are met in order and part at short words: that is its least one. -/
theorem least_cert {m n K : Nat} {N B : List (List Int)} {E EB : List Bool} (d : Nat) (H : List Nat) (hG : GoodN m n N) (hB : GoodN m K B) (h0 : H.getD 0 0 = 0) (hH : ∀ s, s < n → ∀ j, j < m → H.getD (nxt N s j) 0 = nxt B (H.getD s 0) j) (hE : ∀ s, s < n → E.getD s false = EB.getD (H.getD s 0) false) (hA : ∀ s, s < K → ∀ t, t < K → simB B EB m d s t = true → s = t) (hM : metL B = natsL K) (hL : EB.length = K) : leastN N E m = B ∧ leastE N E m = EB :=
  twins_one (K := leastK N E m) (K' := K) ⟨least_good hG E, hB, fun w hw => by
    rw [least_takes hG E w hw, hE _ (run_lt hG w hw), mor_run hG H h0 hH w hw], fun _ _ hs ht => least_parts hG E hs ht, fun s t hs ht h => hA s hs t ht (lang_sim d h)⟩ (least_met hG E) hM (leastE_len N E m) hL
def goodB (m n : Nat) (N : List (List Int)) : Bool := decide (N.length = n) && decide (1 ≤ n) && decide (n ≤ 4000000) && decide (m ≤ 36) && decide (1 ≤ m) && N.all (fun r => decide (r.length = m) && r.all fun x => decide (0 ≤ x) && decide (x < (n : Int)))
theorem good_of {m n : Nat} {N : List (List Int)} (h : goodB m n N = true) : GoodN m n N := by
  unfold goodB at h
  simp only [Bool.and_eq_true, decide_eq_true_eq, List.all_eq_true] at h
  obtain ⟨⟨⟨⟨⟨h1, h2⟩, h3⟩, h4⟩, h5⟩, h6⟩ := h
  refine ⟨h1, h2, h3, h4, h5, fun s hs => ?_⟩
  have hr := h6 (N.getD s []) (by
    have hs2 : s < N.length := by omega
    have e : N.getD s [] = N[s] := by simp [List.getD, hs2]
    rw [e]; exact List.getElem_mem _)
  refine ⟨hr.1, fun j hj => ?_⟩
  have := hr.2 ((N.getD s []).getD j 0) (by rw [getD_at _ j (by rw [hr.1]; exact hj)]; exact List.getElem_mem _)
  exact this
def certB (m : Nat) (N : List (List Int)) (E : List Bool) (B : List (List Int)) (EB : List Bool) (d : Nat) (H : List Nat) : Bool :=
  goodB m N.length N && goodB m B.length B && decide (H.getD 0 0 = 0) && (List.range N.length).all (fun s => (List.range m).all (fun j => decide (H.getD (nxt N s j) 0 = nxt B (H.getD s 0) j)) && decide (E.getD s false = EB.getD (H.getD s 0) false)) && (List.range B.length).all (fun s => (List.range B.length).all (fun t => !simB B EB m d s t || decide (s = t))) && decide (metL B = natsL B.length) && decide (EB.length = B.length)
theorem cert_of {m : Nat} {N B : List (List Int)} {E EB : List Bool} (d : Nat) (H : List Nat) (h : certB m N E B EB d H = true) : leastN N E m = B ∧ leastE N E m = EB := by
  unfold certB at h
  simp only [Bool.and_eq_true, decide_eq_true_eq, List.all_eq_true, List.mem_range, Bool.or_eq_true, Bool.not_eq_true'] at h
  obtain ⟨⟨⟨⟨⟨⟨h1, h2⟩, h3⟩, h4⟩, h5⟩, h6⟩, h7⟩ := h
  refine least_cert d H (good_of h1) (good_of h2) h3 (fun s hs => (h4 s hs).1) (fun s hs => (h4 s hs).2) (fun s hs t ht hst => ?_) h6 h7
  rcases h5 s hs t ht with h | h
  · rw [h] at hst; exact absurd hst (by decide)
  · exact h
end Go.Proofs.Ytebbjmcjgjecmaa
