/- 6 texts in one. -/
import Derived.DeepKeys4
import Derived.Maps.OwnSet
import Derived.Test.YtleebojibobgaaaGreatDoorZNx
import Derived.Test.YtleebojibobgaaaGreatDoorZG
/- A map that the call itself makes, whatever its elements: just these keys, each with its element. -/
namespace Go.Proofs.YtleebojibobgaaaGreatDoor
open Go.RowKit

/-- An element reads as itself. -/
def selfR (v : Value) : Option (DataW Value × List MemPlace) := some (.held v, [])

/-- Block b is a map of just these entries. -/
def MapAt (P : Program) (k : TypeId) (w : World) (b : Nat) (l : List (Value × Value)) : Prop :=
  ∃ D : DataW Value, w.ownsMap P k selfR b l.length D ∧ Maps.size D = l.length ∧
    ∀ key kl, keyOf P k key = some kl → (¬ key ∈ l.map Prod.fst → Maps.has D kl = false) ∧ ∀ v, (key, v) ∈ l → Maps.has D kl = true ∧ D.atKey kl .nil = .held v

theorem mapAt_made (w : World) (P : Program) (k : TypeId) : MapAt P k (w.alloc (.map #[] 0)) w.heap.size [] :=
  ⟨.map [], World.ownsMap_made w P k selfR, rfl, fun key kl _ => ⟨fun _ => by simp [Maps.has], fun v h => by simp at h⟩⟩

variable {P : Program} {k : TypeId} {w w' : World} {b : Nat} {l : List (Value × Value)}

theorem MapAt.lt (h : MapAt P k w b l) : b < w.heap.size := by obtain ⟨D, h1, _⟩ := h; exact h1.lt
theorem MapAt.of_block (h : MapAt P k w b l) (hb : w'.heap[b]? = w.heap[b]?) : MapAt P k w' b l := by
  obtain ⟨D, ⟨es, clock, h1, h2⟩, h3⟩ := h
  exact ⟨D, ⟨es, clock, by rw [hb]; exact h1, h2⟩, h3⟩
theorem MapAt.isMap (h : MapAt P k w b l) : ∃ es clock, w.heap[b]? = some (.map es clock) := by
  obtain ⟨D, ⟨es, clock, h1, h2⟩, h3⟩ := h
  exact ⟨es, clock, h1⟩
theorem MapAt.below (h : MapAt P k w b l) (hb : Below w.heap.size w w') : MapAt P k w' b l := h.of_block (hb.block _ h.lt)
theorem MapAt.alloc (h : MapAt P k w b l) (o : Obj) : MapAt P k (w.alloc o) b l := h.of_block (Below.heap_alloc _ _ _ h.lt)
theorem MapAt.setCell (h : MapAt P k w b l) {a : Addr} (ha : b ≠ a.block) (u : Value) : MapAt P k (w.setCell a u) b l := h.of_block (by rw [Below.heap_setCell _ _ _ _ ha])
theorem MapAt.drewN (h : MapAt P k w b l) (j : Nat) : MapAt P k (w.drewN j) b l := h.below (below_drewN (Below.refl _ _) j)
theorem MapAt.grown {row : Option Nat} (h : MapAt P k w b l) (hg : w.grownBy w' row) (hne : some b ≠ row) : MapAt P k w' b l := h.of_block (hg.block b h.lt hne)

/-- 'm[k]', 'v, ok := m[k]'. -/
theorem MapAt.look_yes (h : MapAt P k w b l) (K : Maps.Keyed P k) {t e : TypeId} (ht : P.underlying t = some (.map k e)) {z : Value} (hz : (zeroValue e).run P w = .ok z w) {key v : Value} {kl : Lit} (hkey : keyOf P k key = some kl) (hv : (key, v) ∈ l) (c : Bool) :
    (Instr.lookup t (.map (some b)) key c).run P w = .ok (if c then .tuple #[v, .bool true] else v) w := by
  obtain ⟨D, ⟨es, clock, hb, F, _, rfl⟩, h2, h3⟩ := h
  obtain ⟨_, h5⟩ := h3 key kl hkey
  obtain ⟨h4, h6⟩ := h5 v hv
  rcases Maps.fit_look c K ht hz hb F hkey with ⟨hrun, _, hat⟩ | ⟨e0, y, _, _, hrun, hRv, hat, _⟩
  · rw [Maps.has_false_of_atKey hat] at h4; cases h4
  · rw [hat .nil] at h6
    have h7 : y.1 = .held e0.val := by simp only [selfR, Option.some.injEq] at hRv; rw [← hRv]
    rw [h7] at h6
    injection h6 with h6
    rw [hrun, h6]
theorem MapAt.look_no (h : MapAt P k w b l) (K : Maps.Keyed P k) {t e : TypeId} (ht : P.underlying t = some (.map k e)) {z : Value} (hz : (zeroValue e).run P w = .ok z w) {key : Value} {kl : Lit} (hkey : keyOf P k key = some kl) (hv : ¬ key ∈ l.map Prod.fst) (c : Bool) :
    (Instr.lookup t (.map (some b)) key c).run P w = .ok (if c then .tuple #[z, .bool false] else z) w := by
  obtain ⟨D, ⟨es, clock, hb, F, _, rfl⟩, h2, h3⟩ := h
  have h4 := (h3 key kl hkey).1 hv
  rcases Maps.fit_look c K ht hz hb F hkey with ⟨hrun, _, hat⟩ | ⟨e0, y, _, _, hrun, hRv, hat, _⟩
  · exact hrun
  · rw [Maps.has_true_of_atKey hat] at h4; cases h4

/-- 'm[k] = v', where there was none. -/
theorem MapAt.put (h : MapAt P k w b l) (K : Maps.Keyed P k) {t e : TypeId} (ht : P.underlying t = some (.map k e)) (hn : l.length < maxLen) {key val : Value} {kl : Lit} (hkey : keyOf P k key = some kl) (hf : ¬ key ∈ l.map Prod.fst) :
    ∃ w', (Instr.mapUpdate t (.map (some b)) key val).run P w = .ok () w' ∧ MapAt P k w' b (l ++ [(key, val)]) ∧ w.mapTurned w' b := by
  obtain ⟨D, h1, h2, h3⟩ := h
  obtain ⟨w', r1, r2, r3⟩ := h1.store K ht hn (val := val) (d := .held val) (ps := []) hkey rfl
  have hnh : Maps.has D kl = false := (h3 key kl hkey).1 hf
  refine ⟨w', r1, ⟨_, by rw [List.length_append]; exact r2, ?_, fun x xl hx => ?_⟩, r3⟩
  · rw [Maps.size_put (h1.tidy K) _]
    simp [hnh, h2]
  · by_cases e : x = key
    · subst e
      rw [hkey] at hx; cases hx
      refine ⟨fun hn => absurd (by simp) hn, fun v hv => ⟨Maps.has_put_same h1.isMap (K.key hkey) _, ?_⟩⟩
      rcases List.mem_append.1 hv with hv | hv
      · exact absurd (List.mem_map.2 ⟨_, hv, rfl⟩) hf
      · simp at hv
        rw [hv]
        exact Maps.atKey_put_same h1.isMap (K.key hkey) _ _
    · have hne : xl ≠ kl := fun e' => e (K.inj hx (e' ▸ hkey))
      rw [Maps.has_put_other hne, Maps.atKey_put_other hne]
      refine ⟨fun hn => (h3 x xl hx).1 (fun hm => hn (by rw [List.map_append]; exact List.mem_append_left _ hm)), fun v hv => (h3 x xl hx).2 v ?_⟩
      rcases List.mem_append.1 hv with hv | hv
      · exact hv
      · simp at hv; exact absurd hv.1 e
theorem MapAt.len (h : MapAt P k w b l) {t e : TypeId} (ht : P.underlying t = some (.map k e)) (ty : TypeId) : (Builtin.len_ #[t] ty #[.map (some b)]).run P w = .ok (.int .i64 (l.length : Int)) w := by
  obtain ⟨D, h1, h2, _⟩ := h
  rw [← h2]
  exact h1.len ht ty

section
variable (w : World) {ops : Array Oper} {rest : List Oper} {o : Oper} {a : Act} {Q : Exit → Act → World → Prop}
/-- 'v, ok := m[k]', where there is one, and where there is none; 'm[k]', where there is one. -/
theorem wpList_look_yes (hg : o.guard = none) (m x : Operand) (t : TypeId) (hop : o.op = Op.lookup t m x true) (k e : TypeId) (K : Maps.Keyed P k) (ht : P.underlying t = some (.map k e)) {z : Value} (hz : (zeroValue e).run P w = .ok z w) (b : Nat) (l : List (Value × Value))
    (hm : a.eval m = .map (some b)) (hown : MapAt P k w b l) (key : Value) (kl : Lit) (hx : a.eval x = key) (hkey : keyOf P k key = some kl) (v : Value) (hv : (key, v) ∈ l)
    (hK : wpList P ops Q rest (a.put o.dst (.tuple #[v, .bool true])) w) :
    wpList P ops Q (o :: rest) a w := by
  refine wpList_plain hg fun K' hK' => ?_
  have hrun := hown.look_yes K ht hz hkey hv true
  rw [if_pos rfl] at hrun
  unfold Oper.wp
  simp [execOp, hop, hm, hx, hrun, Result.andThen]
  exact hK' _ _ hK
theorem wpList_look_no (hg : o.guard = none) (m x : Operand) (t : TypeId) (hop : o.op = Op.lookup t m x true) (k e : TypeId) (K : Maps.Keyed P k) (ht : P.underlying t = some (.map k e)) {z : Value} (hz : (zeroValue e).run P w = .ok z w) (b : Nat) (l : List (Value × Value))
    (hm : a.eval m = .map (some b)) (hown : MapAt P k w b l) (key : Value) (kl : Lit) (hx : a.eval x = key) (hkey : keyOf P k key = some kl) (hv : ¬ key ∈ l.map Prod.fst)
    (hK : wpList P ops Q rest (a.put o.dst (.tuple #[z, .bool false])) w) :
    wpList P ops Q (o :: rest) a w := by
  refine wpList_plain hg fun K' hK' => ?_
  have hrun := hown.look_no K ht hz hkey hv true
  rw [if_pos rfl] at hrun
  unfold Oper.wp
  simp [execOp, hop, hm, hx, hrun, Result.andThen]
  exact hK' _ _ hK
theorem wpList_put_at (hg : o.guard = none) (m x v : Operand) (t : TypeId) (hop : o.op = Op.mapUpdate t m x v) (k e : TypeId) (K : Maps.Keyed P k) (ht : P.underlying t = some (.map k e)) (b : Nat) (l : List (Value × Value))
    (hm : a.eval m = .map (some b)) (hown : MapAt P k w b l) (hn : l.length < maxLen) (key val : Value) (kl : Lit) (hx : a.eval x = key) (hv : a.eval v = val) (hkey : keyOf P k key = some kl) (hf : ¬ key ∈ l.map Prod.fst)
    (hK : ∀ w', MapAt P k w' b (l ++ [(key, val)]) → w.mapTurned w' b → wpList P ops Q rest (a.put o.dst undef) w') :
    wpList P ops Q (o :: rest) a w := by
  refine wpList_plain hg fun K' hK' => ?_
  obtain ⟨w', hrun, r1, r2⟩ := hown.put (val := val) K ht hn hkey hf
  unfold Oper.wp
  simp [execOp, hop, hm, hx, hv, hrun, Result.andThen]
  exact hK' _ _ (hK w' r1 r2)
theorem wpList_len_at (hg : o.guard = none) (m : Operand) (t : TypeId) (hop : o.op = Op.call { callee := Callee.builtin Builtin.len, args := #[m], argTypes := #[t] }) (k e : TypeId) (ht : P.underlying t = some (.map k e)) (b : Nat) (l : List (Value × Value))
    (hm : a.eval m = .map (some b)) (hown : MapAt P k w b l)
    (hK : wpList P ops Q rest (a.put o.dst (.int .i64 (l.length : Int))) w) :
    wpList P ops Q (o :: rest) a w := by
  refine wpList_plain hg fun K' hK' => ?_
  unfold Oper.wp
  simp [execOp, hop, resolve, invoke, builtin, hm, hown.len ht o.type, Result.andThen]
  exact hK' _ _ hK
end
theorem below_turned {base : Nat} {w W W' : World} {b : Nat} (h : Below base w W) (ht : W.mapTurned W' b) (hb : base ≤ b) (hs : base ≤ W.heap.size) : Below base w W' := Below.grown h ht.grown hs (fun k hk => by cases hk; exact hb)
end Go.Proofs.YtleebojibobgaaaGreatDoor

/- Classes by marks, numbered as they come; the way back from a state to the beginning: mathematics. -/
namespace Go.Proofs.YtleebojibobgaaaGreatDoor
open Go.RowKit

/-- Numbers that part the states that are met as k rounds do. -/
def LvAt (N : List (List Int)) (E : List Bool) (m n k : Nat) (C : List Int) : Prop := C.length = n ∧ ∀ s ∈ metL N, ∀ t ∈ metL N, (C.getD s.toNat 0 = C.getD t.toNat 0 ↔ simB N E m k s.toNat t.toNat = true)
theorem lvAt_of {m n : Nat} {N : List (List Int)} {E : List Bool} {k : Nat} {C : List Int} (h : CAt N E m n k C) : LvAt N E m n k C := ⟨h.1, fun _ hs _ ht => cAt_iff E h hs ht⟩
theorem lvAt_one {m n : Nat} {N : List (List Int)} {E : List Bool} {C : List Int} (hl : C.length = n) (h : ∀ s ∈ metL N, C.getD s.toNat 0 = if E.getD s.toNat false = true then 1 else 0) : LvAt N E m n 1 C := by
  refine ⟨hl, fun s hs t ht => ?_⟩
  rw [h s hs, h t ht, simB_succ]
  cases E.getD s.toNat false <;> cases E.getD t.toNat false <;> simp [simB]
theorem sim_ends {N : List (List Int)} {E : List Bool} {m k s t : Nat} (hk : 1 ≤ k) (h : simB N E m k s t = true) : E.getD s false = E.getD t false := by
  obtain ⟨j, rfl⟩ : ∃ j, k = j + 1 := ⟨k - 1, by omega⟩
  exact (simB_succ.1 h).1

/-- A state's mark: its number, and those of its nexts, and 0s behind. -/
def markF (N : List (List Int)) (C : List Int) (m s q : Nat) : Int := if q = 0 then C.getD s 0 else if q ≤ m then C.getD (nxt N s (q - 1)) 0 else 0
def markV (N : List (List Int)) (C : List Int) (m : Nat) (s : Int) : Value := .agg ((Array.range 37).map fun q => Value.int .i64 (markF N C m s.toNat q))
theorem agg_inj {n : Nat} {f g : Nat → Int} (h : (Value.agg ((Array.range n).map fun q => Value.int .i64 (f q))) = .agg ((Array.range n).map fun q => Value.int .i64 (g q))) (q : Nat) (hq : q < n) : f q = g q := by
  injection h with h
  have h1 : ((Array.range n).map fun q => Value.int .i64 (f q))[q]? = ((Array.range n).map fun q => Value.int .i64 (g q))[q]? := by rw [h]
  simpa [hq] using h1
theorem mark_iff {m n : Nat} {N : List (List Int)} (hG : GoodN m n N) {E : List Bool} {k : Nat} {C : List Int} (hk : 1 ≤ k) (hC : LvAt N E m n k C) {s t : Int} (hs : s ∈ metL N) (ht : t ∈ metL N) : markV N C m s = markV N C m t ↔ simB N E m (k + 1) s.toNat t.toNat = true := by
  have hm := hG.2.2.2.1
  rw [simB_succ, ← hC.2 s hs t ht]
  have hn : ∀ j, j < m → (C.getD (nxt N s.toNat j) 0 = C.getD (nxt N t.toNat j) 0 ↔ simB N E m k (nxt N s.toNat j) (nxt N t.toNat j) = true) := fun j hj => by
    have := hC.2 _ (met_nxt hG hs j hj).1 _ (met_nxt hG ht j hj).1
    rwa [Int.toNat_natCast, Int.toNat_natCast] at this
  constructor
  · intro h
    have h0 := agg_inj h 0 (by omega)
    simp only [markF, if_pos] at h0
    refine ⟨sim_ends hk ((hC.2 s hs t ht).1 h0), h0, fun j hj => (hn j hj).1 ?_⟩
    have h1 := agg_inj h (j + 1) (by omega)
    simp only [markF] at h1
    rw [if_neg (Nat.succ_ne_zero j), if_pos (show j + 1 ≤ m by omega), if_neg (Nat.succ_ne_zero j), if_pos (show j + 1 ≤ m by omega)] at h1
    simpa using h1
  · rintro ⟨_, h1, h2⟩
    unfold markV
    congr 2
    funext q
    simp only [markF]
    split
    · rw [h1]
    · split
      · rw [(hn (q - 1) (by omega)).2 (h2 _ (by omega))]
      · rfl

/-- The numbers of marks, as they come. -/
def numF (mv : Int → Value) (reps : List Int) : List (Value × Value) := (List.range reps.length).map fun i => (mv (reps.getD i 0), Value.int .i64 (i : Int))
theorem numF_len (mv : Int → Value) (reps : List Int) : (numF mv reps).length = reps.length := by simp [numF]
theorem numF_none {mv : Int → Value} {reps : List Int} {s : Int} (h : ∀ r ∈ reps, mv r ≠ mv s) : ¬ mv s ∈ (numF mv reps).map Prod.fst := by
  simp only [numF, List.map_map, List.mem_map, List.mem_range, Function.comp, not_exists, not_and]
  intro i hi
  exact h _ (by rw [getD_at _ i hi]; exact List.getElem_mem hi)
theorem numF_put (mv : Int → Value) (reps : List Int) (s : Int) : numF mv reps ++ [(mv s, .int .i64 (reps.length : Int))] = numF mv (reps ++ [s]) := by
  unfold numF
  rw [List.length_append, List.length_singleton, List.range_succ, List.map_append]
  congr 1
  · apply List.map_congr_left
    intro i hi
    rw [List.mem_range] at hi
    rw [pre_getD (List.prefix_append _ _) i hi]
  · simp [List.getD]
theorem numF_some {mv : Int → Value} {R : Nat → Nat → Bool} {reps : List Int} {s : Int} (h : ∀ r ∈ reps, (mv r = mv s ↔ R s.toNat r.toNat = true)) (hs : ∃ r ∈ reps, R s.toNat r.toNat = true) : (mv s, Value.int .i64 ((clsL R reps s : Nat) : Int)) ∈ numF mv reps := by
  have hl := cls_lt hs
  have hr := cls_R hl
  refine List.mem_map.2 ⟨clsL R reps s, List.mem_range.2 hl, ?_⟩
  rw [(h _ (by rw [getD_at _ _ hl]; exact List.getElem_mem hl)).2 hr]

end Go.Proofs.YtleebojibobgaaaGreatDoor

/- First words: how long they are, the way back to the beginning; of two automata one: mathematics. -/
namespace Go.Proofs.YtleebojibobgaaaGreatDoor
open Go.RowKit

theorem leastK_80 {m n : Nat} {N : List (List Int)} (hG : GoodN m n N) (E : List Bool) (hn : n ≤ 80) : leastK N E m ≤ 80 := by
  unfold leastK
  exact Nat.le_trans (reps_count _ _) (Nat.le_trans (met_len hG) hn)
theorem autoC_80 {b t : Int} {N : List (List Int)} {e : Nat} (h : autoC b t N e = 0) : N.length ≤ 80 := by
  unfold autoC at h
  split at h
  · split at h
    · cases h
    · split at h
      · cases h
      · omega
  · contradiction
end Go.Proofs.YtleebojibobgaaaGreatDoor

/- What takes the same words has one least automaton: mathematics. -/
namespace Go.Proofs.YtleebojibobgaaaGreatDoor
open Go.RowKit

theorem okW_append {m : Nat} {u v : List Int} : okW m (u ++ v) ↔ okW m u ∧ okW m v := by
  unfold okW
  constructor
  · intro h; exact ⟨fun x hx => h x (by simp [hx]), fun x hx => h x (by simp [hx])⟩
  · rintro ⟨h1, h2⟩ x hx
    rcases List.mem_append.1 hx with h | h
    · exact h1 x h
    · exact h2 x h
end Go.Proofs.YtleebojibobgaaaGreatDoor

/- Sets of states as numbers, and the sets that come up, one after another: mathematics. -/
namespace Go.Proofs.YtleebojibobgaaaGreatDoor
open Go.RowKit

/-- The set of the states below n that p names: bit s for state s. -/
def maskB : Nat → (Nat → Bool) → Nat
  | 0, _ => 0
  | n + 1, p => if p n = true then maskB n p ||| 2 ^ n else maskB n p
theorem maskB_bit (n : Nat) (p : Nat → Bool) (s : Nat) : (maskB n p).testBit s = (decide (s < n) && p s) := by
  induction n with
  | zero => simp [maskB]
  | succ n ih =>
    unfold maskB
    by_cases hp : p n = true
    · rw [if_pos hp, Nat.testBit_or, ih, Nat.testBit_two_pow]
      by_cases e : n = s
      · subst e; simp [hp]
      · have : (s < n + 1) ↔ s < n := by omega
        simp [e, this]
    · rw [if_neg hp, ih]
      by_cases e : s = n
      · subst e; simp [hp]
      · have : (s < n + 1) ↔ s < n := by omega
        simp [this]
theorem maskB_lt (n : Nat) (p : Nat → Bool) : maskB n p < 2 ^ n := by
  apply Nat.lt_pow_two_of_testBit
  intro i hi
  rw [maskB_bit]
  simp; omega
theorem mask_ext {x y n : Nat} (hx : x < 2 ^ n) (hy : y < 2 ^ n) (h : ∀ s, s < n → x.testBit s = y.testBit s) : x = y := by
  apply Nat.eq_of_testBit_eq
  intro i
  by_cases hi : i < n
  · exact h i hi
  · have h2 : 2 ^ n ≤ 2 ^ i := Nat.pow_le_pow_right (by decide) (by omega)
    rw [Nat.testBit_lt_two_pow (Nat.lt_of_lt_of_le hx h2), Nat.testBit_lt_two_pow (Nat.lt_of_lt_of_le hy h2)]
theorem bit_lt {x n s : Nat} (hx : x < 2 ^ n) (h : x.testBit s = true) : s < n := by
  apply Classical.byContradiction
  intro hn
  rw [Nat.testBit_lt_two_pow (Nat.lt_of_lt_of_le hx (Nat.pow_le_pow_right (by decide) (by omega)))] at h
  cases h

/-- What comes up: in the order in which it is found. -/
def addG (L : List Nat) (x : Nat) : List Nat := if x ∈ L then L else L ++ [x]
def rowG (d : Nat → Nat → Nat) (L : List Nat) (x : Nat) : Nat → List Nat
  | 0 => L
  | l + 1 => addG (rowG d L x l) (d x l)
def outG (d : Nat → Nat → Nat) (m f : Nat) : Nat → List Nat
  | 0 => [f]
  | i + 1 => if i < (outG d m f i).length then rowG d (outG d m f i) ((outG d m f i).getD i 0) m else outG d m f i
def runG (d : Nat → Nat → Nat) (f : Nat) (w : List Int) : Nat := w.foldl (fun x l => d x l.toNat) f
theorem addG_pre (L : List Nat) (x : Nat) : L <+: addG L x := by unfold addG; split; exact List.prefix_refl _; exact List.prefix_append _ _
theorem addG_mem {L : List Nat} {x y : Nat} : y ∈ addG L x ↔ y ∈ L ∨ y = x := by
  unfold addG
  split
  · rename_i h
    constructor
    · exact Or.inl
    · rintro (h' | rfl)
      · exact h'
      · exact h
  · simp
theorem addG_nodup {L : List Nat} {x : Nat} (h : L.Nodup) : (addG L x).Nodup := by
  unfold addG
  split
  · exact h
  · rename_i hx
    rw [List.nodup_append]
    refine ⟨h, by simp, ?_⟩
    intro a ha b hb e
    simp at hb
    subst hb; subst e
    exact hx ha
theorem addG_old {L : List Nat} {x : Nat} (h : x ∈ L) : addG L x = L := by unfold addG; rw [if_pos h]
theorem addG_new {L : List Nat} {x : Nat} (h : ¬ x ∈ L) : addG L x = L ++ [x] := by unfold addG; rw [if_neg h]
theorem addG_len (L : List Nat) (x : Nat) : (addG L x).length ≤ L.length + 1 := by unfold addG; split <;> simp
theorem rowG_pre (d : Nat → Nat → Nat) (L : List Nat) (x l j : Nat) : rowG d L x l <+: rowG d L x (l + j) := by
  induction j with
  | zero => exact List.prefix_refl _
  | succ j ih => exact ih.trans (addG_pre _ _)
theorem rowG_from (d : Nat → Nat → Nat) (L : List Nat) (x l : Nat) : L <+: rowG d L x l := by
  have := rowG_pre d L x 0 l
  rwa [Nat.zero_add] at this
theorem rowG_mem {d : Nat → Nat → Nat} {L : List Nat} {x l y : Nat} : y ∈ rowG d L x l ↔ y ∈ L ∨ ∃ j, j < l ∧ y = d x j := by
  induction l with
  | zero => simp [rowG]
  | succ l ih =>
    unfold rowG
    rw [addG_mem, ih]
    constructor
    · rintro ((h | ⟨j, hj, h⟩) | h)
      · exact .inl h
      · exact .inr ⟨j, by omega, h⟩
      · exact .inr ⟨l, by omega, h⟩
    · rintro (h | ⟨j, hj, h⟩)
      · exact .inl (.inl h)
      · by_cases e : j = l
        · subst e; exact .inr h
        · exact .inl (.inr ⟨j, by omega, h⟩)
theorem rowG_nodup {d : Nat → Nat → Nat} {L : List Nat} {x : Nat} (h : L.Nodup) (l : Nat) : (rowG d L x l).Nodup := by
  induction l with
  | zero => exact h
  | succ l ih => exact addG_nodup ih
theorem outG_pre (d : Nat → Nat → Nat) (m f i j : Nat) : outG d m f i <+: outG d m f (i + j) := by
  induction j with
  | zero => exact List.prefix_refl _
  | succ j ih =>
    refine ih.trans ?_
    show _ <+: outG d m f (i + j + 1)
    conv => rhs; unfold outG
    split
    · exact rowG_from _ _ _ _
    · exact List.prefix_refl _
theorem outG_le {d : Nat → Nat → Nat} {m f i k : Nat} (h : i ≤ k) : outG d m f i <+: outG d m f k := by
  have := outG_pre d m f i (k - i)
  rwa [Nat.add_sub_cancel' h] at this
theorem outG_nodup (d : Nat → Nat → Nat) (m f i : Nat) : (outG d m f i).Nodup := by
  induction i with
  | zero => simp [outG]
  | succ i ih =>
    unfold outG
    split
    · exact rowG_nodup ih _
    · exact ih
theorem outG_pos (d : Nat → Nat → Nat) (m f i : Nat) : 0 < (outG d m f i).length ∧ (outG d m f i).getD 0 0 = f := by
  obtain ⟨t, ht⟩ := outG_le (d := d) (m := m) (f := f) (Nat.zero_le i)
  rw [← ht]
  simp [outG]
theorem pre_getN {a b : List Nat} (h : a <+: b) {i : Nat} (hi : i < a.length) : b.getD i 0 = a.getD i 0 := by
  obtain ⟨t, rfl⟩ := h
  simp [List.getD, List.getElem?_append_left hi]
theorem getN_mem {a : List Nat} {i : Nat} (hi : i < a.length) : a.getD i 0 ∈ a := by
  simp [List.getD, hi]
theorem mem_getN {a : List Nat} {x : Nat} (h : x ∈ a) : ∃ i, i < a.length ∧ a.getD i 0 = x := by
  obtain ⟨i, hi, rfl⟩ := List.getElem_of_mem h
  exact ⟨i, hi, by simp [List.getD, hi]⟩
/-- Those ahead of i have been seen through. -/
theorem outG_seen {d : Nat → Nat → Nat} {m f i p j : Nat} (hp : p < i) (hl : p < (outG d m f i).length) (hj : j < m) : d ((outG d m f i).getD p 0) j ∈ outG d m f i := by
  induction i with
  | zero => omega
  | succ i ih =>
    by_cases hd : i < (outG d m f i).length
    · have e : outG d m f (i + 1) = rowG d (outG d m f i) ((outG d m f i).getD i 0) m := by
        conv => lhs; unfold outG
        rw [if_pos hd]
      have hpl : p < (outG d m f i).length := by omega
      rw [pre_getN (outG_pre d m f i 1) hpl, e, rowG_mem]
      by_cases ep : p = i
      · subst ep; exact .inr ⟨j, hj, rfl⟩
      · exact .inl (ih (by omega) hpl)
    · have e : outG d m f (i + 1) = outG d m f i := by
        conv => lhs; unfold outG
        rw [if_neg hd]
      rw [e] at hl ⊢
      exact ih (by omega) hl
theorem runG_snoc (d : Nat → Nat → Nat) (f : Nat) (w : List Int) (x : Int) : runG d f (w ++ [x]) = d (runG d f w) x.toNat := by simp [runG, List.foldl_append]
theorem runG_cons (d : Nat → Nat → Nat) (f : Nat) (w : List Int) (x : Int) : runG d f (x :: w) = runG d (d f x.toNat) w := rfl
/-- Each of them comes of a word. -/
theorem outG_reach {d : Nat → Nat → Nat} {m f i x : Nat} (h : x ∈ outG d m f i) : ∃ w, okW m w ∧ runG d f w = x := by
  induction i generalizing x with
  | zero => simp [outG] at h; subst h; exact ⟨[], by simp [okW], rfl⟩
  | succ i ih =>
    unfold outG at h
    split at h
    · rename_i hi
      rcases rowG_mem.1 h with h | ⟨j, hj, rfl⟩
      · exact ih h
      · obtain ⟨w, hw, hr⟩ := ih (getN_mem hi)
        refine ⟨w ++ [(j : Int)], okW_append.2 ⟨hw, fun y hy => by simp at hy; omega⟩, ?_⟩
        rw [runG_snoc, hr, Int.toNat_natCast]
    · exact ih h
/-- All have been seen through. -/
def ClosedG (d : Nat → Nat → Nat) (m : Nat) (L : List Nat) : Prop := ∀ x ∈ L, ∀ j, j < m → d x j ∈ L
theorem outG_closed {d : Nat → Nat → Nat} {m f i : Nat} (h : (outG d m f i).length ≤ i) : ClosedG d m (outG d m f i) := fun x hx j hj => by
  obtain ⟨p, hp, rfl⟩ := mem_getN hx
  exact outG_seen (by omega) hp hj
theorem outG_stay {d : Nat → Nat → Nat} {m f i : Nat} (h : (outG d m f i).length ≤ i) (j : Nat) : outG d m f (i + j) = outG d m f i := by
  induction j with
  | zero => rfl
  | succ j ih =>
    show outG d m f (i + j + 1) = _
    conv => lhs; unfold outG
    rw [ih, if_neg (by omega)]
theorem closedG_run {d : Nat → Nat → Nat} {m f : Nat} {L : List Nat} (h : ClosedG d m L) (hf : f ∈ L) (w : List Int) (hw : okW m w) : runG d f w ∈ L := by
  induction w generalizing f with
  | nil => exact hf
  | cons x w ih =>
    rw [runG_cons]
    have hx := hw x (by simp)
    exact ih (h f hf _ (by omega)) (fun y hy => hw y (by simp [hy]))
theorem nodup_sub {L K : List Nat} (hn : L.Nodup) (h : ∀ x ∈ L, x ∈ K) : L.length ≤ K.length := by
  induction L generalizing K with
  | nil => simp
  | cons a L ih =>
    rw [List.nodup_cons] at hn
    have ha := h a (by simp)
    have := ih (K := K.erase a) hn.2 (fun x hx => (List.mem_erase_of_ne (by rintro rfl; exact hn.1 hx)).2 (h x (by simp [hx])))
    rw [List.length_erase_of_mem ha] at this
    have := List.length_pos_of_mem ha
    simp
    omega
/-- The automaton of them. -/
def gN (d : Nat → Nat → Nat) (m : Nat) (L : List Nat) : List (List Int) := L.map fun x => (List.range m).map fun l => ((L.idxOf (d x l) : Nat) : Int)
def gE (p : Nat → Bool) (L : List Nat) : List Bool := L.map p
theorem gN_len (d : Nat → Nat → Nat) (m : Nat) (L : List Nat) : (gN d m L).length = L.length := by simp [gN]
theorem gE_len (p : Nat → Bool) (L : List Nat) : (gE p L).length = L.length := by simp [gE]
theorem gN_row {d : Nat → Nat → Nat} {m : Nat} {L : List Nat} {i : Nat} (hi : i < L.length) : (gN d m L).getD i [] = (List.range m).map fun l => ((L.idxOf (d (L.getD i 0) l) : Nat) : Int) := by simp [gN, List.getD, hi]
theorem gN_cell {d : Nat → Nat → Nat} {m : Nat} {L : List Nat} {i l : Nat} (hi : i < L.length) (hl : l < m) : ((gN d m L).getD i []).getD l 0 = ((L.idxOf (d (L.getD i 0) l) : Nat) : Int) := by
  rw [gN_row hi]
  simp [List.getD, hl]
theorem gE_get {p : Nat → Bool} {L : List Nat} {i : Nat} (hi : i < L.length) : (gE p L).getD i false = p (L.getD i 0) := by simp [gE, List.getD, hi]
theorem gN_good {d : Nat → Nat → Nat} {m : Nat} {L : List Nat} (hc : ClosedG d m L) (h0 : 0 < L.length) (h64 : L.length ≤ 4000000) (h1 : 1 ≤ m) (h36 : m ≤ 36) : GoodN m L.length (gN d m L) := by
  refine ⟨gN_len _ _ _, h0, h64, h36, h1, fun s hs => ⟨by rw [gN_row hs]; simp, fun j hj => ?_⟩⟩
  rw [gN_cell hs hj]
  have := List.idxOf_lt_length_of_mem (hc _ (getN_mem hs) j hj)
  omega
theorem idx_get {L : List Nat} {x : Nat} (h : x ∈ L) : L.getD (L.idxOf x) 0 = x := by
  have hl := List.idxOf_lt_length_of_mem h
  simp [List.getD, hl]
/-- What comes of a set by letters; the set to which words of some letters lead; has a set an end? -/
def stepM (N : List (List Int)) (n : Nat) (ls : List Int) (M : Nat) : Nat := maskB n fun t => (List.range n).any fun s => M.testBit s && ls.any fun l => decide (stepL N s l = t)
def byL (N : List (List Int)) (ls : List Int) (s l : Nat) : Nat := stepL N s (ls.getD l 0)
def cloM (N : List (List Int)) (n : Nat) (ls : List Int) : Nat := maskB n fun t => decide (t ∈ outG (byL N ls) ls.length 0 n)
def endM (n : Nat) (E : List Bool) (M : Nat) : Bool := (List.range n).any fun s => E.getD s false && M.testBit s
theorem stepM_bit {N : List (List Int)} {n : Nat} {ls : List Int} {M t : Nat} : (stepM N n ls M).testBit t = true ↔ t < n ∧ ∃ s, s < n ∧ M.testBit s = true ∧ ∃ l ∈ ls, stepL N s l = t := by
  unfold stepM
  rw [maskB_bit, Bool.and_eq_true, decide_eq_true_iff, List.any_eq_true]
  constructor
  · rintro ⟨h0, s, hs, h⟩
    rw [Bool.and_eq_true, List.any_eq_true] at h
    obtain ⟨h1, l, hl, h2⟩ := h
    exact ⟨h0, s, List.mem_range.1 hs, h1, l, hl, by simpa using h2⟩
  · rintro ⟨h0, s, hs, h1, l, hl, h2⟩
    refine ⟨h0, s, List.mem_range.2 hs, ?_⟩
    rw [Bool.and_eq_true, List.any_eq_true]
    exact ⟨h1, l, hl, by simpa using h2⟩
theorem run_byL (N : List (List Int)) (ls : List Int) (w : List Int) : runG (byL N ls) 0 w = runL N (w.map fun x => ls.getD x.toNat 0) := by
  unfold runG runL
  rw [List.foldl_map]
  rfl
theorem cloM_bit {m n : Nat} {N : List (List Int)} (hG : GoodN m n N) {ls : List Int} (hl : ∀ x ∈ ls, 0 ≤ x ∧ x < (m : Int)) {t : Nat} : (cloM N n ls).testBit t = true ↔ ∃ z : List Int, (∀ x ∈ z, x ∈ ls) ∧ runL N z = t := by
  have hz : ∀ w, okW ls.length w → (∀ x ∈ w.map (fun x => ls.getD x.toNat 0), x ∈ ls) := fun w hw x hx => by
    obtain ⟨y, hy, rfl⟩ := List.mem_map.1 hx
    have := hw y hy
    rw [getD_at _ y.toNat (by omega)]
    exact List.getElem_mem _
  have hlt : ∀ z : List Int, (∀ x ∈ z, x ∈ ls) → runL N z < n := fun z hz => by
    have := runL_lt hG z z.length (Nat.le_refl _) (fun j hj => hl _ (hz _ (by rw [getD_at _ j hj]; exact List.getElem_mem _)))
    rwa [List.take_length] at this
  have hlen : (outG (byL N ls) ls.length 0 n).length ≤ n := by
    have := nodup_sub (K := List.range n) (outG_nodup (byL N ls) ls.length 0 n) (fun x hx => by
      obtain ⟨w, hw, rfl⟩ := outG_reach hx
      rw [run_byL]
      exact List.mem_range.2 (hlt _ (hz w hw)))
    rwa [List.length_range] at this
  have hp := outG_pos (byL N ls) ls.length 0 n
  have h0 : 0 ∈ outG (byL N ls) ls.length 0 n := by have := getN_mem hp.1; rwa [hp.2] at this
  unfold cloM
  rw [maskB_bit, Bool.and_eq_true, decide_eq_true_iff, decide_eq_true_iff]
  constructor
  · rintro ⟨-, h⟩
    obtain ⟨w, hw, rfl⟩ := outG_reach h
    rw [run_byL]
    exact ⟨_, hz w hw, rfl⟩
  · rintro ⟨z, hz1, rfl⟩
    refine ⟨hlt z hz1, ?_⟩
    have e : z = (z.map fun x => ((ls.idxOf x : Nat) : Int)).map fun x => ls.getD x.toNat 0 := by
      rw [List.map_map]
      conv => lhs; rw [← List.map_id z]
      apply List.map_congr_left
      intro x hx
      have := List.idxOf_lt_length_of_mem (hz1 x hx)
      simp [List.getD, this]
    rw [e, ← run_byL]
    refine closedG_run (outG_closed hlen) h0 _ fun y hy => ?_
    obtain ⟨x, hx, rfl⟩ := List.mem_map.1 hy
    have := List.idxOf_lt_length_of_mem (hz1 x hx)
    omega
theorem stepM_lt (N : List (List Int)) (n : Nat) (ls : List Int) (M : Nat) : stepM N n ls M < 2 ^ n := maskB_lt _ _
theorem cloM_lt (N : List (List Int)) (n : Nat) (ls : List Int) : cloM N n ls < 2 ^ n := maskB_lt _ _
theorem endM_iff {n : Nat} {E : List Bool} {M : Nat} : endM n E M = true ↔ ∃ s, s < n ∧ E.getD s false = true ∧ M.testBit s = true := by
  unfold endM
  rw [List.any_eq_true]
  constructor
  · rintro ⟨s, hs, h⟩
    rw [Bool.and_eq_true] at h
    exact ⟨s, List.mem_range.1 hs, h⟩
  · rintro ⟨s, hs, h1, h2⟩
    exact ⟨s, List.mem_range.2 hs, by rw [h1, h2]; rfl⟩

def dM (N : List (List Int)) (n : Nat) (read : List (List Int)) (M l : Nat) : Nat := stepM N n (read.getD l []) M
end Go.Proofs.YtleebojibobgaaaGreatDoor

/- An automaton that a call builds beside blocks that turn meanwhile: these are put out of sight. -/
namespace Go.Proofs.YtleebojibobgaaaGreatDoor
open Go.RowKit

/-- The world with these blocks out of sight. -/
def maskW (X : List Nat) (W : World) : World := { W with heap := W.heap.mapIdx fun i o => if i ∈ X then .map #[] 0 else o }
theorem mask_size (X : List Nat) (W : World) : (maskW X W).heap.size = W.heap.size := by simp [maskW]
theorem mask_out {X : List Nat} {x : Nat} (hx : ¬ x ∈ X) (W : World) : (maskW X W).heap[x]? = W.heap[x]? := by
  simp [maskW, hx]
theorem mask_in {X : List Nat} {x : Nat} (hx : x ∈ X) (W : World) (cs : Array Value) (T : TypeId) (f : Nat × Nat) : (maskW X W).heap[x]? ≠ some (.cells cs T f) := by
  simp [maskW, hx]
theorem mask_cells {X : List Nat} {x : Nat} {W : World} {cs : Array Value} {T : TypeId} {f : Nat × Nat} (h : (maskW X W).heap[x]? = some (.cells cs T f)) : ¬ x ∈ X ∧ W.heap[x]? = some (.cells cs T f) := by
  have hx : ¬ x ∈ X := fun hx => mask_in hx W cs T f h
  exact ⟨hx, by rwa [mask_out hx] at h⟩
theorem cell_block {W : World} {p : Addr} {v : Value} (h : W.cell? p = some v) : ∃ cs T f, W.heap[p.block]? = some (.cells cs T f) := by
  unfold World.cell? at h
  split at h
  · exact ⟨_, _, _, by assumption⟩
  · cases h
theorem mask_cell {X : List Nat} {W : World} {p : Addr} {v : Value} (h : (maskW X W).cell? p = some v) : ¬ p.block ∈ X ∧ W.cell? p = some v := by
  obtain ⟨cs, T, f, hc⟩ := cell_block h
  obtain ⟨h1, h2⟩ := mask_cells hc
  refine ⟨h1, ?_⟩
  rw [← h]
  exact (World.cell?_of_block (mask_out h1 W)).symm
theorem mask_below {X : List Nat} {B : Nat} {w W : World} (h : Below B w W) (hX : ∀ x ∈ X, B ≤ x) : Below B w (maskW X W) :=
  ⟨h.os, h.tape, h.output, by rw [mask_size]; exact h.size, fun k hk => by rw [mask_out (fun hx => by have := hX k hx; omega)]; exact h.block k hk⟩
theorem mask_belows {X : List Nat} {B : Nat} {w W : World} (hs : w.heap.size ≤ W.heap.size) (hos : W.os = w.os) (htp : W.tape = w.tape) (hou : W.output = w.output) (h : ∀ x, x < B → ¬ x ∈ X → W.heap[x]? = w.heap[x]?) (hB : B ≤ w.heap.size) : Below B (maskW X w) (maskW X W) := by
  refine ⟨hos, htp, hou, by rw [mask_size, mask_size]; exact hs, fun k hk => ?_⟩
  by_cases hx : k ∈ X
  · simp only [maskW, Array.getElem?_mapIdx, hx, if_true]
    rw [Array.getElem?_eq_getElem (show k < W.heap.size by omega), Array.getElem?_eq_getElem (show k < w.heap.size by omega)]
    rfl
  · rw [mask_out hx, mask_out hx, h k hk hx]
theorem mask_owns {X : List Nat} {W : World} {base : Nat} {e : TypeId} {v : Value} {n : Nat} {xs : List Value} (h : (maskW X W).ownsRow base e 1 v n xs) : W.ownsRow base e 1 v n xs ∧ ∀ x, v.ownBlock = some x → ¬ x ∈ X := by
  obtain ⟨h0, h1⟩ := h
  rcases h1 with ⟨rfl, rfl⟩ | ⟨g, cap, cur, rfl, hg, hh, hr⟩
  · exact ⟨⟨h0, .inl ⟨rfl, rfl⟩⟩, fun x hx => by simp [Value.ownBlock] at hx⟩
  · obtain ⟨k1, k2⟩ := mask_cells hh
    refine ⟨⟨h0, .inr ⟨g, cap, cur, rfl, hg, k2, hr⟩⟩, fun x hx => ?_⟩
    simp [Value.ownBlock] at hx
    subst hx; exact k1
theorem owns_mask {X : List Nat} {W : World} {base : Nat} {e : TypeId} {v : Value} {n : Nat} {xs : List Value} (h : W.ownsRow base e 1 v n xs) (hX : ∀ x, v.ownBlock = some x → ¬ x ∈ X) : (maskW X W).ownsRow base e 1 v n xs := ownsRow_of_block h fun x hx => mask_out (hX x hx) W
theorem mask_sl {X : List Nat} {W : World} {a : Option Addr} {len : Nat} {l : List Int} (h : Sl (maskW X W) a len l) : Sl W a len l := by
  obtain ⟨h1, h2, h3, h4⟩ := h
  refine ⟨h1, h2, h3, ?_⟩
  rcases h4 with h4 | ⟨b, o, rfl, hc⟩
  · exact .inl h4
  · exact .inr ⟨b, o, rfl, fun i hi => (mask_cell (hc i hi)).2⟩
theorem mask_sl2 {X : List Nat} {W : World} {a : Option Addr} {len : Nat} {l : List (List Int)} (h : Sl2 (maskW X W) a len l) : Sl2 W a len l := by
  obtain ⟨h1, h2, h4⟩ := h
  refine ⟨h1, h2, ?_⟩
  rcases h4 with h4 | ⟨b, o, rfl, hc⟩
  · exact .inl h4
  · refine .inr ⟨b, o, rfl, fun i hi => ?_⟩
    obtain ⟨a', c', e1, e2⟩ := hc i hi
    exact ⟨a', c', (mask_cell e1).2, mask_sl e2⟩
theorem mask_grown {X : List Nat} {W2 w3 : World} {o : Obj} {r : Option Nat} (hX : ∀ x ∈ X, x < W2.heap.size) (h : (W2.alloc o).grownBy w3 r) : ((maskW X W2).alloc o).grownBy (maskW X w3) r := by
  have hs := h.size
  rw [World.size_alloc] at hs
  refine ⟨h.os, h.tape, h.output, by rw [World.size_alloc, mask_size, mask_size]; exact hs, fun k hk hne => ?_⟩
  rw [World.size_alloc, mask_size] at hk
  by_cases hx : k ∈ X
  · have := hX k hx
    rw [Below.heap_alloc _ _ _ (by rw [mask_size]; exact this)]
    simp only [maskW, Array.getElem?_mapIdx, hx, if_true]
    rw [Array.getElem?_eq_getElem (show k < w3.heap.size by omega), Array.getElem?_eq_getElem this]
    rfl
  · rw [mask_out hx, h.block k (by rw [World.size_alloc]; exact hk) hne]
    by_cases e : k < W2.heap.size
    · rw [Below.heap_alloc _ _ _ e, Below.heap_alloc _ _ _ (by rw [mask_size]; exact e), mask_out hx]
    · obtain rfl : k = W2.heap.size := by omega
      have h2 := heap_alloc_last (maskW X W2) o
      rw [mask_size] at h2
      rw [heap_alloc_last, h2]

end Go.Proofs.YtleebojibobgaaaGreatDoor
