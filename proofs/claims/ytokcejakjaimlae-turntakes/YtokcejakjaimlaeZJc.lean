/- 4 texts in one. -/
import Derived.Test.YtokcejakjaimlaeRows
import Derived.Below
import Derived.Deep.RegionWith
import Derived.LaidEql
import Derived.OwnWalk
import Derived.RowKitTokens
import Derived.Stop.Asserts
import Derived.WalkKit
import Derived.Deep.RegionHeldLaw
import Derived.Deep.RegionLaw
import Derived.Test.YtokcejakjaimlaeMa
import Derived.Test.YtokcejakjaimlaeB
import Derived.Test.YtokcejakjaimlaeZCd
import Derived.Test.YtokcejakjaimlaeZG
import Derived.Test.YtokcejakjaimlaeZGb
import Derived.Test.YtokcejakjaimlaeJb
import Derived.Test.YtokcejakjaimlaeZMp
import Derived.Test.YtokcejakjaimlaeZNx
import Derived.Test.YtokcejakjaimlaeZF
import Derived.Test.YtokcejakjaimlaeDb
/- A row of sets, and maps keyed by sets and by doors, as package turn keeps them. -/
namespace Go.Proofs.Ytokcejakjaimlae
open Go.RowKit

/-- Cell q of a row of sets. -/
def setCT (l : List Nat) (q : Nat) : Value := .int .u64 (if q % 2 = 0 then loT (l.getD (q / 2) 0) else hiT (l.getD (q / 2) 0))
theorem setCT_fst (l : List Nat) (j : Nat) : setCT l (2 * j) = .int .u64 (loT (l.getD j 0)) := by unfold setCT; rw [if_pos (by omega), show 2 * j / 2 = j by omega]
theorem setCT_snd (l : List Nat) (j : Nat) : setCT l (2 * j + 1) = .int .u64 (hiT (l.getD j 0)) := by unfold setCT; rw [if_neg (by omega), show (2 * j + 1) / 2 = j by omega]
theorem setCT_old (l : List Nat) (x : Nat) (q : Nat) (hq : q < 2 * l.length) : setCT (l ++ [x]) q = setCT l q := by
  unfold setCT
  rw [pre_getN (List.prefix_append _ _) (by omega : q / 2 < l.length)]
theorem setCT_new (l : List Nat) (x : Nat) : setCT (l ++ [x]) (2 * l.length) = .int .u64 (loT x) ∧ setCT (l ++ [x]) (2 * l.length + 1) = .int .u64 (hiT x) := by
  rw [setCT_fst, setCT_snd]
  simp [List.getD]
theorem info_setT : (Try.prog.info? 45).map (fun i => (i.zero, i.size, i.bytes)) = some (some (.agg #[.int .u64 0, .int .u64 0]), 2, 16) := by kernel_rfl

/-- Block b holds the sets l, and room for cap of them. -/
def QueT (W : World) (b len cap : Nat) (l : List Nat) : Prop :=
  l.length = len ∧ len ≤ cap ∧ cap ≤ maxLen ∧ ∃ cur : Array Value, W.heap[b]? = some (.cells cur 45 (0, 0)) ∧ 2 * cap ≤ cur.size ∧ ∀ q, q < 2 * len → cur[q]? = some (setCT l q)
theorem queT_kept {W W' : World} {b len cap : Nat} {l : List Nat} (h : QueT W b len cap l) (e : W'.heap[b]? = W.heap[b]?) : QueT W' b len cap l := by
  obtain ⟨h1, h2, h3, cur, h4, h5⟩ := h
  exact ⟨h1, h2, h3, cur, e.trans h4, h5⟩
theorem queT_lt {W : World} {b len cap : Nat} {l : List Nat} (h : QueT W b len cap l) : b < W.heap.size := by
  obtain ⟨h1, h2, h3, cur, h4, h5⟩ := h
  exact (Array.getElem?_eq_some_iff.1 h4).1
theorem queT_cell {W : World} {b len cap : Nat} {l : List Nat} (h : QueT W b len cap l) (q : Nat) (hq : q < 2 * len) : W.cell? ⟨b, q, none⟩ = some (setCT l q) := by
  obtain ⟨h1, h2, h3, cur, h4, h5, h6⟩ := h
  simp only [World.cell?, h4]
  exact h6 q hq
theorem queT_at {W : World} {b len cap : Nat} {l : List Nat} (h : QueT W b len cap l) (i : Nat) (hi : i < len) : W.cell? ⟨b, i * 2, none⟩ = some (.int .u64 (loT (l.getD i 0))) ∧ W.cell? ⟨b, i * 2 + 1, none⟩ = some (.int .u64 (hiT (l.getD i 0))) := by
  have h0 := queT_cell h (2 * i) (by omega)
  have h1 := queT_cell h (2 * i + 1) (by omega)
  rw [setCT_fst, Nat.mul_comm] at h0
  rw [setCT_snd, Nat.mul_comm] at h1
  exact ⟨h0, h1⟩
theorem queT_push {W : World} {b len cap : Nat} {l : List Nat} (h : QueT W b len cap l) (hr : len + 1 ≤ cap) (x : Nat) : QueT (W.setCells b (0 + len * 2) [.int .u64 (loT x), .int .u64 (hiT x)]) b (len + 1) cap (l ++ [x]) := by
  obtain ⟨h1, h2, h3, cur, h4, h5, h6⟩ := h
  refine ⟨by rw [List.length_append, List.length_singleton]; omega, hr, h3, (cur.setIfInBounds (0 + len * 2) (.int .u64 (loT x))).setIfInBounds (0 + len * 2 + 1) (.int .u64 (hiT x)), ?_, by simpa using h5, fun q hq => ?_⟩
  · simp [World.setCells, World.setCell, Array.getElem?_modify, h4]
  · rw [Array.getElem?_setIfInBounds, Array.getElem?_setIfInBounds]
    have hn := setCT_new l x
    rw [h1] at hn
    by_cases e1 : q = 2 * len + 1
    · subst e1
      rw [if_pos (by omega), if_pos (by simp; omega), hn.2]
    · rw [if_neg (by omega)]
      by_cases e0 : q = 2 * len
      · subst e0
        rw [if_pos (by omega), if_pos (by omega), hn.1]
      · rw [if_neg (by omega), setCT_old l x q (by omega)]
        exact h6 q (by omega)
theorem wpList_append_queT (w : World) {ops : Array Oper} {rest : List Oper} {o : Oper} {a : Act} {Q : Exit → Act → World → Prop}
    (hg : o.guard = none) (s x : Operand) (hop : o.op = Op.call { callee := Callee.builtin Builtin.append, args := #[s, x], argTypes := #[48, 48] })
    (b len cap : Nat) (l : List Nat) (hs : a.eval s = .slice (some ⟨b, 0, none⟩) len cap) (hq : QueT w b len cap l) (ad : Addr) (y : Nat) (y0 y1 : Int) (hy0 : y0 = (loT y)) (hy1 : y1 = (hiT y)) (hx : a.eval x = .slice (some ad) 1 1)
    (hc : ∀ j u, [Value.int .u64 y0, .int .u64 y1][j]? = some u → w.cell? (ad.add j) = some u) (hlen : len ≤ 1000000)
    (hK : ∀ b' cap' w', QueT w' b' (len + 1) cap' (l ++ [y]) → w.grownBy w' (some b) → (b' = b ∨ w.heap.size ≤ b') → wpList Try.prog ops Q rest (a.put o.dst (.slice (some ⟨b', 0, none⟩) (len + 1) cap')) w') :
    wpList Try.prog ops Q (o :: rest) a w := by
  obtain ⟨i, hi, hz0, hz1, hz2⟩ := info_parts info_setT
  refine wpList_plain hg fun K hK' => ?_
  by_cases hr : len + 1 ≤ cap
  · obtain ⟨off, hoff⟩ : ∃ off : Nat, off = 0 := ⟨_, rfl⟩
    have hs' : a.eval s = .slice (some ⟨b, off, none⟩) len cap := by rw [hoff]; exact hs
    have hlt : ∀ j, j < 2 → (w.cell? ⟨b, off + len * 2 + j, none⟩).isSome = true ∧ w.frozen? ⟨b, off + len * 2 + j, none⟩ = false := fun j hj => by
      obtain ⟨h1, h2, h3, cur, h4, h5, h6⟩ := hq
      simp only [World.cell?, World.frozen?, h4]
      have : off + len * 2 + j < cur.size := by omega
      simp [this]
    have hrun := run_append_room_cells (P := Try.prog) w 48 o.type 45 i Try.underlying48 hi b off len cap ad 1 1 [.int .u64 y0, .int .u64 y1] (by rw [hz1]; rfl) hc (fun u hu => by simp at hu; rcases hu with rfl | rfl <;> rfl) hr (by rw [hz1]; exact fun j hj => (hlt j hj).1) (by rw [hz1]; exact fun j hj => (hlt j hj).2)
    rw [hz1] at hrun
    unfold Oper.wp
    simp [execOp, hop, resolve, invoke, builtin, hs', hx, hrun, Result.andThen]
    subst hoff
    exact hK' _ _ (hK _ _ _ (by rw [hy0, hy1]; exact queT_push hq hr y) (grownBy_sets w _ _ _ _) (.inl rfl))
  · have hol : ((List.range (2 * len)).map (setCT l)).length = len * 2 := by simp; omega
    have holds : ∀ j u, ((List.range (2 * len)).map (setCT l))[j]? = some u → w.cell? ((⟨b, 0, none⟩ : Addr).add j) = some u := fun j u hj => by
      have hjl : j < 2 * len := by have := (List.getElem?_eq_some_iff.1 hj).1; simpa using this
      rw [Addr.add_lit, Nat.zero_add, queT_cell hq j hjl]
      simpa [hjl] using hj
    obtain ⟨v', w', hrun, r1, r2⟩ := run_append_arg_grows (P := Try.prog) w 48 o.type 45 i (.agg #[.int .u64 0, .int .u64 0]) 2 16 Try.underlying48 hi hz0 hz1 hz2 rfl (by decide) ⟨b, 0, none⟩ len cap _ hol holds ad 1 1 [.int .u64 y0, .int .u64 y1] rfl hc (by omega) (by unfold maxLen; omega) (by omega)
    obtain ⟨r3, r4⟩ := r1
    rcases r4 with ⟨_, r4⟩ | ⟨g', cap2, cur, rfl, hg', hh, hc1, hc2, hc3, ht⟩
    · omega
    · unfold Oper.wp
      simp [execOp, hop, resolve, invoke, builtin, hs, hx, hrun, Result.andThen]
      refine hK' _ _ (hK _ _ _ ⟨by rw [List.length_append, hq.1]; rfl, hc1, hc2, cur, hh, by omega, fun q hq2 => ?_⟩ ⟨r2.os, r2.tape, r2.output, r2.size, fun k hk _ => r2.block k hk (by simp)⟩ (.inr hg'))
      have h3 : (cur.toList.take ((len + 1) * 2))[q]? = ((List.range (2 * len)).map (setCT l) ++ [.int .u64 y0, .int .u64 y1])[q]? := by rw [ht]
      rw [List.getElem?_take, if_pos (by omega), Array.getElem?_toList] at h3
      rw [h3]
      have hn := setCT_new l y
      rw [hq.1, ← hy0, ← hy1] at hn
      by_cases e0 : q < 2 * len
      · rw [List.getElem?_append_left (by simpa using e0), setCT_old l y q (by rw [hq.1]; exact e0)]
        simp [e0]
      · rw [List.getElem?_append_right (by simpa using Nat.le_of_not_lt e0)]
        by_cases e1 : q = 2 * len
        · subst e1; rw [hn.1]; simp
        · obtain rfl : q = 2 * len + 1 := by omega
          rw [hn.2]; simp


/-- Cells of unsigned words as keys. -/
def cellU (v : Value) : Prop := ∃ x, v = .int .u64 x ∧ (Lit.int .u64 x).wf = true
theorem lits_intU (P : Program) (e : TypeId) (d : Nat) (he : P.underlying e = some (.int .u64)) {v : Value} (h : cellU v) : ∃ L, P.keyLits (d + 1) e [v] = some L := by
  obtain ⟨x, rfl, hx⟩ := h
  exact ⟨[.int .u64 x], by simp [Program.keyLits, he, hx]⟩
theorem lits_arrU (P : Program) (t e : TypeId) (n d : Nat) (ht : P.underlying t = some (.array n e)) (he : P.underlying e = some (.int .u64)) (hct : P.cellsOf t = n) (hce : P.cellsOf e = 1) {cs : List Value} (hl : cs.length = n) (h : ∀ v ∈ cs, cellU v) : ∃ L, P.keyLits (d + 2) t cs = some L := by
  obtain ⟨L, hL⟩ := mapM_some (f := fun i => P.keyLits (d + 1) e ((cs.drop (i * 1)).take 1)) (l := List.range n) (fun i hi => by
    rw [List.mem_range] at hi
    rw [Nat.mul_one]
    obtain ⟨v, hv⟩ : ∃ v, (cs.drop i).take 1 = [v] := ⟨cs[i], by rw [List.drop_eq_getElem_cons (by omega), List.take_succ_cons, List.take_zero]⟩
    rw [hv]
    refine lits_intU P e d he (h v ?_)
    have : v ∈ (cs.drop i).take 1 := by rw [hv]; simp
    exact List.mem_of_mem_drop (List.mem_of_mem_take this))
  refine ⟨L.flatten, ?_⟩
  unfold Program.keyLits
  simp only [ht, hct, hce, hl, if_true]
  rw [hL]; rfl
theorem setT_law : Maps.Keyed Try.prog 45 := Maps.Keyed.of_law (deep_law_laid prog_laid (m := 4) (by omega) (of_decide_eq_true (by kernel_rfl)) (by kernel_rfl) (by rw [Try.underlying45]))
theorem setT_cells : Try.prog.cellsOf 45 = 2 ∧ Try.prog.cellsOf 43 = 1 := ⟨by kernel_rfl, by kernel_rfl⟩
theorem setT_type : Try.prog.keyType 45 = true := by kernel_rfl
theorem setT_key {M : Nat} (hM : M < 2 ^ 80) : ∃ kl, keyOf Try.prog 45 (setT M) = some kl := by
  obtain ⟨h1, h3⟩ := setT_cells
  have hw : ∀ x : Int, 0 ≤ x ∧ x < 18446744073709551616 → cellU (.int .u64 x) := fun x hx => ⟨x, rfl, by simp [Lit.wf, IntKind.min, IntKind.max, IntKind.signed, IntKind.bits]; omega⟩
  unfold setT
  have hc : ∀ v ∈ (#[Value.int .u64 (loT M), .int .u64 (hiT M)]).toList, cellU v := fun v hv => by
    have hv : v ∈ [Value.int .u64 (loT M), .int .u64 (hiT M)] := hv
    rcases List.mem_cons.1 hv with rfl | hv
    · exact hw _ (loT_bd M)
    · rcases List.mem_cons.1 hv with rfl | hv
      · exact hw _ (hiT_bd hM)
      · cases hv
  have hl : (#[Value.int .u64 (loT M), .int .u64 (hiT M)]).size = 2 := rfl
  generalize #[Value.int .u64 (loT M), .int .u64 (hiT M)] = cs at hc hl
  obtain ⟨L, hL⟩ := lits_arrU Try.prog 45 43 2 (92 - 1) Try.underlying45 Try.underlying43 h1 h3 (cs := cs.toList) (by simp [hl]) hc
  refine ⟨.string (keyBytes L), ?_⟩
  unfold keyOf
  simp only [Try.underlying45, setT_type, Value.formed, h1, hl, types_n, Value.cells, BEq.rfl, Bool.and_self, if_true]
  have e : Try.prog.keyLits (92 + 1) 45 cs.toList = some L := hL
  rw [e]
  rfl
theorem setT_inj {M M' : Nat} (e : setT M = setT M') : M = M' := by
  unfold setT at e
  simp only [Value.agg.injEq, Array.mk.injEq, List.cons.injEq, Value.int.injEq, true_and, and_true] at e
  exact setT_eq e.1 e.2
/-- Numbered sets. -/
def numT (L : List Nat) : List (Value × Value) := (List.range L.length).map fun i => (setT (L.getD i 0), Value.int .i64 (i : Int))
theorem numT_len (L : List Nat) : (numT L).length = L.length := by simp [numT]
theorem numT_new (L : List Nat) (M : Nat) : numT (L ++ [M]) = numT L ++ [(setT M, Value.int .i64 (L.length : Int))] := by
  unfold numT
  rw [List.length_append, List.length_singleton, List.range_succ, List.map_append]
  congr 1
  · refine List.map_congr_left fun i hi => ?_
    have := List.mem_range.1 hi
    simp [List.getD, List.getElem?_append_left this]
  · simp [List.getD]
theorem numT_mem {L : List Nat} {M : Nat} (h : M ∈ L) : (setT M, Value.int .i64 ((L.idxOf M : Nat) : Int)) ∈ numT L := by
  refine List.mem_map.2 ⟨L.idxOf M, List.mem_range.2 (List.idxOf_lt_length_of_mem h), ?_⟩
  rw [idx_get h]
theorem numT_not {L : List Nat} {M : Nat} (h : ¬ M ∈ L) : ¬ setT M ∈ (numT L).map Prod.fst := fun hx => by
  obtain ⟨p, hp, e⟩ := List.mem_map.1 hx
  obtain ⟨i, hi, rfl⟩ := List.mem_map.1 hp
  have hm := getN_mem (List.mem_range.1 hi)
  exact h (setT_inj e ▸ hm)

/-- A door: a letter, and the state to which it leads. -/
def doorV (l s : Nat) : Value := .agg #[.int .i64 (l : Int), .int .i64 (s : Int)]
theorem door_law : Maps.Keyed Try.prog 59 := Maps.Keyed.of_law (deep_law_laid prog_laid (m := 4) (by omega) (of_decide_eq_true (by kernel_rfl)) (by kernel_rfl) (by rw [Try.underlying59]))
theorem door_cells : Try.prog.cellsOf 59 = 2 ∧ Try.prog.cellsOf 3 = 1 := ⟨by kernel_rfl, by kernel_rfl⟩
theorem door_type : Try.prog.keyType 59 = true := by kernel_rfl
theorem door_key {l s : Nat} (hl : l ≤ 1000000) (hs : s ≤ 1000000) : ∃ kl, keyOf Try.prog 59 (doorV l s) = some kl := by
  obtain ⟨h1, h3⟩ := door_cells
  have hw : ∀ x : Nat, x ≤ 1000000 → cellC (.int .i64 (x : Int)) := fun x hx => ⟨_, rfl, WalkArith.wf_i64 (by omega)⟩
  unfold doorV
  have hc : ∀ v ∈ (#[Value.int .i64 (l : Int), .int .i64 (s : Int)]).toList, cellC v := fun v hv => by
    have hv : v ∈ [Value.int .i64 (l : Int), .int .i64 (s : Int)] := hv
    rcases List.mem_cons.1 hv with rfl | hv
    · exact hw _ hl
    · rcases List.mem_cons.1 hv with rfl | hv
      · exact hw _ hs
      · cases hv
  have hz : (#[Value.int .i64 (l : Int), .int .i64 (s : Int)]).size = 2 := rfl
  generalize #[Value.int .i64 (l : Int), .int .i64 (s : Int)] = cs at hc hz
  obtain ⟨L, hL⟩ := lits_arr Try.prog 59 3 2 (92 - 1) Try.underlying59 Try.underlying3 h1 h3 (cs := cs.toList) (by simp [hz]) hc
  refine ⟨.string (keyBytes L), ?_⟩
  unfold keyOf
  simp only [Try.underlying59, door_type, Value.formed, h1, hz, types_n, Value.cells, BEq.rfl, Bool.and_self, if_true]
  have e : Try.prog.keyLits (92 + 1) 59 cs.toList = some L := hL
  rw [e]
  rfl
theorem doorV_inj {l s l' s' : Nat} (e : doorV l s = doorV l' s') : l = l' ∧ s = s' := by
  unfold doorV at e
  simp only [Value.agg.injEq, Array.mk.injEq, List.cons.injEq, Value.int.injEq, true_and, and_true] at e
  omega
theorem zeroT_any (w : World) : (zeroValue 45).run Try.prog w = .ok (setT 0) w := Try.zeroValue45 w

/-- Block mb is a map that tells of each door the set F of it; none: the set without states. -/
def DoorAt (W : World) (mb m n cnt : Nat) (F : Nat → Nat → Nat) : Prop :=
  ∃ D : DataW Value, W.ownsMap Try.prog 59 selfR mb cnt D ∧ ∀ l s kl, l < m → s < n → keyOf Try.prog 59 (doorV l s) = some kl → (Maps.has D kl = false ∧ F l s = 0) ∨ (Maps.has D kl = true ∧ D.atKey kl .nil = .held (setT (F l s)))
theorem doorAt_made (w : World) (m n : Nat) : DoorAt (w.alloc (.map #[] 0)) w.heap.size m n 0 (fun _ _ => 0) :=
  ⟨.map [], World.ownsMap_made w Try.prog 59 selfR, fun _ _ _ _ _ _ => .inl ⟨by simp [Maps.has], rfl⟩⟩
theorem doorAt_lt {W : World} {mb m n cnt : Nat} {F : Nat → Nat → Nat} (h : DoorAt W mb m n cnt F) : mb < W.heap.size := by obtain ⟨D, h1, _⟩ := h; exact h1.lt
theorem doorAt_block {W W' : World} {mb m n cnt : Nat} {F : Nat → Nat → Nat} (h : DoorAt W mb m n cnt F) (hb : W'.heap[mb]? = W.heap[mb]?) : DoorAt W' mb m n cnt F := by
  obtain ⟨D, ⟨es, clock, h1, h2⟩, h3⟩ := h
  exact ⟨D, ⟨es, clock, by rw [hb]; exact h1, h2⟩, h3⟩
theorem doorAt_below {W W' : World} {mb m n cnt : Nat} {F : Nat → Nat → Nat} (h : DoorAt W mb m n cnt F) (hb : Below W.heap.size W W') : DoorAt W' mb m n cnt F := doorAt_block h (hb.block _ (doorAt_lt h))
theorem doorAt_congr {W : World} {mb m n cnt : Nat} {F F' : Nat → Nat → Nat} (h : DoorAt W mb m n cnt F) (he : ∀ l s, l < m → s < n → F l s = F' l s) : DoorAt W mb m n cnt F' := by
  obtain ⟨D, h1, h2⟩ := h
  refine ⟨D, h1, fun l s kl hl hs hk => ?_⟩
  rw [← he l s hl hs]
  exact h2 l s kl hl hs hk
theorem doorAt_look {W : World} {mb m n cnt : Nat} {F : Nat → Nat → Nat} (h : DoorAt W mb m n cnt F) {l s : Nat} (hl : l < m) (hs : s < n) (hm : m ≤ 1000000) (hn : n ≤ 1000000) :
    (Instr.lookup 41 (.map (some mb)) (doorV l s) false).run Try.prog W = .ok (setT (F l s)) W := by
  obtain ⟨kl, hkey⟩ := door_key (l := l) (s := s) (by omega) (by omega)
  obtain ⟨D, ⟨es, clock, hb, Fi, _, rfl⟩, h3⟩ := h
  have h4 := h3 l s kl hl hs hkey
  rcases Maps.fit_look false door_law Try.underlying41 (zeroT_any W) hb Fi hkey with ⟨hrun, _, hat⟩ | ⟨e0, y, _, _, hrun, hRv, hat, _⟩
  · rw [Maps.has_false_of_atKey hat] at h4
    rcases h4 with ⟨_, e⟩ | ⟨e, _⟩
    · rw [e]; exact hrun
    · cases e
  · rw [Maps.has_true_of_atKey hat] at h4
    rcases h4 with ⟨e, _⟩ | ⟨_, e⟩
    · cases e
    · rw [hat .nil] at e
      have h7 : y.1 = .held e0.val := by simp only [selfR, Option.some.injEq] at hRv; rw [← hRv]
      rw [h7] at e
      generalize setT (F l s) = v at e ⊢
      have e5 : e0.val = v := DataW.held.inj e
      rw [hrun, e5]
      rfl
theorem doorAt_put {W : World} {mb m n cnt : Nat} {F : Nat → Nat → Nat} (h : DoorAt W mb m n cnt F) {l s : Nat} (hl : l < m) (hs : s < n) (hm : m ≤ 1000000) (hn : n ≤ 1000000) (hc : cnt < maxLen) (M : Nat) :
    ∃ W', (Instr.mapUpdate 41 (.map (some mb)) (doorV l s) (setT M)).run Try.prog W = .ok () W' ∧ DoorAt W' mb m n (cnt + 1) (fun l' s' => if l' = l ∧ s' = s then M else F l' s') ∧ W.mapTurned W' mb := by
  obtain ⟨kl, hkey⟩ := door_key (l := l) (s := s) (by omega) (by omega)
  obtain ⟨D, h1, h3⟩ := h
  obtain ⟨W', r1, r2, r3⟩ := h1.store door_law Try.underlying41 hc (val := setT M) (d := .held (setT M)) (ps := []) hkey rfl
  refine ⟨W', r1, ⟨_, r2, fun l' s' kl' hl' hs' hk' => ?_⟩, r3⟩
  by_cases e : l' = l ∧ s' = s
  · simp only [if_pos e]
    obtain ⟨rfl, rfl⟩ := e
    rw [hkey] at hk'; cases hk'
    exact .inr ⟨Maps.has_put_same h1.isMap (door_law.key hkey) _, Maps.atKey_put_same h1.isMap (door_law.key hkey) _ _⟩
  · simp only [if_neg e]
    have hne : kl' ≠ kl := fun e' => e (doorV_inj (door_law.inj hk' (e' ▸ hkey)))
    rw [Maps.has_put_other hne, Maps.atKey_put_other hne]
    exact h3 l' s' kl' hl' hs' hk'
end Go.Proofs.Ytokcejakjaimlae

/- turn.atEnd, leadInto, doors: contracts. -/
namespace Go.Proofs.Ytokcejakjaimlae
open Go.RowKit

theorem maskB_succ (n : Nat) (p : Nat → Bool) : maskB (n + 1) p = if p n = true then putM (maskB n p) n else maskB n p := rfl
theorem maskB_80 {n : Nat} (hn : n ≤ 80) (p : Nat → Bool) : maskB n p < 2 ^ 80 := Nat.lt_of_lt_of_le (maskB_lt n p) (Nat.pow_le_pow_right (by decide) hn)

theorem heap_alloc3_snd (w : World) (o o' o'' : Obj) : (((w.alloc o).alloc o').alloc o'').heap[w.heap.size + 1]? = some o' := by
  have := heap_alloc2_fst (w.alloc o) o' o''
  rwa [World.size_alloc] at this

set_option maxHeartbeats 4000000 in
set_option maxRecDepth 4000 in
theorem atEnd_any (b t : Int) (v2 : Value) (a' : Option Addr) (n cap' : Nat) (E : List Bool) (w : World) (he : SlB w a' n E) (hn : n ≤ 80) :
    Calls Try.prog 15 #[.agg #[.int .i64 b, .int .i64 t, v2, .slice a' n cap']] w (GivesT w (fB n E)) := by
  have HB0 := hide (below_three w (.cells #[.int .i64 b, .int .i64 t, v2, .slice a' n cap'] 25) (.cells #[.int .u64 0, .int .u64 0] 45) (.cells #[.int .u64 0, .int .u64 0] 45))
  have HX1 := hide (heap_alloc3_fst w (.cells #[.int .i64 b, .int .i64 t, v2, .slice a' n cap'] 25) (.cells #[.int .u64 0, .int .u64 0] 45) (.cells #[.int .u64 0, .int .u64 0] 45))
  have HX2 := hide (heap_alloc3_snd w (.cells #[.int .i64 b, .int .i64 t, v2, .slice a' n cap'] 25) (.cells #[.int .u64 0, .int .u64 0] 45) (.cells #[.int .u64 0, .int .u64 0] 45))
  have HX3 := hide (heap_alloc3_last w (.cells #[.int .i64 b, .int .i64 t, v2, .slice a' n cap'] 25) (.cells #[.int .u64 0, .int .u64 0] 45) (.cells #[.int .u64 0, .int .u64 0] 45))
  have HSZ0 : Hid ((((w.alloc (.cells #[.int .i64 b, .int .i64 t, v2, .slice a' n cap'] 25)).alloc (.cells #[.int .u64 0, .int .u64 0] 45)).alloc (.cells #[.int .u64 0, .int .u64 0] 45)).heap.size = w.heap.size + 3) := by show _ = _; simp
  generalize hW0 : ((w.alloc (.cells #[.int .i64 b, .int .i64 t, v2, .slice a' n cap'] 25)).alloc (.cells #[.int .u64 0, .int .u64 0] 45)).alloc (.cells #[.int .u64 0, .int .u64 0] 45) = wb at HB0 HX1 HX2 HX3 HSZ0
  have HWI := hide (fun M s W h1 h2 => with_any M s W h1 h2)
  unfold GivesT setT at HWI
  have HE := hide he
  have HM0 : Hid (fB n E = maskB n (fun s => E.getD s false)) := rfl
  unfold GivesT
  rw [HM0.out]
  obtain ⟨p, hp⟩ : ∃ p, p = fun s => E.getD s false := ⟨_, rfl⟩
  have HP : Hid (∀ s, p s = E.getD s false) := fun s => by rw [hp]
  rw [← hp]
  have HM80 : Hid (∀ i, i ≤ n → maskB i p < 2 ^ 80) := fun i hi => maskB_80 (by omega) p
  have HMS := hide (fun i => maskB_succ i p)
  have HMZ : Hid (maskB 0 p = 0) := rfl
  clear hp he HM0
  obtain ⟨mk, hmk⟩ : ∃ mk : Nat → Nat, mk = fun i => maskB i p := ⟨_, rfl⟩
  have HMK : Hid (∀ i, maskB i p = mk i) := fun i => by rw [hmk]
  clear hmk
  rw [HMK.out] at HMZ ⊢
  have HM81 : Hid (∀ i, i ≤ n → mk i < 2 ^ 80) := fun i hi => by have := HM80.out i hi; rwa [HMK.out] at this
  have HMS1 : Hid (∀ i, mk (i + 1) = if p i = true then putM (mk i) i else mk i) := fun i => by have := HMS.out i; rwa [HMK.out, HMK.out] at this
  clear HM80 HMS HMK
  obtain ⟨⟨p0, p1, p2, p3⟩, pf⟩ := box_cells HX1.out
  go_enter Try.func15, Try.ntmps15
  go_wp2
  clear hW0 p0 p1 p2 p3 pf
  go_loopw [9] (fun iv wx => ∃ i : Nat, i ≤ n ∧ iv = .int .i64 i ∧ wx.heap[w.heap.size + 2]? = some (.cells #[.int .u64 (loT (mk i)), .int .u64 (hiT (mk i))] 45 (0, 0)) ∧ Below (w.heap.size + 2) wb wx) (fun iv _ => n - (intOf iv).toNat)
  case atStart => exact ⟨0, by omega, rfl, by rw [HMZ.out]; exact HX3.out, Below.refl _ _⟩
  case round =>
    obtain ⟨i, hi, rfl, hx, hb⟩ := hrel
    have HX := hide hx
    have HB := hide hb
    clear hx hb
    by_cases hlt : i < n
    · have hlti : (i : Int) < (n : Int) := by omega
      obtain ⟨be, oe, rfl, hce⟩ := slB_cell (slB_below HE.out (HB0.out.trans (HB.out.mono (by omega)))) i hlt
      rw [← HP.out i] at hce
      have HS1 := hide (HMS1.out i)
      cases hpi : p i with
      | true =>
        rw [hpi] at hce
        rw [hpi, if_pos rfl] at HS1
        have HC := hide (fun W => HWI.out (mk i) i W (HM81.out i hi) (by omega))
        rw [← HS1.out] at HC
        obtain ⟨⟨q0, q1⟩, qf⟩ := box2_cells HX.out
        clear hpi
        go_wp2_with (go_at_call 24; refine (HC.out wr).mono ?_; rintro e w1 ⟨rfl, hb1⟩; have hx1 := (hb1.block _ (Array.getElem?_eq_some_iff.1 HX.out).1).trans HX.out; have HX1' := hide hx1; have HB1 := hide (HB.out.trans (hb1.mono (by have := (Array.getElem?_eq_some_iff.1 HX.out).1; omega))); obtain ⟨⟨r0, r1⟩, rf⟩ := box2_cells hx1; clear hb1 hx1)
        obtain ⟨⟨hset, -, -⟩, hbel⟩ := box2_set (v0 := .int .u64 (loT (mk (i + 1)))) (v1 := .int .u64 (hiT (mk (i + 1)))) HX1'.out rfl
        have HST := hide hset
        have HBE := hide (hbel _ _ HB1.out (by omega))
        clear hset hbel
        go_roundw
        case rel => exact ⟨i + 1, by omega, by go_num, HST.out, HBE.out⟩
        case measure => simp [intOf]; omega
      | false =>
        rw [hpi] at hce
        rw [hpi, if_neg (by simp)] at HS1
        clear hpi
        go_wp2
        go_roundw
        case rel => exact ⟨i + 1, by omega, by go_num, by rw [HS1.out]; exact HX.out, HB.out⟩
        case measure => simp [intOf]; omega
    · have hlti : ¬ (i : Int) < (n : Int) := by omega
      obtain rfl : i = n := by omega
      have hy2 := (HB.out.block (w.heap.size + 1) (by omega)).trans HX2.out
      have HY2 := hide hy2
      obtain ⟨⟨q0, q1⟩, qf⟩ := box2_cells HX.out
      obtain ⟨⟨r0, r1⟩, rf⟩ := box2_cells hy2
      have HBA := hide (HB0.out.trans (HB.out.mono (by omega)))
      clear hy2
      go_wp2
      obtain ⟨⟨hset, -, -⟩, hbel⟩ := box2_set (v0 := .int .u64 (loT (mk i))) (v1 := .int .u64 (hiT (mk i))) HY2.out rfl
      obtain ⟨⟨z0, z1⟩, -⟩ := box2_cells hset
      exact bodyPost_ret (v := .agg #[.int .u64 (loT (mk i)), .int .u64 (hiT (mk i))]) (by simp [results, Try.results15, go_sem, z0, z1]) rfl ⟨rfl, hbel _ _ HBA.out (by omega)⟩
end Go.Proofs.Ytokcejakjaimlae

/- turn.leadInto: contract. -/
namespace Go.Proofs.Ytokcejakjaimlae
open Go.RowKit

/-- Those of k states that lead into a set, a set of them for each state. -/
def leadU (F : Nat → Nat) (M : Nat) : Nat → Nat
  | 0 => 0
  | k + 1 => if M.testBit k = true then leadU F M k ||| F k else leadU F M k
theorem leadU_lt {F : Nat → Nat} {M n : Nat} (hF : ∀ k, F k < 2 ^ n) : ∀ k, leadU F M k < 2 ^ n
  | 0 => Nat.two_pow_pos n
  | k + 1 => by
    unfold leadU
    split
    · exact Nat.or_lt_two_pow (leadU_lt hF k) (hF k)
    · exact leadU_lt hF k
theorem indexT (M : Nat) (W : World) : (Instr.index 45 (.agg #[.int .u64 (loT M), .int .u64 (hiT M)]) (.int .i64 0)).run Try.prog W = .ok (.int .u64 (loT M)) W ∧ (Instr.index 45 (.agg #[.int .u64 (loT M), .int .u64 (hiT M)]) (.int .i64 1)).run Try.prog W = .ok (.int .u64 (hiT M)) W := by
  constructor <;> simp [Instr.index, asIntOf, run_underlying Try.underlying45, part, Try.isAgg43, Try.sizeOf43]

set_option maxHeartbeats 4000000 in
set_option maxRecDepth 4000 in
theorem leadInto_any (M l n mb m cnt : Nat) (FF : Nat → Nat → Nat) (w : World) (hd : DoorAt w mb m n cnt FF) (hl : l < m) (hn : n ≤ 80) (hm : m ≤ 36) (hM : M < 2 ^ 80) (hF : ∀ s, FF l s < 2 ^ 80) :
    Calls Try.prog 16 #[setT M, .int .i64 (l : Int), .int .i64 (n : Int), .map (some mb)] w (GivesT w (leadU (FF l) M n)) := by
  have HB0 := hide (below_three w (.cells #[.int .u64 (loT M), .int .u64 (hiT M)] 45) (.cells #[.int .u64 0, .int .u64 0] 45) (.cells #[.int .u64 0, .int .u64 0] 45))
  have HX1 := hide (heap_alloc3_fst w (.cells #[.int .u64 (loT M), .int .u64 (hiT M)] 45) (.cells #[.int .u64 0, .int .u64 0] 45) (.cells #[.int .u64 0, .int .u64 0] 45))
  have HX2 := hide (heap_alloc3_snd w (.cells #[.int .u64 (loT M), .int .u64 (hiT M)] 45) (.cells #[.int .u64 0, .int .u64 0] 45) (.cells #[.int .u64 0, .int .u64 0] 45))
  have HX3 := hide (heap_alloc3_last w (.cells #[.int .u64 (loT M), .int .u64 (hiT M)] 45) (.cells #[.int .u64 0, .int .u64 0] 45) (.cells #[.int .u64 0, .int .u64 0] 45))
  have HSZ0 : Hid ((((w.alloc (.cells #[.int .u64 (loT M), .int .u64 (hiT M)] 45)).alloc (.cells #[.int .u64 0, .int .u64 0] 45)).alloc (.cells #[.int .u64 0, .int .u64 0] 45)).heap.size = w.heap.size + 3) := by show _ = _; simp
  generalize hW0 : ((w.alloc (.cells #[.int .u64 (loT M), .int .u64 (hiT M)] 45)).alloc (.cells #[.int .u64 0, .int .u64 0] 45)).alloc (.cells #[.int .u64 0, .int .u64 0] 45) = wb at HB0 HX1 HX2 HX3 HSZ0
  have HHA := hide (fun s W h2 => has_any M s W hM h2)
  have HLK : Hid (∀ W s, Below w.heap.size w W → s < n → (Instr.lookup 41 (.map (some mb)) (doorV l s) false).run Try.prog W = .ok (setT (FF l s)) W) := fun W s hb hs => doorAt_look (doorAt_below hd hb) hl hs (by omega) (by omega)
  have HIX := hide indexT
  unfold setT doorV at HLK
  unfold setT at HHA
  have HFB := hide hF
  have HU80 := hide (leadU_lt (M := M) hF)
  have HUS : Hid (∀ k, leadU (FF l) M (k + 1) = if M.testBit k = true then leadU (FF l) M k ||| FF l k else leadU (FF l) M k) := fun k => rfl
  have HUZ : Hid (leadU (FF l) M 0 = 0) := rfl
  unfold GivesT
  generalize leadU (FF l) M = U at HU80 HUS HUZ ⊢
  generalize FF l = F at HLK HFB HUS
  have HLO := hide (fun x y => loT_or x y)
  have HHO := hide (fun x y h1 h2 => @hiT_or x y h1 h2)
  obtain ⟨TB, hTB⟩ : ∃ TB : Nat → Bool, TB = M.testBit := ⟨_, rfl⟩
  rw [← hTB] at HHA HUS
  clear hTB hd hF
  unfold setT
  generalize loT M = x0 at *
  generalize hiT M = x1 at *
  clear hM
  obtain ⟨⟨p0, p1⟩, pf⟩ := box2_cells HX1.out
  go_enter Try.func16, Try.ntmps16
  go_wp2
  clear hW0 p0 p1 pf
  go_loopw [14] (fun iv wx => ∃ i : Nat, i ≤ n ∧ iv = .int .i64 i ∧ wx.heap[w.heap.size + 2]? = some (.cells #[.int .u64 (loT (U i)), .int .u64 (hiT (U i))] 45 (0, 0)) ∧ Below (w.heap.size + 2) wb wx) (fun iv _ => n - (intOf iv).toNat)
  case atStart => exact ⟨0, by omega, rfl, by rw [HUZ.out]; exact HX3.out, Below.refl _ _⟩
  case round =>
    obtain ⟨i, hi, rfl, hx, hb⟩ := hrel
    have HX := hide hx
    have HB := hide hb
    clear hx hb
    have hsz : w.heap.size + 2 < wr.heap.size := (Array.getElem?_eq_some_iff.1 HX.out).1
    by_cases hlt : i < n
    · have hlti : (i : Int) < (n : Int) := by omega
      have HS1 := hide (HUS.out i)
      have hy1 := (HB.out.block w.heap.size (by omega)).trans HX1.out
      obtain ⟨⟨q0, q1⟩, qf⟩ := box2_cells hy1
      have HC := hide (HHA.out i wr (by omega))
      clear hy1
      cases hpi : TB i with
      | true =>
        rw [hpi] at HC
        rw [hpi, if_pos rfl] at HS1
        clear hpi
        go_wp2_with (go_at_call 17; refine HC.out.mono ?_; rintro e w1 ⟨rfl, hb1⟩; have HX1' := hide ((hb1.block _ hsz).trans HX.out); have HB1 := hide (HB.out.trans (hb1.mono (by omega))); have hlk := HLK.out w1 i (HB0.out.trans (HB1.out.mono (by omega))) hlt; clear hb1)
        have HFi := hide (HFB.out i)
        have HUi := hide (HU80.out i)
        have HOL := hide (HLO.out (U i) (F i))
        have HOH := hide (HHO.out (U i) (F i) HUi.out HFi.out)
        rw [← HS1.out] at HOL HOH
        obtain ⟨wq, hwq⟩ : ∃ wq : World, wq = w1 := ⟨_, rfl⟩
        rw [← hwq] at HX1' HB1 ⊢
        clear hwq hlk q0 q1 qf w1 HX HB HC wr hsz HLK HHA
        go_loopw [26] (fun jv wx => ∃ j : Nat, j ≤ 2 ∧ jv = .int .i64 j ∧ wx.heap[w.heap.size + 2]? = some (.cells #[.int .u64 (if 0 < j then loT (U (i + 1)) else loT (U i)), .int .u64 (if 1 < j then hiT (U (i + 1)) else hiT (U i))] 45 (0, 0)) ∧ Below (w.heap.size + 2) wb wx) (fun jv _ => 2 - (intOf jv).toNat)
        case atStart => exact ⟨0, by omega, rfl, HX1'.out, HB1.out⟩
        case round =>
          obtain ⟨j, hj, rfl, hx, hb⟩ := hrel
          have HX := hide hx
          have HB := hide hb
          clear hx hb HX1' HB1
          rcases (show j = 0 ∨ j = 1 ∨ j = 2 by omega) with rfl | rfl | rfl
          · have HY : Hid (wr.heap[w.heap.size + 2]? = some (.cells #[.int .u64 (loT (U i)), .int .u64 (hiT (U i))] 45 (0, 0))) := HX.out
            obtain ⟨⟨r0, r1⟩, rf⟩ := box2_cells HY.out
            have hix := fun W => (HIX.out (F i) W).1
            clear HX
            go_wp2
            rw [HOL.out]
            obtain ⟨⟨e1, -, -⟩, hb1⟩ := box2_set1 (i := 0) (v := .int .u64 (loT (U (i + 1)))) HY.out
            have HE1 := hide e1
            have HBE := hide (hb1 _ _ HB.out (by omega))
            clear e1 hb1
            go_roundw
            case rel => exact ⟨1, by omega, by go_num, HE1.out, HBE.out⟩
            case measure => simp [intOf]
          · have HY : Hid (wr.heap[w.heap.size + 2]? = some (.cells #[.int .u64 (loT (U (i + 1))), .int .u64 (hiT (U i))] 45 (0, 0))) := HX.out
            obtain ⟨⟨r0, r1⟩, rf⟩ := box2_cells HY.out
            have hix := fun W => (HIX.out (F i) W).2
            clear HX
            go_wp2
            rw [HOH.out]
            obtain ⟨⟨e1, -, -⟩, hb1⟩ := box2_set1 (i := 1) (v := .int .u64 (hiT (U (i + 1)))) HY.out
            have HE1 := hide e1
            have HBE := hide (hb1 _ _ HB.out (by omega))
            clear e1 hb1
            go_roundw
            case rel => exact ⟨2, by omega, by go_num, HE1.out, HBE.out⟩
            case measure => simp [intOf]
          · have HY : Hid (wr.heap[w.heap.size + 2]? = some (.cells #[.int .u64 (loT (U (i + 1))), .int .u64 (hiT (U (i + 1)))] 45 (0, 0))) := HX.out
            clear HX
            go_wp2
            go_roundw
            case rel => exact ⟨i + 1, by omega, by go_num, HY.out, HB.out⟩
            case measure => simp [intOf]; omega
      | false =>
        rw [hpi] at HC
        rw [hpi, if_neg (by simp)] at HS1
        clear hpi
        go_wp2_with (go_at_call 17; refine HC.out.mono ?_; rintro e w1 ⟨rfl, hb1⟩; have HX1' := hide ((hb1.block _ hsz).trans HX.out); have HB1 := hide (HB.out.trans (hb1.mono (by omega))); clear hb1)
        go_roundw
        case rel => exact ⟨i + 1, by omega, by go_num, by rw [HS1.out]; exact HX1'.out, HB1.out⟩
        case measure => simp [intOf]; omega
    · have hlti : ¬ (i : Int) < (n : Int) := by omega
      obtain rfl : i = n := by omega
      have hy2 := (HB.out.block (w.heap.size + 1) (by omega)).trans HX2.out
      have HY2 := hide hy2
      obtain ⟨⟨q0, q1⟩, qf⟩ := box2_cells HX.out
      obtain ⟨⟨r0, r1⟩, rf⟩ := box2_cells hy2
      have HBA := hide (HB0.out.trans (HB.out.mono (by omega)))
      clear hy2
      go_wp2
      obtain ⟨⟨hset, -, -⟩, hbel⟩ := box2_set (v0 := .int .u64 (loT (U i))) (v1 := .int .u64 (hiT (U i))) HY2.out rfl
      obtain ⟨⟨z0, z1⟩, -⟩ := box2_cells hset
      exact bodyPost_ret (v := .agg #[.int .u64 (loT (U i)), .int .u64 (hiT (U i))]) (by simp [results, Try.results16, go_sem, z0, z1]) rfl ⟨rfl, hbel _ _ HBA.out (by omega)⟩
end Go.Proofs.Ytokcejakjaimlae

/- turn.doors: contract. -/
namespace Go.Proofs.Ytokcejakjaimlae
open Go.RowKit

/-- Of each letter and each state those of i states that lead there, and of the next one by l of its letters. -/
def doorF (N : List (List Int)) (i l : Nat) (l' s : Nat) : Nat := maskB (if l' < l then i + 1 else i) (fun s' => decide (nxt N s' l' = s))
theorem doorF_lt {N : List (List Int)} {i l l' s : Nat} (hi : i < 80) : doorF N i l l' s < 2 ^ 80 := by
  unfold doorF
  split
  · exact maskB_80 (by omega) _
  · exact maskB_80 (by omega) _
theorem doorF_step (N : List (List Int)) (i l l' s : Nat) : (if l' = l ∧ s = nxt N i l then putM (doorF N i l l (nxt N i l)) i else doorF N i l l' s) = doorF N i (l + 1) l' s := by
  unfold doorF
  by_cases e : l' = l
  · subst e
    rw [if_neg (Nat.lt_irrefl _), if_pos (Nat.lt_succ_self _), maskB_succ]
    by_cases e2 : s = nxt N i l'
    · subst e2
      simp
    · have : ¬ nxt N i l' = s := fun h => e2 h.symm
      rw [if_neg (by simp [e2])]
      simp [this]
  · rw [if_neg (by simp [e])]
    by_cases h : l' < l
    · rw [if_pos h, if_pos (by omega)]
    · rw [if_neg h, if_neg (by omega)]
theorem doorF_row {N : List (List Int)} {i m l' s : Nat} (hl : l' < m) : doorF N i m l' s = doorF N (i + 1) 0 l' s := by
  unfold doorF
  rw [if_pos hl, if_neg (by omega)]
def DoorsU (w : World) (N : List (List Int)) (m n : Nat) (e : Ending) (w' : World) : Prop :=
  ∃ mb cnt, e = .returned (.map (some mb)) ∧ w.heap.size ≤ mb ∧ DoorAt w' mb m n cnt (doorF N n 0) ∧ Below w.heap.size w w'

set_option maxHeartbeats 4000000 in
set_option maxRecDepth 4000 in
theorem doors_any (b t : Int) (a : Option Addr) (n cap : Nat) (v3 : Value) (m : Nat) (N : List (List Int)) (w : World) (hs : Sl2 w a n N) (hG : GoodN m n N) (hn : n ≤ 80) :
    Calls Try.prog 14 #[.agg #[.int .i64 b, .int .i64 t, .slice a n cap, v3]] w (DoorsU w N m n) := by
  have hm36 := hG.2.2.2.1
  have hmm := @run_makeMap Try.prog
  have HB0 := hide ((Below.refl w.heap.size w).alloc (Nat.le_refl _) (.cells #[.int .i64 b, .int .i64 t, .slice a n cap, v3] 25))
  have HX1 := hide (heap_alloc_last w (.cells #[.int .i64 b, .int .i64 t, .slice a n cap, v3] 25))
  have HSZ0 : Hid ((w.alloc (.cells #[.int .i64 b, .int .i64 t, .slice a n cap, v3] 25)).heap.size = w.heap.size + 1) := by show _ = _; simp
  generalize hW0 : w.alloc (.cells #[.int .i64 b, .int .i64 t, .slice a n cap, v3] 25) = wb at HB0 HX1 HSZ0
  have HS := hide (sl2_below hs HB0.out)
  have HG := hide hG
  have HWI := hide (fun M s W h1 h2 => with_any M s W h1 h2)
  unfold GivesT at HWI
  have HD0 := hide (doorAt_made wb m n)
  have HBM := hide ((Below.refl wb.heap.size wb).alloc (Nat.le_refl _) (.map #[] 0))
  clear hs hG
  obtain ⟨⟨p0, p1, p2, p3⟩, pf⟩ := box_cells ((HBM.out.block w.heap.size (by rw [HSZ0.out]; omega)).trans HX1.out)
  go_enter Try.func14, Try.ntmps14
  go_wp2
  clear hW0 p0 p1 p2 p3 pf
  go_loopw [13] (fun iv wx => ∃ i cnt : Nat, i ≤ n ∧ iv = .int .i64 i ∧ cnt ≤ 40 * i ∧ DoorAt wx wb.heap.size m n cnt (doorF N i 0) ∧ Below wb.heap.size wb wx) (fun iv _ => n - (intOf iv).toNat)
  case atStart => exact ⟨0, 0, by omega, rfl, by omega, doorAt_congr HD0.out (fun _ _ _ _ => rfl), HBM.out⟩
  case round =>
    obtain ⟨i, cnt, hi, rfl, hcnt, hd, hb⟩ := hrel
    have HD := hide hd
    have HB := hide hb
    clear hd hb HD0 HBM
    by_cases hlt : i < n
    · have hlti : (i : Int) < (n : Int) := by omega
      obtain ⟨bn, on, an, cn, rfl, hcn0, hsn⟩ := sl2_cell HS.out i hlt
      rw [(HG.out.2.2.2.2.2 i hlt).1] at hcn0 hsn
      have hcn := (HB.out.cell (p := ⟨bn, on + i, none⟩) (World.block_lt_of_cell? wb _ hcn0)).trans hcn0
      have HSN := hide hsn
      have HC0 := hide hcnt
      clear hsn hcnt hcn0
      go_wp2
      obtain ⟨wq, hwq⟩ : ∃ wq : World, wq = wr := ⟨_, rfl⟩
      rw [← hwq] at HD HB ⊢
      clear hwq hcn wr
      go_loopw [20] (fun lv wx => ∃ l cn : Nat, l ≤ m ∧ lv = .int .i64 l ∧ cn ≤ 40 * i + l ∧ DoorAt wx wb.heap.size m n cn (doorF N i l) ∧ Below wb.heap.size wb wx) (fun lv _ => m - (intOf lv).toNat)
      case atStart => exact ⟨0, cnt, by omega, rfl, by have := HC0.out; omega, HD.out, HB.out⟩
      case round =>
        obtain ⟨l, ct, hl, rfl, hct, hd, hb⟩ := hrel
        have hsr := sl_below HSN.out hb
        have HD2 := hide hd
        have HB2 := hide hb
        have HSR := hide hsr
        have HCT := hide hct
        clear hd hb hsr hct HD HB
        by_cases hlm : l < m
        · have hlmi : (l : Int) < (m : Int) := by omega
          obtain ⟨b1, o1, rfl, hc1⟩ := sl_cell HSR.out l hlm
          obtain ⟨hy1, hy2⟩ := nxt_cell HG.out hlt hlm
          rw [hy2] at hc1
          have HFN := hide (@doorF_step N i l)
          have HF8 := hide (fun s => @doorF_lt N i l l s (by omega))
          obtain ⟨y, hy⟩ : ∃ y, y = nxt N i l := ⟨_, rfl⟩
          rw [← hy] at hc1 hy1 HFN
          clear hy hy2
          have hbA := (Below.refl wr.heap.size wr).alloc (Nat.le_refl _) (.cells #[.int .i64 (l : Int), .int .i64 (y : Int)] 59)
          have HDA := hide (doorAt_below HD2.out hbA)
          have HXA := hide (heap_alloc_last wr (.cells #[.int .i64 (l : Int), .int .i64 (y : Int)] 59))
          have HBA := hide (HB2.out.trans (hbA.mono HB2.out.size))
          clear hbA
          go_wp2
          generalize wr.alloc (.cells #[.int .i64 (l : Int), .int .i64 (y : Int)] 59) = wA at HDA HXA HBA ⊢
          have hlk := doorAt_look (doorAt_block (W' := wA.drew) HDA.out rfl) hlm hy1 (by omega) (by omega)
          have HLTA : Hid (wr.heap.size < wA.heap.size) := (Array.getElem?_eq_some_iff.1 HXA.out).1
          obtain ⟨⟨d0, d1⟩, -⟩ := box2_cells HXA.out
          have HC := hide (HWI.out (doorF N i l l y) i wA.drew (HF8.out y) (by omega))
          have HPU : Hid (∀ W, Below wA.heap.size wA W → ∃ W', (Instr.mapUpdate 41 (.map (some wb.heap.size)) (doorV l y) (setT (putM (doorF N i l l y) i))).run Try.prog W = .ok () W' ∧ DoorAt W' wb.heap.size m n (ct + 1) (doorF N i (l + 1)) ∧ Below wb.heap.size wb W') := fun W hb => by
            obtain ⟨W', r1, r2, r3⟩ := doorAt_put (doorAt_below HDA.out hb) hlm hy1 (by omega) (by omega) (by have := HCT.out; unfold maxLen; omega) (putM (doorF N i l l y) i)
            refine ⟨W', r1, doorAt_congr r2 (fun l' s' _ _ => HFN.out l' s'), below_turned (HBA.out.trans (hb.mono HBA.out.size)) r3 (Nat.le_refl _) (Nat.le_trans HBA.out.size hb.size)⟩
          generalize setT (putM (doorF N i l l y) i) = vp at HC HPU
          generalize setT (doorF N i l l y) = vd at HC hlk
          unfold doorV at hlk HPU
          go_region_with (first
            | (go_at_call 24; refine HC.out.mono ?_; rintro e w1 ⟨rfl, hb1⟩; have HB1 := hide ((Below.refl wA.heap.size wA).drew.trans hb1); obtain ⟨⟨f0, f1⟩, -⟩ := box2_cells ((HB1.out.block _ HLTA.out).trans HXA.out); obtain ⟨w2, hup, hq1, hq2⟩ := HPU.out w1 HB1.out; have HQ1 := hide hq1; have HQ2 := hide hq2; clear hb1 hq1 hq2))
          all_goals
            clear hup d0 d1 f0 f1
            go_wp2
            go_roundw
            case rel => exact ⟨l + 1, ct + 1, by omega, by go_num, by have := HCT.out; omega, HQ1.out, HQ2.out⟩
            case measure => simp [intOf]; omega
        · have hlmi : ¬ (l : Int) < (m : Int) := by omega
          obtain rfl : l = m := by omega
          go_wp2
          go_roundw
          case rel => exact ⟨i + 1, ct, by omega, by go_num, by have := HCT.out; omega, doorAt_congr HD2.out (fun l' s' hl' _ => doorF_row hl'), HB2.out⟩
          case measure => simp [intOf]; omega
    · have hlti : ¬ (i : Int) < (n : Int) := by omega
      obtain rfl : i = n := by omega
      have HBE := hide (below_step HB0.out HB.out)
      go_wp2
      go_ret
      exact ⟨wb.heap.size, cnt, by simp, by rw [HSZ0.out]; omega, HD.out, HBE.out⟩
end Go.Proofs.Ytokcejakjaimlae
