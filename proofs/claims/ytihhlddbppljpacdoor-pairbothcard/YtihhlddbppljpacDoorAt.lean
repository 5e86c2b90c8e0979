/- The iterator of auto.met: a queue of its own, and which states were seen; its word. -/
import Derived.Test.YtihhlddbppljpacDoorAq
import Derived.Test.YtihhlddbppljpacDoorAr
import Derived.ArgAppend
import Derived.Sort.LoopGhostIn
namespace Go.Proofs.YtihhlddbppljpacDoor
open Go.RowKit Go.Shelf
attribute [local go_sem] Oper.semAt_some

/-- A queue: block b holds, from off on, the numbers l, and room for cap of them. -/
def Que (W : World) (b off len cap : Nat) (l : List Int) : Prop :=
  l.length = len ∧ len ≤ cap ∧ cap ≤ maxLen ∧ ∃ cur : Array Value, W.heap[b]? = some (.cells cur 3 (0, 0)) ∧ off + cap ≤ cur.size ∧ ∀ j, j < len → cur[off + j]? = some (.int .i64 (l.getD j 0))
theorem que_kept {W W' : World} {b off len cap : Nat} {l : List Int} (h : Que W b off len cap l) (e : W'.heap[b]? = W.heap[b]?) : Que W' b off len cap l := by
  obtain ⟨h1, h2, h3, cur, h4, h5⟩ := h
  exact ⟨h1, h2, h3, cur, e.trans h4, h5⟩
theorem que_lt {W : World} {b off len cap : Nat} {l : List Int} (h : Que W b off len cap l) : b < W.heap.size := by
  obtain ⟨h1, h2, h3, cur, h4, h5⟩ := h
  exact (Array.getElem?_eq_some_iff.1 h4).1
theorem que_cell {W : World} {b off len cap : Nat} {l : List Int} (h : Que W b off len cap l) (j : Nat) (hj : j < len) : W.cell? ⟨b, off + j, none⟩ = some (.int .i64 (l.getD j 0)) := by
  obtain ⟨h1, h2, h3, cur, h4, h5, h6⟩ := h
  simp only [World.cell?, h4]
  exact h6 j hj
theorem que_tail {W : World} {b off k cap : Nat} {l : List Int} (h : Que W b off (k + 1) cap l) : Que W b (if cap = 1 then off else off + 1) k (cap - 1) (l.drop 1) := by
  obtain ⟨h1, h2, h3, cur, h4, h5, h6⟩ := h
  refine ⟨by rw [List.length_drop]; omega, by omega, by omega, cur, h4, by split <;> omega, fun j hj => ?_⟩
  rw [if_neg (by omega)]
  have := h6 (j + 1) (by omega)
  rw [show off + 1 + j = off + (j + 1) by omega, this]
  simp [List.getD]
theorem grownBy_set (W : World) (a : Addr) (v : Value) : W.grownBy (W.setCell a v) (some a.block) :=
  ⟨rfl, rfl, rfl, (KeepsWalks.setCell W a v).size, fun k _ hk => Below.heap_setCell _ _ _ k (fun e => hk (by rw [e]))⟩
theorem que_push {W : World} {b off len cap : Nat} {l : List Int} (h : Que W b off len cap l) (hr : len + 1 ≤ cap) (y : Int) : Que (W.setCell ⟨b, off + len, none⟩ (.int .i64 y)) b off (len + 1) cap (l ++ [y]) := by
  obtain ⟨h1, h2, h3, cur, h4, h5, h6⟩ := h
  refine ⟨by rw [List.length_append, List.length_singleton]; omega, hr, h3, cur.setIfInBounds (off + len) (.int .i64 y), ?_, by simpa using h5, fun j hj => ?_⟩
  · simp [World.setCell, Array.getElem?_modify, h4]
  · rw [Array.getElem?_setIfInBounds]
    by_cases e : j = len
    · subst e
      rw [if_pos rfl, if_pos (by omega)]
      simp [List.getD, ← h1]
    · rw [if_neg (by omega), h6 j (by omega)]
      simp [List.getD, List.getElem?_append_left (show j < l.length by omega)]

theorem wpListIn_append_que {F : Fence} {n : Nat} (w : World) {ops : Array Oper} {rest : List Oper} {o : Oper} {a : Act} {Q : Exit → Act → World → Prop}
    (hg : o.guard = none) (s x : Operand) (hop : o.op = Op.call { callee := Callee.builtin Builtin.append, args := #[s, x], argTypes := #[50, 50] })
    (b off len cap : Nat) (l : List Int) (hs : a.eval s = .slice (some ⟨b, off, none⟩) len cap) (hq : Que w b off len cap l) (ad : Addr) (y : Int) (hx : a.eval x = .slice (some ad) 1 1)
    (hc : ∀ j u, [Value.int .i64 y][j]? = some u → w.cell? (ad.add j) = some u) (hlen : len ≤ 1000000)
    (hK : ∀ b' off' cap' w', Que w' b' off' (len + 1) cap' (l ++ [y]) → w.grownBy w' (some b) → (b' = b ∨ w.heap.size ≤ b') → wpListIn F n Tryd.prog ops Q rest (a.put o.dst (.slice (some ⟨b', off', none⟩) (len + 1) cap')) w') :
    wpListIn F n Tryd.prog ops Q (o :: rest) a w := by
  obtain ⟨i, hi, hz0, hz1, hz2⟩ := info_parts info3
  refine wpListIn_plain hg fun K hK' => ?_
  by_cases hr : len + 1 ≤ cap
  · have hlt : ∀ j, j < 1 → (w.cell? ⟨b, off + len + j, none⟩).isSome = true ∧ w.frozen? ⟨b, off + len + j, none⟩ = false := fun j hj => by
      obtain ⟨h1, h2, h3, cur, h4, h5, h6⟩ := hq
      simp only [World.cell?, World.frozen?, h4]
      have : off + len + j < cur.size := by omega
      simp [this]
    have hrun := run_append_room_cells (P := Tryd.prog) w 50 o.type 3 i Tryd.underlying50 hi b off len cap ad 1 1 [.int .i64 y] (by rw [hz1]; rfl) hc (fun u hu => by simp at hu; subst hu; rfl) hr (by rw [hz1, Nat.mul_one]; exact fun j hj => (hlt j hj).1) (by rw [hz1, Nat.mul_one]; exact fun j hj => (hlt j hj).2)
    rw [hz1, Nat.mul_one] at hrun
    unfold Oper.wpIn
    refine ⟨?_, ?_⟩
    · simp [Oper.about, hop, resolve, Target.leads, Sem.run_pure]
    · rw [Oper.semAt_plain F _ _ (by rw [hop]; intro c hc'; cases hc')]
      simp [execOp, hop, resolve, invoke, builtin, hs, hx, hrun, Result.andThen]
      exact hK' _ _ (hK _ _ _ _ (que_push hq hr y) (grownBy_set w _ _) (.inl rfl))
  · have holds : ∀ j u, (l.map (Value.int .i64))[j]? = some u → w.cell? ((⟨b, off, none⟩ : Addr).add j) = some u := fun j u hj => by
      have hjl : j < l.length := by have := (List.getElem?_eq_some_iff.1 hj).1; simpa using this
      rw [Addr.add_lit, que_cell hq j (by rw [← hq.1]; exact hjl)]
      simp [hjl] at hj
      simp [List.getD, hjl, hj]
    obtain ⟨v', w', hrun, r1, r2⟩ := run_append_arg_grows (P := Tryd.prog) w 50 o.type 3 i (.int .i64 0) 1 8 Tryd.underlying50 hi hz0 hz1 hz2 rfl (by decide) ⟨b, off, none⟩ len cap (l.map (Value.int .i64)) (by simp [hq.1]) holds ad 1 1 [.int .i64 y] rfl hc (by omega) (by unfold maxLen; omega) (by omega)
    obtain ⟨g, cap', hv⟩ := ownsRow_succ r1
    subst hv
    obtain ⟨r3, r4⟩ := r1
    rcases r4 with ⟨r4, _⟩ | ⟨g', cap2, cur, e1, hg', hh, hc1, hc2, hc3, ht⟩
    · cases r4
    · cases e1
      unfold Oper.wpIn
      refine ⟨?_, ?_⟩
      · simp [Oper.about, hop, resolve, Target.leads, Sem.run_pure]
      · rw [Oper.semAt_plain F _ _ (by rw [hop]; intro c hc'; cases hc')]
        simp [execOp, hop, resolve, invoke, builtin, hs, hx, hrun, Result.andThen]
        refine hK' _ _ (hK _ _ _ _ ⟨by rw [List.length_append, hq.1]; rfl, hc1, hc2, cur, hh, by omega, fun j hj => ?_⟩ ⟨r2.os, r2.tape, r2.output, r2.size, fun k hk _ => r2.block k hk (by simp)⟩ (.inr hg'))
        have h3 : (cur.toList.take ((len + 1) * 1))[j]? = (l.map (Value.int .i64) ++ [.int .i64 y])[j]? := by rw [ht]
        rw [List.getElem?_take, if_pos (by omega), Array.getElem?_toList] at h3
        rw [Nat.zero_add, h3]
        have hj2 : j < (l ++ [y]).length := by rw [List.length_append, hq.1]; exact hj
        rw [show l.map (Value.int .i64) ++ [.int .i64 y] = (l ++ [y]).map (Value.int .i64) by simp, List.getElem?_map, List.getElem?_eq_getElem hj2, getD_at _ j hj2]
        rfl

def X3 (Bn S b : Nat) (r : Nat) : Prop := r = Bn ∨ r = S ∨ r = b

/-- The iterator's state: what was handed over, what was seen, what waits. -/
def QuAt (J : (Nat → Prop) → List Int → World → Prop) (w : World) (n Bn S : Nat) (vN : Value) (pre sn q : List Int) (b off cap : Nat) (W : World) : Prop :=
  Que W b off q.length cap q ∧ (W.rowIs S 4 n fun p => .bool (decide ((p : Int) ∈ sn))) ∧ Boxed W Bn 22 vN ∧ Below w.heap.size w W ∧ w.heap.size ≤ b ∧ w.heap.size ≤ S ∧ J (X3 Bn S b) pre W

theorem quAt_apart {J : (Nat → Prop) → List Int → World → Prop} {w : World} {n Bn S : Nat} {vN : Value} {pre sn q : List Int} {b off cap : Nat} {W : World} (h : QuAt J w n Bn S vN pre sn q b off cap W) : b ≠ S ∧ b ≠ Bn ∧ S ≠ Bn := by
  obtain ⟨⟨_, _, _, cur, h4, _⟩, ⟨c, hc, _⟩, h3, _⟩ := h
  have h3 : W.heap[Bn]? = _ := h3
  refine ⟨fun e => ?_, fun e => ?_, fun e => ?_⟩
  · subst e; rw [h4] at hc; simp at hc
  · subst e; rw [h4] at h3; simp at h3
  · subst e; rw [hc] at h3; simp at h3
theorem quAt_round {J : (Nat → Prop) → List Int → World → Prop} {w : World} {n Bn S : Nat} {vN : Value} {pre pre' sn q : List Int} {b off cap : Nat} {W W' : World} (h : QuAt J w n Bn S vN pre sn q b off cap W) (hJ : J (X3 Bn S b) pre' W') (hk : KeptX w.heap.size (X3 Bn S b) W W') : QuAt J w n Bn S vN pre' sn q b off cap W' := by
  obtain ⟨h1, h2, h3, h4, h5, h6, h7⟩ := h
  exact ⟨que_kept h1 (hk.1 b (.inr (.inr rfl)) (que_lt h1)), h2.of_block (hk.1 S (.inr (.inl rfl)) h2.lt), (hk.1 Bn (.inl rfl) h3.lt).trans h3, h4.trans hk.2, h5, h6, hJ⟩
theorem quAt_seen {J : (Nat → Prop) → List Int → World → Prop} (hF : FreeJ J) {w : World} {n Bn S : Nat} {vN : Value} {pre sn q : List Int} {b off cap : Nat} {W : World} (h : QuAt J w n Bn S vN pre sn q b off cap W) (x : Nat) : QuAt J w n Bn S vN pre (sn ++ [(x : Int)]) q b off cap (W.setCell ⟨S, x, none⟩ (.bool true)) := by
  obtain ⟨e1, e2, e3⟩ := quAt_apart h
  obtain ⟨h1, h2, h3, h4, h5, h6, h7⟩ := h
  exact ⟨que_kept h1 (Below.heap_setCell _ _ _ _ e1), seen_set h2 x, (Below.heap_setCell _ _ _ _ (fun e => e3 e.symm)).trans h3, h4.setCell h6 _, h5, h6, hF _ _ _ _ _ _ h7 (grownBy_set W _ _) (fun r e => by cases e; exact .inr (.inl rfl)) (fun r hr => .inl hr)⟩
theorem quAt_push {J : (Nat → Prop) → List Int → World → Prop} (hF : FreeJ J) {w : World} {n Bn S : Nat} {vN : Value} {pre sn q : List Int} {b off cap : Nat} {W w' : World} {ob : Obj} {y : Int} (h : QuAt J w n Bn S vN pre sn q b off cap W) {b' off' cap' : Nat} (hq : Que w' b' off' (q.length + 1) cap' (q ++ [y])) (hg : (W.alloc ob).grownBy w' (some b)) (hb : b' = b ∨ (W.alloc ob).heap.size ≤ b') : QuAt J w n Bn S vN pre sn (q ++ [y]) b' off' cap' w' := by
  obtain ⟨e1, e2, e3⟩ := quAt_apart h
  obtain ⟨h1, h2, h3, h4, h5, h6, h7⟩ := h
  have hs := h4.size
  rw [World.size_alloc] at hb
  refine ⟨by rw [List.length_append]; exact hq, (h2.alloc ob).of_block (hg.block _ (by have := h2.lt; simp; omega) (fun e => e1 (by cases e; rfl))), (h3.alloc ob).kept hg (fun e => e2 (by cases e; rfl)), Below.grown (h4.alloc hs ob) hg (by simp; omega) (fun k hk => by cases hk; exact h5), by rcases hb with rfl | hb <;> omega, h6, ?_⟩
  refine hF _ _ _ _ _ _ (hF.alloc ob h7) hg (fun r e => by cases e; exact .inr (.inr rfl)) (fun r hr => ?_)
  rcases hr with rfl | rfl | rfl
  · exact .inl (.inl rfl)
  · exact .inl (.inr (.inl rfl))
  · rcases hb with rfl | hb
    · exact .inl (.inr (.inr rfl))
    · exact .inr ⟨by rw [World.size_alloc]; exact hb, que_lt hq⟩
theorem quAt_tail {J : (Nat → Prop) → List Int → World → Prop} {w : World} {n Bn S : Nat} {vN : Value} {pre sn q : List Int} {b off cap : Nat} {W : World} (h : QuAt J w n Bn S vN pre sn q b off cap W) (hp : 0 < q.length) : QuAt J w n Bn S vN pre sn (q.drop 1) b (if cap = 1 then off else off + 1) (cap - 1) W := by
  obtain ⟨h1, h2⟩ := h
  obtain ⟨k, hk⟩ : ∃ k, q.length = k + 1 := ⟨q.length - 1, by omega⟩
  rw [hk] at h1
  refine ⟨?_, h2⟩
  have := que_tail h1
  rwa [List.length_drop, hk, Nat.add_sub_cancel]
theorem quAt_start {J : (Nat → Prop) → List Int → World → Prop} (hF : FreeJ J) {w W : World} {n Bn : Nat} {vN : Value} (hB : Below w.heap.size w W) (hbx : Boxed W Bn 22 vN) (h0 : J (fun r => r = Bn) [] W) :
    QuAt J w n Bn W.heap.size vN [] [0] [0] (W.heap.size + 1) 0 1 ((W.alloc (.cells ((madeCells #[.bool false] n).setIfInBounds 0 (.bool true)) 4)).alloc (.cells #[.int .i64 0] 3)) := by
  have hm := (@metAt_start W n)
  have hs := hB.size
  refine ⟨⟨rfl, by simp, by decide, #[.int .i64 0], ?_, by simp, fun j hj => ?_⟩, hm.1, (hbx.alloc _).alloc _, (hB.alloc hs _).alloc (by simp; omega) _, by omega, by omega, ?_⟩
  · have := heap_alloc_last (W.alloc (.cells ((madeCells #[.bool false] n).setIfInBounds 0 (.bool true)) 4)) (.cells #[.int .i64 0] 3)
    simpa using this
  · simp at hj; subst hj; simp
  · refine hF (fun r => r = Bn ∨ r = W.heap.size) _ _ _ _ none (hF _ _ _ _ _ none h0 (World.grownBy_alloc _ _ none) (fun _ e => by cases e) fun r hr => ?_) (World.grownBy_alloc _ _ none) (fun _ e => by cases e) fun r hr => ?_
    · rcases hr with rfl | rfl
      · exact .inl rfl
      · exact .inr ⟨Nat.le_refl _, by simp⟩
    · rcases hr with rfl | rfl | rfl
      · exact .inl (.inl rfl)
      · exact .inl (.inr rfl)
      · exact .inr ⟨by simp, by simp⟩

theorem run_tail (b off k cap : Nat) (wx : World) : (Instr.slice 50 (.slice (some ⟨b, off, none⟩) (k + 1) cap) (some (.int .i64 1)) none none).run Tryd.prog wx = .ok (.slice (some ⟨b, if cap = 1 then off else off + 1, none⟩) k (cap - 1)) wx := by
  obtain ⟨i, hi, hz0, hz1, hz2⟩ := info_parts info3
  unfold Instr.slice Instr.sliceBounds Instr.sliceBound
  simp only [Sem.run_bind, run_underlying Tryd.underlying50, Result.andThen_ok, Sem.run_pure, asIntOf]
  simp [sizeOf, typeInfo, hi, hz1, Addr.add_lit]
  rw [if_pos (by omega)]
  by_cases e : cap = 1
  · simp [e]
  · simp [e]
end Go.Proofs.YtihhlddbppljpacDoor
