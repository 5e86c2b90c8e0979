/- 3 texts in one. -/
import Derived.ArgAppend
import Derived.Sort.LoopGhostIn
import Derived.Deep.AppendLies
import Derived.Test.YtebbjmcjgjecmaaZNx
import Derived.Test.YtebbjmcjgjecmaaAr
/- The iterator of auto.met: a queue of its own, and which states were seen; its word. -/
namespace Go.Proofs.Ytebbjmcjgjecmaa
open Go.RowKit Go.Shelf
attribute [local go_sem] Oper.semAt_some

/-- A queue: block b holds, from off on, the numbers l, and room for cap of them. -/
def Que (W : World) (b off len cap : Nat) (l : List Int) : Prop :=
  l.length = len ∧ len ≤ cap ∧ cap ≤ maxLen ∧ ∃ cur : Array Value, W.heap[b]? = some (.cells cur 3 (0, 0)) ∧ off + cap ≤ cur.size ∧ ∀ j, j < len → cur[off + j]? = some (.int .i64 (l.getD j 0))
theorem que_kept {W W' : World} {b off len cap : Nat} {l : List Int} (h : Que W b off len cap l) (e : W'.heap[b]? = W.heap[b]?) : Que W' b off len cap l := by
  obtain ⟨h1, h2, h3, cur, h4, h5⟩ := h
  exact ⟨h1, h2, h3, cur, e.trans h4, h5⟩
theorem que_lt {W : World} {b off len cap : Nat} {l : List Int} (h : Que W b off len cap l) : b < W.heap.size := by
  obtain ⟨h1, h2, h3, cur, h4, h5⟩ := h
  exact (Array.getElem?_eq_some_iff.1 h4).1
theorem que_cell {W : World} {b off len cap : Nat} {l : List Int} (h : Que W b off len cap l) (j : Nat) (hj : j < len) : W.cell? ⟨b, off + j, none⟩ = some (.int .i64 (l.getD j 0)) := by
  obtain ⟨h1, h2, h3, cur, h4, h5, h6⟩ := h
  simp only [World.cell?, h4]
  exact h6 j hj
theorem que_tail {W : World} {b off k cap : Nat} {l : List Int} (h : Que W b off (k + 1) cap l) : Que W b (if cap = 1 then off else off + 1) k (cap - 1) (l.drop 1) := by
  obtain ⟨h1, h2, h3, cur, h4, h5, h6⟩ := h
  refine ⟨by rw [List.length_drop]; omega, by omega, by omega, cur, h4, by split <;> omega, fun j hj => ?_⟩
  rw [if_neg (by omega)]
  have := h6 (j + 1) (by omega)
  rw [show off + 1 + j = off + (j + 1) by omega, this]
  simp [List.getD]
theorem grownBy_set (W : World) (a : Addr) (v : Value) : W.grownBy (W.setCell a v) (some a.block) :=
  ⟨rfl, rfl, rfl, (KeepsWalks.setCell W a v).size, fun k _ hk => Below.heap_setCell _ _ _ k (fun e => hk (by rw [e]))⟩
theorem que_push {W : World} {b off len cap : Nat} {l : List Int} (h : Que W b off len cap l) (hr : len + 1 ≤ cap) (y : Int) : Que (W.setCell ⟨b, off + len, none⟩ (.int .i64 y)) b off (len + 1) cap (l ++ [y]) := by
  obtain ⟨h1, h2, h3, cur, h4, h5, h6⟩ := h
  refine ⟨by rw [List.length_append, List.length_singleton]; omega, hr, h3, cur.setIfInBounds (off + len) (.int .i64 y), ?_, by simpa using h5, fun j hj => ?_⟩
  · simp [World.setCell, Array.getElem?_modify, h4]
  · rw [Array.getElem?_setIfInBounds]
    by_cases e : j = len
    · subst e
      rw [if_pos rfl, if_pos (by omega)]
      simp [List.getD, ← h1]
    · rw [if_neg (by omega), h6 j (by omega)]
      simp [List.getD, List.getElem?_append_left (show j < l.length by omega)]

theorem wpListIn_append_que {F : Fence} {n : Nat} (w : World) {ops : Array Oper} {rest : List Oper} {o : Oper} {a : Act} {Q : Exit → Act → World → Prop}
    (hg : o.guard = none) (s x : Operand) (hop : o.op = Op.call { callee := Callee.builtin Builtin.append, args := #[s, x], argTypes := #[31, 31] })
    (b off len cap : Nat) (l : List Int) (hs : a.eval s = .slice (some ⟨b, off, none⟩) len cap) (hq : Que w b off len cap l) (ad : Addr) (y : Int) (hx : a.eval x = .slice (some ad) 1 1)
    (hc : ∀ j u, [Value.int .i64 y][j]? = some u → w.cell? (ad.add j) = some u) (hlen : len ≤ 100000000)
    (hK : ∀ b' off' cap' w', Que w' b' off' (len + 1) cap' (l ++ [y]) → w.grownBy w' (some b) → (b' = b ∨ w.heap.size ≤ b') → wpListIn F n Try.prog ops Q rest (a.put o.dst (.slice (some ⟨b', off', none⟩) (len + 1) cap')) w') :
    wpListIn F n Try.prog ops Q (o :: rest) a w := by
  obtain ⟨i, hi, hz0, hz1, hz2⟩ := info_parts info3
  refine wpListIn_plain hg fun K hK' => ?_
  by_cases hr : len + 1 ≤ cap
  · have hlt : ∀ j, j < 1 → (w.cell? ⟨b, off + len + j, none⟩).isSome = true ∧ w.frozen? ⟨b, off + len + j, none⟩ = false := fun j hj => by
      obtain ⟨h1, h2, h3, cur, h4, h5, h6⟩ := hq
      simp only [World.cell?, World.frozen?, h4]
      have : off + len + j < cur.size := by omega
      simp [this]
    have hrun := run_append_room_cells (P := Try.prog) w 31 o.type 3 i Try.underlying31 hi b off len cap ad 1 1 [.int .i64 y] (by rw [hz1]; rfl) hc (fun u hu => by simp at hu; subst hu; rfl) hr (by rw [hz1, Nat.mul_one]; exact fun j hj => (hlt j hj).1) (by rw [hz1, Nat.mul_one]; exact fun j hj => (hlt j hj).2)
    rw [hz1, Nat.mul_one] at hrun
    unfold Oper.wpIn
    refine ⟨?_, ?_⟩
    · simp [Oper.about, hop, resolve, Target.leads, Sem.run_pure]
    · rw [Oper.semAt_plain F _ _ (by rw [hop]; intro c hc'; cases hc')]
      simp [execOp, hop, resolve, invoke, builtin, hs, hx, hrun, Result.andThen]
      exact hK' _ _ (hK _ _ _ _ (que_push hq hr y) (grownBy_set w _ _) (.inl rfl))
  · have holds : ∀ j u, (l.map (Value.int .i64))[j]? = some u → w.cell? ((⟨b, off, none⟩ : Addr).add j) = some u := fun j u hj => by
      have hjl : j < l.length := by have := (List.getElem?_eq_some_iff.1 hj).1; simpa using this
      rw [Addr.add_lit, que_cell hq j (by rw [← hq.1]; exact hjl)]
      simp [hjl] at hj
      simp [List.getD, hjl, hj]
    obtain ⟨v', w', hrun, r1, r2⟩ := run_append_arg_grows (P := Try.prog) w 31 o.type 3 i (.int .i64 0) 1 8 Try.underlying31 hi hz0 hz1 hz2 rfl (by decide) ⟨b, off, none⟩ len cap (l.map (Value.int .i64)) (by simp [hq.1]) holds ad 1 1 [.int .i64 y] rfl hc (by omega) (by unfold maxLen; omega) (by omega)
    obtain ⟨g, cap', hv⟩ := ownsRow_succ r1
    subst hv
    obtain ⟨r3, r4⟩ := r1
    rcases r4 with ⟨r4, _⟩ | ⟨g', cap2, cur, e1, hg', hh, hc1, hc2, hc3, ht⟩
    · cases r4
    · cases e1
      unfold Oper.wpIn
      refine ⟨?_, ?_⟩
      · simp [Oper.about, hop, resolve, Target.leads, Sem.run_pure]
      · rw [Oper.semAt_plain F _ _ (by rw [hop]; intro c hc'; cases hc')]
        simp [execOp, hop, resolve, invoke, builtin, hs, hx, hrun, Result.andThen]
        refine hK' _ _ (hK _ _ _ _ ⟨by rw [List.length_append, hq.1]; rfl, hc1, hc2, cur, hh, by omega, fun j hj => ?_⟩ ⟨r2.os, r2.tape, r2.output, r2.size, fun k hk _ => r2.block k hk (by simp)⟩ (.inr hg'))
        have h3 : (cur.toList.take ((len + 1) * 1))[j]? = (l.map (Value.int .i64) ++ [.int .i64 y])[j]? := by rw [ht]
        rw [List.getElem?_take, if_pos (by omega), Array.getElem?_toList] at h3
        rw [Nat.zero_add, h3]
        have hj2 : j < (l ++ [y]).length := by rw [List.length_append, hq.1]; exact hj
        rw [show l.map (Value.int .i64) ++ [.int .i64 y] = (l ++ [y]).map (Value.int .i64) by simp, List.getElem?_map, List.getElem?_eq_getElem hj2, getD_at _ j hj2]
        rfl

def X3 (Bn S b : Nat) (r : Nat) : Prop := r = Bn ∨ r = S ∨ r = b

/-- The iterator's state: what was handed over, what was seen, what waits. -/
def QuAt (J : (Nat → Prop) → List Int → World → Prop) (w : World) (n Bn S : Nat) (vN : Value) (pre sn q : List Int) (b off cap : Nat) (W : World) : Prop :=
  Que W b off q.length cap q ∧ (W.rowIs S 4 n fun p => .bool (decide ((p : Int) ∈ sn))) ∧ Boxed W Bn 22 vN ∧ Below w.heap.size w W ∧ w.heap.size ≤ b ∧ w.heap.size ≤ S ∧ J (X3 Bn S b) pre W

theorem quAt_apart {J : (Nat → Prop) → List Int → World → Prop} {w : World} {n Bn S : Nat} {vN : Value} {pre sn q : List Int} {b off cap : Nat} {W : World} (h : QuAt J w n Bn S vN pre sn q b off cap W) : b ≠ S ∧ b ≠ Bn ∧ S ≠ Bn := by
  obtain ⟨⟨_, _, _, cur, h4, _⟩, ⟨c, hc, _⟩, h3, _⟩ := h
  have h3 : W.heap[Bn]? = _ := h3
  refine ⟨fun e => ?_, fun e => ?_, fun e => ?_⟩
  · subst e; rw [h4] at hc; simp at hc
  · subst e; rw [h4] at h3; simp at h3
  · subst e; rw [hc] at h3; simp at h3
theorem quAt_round {J : (Nat → Prop) → List Int → World → Prop} {w : World} {n Bn S : Nat} {vN : Value} {pre pre' sn q : List Int} {b off cap : Nat} {W W' : World} (h : QuAt J w n Bn S vN pre sn q b off cap W) (hJ : J (X3 Bn S b) pre' W') (hk : KeptX w.heap.size (X3 Bn S b) W W') : QuAt J w n Bn S vN pre' sn q b off cap W' := by
  obtain ⟨h1, h2, h3, h4, h5, h6, h7⟩ := h
  exact ⟨que_kept h1 (hk.1 b (.inr (.inr rfl)) (que_lt h1)), h2.of_block (hk.1 S (.inr (.inl rfl)) h2.lt), (hk.1 Bn (.inl rfl) h3.lt).trans h3, h4.trans hk.2, h5, h6, hJ⟩
theorem quAt_seen {J : (Nat → Prop) → List Int → World → Prop} (hF : FreeJ J) {w : World} {n Bn S : Nat} {vN : Value} {pre sn q : List Int} {b off cap : Nat} {W : World} (h : QuAt J w n Bn S vN pre sn q b off cap W) (x : Nat) : QuAt J w n Bn S vN pre (sn ++ [(x : Int)]) q b off cap (W.setCell ⟨S, x, none⟩ (.bool true)) := by
  obtain ⟨e1, e2, e3⟩ := quAt_apart h
  obtain ⟨h1, h2, h3, h4, h5, h6, h7⟩ := h
  exact ⟨que_kept h1 (Below.heap_setCell _ _ _ _ e1), seen_set h2 x, (Below.heap_setCell _ _ _ _ (fun e => e3 e.symm)).trans h3, h4.setCell h6 _, h5, h6, hF _ _ _ _ _ _ h7 (grownBy_set W _ _) (fun r e => by cases e; exact .inr (.inl rfl)) (fun r hr => .inl hr)⟩
theorem quAt_push {J : (Nat → Prop) → List Int → World → Prop} (hF : FreeJ J) {w : World} {n Bn S : Nat} {vN : Value} {pre sn q : List Int} {b off cap : Nat} {W w' : World} {ob : Obj} {y : Int} (h : QuAt J w n Bn S vN pre sn q b off cap W) {b' off' cap' : Nat} (hq : Que w' b' off' (q.length + 1) cap' (q ++ [y])) (hg : (W.alloc ob).grownBy w' (some b)) (hb : b' = b ∨ (W.alloc ob).heap.size ≤ b') : QuAt J w n Bn S vN pre sn (q ++ [y]) b' off' cap' w' := by
  obtain ⟨e1, e2, e3⟩ := quAt_apart h
  obtain ⟨h1, h2, h3, h4, h5, h6, h7⟩ := h
  have hs := h4.size
  rw [World.size_alloc] at hb
  refine ⟨by rw [List.length_append]; exact hq, (h2.alloc ob).of_block (hg.block _ (by have := h2.lt; simp; omega) (fun e => e1 (by cases e; rfl))), (h3.alloc ob).kept hg (fun e => e2 (by cases e; rfl)), Below.grown (h4.alloc hs ob) hg (by simp; omega) (fun k hk => by cases hk; exact h5), by rcases hb with rfl | hb <;> omega, h6, ?_⟩
  refine hF _ _ _ _ _ _ (hF.alloc ob h7) hg (fun r e => by cases e; exact .inr (.inr rfl)) (fun r hr => ?_)
  rcases hr with rfl | rfl | rfl
  · exact .inl (.inl rfl)
  · exact .inl (.inr (.inl rfl))
  · rcases hb with rfl | hb
    · exact .inl (.inr (.inr rfl))
    · exact .inr ⟨by rw [World.size_alloc]; exact hb, que_lt hq⟩
theorem quAt_tail {J : (Nat → Prop) → List Int → World → Prop} {w : World} {n Bn S : Nat} {vN : Value} {pre sn q : List Int} {b off cap : Nat} {W : World} (h : QuAt J w n Bn S vN pre sn q b off cap W) (hp : 0 < q.length) : QuAt J w n Bn S vN pre sn (q.drop 1) b (if cap = 1 then off else off + 1) (cap - 1) W := by
  obtain ⟨h1, h2⟩ := h
  obtain ⟨k, hk⟩ : ∃ k, q.length = k + 1 := ⟨q.length - 1, by omega⟩
  rw [hk] at h1
  refine ⟨?_, h2⟩
  have := que_tail h1
  rwa [List.length_drop, hk, Nat.add_sub_cancel]
theorem quAt_start {J : (Nat → Prop) → List Int → World → Prop} (hF : FreeJ J) {w W : World} {n Bn : Nat} {vN : Value} (hB : Below w.heap.size w W) (hbx : Boxed W Bn 22 vN) (h0 : J (fun r => r = Bn) [] W) :
    QuAt J w n Bn W.heap.size vN [] [0] [0] (W.heap.size + 1) 0 1 ((W.alloc (.cells ((madeCells #[.bool false] n).setIfInBounds 0 (.bool true)) 4)).alloc (.cells #[.int .i64 0] 3)) := by
  have hm := (@metAt_start W n)
  have hs := hB.size
  refine ⟨⟨rfl, by simp, by decide, #[.int .i64 0], ?_, by simp, fun j hj => ?_⟩, hm.1, (hbx.alloc _).alloc _, (hB.alloc hs _).alloc (by simp; omega) _, by omega, by omega, ?_⟩
  · have := heap_alloc_last (W.alloc (.cells ((madeCells #[.bool false] n).setIfInBounds 0 (.bool true)) 4)) (.cells #[.int .i64 0] 3)
    simpa using this
  · simp at hj; subst hj; simp
  · refine hF (fun r => r = Bn ∨ r = W.heap.size) _ _ _ _ none (hF _ _ _ _ _ none h0 (World.grownBy_alloc _ _ none) (fun _ e => by cases e) fun r hr => ?_) (World.grownBy_alloc _ _ none) (fun _ e => by cases e) fun r hr => ?_
    · rcases hr with rfl | rfl
      · exact .inl rfl
      · exact .inr ⟨Nat.le_refl _, by simp⟩
    · rcases hr with rfl | rfl | rfl
      · exact .inl (.inl rfl)
      · exact .inl (.inr rfl)
      · exact .inr ⟨by simp, by simp⟩

theorem run_tail (b off k cap : Nat) (wx : World) : (Instr.slice 31 (.slice (some ⟨b, off, none⟩) (k + 1) cap) (some (.int .i64 1)) none none).run Try.prog wx = .ok (.slice (some ⟨b, if cap = 1 then off else off + 1, none⟩) k (cap - 1)) wx := by
  obtain ⟨i, hi, hz0, hz1, hz2⟩ := info_parts info3
  unfold Instr.slice Instr.sliceBounds Instr.sliceBound
  simp only [Sem.run_bind, run_underlying Try.underlying31, Result.andThen_ok, Sem.run_pure, asIntOf]
  simp [sizeOf, typeInfo, hi, hz1, Addr.add_lit]
  rw [if_pos (by omega)]
  by_cases e : cap = 1
  · simp [e]
  · simp [e]
end Go.Proofs.Ytebbjmcjgjecmaa

/- The iterator of auto.met: its walk. -/
namespace Go.Proofs.Ytebbjmcjgjecmaa
open Go.RowKit Go.Shelf
attribute [local go_sem] Oper.semAt_some

theorem drop_pos (l : List Int) (i : Nat) : (l.drop i).getD 0 0 = l.getD i 0 := by simp [List.getD]
theorem take_pre {o o' : List Int} (h : o <+: o') (i : Nat) (hi : i ≤ o.length) : o'.take i = o.take i := by
  obtain ⟨s, rfl⟩ := h
  rw [List.take_append_of_le_length hi]
theorem que_alloc {W : World} {b off len cap : Nat} {l : List Int} (h : Que W b off len cap l) (o : Obj) : Que (W.alloc o) b off len cap l := que_kept h (Below.heap_alloc W o b (que_lt h))
theorem take_snoc {l : List Int} {i : Nat} (h : i < l.length) : l.take (i + 1) = l.take i ++ [l.getD i 0] := by
  rw [List.take_succ_eq_append_getElem h, getD_at _ _ h]

set_option maxHeartbeats 8000000 in
set_option maxRecDepth 8000 in
theorem iter_any (F : Fence) (nn : Nat) (hFf : F.fn 52) (hro : F.round = none) (hnn : 1 ≤ nn) (lp Bn : Nat) (a : Option Addr) (n cap m : Nat) (N : List (List Int)) (w : World) (hs : Sl2 w a n N) (hG : GoodN m n N)
    (J : (Nat → Prop) → List Int → World → Prop) (hF : FreeJ J)
    (hY : ∀ X pre x W1, J X pre W1 → pre.length < n → YieldAt F (nn - 1) Try.prog lp #[.int .i64 x] W1 fun e W' => e = .returned (.bool true) ∧ J X (pre ++ [x]) W' ∧ KeptX w.heap.size X W1 W')
    (W : World) (hB : Below w.heap.size w W) (hbx : Boxed W Bn 22 (.slice a n cap)) (h0 : J (fun r => r = Bn) [] W) :
    CallsIn F nn Try.prog 52 #[.func (.yield lp) #[] #[], .pointer (some ⟨Bn, 0, none⟩)] W fun e W' => (∃ v, e = .returned v) ∧ ∃ xs X, xs = metL N ∧ J X xs W' := by
  have hmk := make_bools n (by have := hG.2.2.1; omega)
  have hn1 := hG.2.1
  have hn80 := hG.2.2.1
  have hm36 := hG.2.2.2.1
  have h0i : (0 : Int) < (n : Int) := by omega
  have HS := hide hs
  have HY := hide hY
  have HFJ := hide hF
  have HOK := hide (fun i => outs_ok hG i)
  have HLEN := hide (fun i => outs_len hG i)
  have HROW : Hid (∀ s, s < n → (N.getD s []).length = m ∧ ∀ j, j < m → 0 ≤ (N.getD s []).getD j 0 ∧ (N.getD s []).getD j 0 < (n : Int)) := hG.2.2.2.2.2
  have HSUC := hide (fun i => outs_succ N i)
  have HEND := hide (fun i => outs_end hG i)
  have HST := hide (@quAt_start J hF w W n Bn (.slice a n cap) hB hbx h0)
  have HR0 : Hid ((W.alloc (.cells (madeCells #[.bool false] n) 4)).rowIs W.heap.size 4 n fun _ => .bool false) := World.rowIs_made W (.bool false) n 4
  have hcell0 := HR0.out.cell (i := 0) (by omega)
  have hfz0 := HR0.out.frozen 0
  have hbc := hbx.cell
  clear hs hG hY hF h0 hbx hB
  refine callsIn_of_wp Try.func52 rfl hFf ?_ hro
  simp only [Try.ntmps52, List.size_toArray, List.length_cons, List.length_nil, Nat.reduceAdd, Nat.reduceSub, Array.replicate_succ, Array.replicate_zero, List.push_toArray, List.append_toArray, List.nil_append, List.cons_append]
  gi_wp2
  clear hcell0 hfz0 HR0 hmk hbc
  generalize (W.alloc (.cells ((madeCells #[.bool false] n).setIfInBounds 0 (.bool true)) 4)).alloc (.cells #[.int .i64 0] 3) = W0 at HST ⊢
  gi_loopg [4] n (fun k v wr => ∃ i b off qc : Nat, k = n - i ∧ i ≤ (outs N i).length ∧ v = .slice (some ⟨b, off, none⟩) ((outs N i).drop i).length qc ∧ QuAt J w n Bn W.heap.size (.slice a n cap) ((outs N i).take i) (outs N i) ((outs N i).drop i) b off qc wr)
  case atStart => exact ⟨0, W.heap.size + 1, 0, 1, rfl, by omega, rfl, HST.out⟩
  case round =>
    obtain ⟨i, b, off, qc, hgk, hi, rfl, hqu⟩ := hrel
    have HQ := hide hqu
    have HGK := hide hgk
    have hln := HLEN.out i
    have hdl : ((outs N i).drop i).length = (outs N i).length - i := List.length_drop
    clear hqu hgk
    by_cases hlt : i < (outs N i).length
    · have hlen1 : ((outs N i).drop i).length = ((outs N i).drop (i + 1)).length + 1 := by rw [List.length_drop, List.length_drop]; omega
      have hsr := okO_get (HOK.out i) i hlt
      have HSUC' := hide (HSUC.out i hlt)
      have HTK := hide (take_snoc hlt)
      have HC0 := hide (que_cell HQ.out.1 0 (by omega))
      rw [drop_pos, Nat.add_zero] at HC0
      have HQ1 := hide (quAt_tail HQ.out (by omega))
      rw [List.drop_drop] at HQ1
      obtain ⟨s, hs⟩ : ∃ s : Nat, (outs N i).getD i 0 = s := ⟨((outs N i).getD i 0).toNat, by omega⟩
      rw [hs] at HC0 hsr HSUC' HTK
      rw [Int.toNat_natCast] at HSUC'
      have hc0 := HC0.out
      have hsn : s < n := by omega
      have hsni : (s : Int) < (n : Int) := by omega
      obtain ⟨hrl, hrr⟩ := HROW.out s hsn
      have HRR := hide hrr
      have HRL := hide hrl
      have HOKI := hide (HOK.out i)
      have hsl := run_tail b off ((outs N i).drop (i + 1)).length qc
      rw [hlen1]
      obtain ⟨fn, tmps, assign, body, hy, hR⟩ := HY.out _ _ (s : Int) wr HQ1.out.2.2.2.2.2.2 (by rw [List.length_take]; omega)
      have HR := hide hR
      have HI := hide hi
      clear hrl hrr hsr hs hdl hlen1 HC0 HQ hi hR
      generalize hO : outs N i = O at HQ1 HSUC' HOKI hln hlt HTK HR HI hsl ⊢
      have HO := hide hO
      clear hO
      generalize hkk : (O.drop (i + 1)).length = k at hsl ⊢
      have HKK := hide hkk
      generalize (if qc = 1 then off else off + 1) = off1 at HQ1 hsl
      generalize qc - 1 = qc1 at HQ1 hsl
      clear hkk
      gi_wp2
      refine HR.out.mono ?_
      rintro e W3 ⟨rfl, hJ3, hk3⟩
      have HQ3 := hide (quAt_round HQ1.out hJ3 hk3)
      clear hJ3 hk3 HQ1 HR hy hc0 hsl
      have hbc := HQ3.out.2.2.1.cell
      obtain ⟨bn, on, a1, c1, rfl, hcn, hsl1⟩ := sl2_cell (sl2_below HS.out HQ3.out.2.2.2.1) s hsn
      have hsl0 : Sl w a1 (N.getD s []).length (N.getD s []) := by
        obtain ⟨_, _, a2, c2, e1, h1, h2⟩ := sl2_cell HS.out s hsn
        cases e1
        have h3 := (HQ3.out.2.2.2.1.cell (p := ⟨bn, on + s, none⟩) (World.block_lt_of_cell? w _ h1)).trans h1
        rw [hcn] at h3
        cases h3
        exact h2
      have HSL := hide hsl0
      rw [HRL.out] at hcn HSL
      clear hsl1 hsl0
      generalize hrow : N.getD s [] = row at HSL HRR HSUC' HRL
      clear hrow
      have HPRE := hide (fun q => (rowAdd_pre O (row.take q)).length_le)
      have HOKQ : Hid (∀ q, OkO n (rowAdd O (row.take q))) := fun q => okO_row HOKI.out _ fun x hx => by
        obtain ⟨j, hj, rfl⟩ := List.getElem_of_mem (List.mem_of_mem_take hx)
        have := HRR.out j (by rw [← HRL.out]; exact hj)
        rwa [getD_at _ j hj] at this
      have HTS := hide (fun q => rowAdd_take_succ O row q)
      have HALL : Hid (rowAdd O (row.take m) = rowAdd O row) := by show _ = _; rw [← HRL.out, rowAdd_all]
      have HTP : Hid ((rowAdd O row).take (i + 1) = O.take i ++ [(s : Int)]) := by show _ = _; rw [take_pre (rowAdd_pre O row) (i + 1) (by omega), HTK.out]
      rw [HRL.out] at HTS
      gi_wp2
      obtain ⟨wo, hwo⟩ : ∃ wo : World, wo = W3 := ⟨_, rfl⟩
      rw [← hwo] at HQ3 ⊢
      clear hwo hcn hbc W3
      gi_loopw [4, 31] (fun v u wx => ∃ q b off qc : Nat, q ≤ m ∧ u = .int .i64 q ∧ v = .slice (some ⟨b, off, none⟩) ((rowAdd O (row.take q)).drop (i + 1)).length qc ∧ QuAt J w n Bn W.heap.size (.slice (some ⟨bn, on, none⟩) n cap) (O.take i ++ [(s : Int)]) (rowAdd O (row.take q)) ((rowAdd O (row.take q)).drop (i + 1)) b off qc wx) (fun _ u _ => m - (intOf u).toNat)
      case atStart => exact ⟨0, b, off1, qc1, by omega, rfl, by rw [← HKK.out]; rfl, HQ3.out⟩
      case round =>
        obtain ⟨q, b2, off2, qc2, hq, rfl, rfl, hqu⟩ := hrel
        have HQ := hide hqu
        have hql := HPRE.out q
        clear hqu
        by_cases hqt : q < m
        · have hqti : (q : Int) < (m : Int) := by omega
          obtain ⟨b1, o1, rfl, hcx⟩ := sl_cell (sl_below HSL.out HQ.out.2.2.2.1) q hqt
          have hxr := HRR.out q hqt
          have HTS' := hide (HTS.out q hqt)
          have hqn := nodup_len n _ (HOKQ.out q)
          obtain ⟨x, hx⟩ : ∃ x : Nat, row.getD q 0 = x := ⟨(row.getD q 0).toNat, by omega⟩
          rw [hx] at hcx hxr HTS'
          have hxn : x < n := by omega
          have hxni : (x : Int) < (n : Int) := by omega
          clear hx hxr
          have hcs := HQ.out.2.1.cell hxn
          have hfs := HQ.out.2.1.frozen x
          by_cases hin : (x : Int) ∈ rowAdd O (row.take q)
          · rw [addL_yes hin] at HTS'
            rw [decide_eq_true hin] at hcs
            clear hin
            generalize rowAdd O (row.take q) = Oq at HQ HTS' hql hqn ⊢
            gi_wp2
            go_roundw
            case rel => exact ⟨q + 1, b2, off2, qc2, by omega, by go_num, by rw [HTS'.out], by rw [HTS'.out]; exact HQ.out⟩
            case measure => simp [intOf]; omega
          · rw [addL_no hin] at HTS'
            rw [decide_eq_false hin] at hcs
            clear hin
            generalize rowAdd O (row.take q) = Oq at HQ HTS' hql hqn ⊢
            have HM2 := hide (quAt_seen HFJ.out HQ.out x)
            have HDA : Hid ((Oq ++ [(x : Int)]).drop (i + 1) = Oq.drop (i + 1) ++ [(x : Int)]) := by show _ = _; rw [List.drop_append_of_le_length (by omega)]
            have hdl : (Oq.drop (i + 1)).length ≤ 4000000 := by rw [List.length_drop]; omega
            gi_wp2_with (gi_at_builtin; refine wpListIn_append_que _ rfl _ _ rfl b2 off2 _ qc2 _ rfl (que_alloc HM2.out.1 _) ⟨wr.heap.size, 0, none⟩ (x : Int) rfl (one_new_at _ _ _ _ (by simp)) (by omega) ?_; intro b3 off3 qc3 w3 hq3 hg3 hb3)
            go_roundw
            case rel => exact ⟨q + 1, b3, off3, qc3, by omega, by go_num, by rw [HTS'.out, HDA.out, List.length_append, List.length_drop]; rfl, by rw [HTS'.out, HDA.out]; exact quAt_push HFJ.out HM2.out hq3 hg3 hb3⟩
            case measure => simp [intOf]; omega
        · have hqti : ¬ ((q : Int) < (m : Int)) := by omega
          obtain rfl : q = m := by omega
          rw [HALL.out] at HQ hql
          rw [HALL.out]
          gi_wp2
          gi_roundg (n - (i + 1))
          case rel => exact ⟨i + 1, b2, off2, qc2, rfl, by rw [HSUC'.out]; omega, by rw [HSUC'.out, List.length_drop], by rw [HSUC'.out, HTP.out]; exact HQ.out⟩
          case measure => have := HGK.out; omega
    · have hl0 : ((outs N i).drop i).length = 0 := by omega
      have HE := hide (HEND.out i (by omega) (by omega))
      have HJ := hide HQ.out.2.2.2.2.2.2
      rw [List.take_of_length_le (by omega), HE.out] at HJ
      rw [hl0]
      clear HQ hdl hl0
      gi_wp2
      go_end0
      exact ⟨⟨_, rfl⟩, _, _, rfl, HJ.out⟩
end Go.Proofs.Ytebbjmcjgjecmaa

/- The contract of auto.Reach. -/
namespace Go.Proofs.Ytebbjmcjgjecmaa
open Go.RowKit Go.Shelf
attribute [local go_sem] Oper.semAt_some

/-- One number more, inside a fence; where the row lies then. -/
theorem wpListIn_append_lies {F : Fence} {n : Nat} (w : World) {ops : Array Oper} {rest : List Oper} {o : Oper} {a : Act} {Q : Exit → Act → World → Prop}
    (hg : o.guard = none) (s x : Operand) (hop : o.op = Op.call { callee := Callee.builtin Builtin.append, args := #[s, x], argTypes := #[31, 31] })
    (base : Nat) (v : Value) (k : Nat) (xs : List Value) (hs : a.eval s = v) (hown : w.ownsRow base 3 1 v k xs) (ad : Addr) (y : Int) (hx : a.eval x = .slice (some ad) 1 1)
    (hc : ∀ j u, [Value.int .i64 y][j]? = some u → w.cell? (ad.add j) = some u) (hlen : k ≤ 100000000) (hbase : base ≤ w.heap.size) (H : Nat) (hH : w.heap.size = H)
    (hK : ∀ g cap w', w'.ownsRow base 3 1 (.slice (some ⟨g, 0, none⟩) (k + 1) cap) (k + 1) (xs ++ [.int .i64 y]) → w.grownBy w' v.ownBlock → (v.ownBlock = some g ∨ g = H) → g < w'.heap.size → wpListIn F n Try.prog ops Q rest (a.put o.dst (.slice (some ⟨g, 0, none⟩) (k + 1) cap)) w') :
    wpListIn F n Try.prog ops Q (o :: rest) a w := by
  obtain ⟨i, hi, hz0, hz1, hz2⟩ := info_parts info3
  refine wpListIn_plain hg fun K hK' => ?_
  obtain ⟨g, cap, w', hrun, h2, h3, h4, h5⟩ := run_append_lies (P := Try.prog) w 31 o.type base 3 i (.int .i64 0) 1 8 Try.underlying31 hi hz0 hz1 hz2 rfl (by decide) v k xs hown ad 1 1 [.int .i64 y] rfl hc (fun u hu => by simp at hu; subst hu; rfl) (by decide) (by unfold maxLen; omega) (by omega) hbase H hH
  unfold Oper.wpIn
  refine ⟨?_, ?_⟩
  · simp [Oper.about, hop, resolve, Target.leads, Sem.run_pure]
  · rw [Oper.semAt_plain F _ _ (by rw [hop]; intro c hc'; cases hc')]
    simp [execOp, hop, resolve, invoke, builtin, hs, hx, hrun, Result.andThen]
    exact hK' _ _ (hK g cap w' h2 h3 h4 h5)

/-- What Reach holds between two rounds: the states that came, in its box Bs. -/
def ReAt (w : World) (Bs : Nat) (X : Nat → Prop) (pre : List Int) (W : World) : Prop :=
  (∃ v, Boxed W Bs 31 v ∧ W.ownsRow w.heap.size 3 1 v pre.length (pre.map (Value.int .i64)) ∧ ∀ r, X r → w.heap.size ≤ r ∧ r < W.heap.size ∧ r ≠ Bs ∧ v.ownBlock ≠ some r) ∧ Below w.heap.size w W ∧ w.heap.size ≤ Bs
theorem reAt_free (w : World) (Bs : Nat) : FreeJ (ReAt w Bs) := by
  rintro X Y s W W' row ⟨⟨v, hv, hrow, hX⟩, hB, hBs⟩ hg hr hm
  refine ⟨⟨v, hv.kept hg (fun e => (hX _ (hr _ e.symm)).2.2.1 rfl), ownsRow_of_block hrow (fun k hk => hg.block k (hrow.lt k hk).2 (fun e => (hX k (hr k e.symm)).2.2.2 hk)), fun r hy => ?_⟩, hB.grown hg hB.size (fun k e => (hX k (hr k e)).1), hBs⟩
  have h1 := hg.size
  have h2 := hB.size
  rcases hm r hy with h | h
  · have := hX r h; exact ⟨this.1, by omega, this.2.2⟩
  · refine ⟨by omega, h.2, ?_, fun e => ?_⟩
    · have := hv.lt; omega
    · have := hrow.lt r e; omega
theorem reAt_put {w : World} {Bs : Nat} {X : Nat → Prop} {s : List Int} {W : World} {l : Nat} {o : Obj} (o' : Obj) (h : ReAt w Bs X s W) (hl : w.heap.size ≤ l) (hlo : W.heap[l]? = some o) (ho : o.isCells = false) : ReAt w Bs X s (W.putObj l o') := by
  obtain ⟨⟨v, hv, hrow, hX⟩, hB, hBs⟩ := h
  refine ⟨⟨v, hv.kept (grownBy_putObj' W l o') (fun e => ?_), ownsRow_putObj hrow o' hlo ho, fun r hr => ?_⟩, hB.grown (grownBy_putObj' W l o') hB.size (fun k e => by cases e; exact hl), hBs⟩
  · cases e
    rw [show W.heap[Bs]? = _ from hv] at hlo
    cases hlo
    cases ho
  · have := hX r hr
    have h2 := (grownBy_putObj' W l o').size
    exact ⟨this.1, by omega, this.2.2⟩
theorem reAt_push {w : World} {Bs : Nat} {X : Nat → Prop} {s : List Int} {W w1 : World} {v : Value} {x : Int} {g cap : Nat} {ob : Obj} (hv : Boxed W Bs 31 v) (hrow : W.ownsRow w.heap.size 3 1 v s.length (s.map (Value.int .i64))) (hX : ∀ r, X r → w.heap.size ≤ r ∧ r < W.heap.size ∧ r ≠ Bs ∧ v.ownBlock ≠ some r) (hB : Below w.heap.size w W) (hBs : w.heap.size ≤ Bs)
    (hown : w1.ownsRow w.heap.size 3 1 (.slice (some ⟨g, 0, none⟩) (s.length + 1) cap) (s.length + 1) (s.map (Value.int .i64) ++ [.int .i64 x])) (hgrow : (W.alloc ob).grownBy w1 v.ownBlock) (hat : v.ownBlock = some g ∨ g = W.heap.size + 1) :
    (w1.cell? ⟨Bs, 0, none⟩ = some v ∧ w1.frozen? ⟨Bs, 0, none⟩ = false) ∧ KeepsOthers W (w1.setCell ⟨Bs, 0, none⟩ (.slice (some ⟨g, 0, none⟩) (s.length + 1) cap)) ∧ KeptX w.heap.size X W (w1.setCell ⟨Bs, 0, none⟩ (.slice (some ⟨g, 0, none⟩) (s.length + 1) cap)) ∧ ReAt w Bs X (s ++ [x]) (w1.setCell ⟨Bs, 0, none⟩ (.slice (some ⟨g, 0, none⟩) (s.length + 1) cap)) := by
  obtain ⟨hv1, hv2, hr2, hk2, hb2⟩ := hv.appended (by decide) hrow hB.size hBs hown hgrow
  refine ⟨⟨hv1.cell, hv1.frozen⟩, hk2, ⟨fun r hr hl => ?_, hb2⟩, ⟨⟨_, hv2, by rw [List.length_append, List.map_append]; exact hr2, fun r hr => ?_⟩, hB.trans hb2, hBs⟩⟩
  · have := hX r hr
    rw [Below.heap_setCell _ _ _ _ this.2.2.1, hgrow.block r (by simp; omega) (fun e => this.2.2.2 e.symm), Below.heap_alloc _ _ _ hl]
  · have := hX r hr
    have h2 := hb2.size
    refine ⟨this.1, by omega, this.2.2.1, fun e => ?_⟩
    obtain rfl : g = r := by simpa [Value.ownBlock] using e
    rcases hat with h | h
    · exact this.2.2.2 h
    · omega

set_option maxHeartbeats 1000000 in
set_option maxRecDepth 4000 in
theorem met_in (F : Fence) (nn : Nat) (hF : F.fn 44) (hro : F.round = none) (a : Option Addr) (n cap : Nat) (w : World) :
    CallsIn F nn Try.prog 44 #[.slice a n cap] w fun e w' => e = .returned (.func (.func 52) #[] #[.pointer (some ⟨w.heap.size, 0, none⟩)]) ∧ w' = w.alloc (.cells #[.slice a n cap] 22) := by
  refine callsIn_of_wp Try.func44 rfl hF ?_ hro
  simp only [Try.ntmps44, List.size_toArray, List.length_cons, List.length_nil, Nat.reduceAdd, Nat.reduceSub, Array.replicate_succ, Array.replicate_zero, List.push_toArray, List.append_toArray, List.nil_append, List.cons_append]
  gi_wp2
  go_ret
  exact ⟨rfl, rfl⟩

theorem iter_seq (F : Fence) (nn : Nat) (hFf : F.fn 52) (hro : F.round = none) (hnn : 1 ≤ nn) (Bn : Nat) (a : Option Addr) (n cap m : Nat) (N : List (List Int)) (w W0 : World) (hs : Sl2 w a n N) (hG : GoodN m n N) (hB : Below w.heap.size w W0) (hbx : Boxed W0 Bn 22 (.slice a n cap)) :
    SeqFree F nn Try.prog 52 #[.pointer (some ⟨Bn, 0, none⟩)] (fun x : Int => #[Value.int .i64 x]) w.heap.size (fun r => r = Bn) (fun xs => xs = metL N) n W0 := fun l J W hW hJ hY h0 =>
  iter_any F nn hFf hro hnn l Bn a n cap m N w hs hG J hJ hY W (hB.trans (hW.mono hB.size)) ((hW.block Bn hbx.lt).trans hbx) h0

set_option maxHeartbeats 4000000 in
set_option maxRecDepth 8000 in
theorem reach_in (F : Fence) (nn : Nat) (hF : ∀ f, F.fn f) (hro : F.round = none) (hnn : 3 ≤ nn) (hC : ∀ f args W R k, Calls Try.prog f args W R → CallsIn F k Try.prog f args W R)
    (M b t : Int) (m : Nat) (a a' : Option Addr) (len cap len' cap' : Nat) (N : List (List Int)) (w : World) (hs : Sl2 w a len N) (hm' : len' ≤ maxLen) (hA : autoM M b t N len' = 0) (hG : GoodN m len N) :
    CallsIn F nn Try.prog 32 #[.agg #[.int .i64 b, .int .i64 t, .slice a len cap, .slice a' len' cap'], .int .i64 M] w (OfU w (metL N) .nilIface) := by
  have HB1 : Hid (Below w.heap.size w (w.alloc (.cells #[.int .i64 b, .int .i64 t, .slice a len cap, .slice a' len' cap'] 25))) := (Below.refl _ _).alloc (Nat.le_refl _) _
  have HCK := hide (fun k => hC _ _ _ _ k (check_w M b t a a' len cap len' cap' N _ (sl2_below hs HB1.out) hm'))
  rw [hA, errV_yes rfl] at HCK
  have HMI := hide (fun W => met_in F (nn - 1) (hF _) hro a len cap W)
  have h1 : 1 ≤ nn := by omega
  have HFF := hide hF
  have HS := hide hs
  have HG := hide hG
  have hn80 := hG.2.2.1
  clear hA hs hG
  refine callsIn_of_wp_marks Try.func32 rfl (HFF.out _) ?_ hro
  simp only [Try.ntmps32, List.size_toArray, List.length_cons, List.length_nil, Nat.reduceAdd, Nat.reduceSub, Array.replicate_succ, Array.replicate_zero, List.push_toArray, List.append_toArray, List.nil_append, List.cons_append]
  gi_wp2
  refine (HCK.out _).mono ?_
  rintro e w2 ⟨rfl, hb2⟩
  have HB2 := hide (below_step HB1.out hb2)
  have hbx := (box4 hb2).2.2.1
  have hbx3 : (w2.alloc (.cells #[.slice none 0 0] 31)).cell? ⟨w.heap.size, 2, none⟩ = some (.slice a len cap) := (((Below.refl w2.heap.size w2).alloc (Nat.le_refl _) _).cell (p := ⟨w.heap.size, 2, none⟩) (World.block_lt_of_cell? w2 _ hbx)).trans hbx
  clear hb2 HB1 HCK
  gi_wp2
  refine (HMI.out _).mono ?_
  rintro e w' ⟨rfl, rfl⟩
  gi_wp2
  have bO := Boxed.new w2 31 (.slice none 0 0)
  have bN := Boxed.new (w2.alloc (.cells #[.slice none 0 0] 31)) 22 (.slice a len cap)
  rw [World.size_alloc] at bN
  have hsz := HB2.out.size
  have hB0 : Below w.heap.size w ((w2.alloc (.cells #[.slice none 0 0] 31)).alloc (.cells #[.slice a len cap] 22)) := (HB2.out.alloc hsz _).alloc (by simp; omega) _
  refine wpIn_rangeFunc_free hro h1 (gf := 52) (lb := #[.pointer (some ⟨w2.heap.size + 1, 0, none⟩)]) rfl (HFF.out _) (enters_of Try.func52 (by kernel_rfl) rfl)
    (iter_seq F (nn - 1) (HFF.out _) hro (by omega) (w2.heap.size + 1) a len cap m N w _ HS.out HG.out hB0 bN) (by simp; omega) (fun r hr => by subst hr; simp) (fun _ => rfl)
    (ReAt w w2.heap.size) (reAt_free w _) (fun X s W l o o' h1 h2 h3 h4 => reAt_put o' h1 (by simp at h2; omega) h3 h4)
    ⟨⟨_, bO.alloc _, World.ownsRow_nil _ _ _ _, fun r hr => by subst hr; exact ⟨by omega, by simp, by omega, by simp [Value.ownBlock]⟩⟩, hB0, hsz⟩
    (fun x => { tmps := #[.agg #[.int .i64 b, .int .i64 t, .slice a len cap, .slice a' len' cap'], .int .i64 M, .pointer (some ⟨w.heap.size, 0, none⟩), undef, .slice none 0 0, .nilIface, .nilIface, .pointer (some ⟨w2.heap.size, 0, none⟩), .int .i64 x, .agg #[.int .i64 b, .int .i64 t, .slice a len cap, .slice a' len' cap'], .int .i64 M, .nilIface, .nilIface, .bool false, undef, .pointer (some ⟨w.heap.size, 2, none⟩), .slice a len cap, .func (.func 52) #[] #[.pointer (some ⟨w2.heap.size + 1, 0, none⟩)], .int .i64 x, undef, undef, undef, undef, undef], defers := [] }) ?assign ?body ?done
  case assign =>
    intro l x W K hK
    gi_wp2
    exact hK
  case body =>
    rintro l X pre x W ⟨⟨v, hv, hrow, hX⟩, hB, hBs⟩ hlt
    have hc := hv.cell
    have HP := hide (fun w1 g cap ob h1 h2 h3 => @reAt_push w w2.heap.size X pre W w1 v x g cap ob hv hrow hX hB hBs h1 h2 h3)
    have HROW := hide hrow
    have HSZ := hide hB.size
    clear hv hrow hX hB hBs bO bN hB0 hbx3 hbx
    gi_wp2_with (gi_at_builtin; refine wpListIn_append_lies _ rfl _ _ rfl w.heap.size v pre.length _ rfl (HROW.out.alloc _) ⟨W.heap.size, 0, none⟩ x rfl (one_new _ _ _) (by omega) (by have := HSZ.out; simp; omega) (W.heap.size + 1) (by simp) ?_; intro g vc w1 hown hgrow hat hglt; obtain ⟨⟨hp1, hp2⟩, hp3, hp4, hp5⟩ := HP.out w1 g vc _ hown hgrow hat)
    exact ⟨hp3, hp4, hp5⟩
  case done =>
    rintro D xs X W hD rfl ⟨⟨v, hv, hrow, hX⟩, hB, hBs⟩ hK
    have hc := hv.cell
    have hok := met_ok HG.out
    have hlen := met_len HG.out
    obtain ⟨a2, cap2, rfl, hsl⟩ := sl_of_owns rfl (by unfold maxLen; omega) (okO_wf hn80 hok) (ownsRow_putObj hrow (.deferred none) hK rfl)
    have hbe := hB.trans (belowK_b (w := w) (Nat.le_refl _) W D _ (.deferred none) (by simp at hD; omega) hK rfl rfl)
    gi_wp2
    refine ⟨by simp, .inl ⟨_, _, rfl, run_takeDeferred hK, ?_⟩⟩
    exact ⟨.tuple #[.slice a2 (metL N).length cap2, .nilIface], by simp [results, Try.results32, go_sem], a2, cap2, rfl, hsl, hbe⟩

theorem reach_bad (M b t : Int) (a a' : Option Addr) (len cap len' cap' : Nat) (N : List (List Int)) (w : World) (hs : Sl2 w a len N) (hm' : len' ≤ maxLen) (hA : autoM M b t N len' ≠ 0) :
    Calls Try.prog 32 #[.agg #[.int .i64 b, .int .i64 t, .slice a len cap, .slice a' len' cap'], .int .i64 M] w fun e w' => e = .returned (.tuple #[.slice none 0 0, errV (autoM M b t N len')]) ∧ Below w.heap.size w w' := by
  have HB1 : Hid (Below w.heap.size w (w.alloc (.cells #[.int .i64 b, .int .i64 t, .slice a len cap, .slice a' len' cap'] 25))) := (Below.refl _ _).alloc (Nat.le_refl _) _
  have HCK := hide (check_w M b t a a' len cap len' cap' N _ (sl2_below hs HB1.out) hm')
  rw [errV_no hA] at HCK ⊢
  clear hs
  generalize autoM M b t N len' = c at HCK ⊢
  go_enter Try.func32, Try.ntmps32
  go_wp2_with fail
  refine HCK.out.mono ?_
  rintro e w2 ⟨rfl, hb2⟩
  have HB2 := hide (below_step HB1.out hb2)
  clear hb2
  go_wp2
  go_ret2
  exact ⟨by simp, HB2.out⟩

/-- Reach, of at most M states; where it is sound they are not too many. -/
theorem reach_w (M b t : Int) (m : Nat) (a a' : Option Addr) (len cap len' cap' : Nat) (N : List (List Int)) (w : World) (hs : Sl2 w a len N) (hm' : len' ≤ maxLen) (hG : autoM M b t N len' = 0 → GoodN m len N) :
    Calls Try.prog 32 #[.agg #[.int .i64 b, .int .i64 t, .slice a len cap, .slice a' len' cap'], .int .i64 M] w (OfU w (if autoM M b t N len' = 0 then metL N else []) (errV (autoM M b t N len'))) := by
  by_cases hA : autoM M b t N len' = 0
  · rw [if_pos hA, errV_yes hA]
    exact (callsIn_wide (n := 3)).1 (reach_in Fence.wide 3 (fun _ => trivial) rfl (by omega) (fun f args W R k h => callsIn_wide.2 h) M b t m a a' len cap len' cap' N w hs hm' hA (hG hA))
  · rw [if_neg hA]
    refine (reach_bad M b t a a' len cap len' cap' N w hs hm' hA).mono ?_
    rintro e w' ⟨rfl, hb⟩
    exact ⟨none, 0, rfl, ⟨sl_nil _, fun _ h => by cases h⟩, hb⟩

def reachL (b t : Int) (N : List (List Int)) (e : Nat) : List Int := if autoC b t N e = 0 then metL N else []
theorem reach_u (b t : Int) (a a' : Option Addr) (len cap len' cap' : Nat) (N : List (List Int)) (w : World) (hs : Sl2 w a len N) (hm' : len' ≤ maxLen) :
    Calls Try.prog 23 #[.agg #[.int .i64 b, .int .i64 t, .slice a len cap, .slice a' len' cap']] w (OfU w (reachL b t N len') (errV (autoC b t N len'))) := by
  have hB := (Below.refl w.heap.size w).alloc (Nat.le_refl _) (.cells #[.int .i64 b, .int .i64 t, .slice a len cap, .slice a' len' cap'] 25)
  have HCK := hide (reach_w 80 b t (manyU b t).toNat a a' len cap len' cap' N _ (sl2_below hs hB) hm' (fun h => by
    rw [autoM_80] at h
    obtain ⟨-, -, hG, -⟩ := autoC_zero h
    rwa [hs.1] at hG))
  rw [autoM_80] at HCK
  unfold OfU at HCK
  have HB := hide hB
  unfold reachL
  clear hs hB
  generalize (if autoC b t N len' = 0 then metL N else []) = l at HCK ⊢
  generalize errV (autoC b t N len') = c at HCK ⊢
  go_enter Try.func23, Try.ntmps23
  go_wp2_with fail
  refine HCK.out.mono ?_
  rintro e w2 ⟨ar, cr, rfl, hsr, hb2⟩
  have HB2 := hide (below_step HB.out hb2)
  have HSR := hide (hsr.mono HB.out.size)
  clear hb2 hsr
  go_wp2
  go_ret2
  exact ⟨ar, cr, rfl, HSR.out, HB2.out⟩
theorem reachw_u (b t : Int) (m : Nat) (a a' : Option Addr) (len cap len' cap' : Nat) (N : List (List Int)) (w : World) (hs : Sl2 w a len N) (hm' : len' ≤ maxLen) (hA : autoM 9223372036854775807 b t N len' = 0) (hG : GoodN m len N) :
    Calls Try.prog 27 #[.agg #[.int .i64 b, .int .i64 t, .slice a len cap, .slice a' len' cap']] w (OfU w (metL N) .nilIface) := by
  have hB := (Below.refl w.heap.size w).alloc (Nat.le_refl _) (.cells #[.int .i64 b, .int .i64 t, .slice a len cap, .slice a' len' cap'] 25)
  have HCK := hide (reach_w 9223372036854775807 b t m a a' len cap len' cap' N _ (sl2_below hs hB) hm' (fun _ => hG))
  rw [if_pos hA, errV_yes hA] at HCK
  unfold OfU at HCK
  have HB := hide hB
  clear hs hB hA hG
  generalize metL N = l at HCK ⊢
  go_enter Try.func27, Try.ntmps27
  go_wp2_with fail
  refine HCK.out.mono ?_
  rintro e w2 ⟨ar, cr, rfl, hsr, hb2⟩
  have HB2 := hide (below_step HB.out hb2)
  have HSR := hide (hsr.mono HB.out.size)
  clear hb2 hsr
  go_wp2
  go_ret2
  exact ⟨ar, cr, rfl, HSR.out, HB2.out⟩
theorem reach_no (b t : Int) (a a' : Option Addr) (len cap len' cap' : Nat) (N : List (List Int)) (w : World) (hs : Sl2 w a len N) (hm' : len' ≤ maxLen) (hA : autoC b t N len' ≠ 0) :
    Calls Try.prog 23 #[.agg #[.int .i64 b, .int .i64 t, .slice a len cap, .slice a' len' cap']] w fun e w' => e = .returned (.tuple #[.slice none 0 0, errV (autoC b t N len')]) ∧ Below w.heap.size w w' := by
  have hB := (Below.refl w.heap.size w).alloc (Nat.le_refl _) (.cells #[.int .i64 b, .int .i64 t, .slice a len cap, .slice a' len' cap'] 25)
  have HCK := hide (reach_bad 80 b t a a' len cap len' cap' N _ (sl2_below hs hB) hm' (by rw [autoM_80]; exact hA))
  rw [autoM_80] at HCK
  have HB := hide hB
  clear hs hB
  generalize errV (autoC b t N len') = c at HCK ⊢
  go_enter Try.func23, Try.ntmps23
  go_wp2_with fail
  refine HCK.out.mono ?_
  rintro e w2 ⟨rfl, hb2⟩
  have HB2 := hide (below_step HB.out hb2)
  clear hb2
  go_wp2
  go_ret2
  exact ⟨rfl, HB2.out⟩
end Go.Proofs.Ytebbjmcjgjecmaa
