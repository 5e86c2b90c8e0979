/- The contract of auto.Reach. -/
import Derived.Test.YtihhlddbppljpacDoorAu
import Derived.Deep.AppendLies
namespace Go.Proofs.YtihhlddbppljpacDoor
open Go.RowKit Go.Shelf
attribute [local go_sem] Oper.semAt_some

/-- One number more, inside a fence; where the row lies then. -/
theorem wpListIn_append_lies {F : Fence} {n : Nat} (w : World) {ops : Array Oper} {rest : List Oper} {o : Oper} {a : Act} {Q : Exit → Act → World → Prop}
    (hg : o.guard = none) (s x : Operand) (hop : o.op = Op.call { callee := Callee.builtin Builtin.append, args := #[s, x], argTypes := #[50, 50] })
    (base : Nat) (v : Value) (k : Nat) (xs : List Value) (hs : a.eval s = v) (hown : w.ownsRow base 3 1 v k xs) (ad : Addr) (y : Int) (hx : a.eval x = .slice (some ad) 1 1)
    (hc : ∀ j u, [Value.int .i64 y][j]? = some u → w.cell? (ad.add j) = some u) (hlen : k ≤ 1000000) (hbase : base ≤ w.heap.size) (H : Nat) (hH : w.heap.size = H)
    (hK : ∀ g cap w', w'.ownsRow base 3 1 (.slice (some ⟨g, 0, none⟩) (k + 1) cap) (k + 1) (xs ++ [.int .i64 y]) → w.grownBy w' v.ownBlock → (v.ownBlock = some g ∨ g = H) → g < w'.heap.size → wpListIn F n Tryd.prog ops Q rest (a.put o.dst (.slice (some ⟨g, 0, none⟩) (k + 1) cap)) w') :
    wpListIn F n Tryd.prog ops Q (o :: rest) a w := by
  obtain ⟨i, hi, hz0, hz1, hz2⟩ := info_parts info3
  refine wpListIn_plain hg fun K hK' => ?_
  obtain ⟨g, cap, w', hrun, h2, h3, h4, h5⟩ := run_append_lies (P := Tryd.prog) w 50 o.type base 3 i (.int .i64 0) 1 8 Tryd.underlying50 hi hz0 hz1 hz2 rfl (by decide) v k xs hown ad 1 1 [.int .i64 y] rfl hc (fun u hu => by simp at hu; subst hu; rfl) (by decide) (by unfold maxLen; omega) (by omega) hbase H hH
  unfold Oper.wpIn
  refine ⟨?_, ?_⟩
  · simp [Oper.about, hop, resolve, Target.leads, Sem.run_pure]
  · rw [Oper.semAt_plain F _ _ (by rw [hop]; intro c hc'; cases hc')]
    simp [execOp, hop, resolve, invoke, builtin, hs, hx, hrun, Result.andThen]
    exact hK' _ _ (hK g cap w' h2 h3 h4 h5)

/-- What Reach holds between two rounds: the states that came, in its box Bs. -/
def ReAt (w : World) (Bs : Nat) (X : Nat → Prop) (pre : List Int) (W : World) : Prop :=
  (∃ v, Boxed W Bs 50 v ∧ W.ownsRow w.heap.size 3 1 v pre.length (pre.map (Value.int .i64)) ∧ ∀ r, X r → w.heap.size ≤ r ∧ r < W.heap.size ∧ r ≠ Bs ∧ v.ownBlock ≠ some r) ∧ Below w.heap.size w W ∧ w.heap.size ≤ Bs
theorem reAt_free (w : World) (Bs : Nat) : FreeJ (ReAt w Bs) := by
  rintro X Y s W W' row ⟨⟨v, hv, hrow, hX⟩, hB, hBs⟩ hg hr hm
  refine ⟨⟨v, hv.kept hg (fun e => (hX _ (hr _ e.symm)).2.2.1 rfl), ownsRow_of_block hrow (fun k hk => hg.block k (hrow.lt k hk).2 (fun e => (hX k (hr k e.symm)).2.2.2 hk)), fun r hy => ?_⟩, hB.grown hg hB.size (fun k e => (hX k (hr k e)).1), hBs⟩
  have h1 := hg.size
  have h2 := hB.size
  rcases hm r hy with h | h
  · have := hX r h; exact ⟨this.1, by omega, this.2.2⟩
  · refine ⟨by omega, h.2, ?_, fun e => ?_⟩
    · have := hv.lt; omega
    · have := hrow.lt r e; omega
theorem reAt_put {w : World} {Bs : Nat} {X : Nat → Prop} {s : List Int} {W : World} {l : Nat} {o : Obj} (o' : Obj) (h : ReAt w Bs X s W) (hl : w.heap.size ≤ l) (hlo : W.heap[l]? = some o) (ho : o.isCells = false) : ReAt w Bs X s (W.putObj l o') := by
  obtain ⟨⟨v, hv, hrow, hX⟩, hB, hBs⟩ := h
  refine ⟨⟨v, hv.kept (grownBy_putObj' W l o') (fun e => ?_), ownsRow_putObj hrow o' hlo ho, fun r hr => ?_⟩, hB.grown (grownBy_putObj' W l o') hB.size (fun k e => by cases e; exact hl), hBs⟩
  · cases e
    rw [show W.heap[Bs]? = _ from hv] at hlo
    cases hlo
    cases ho
  · have := hX r hr
    have h2 := (grownBy_putObj' W l o').size
    exact ⟨this.1, by omega, this.2.2⟩
theorem reAt_push {w : World} {Bs : Nat} {X : Nat → Prop} {s : List Int} {W w1 : World} {v : Value} {x : Int} {g cap : Nat} {ob : Obj} (hv : Boxed W Bs 50 v) (hrow : W.ownsRow w.heap.size 3 1 v s.length (s.map (Value.int .i64))) (hX : ∀ r, X r → w.heap.size ≤ r ∧ r < W.heap.size ∧ r ≠ Bs ∧ v.ownBlock ≠ some r) (hB : Below w.heap.size w W) (hBs : w.heap.size ≤ Bs)
    (hown : w1.ownsRow w.heap.size 3 1 (.slice (some ⟨g, 0, none⟩) (s.length + 1) cap) (s.length + 1) (s.map (Value.int .i64) ++ [.int .i64 x])) (hgrow : (W.alloc ob).grownBy w1 v.ownBlock) (hat : v.ownBlock = some g ∨ g = W.heap.size + 1) :
    (w1.cell? ⟨Bs, 0, none⟩ = some v ∧ w1.frozen? ⟨Bs, 0, none⟩ = false) ∧ KeepsOthers W (w1.setCell ⟨Bs, 0, none⟩ (.slice (some ⟨g, 0, none⟩) (s.length + 1) cap)) ∧ KeptX w.heap.size X W (w1.setCell ⟨Bs, 0, none⟩ (.slice (some ⟨g, 0, none⟩) (s.length + 1) cap)) ∧ ReAt w Bs X (s ++ [x]) (w1.setCell ⟨Bs, 0, none⟩ (.slice (some ⟨g, 0, none⟩) (s.length + 1) cap)) := by
  obtain ⟨hv1, hv2, hr2, hk2, hb2⟩ := hv.appended (by decide) hrow hB.size hBs hown hgrow
  refine ⟨⟨hv1.cell, hv1.frozen⟩, hk2, ⟨fun r hr hl => ?_, hb2⟩, ⟨⟨_, hv2, by rw [List.length_append, List.map_append]; exact hr2, fun r hr => ?_⟩, hB.trans hb2, hBs⟩⟩
  · have := hX r hr
    rw [Below.heap_setCell _ _ _ _ this.2.2.1, hgrow.block r (by simp; omega) (fun e => this.2.2.2 e.symm), Below.heap_alloc _ _ _ hl]
  · have := hX r hr
    have h2 := hb2.size
    refine ⟨this.1, by omega, this.2.2.1, fun e => ?_⟩
    obtain rfl : g = r := by simpa [Value.ownBlock] using e
    rcases hat with h | h
    · exact this.2.2.2 h
    · omega

set_option maxHeartbeats 1000000 in
set_option maxRecDepth 4000 in
theorem met_in (F : Fence) (nn : Nat) (hF : F.fn 41) (hro : F.round = none) (a : Option Addr) (n cap : Nat) (w : World) :
    CallsIn F nn Tryd.prog 41 #[.slice a n cap] w fun e w' => e = .returned (.func (.func 48) #[] #[.pointer (some ⟨w.heap.size, 0, none⟩)]) ∧ w' = w.alloc (.cells #[.slice a n cap] 22) := by
  refine callsIn_of_wp Tryd.func41 rfl hF ?_ hro
  simp only [Tryd.ntmps41, List.size_toArray, List.length_cons, List.length_nil, Nat.reduceAdd, Nat.reduceSub, Array.replicate_succ, Array.replicate_zero, List.push_toArray, List.append_toArray, List.nil_append, List.cons_append]
  gi_wp2
  go_ret
  exact ⟨rfl, rfl⟩

theorem iter_seq (F : Fence) (nn : Nat) (hFf : F.fn 48) (hro : F.round = none) (hnn : 1 ≤ nn) (Bn : Nat) (a : Option Addr) (n cap m : Nat) (N : List (List Int)) (w W0 : World) (hs : Sl2 w a n N) (hG : GoodN m n N) (hB : Below w.heap.size w W0) (hbx : Boxed W0 Bn 22 (.slice a n cap)) :
    SeqFree F nn Tryd.prog 48 #[.pointer (some ⟨Bn, 0, none⟩)] (fun x : Int => #[Value.int .i64 x]) w.heap.size (fun r => r = Bn) (fun xs => xs = metL N) n W0 := fun l J W hW hJ hY h0 =>
  iter_any F nn hFf hro hnn l Bn a n cap m N w hs hG J hJ hY W (hB.trans (hW.mono hB.size)) ((hW.block Bn hbx.lt).trans hbx) h0

set_option maxHeartbeats 4000000 in
set_option maxRecDepth 8000 in
theorem reach_in (F : Fence) (nn : Nat) (hF : ∀ f, F.fn f) (hro : F.round = none) (hnn : 3 ≤ nn) (hC : ∀ f args W R k, Calls Tryd.prog f args W R → CallsIn F k Tryd.prog f args W R)
    (M b t : Int) (m : Nat) (a a' : Option Addr) (len cap len' cap' : Nat) (N : List (List Int)) (w : World) (hs : Sl2 w a len N) (hm' : len' ≤ maxLen) (hA : autoM M b t N len' = 0) (hG : GoodN m len N) :
    CallsIn F nn Tryd.prog 32 #[.agg #[.int .i64 b, .int .i64 t, .slice a len cap, .slice a' len' cap'], .int .i64 M] w (OfU w (metL N) .nilIface) := by
  have HB1 : Hid (Below w.heap.size w (w.alloc (.cells #[.int .i64 b, .int .i64 t, .slice a len cap, .slice a' len' cap'] 25))) := (Below.refl _ _).alloc (Nat.le_refl _) _
  have HCK := hide (fun k => hC _ _ _ _ k (check_w M b t a a' len cap len' cap' N _ (sl2_below hs HB1.out) hm'))
  rw [hA, errV_yes rfl] at HCK
  have HMI := hide (fun W => met_in F (nn - 1) (hF _) hro a len cap W)
  have h1 : 1 ≤ nn := by omega
  have HFF := hide hF
  have HS := hide hs
  have HG := hide hG
  have hn80 := hG.2.2.1
  clear hA hs hG
  refine callsIn_of_wp_marks Tryd.func32 rfl (HFF.out _) ?_ hro
  simp only [Tryd.ntmps32, List.size_toArray, List.length_cons, List.length_nil, Nat.reduceAdd, Nat.reduceSub, Array.replicate_succ, Array.replicate_zero, List.push_toArray, List.append_toArray, List.nil_append, List.cons_append]
  gi_wp2
  refine (HCK.out _).mono ?_
  rintro e w2 ⟨rfl, hb2⟩
  have HB2 := hide (below_step HB1.out hb2)
  have hbx := (box4 hb2).2.2.1
  have hbx3 : (w2.alloc (.cells #[.slice none 0 0] 50)).cell? ⟨w.heap.size, 2, none⟩ = some (.slice a len cap) := (((Below.refl w2.heap.size w2).alloc (Nat.le_refl _) _).cell (p := ⟨w.heap.size, 2, none⟩) (World.block_lt_of_cell? w2 _ hbx)).trans hbx
  clear hb2 HB1 HCK
  gi_wp2
  refine (HMI.out _).mono ?_
  rintro e w' ⟨rfl, rfl⟩
  gi_wp2
  have bO := Boxed.new w2 50 (.slice none 0 0)
  have bN := Boxed.new (w2.alloc (.cells #[.slice none 0 0] 50)) 22 (.slice a len cap)
  rw [World.size_alloc] at bN
  have hsz := HB2.out.size
  have hB0 : Below w.heap.size w ((w2.alloc (.cells #[.slice none 0 0] 50)).alloc (.cells #[.slice a len cap] 22)) := (HB2.out.alloc hsz _).alloc (by simp; omega) _
  refine wpIn_rangeFunc_free hro h1 (gf := 48) (lb := #[.pointer (some ⟨w2.heap.size + 1, 0, none⟩)]) rfl (HFF.out _) (enters_of Tryd.func48 (by kernel_rfl) rfl)
    (iter_seq F (nn - 1) (HFF.out _) hro (by omega) (w2.heap.size + 1) a len cap m N w _ HS.out HG.out hB0 bN) (by simp; omega) (fun r hr => by subst hr; simp) (fun _ => rfl)
    (ReAt w w2.heap.size) (reAt_free w _) (fun X s W l o o' h1 h2 h3 h4 => reAt_put o' h1 (by simp at h2; omega) h3 h4)
    ⟨⟨_, bO.alloc _, World.ownsRow_nil _ _ _ _, fun r hr => by subst hr; exact ⟨by omega, by simp, by omega, by simp [Value.ownBlock]⟩⟩, hB0, hsz⟩
    (fun x => { tmps := #[.agg #[.int .i64 b, .int .i64 t, .slice a len cap, .slice a' len' cap'], .int .i64 M, .pointer (some ⟨w.heap.size, 0, none⟩), undef, .slice none 0 0, .nilIface, .nilIface, .pointer (some ⟨w2.heap.size, 0, none⟩), .int .i64 x, .agg #[.int .i64 b, .int .i64 t, .slice a len cap, .slice a' len' cap'], .int .i64 M, .nilIface, .nilIface, .bool false, undef, .pointer (some ⟨w.heap.size, 2, none⟩), .slice a len cap, .func (.func 48) #[] #[.pointer (some ⟨w2.heap.size + 1, 0, none⟩)], .int .i64 x, undef, undef, undef, undef, undef], defers := [] }) ?assign ?body ?done
  case assign =>
    intro l x W K hK
    gi_wp2
    exact hK
  case body =>
    rintro l X pre x W ⟨⟨v, hv, hrow, hX⟩, hB, hBs⟩ hlt
    have hc := hv.cell
    have HP := hide (fun w1 g cap ob h1 h2 h3 => @reAt_push w w2.heap.size X pre W w1 v x g cap ob hv hrow hX hB hBs h1 h2 h3)
    have HROW := hide hrow
    have HSZ := hide hB.size
    clear hv hrow hX hB hBs bO bN hB0 hbx3 hbx
    gi_wp2_with (gi_at_builtin; refine wpListIn_append_lies _ rfl _ _ rfl w.heap.size v pre.length _ rfl (HROW.out.alloc _) ⟨W.heap.size, 0, none⟩ x rfl (one_new _ _ _) (by omega) (by have := HSZ.out; simp; omega) (W.heap.size + 1) (by simp) ?_; intro g vc w1 hown hgrow hat hglt; obtain ⟨⟨hp1, hp2⟩, hp3, hp4, hp5⟩ := HP.out w1 g vc _ hown hgrow hat)
    exact ⟨hp3, hp4, hp5⟩
  case done =>
    rintro D xs X W hD rfl ⟨⟨v, hv, hrow, hX⟩, hB, hBs⟩ hK
    have hc := hv.cell
    have hok := met_ok HG.out
    have hlen := met_len HG.out
    obtain ⟨a2, cap2, rfl, hsl⟩ := sl_of_owns rfl (by unfold maxLen; omega) (okO_wf hn80 hok) (ownsRow_putObj hrow (.deferred none) hK rfl)
    have hbe := hB.trans (belowK_b (w := w) (Nat.le_refl _) W D _ (.deferred none) (by simp at hD; omega) hK rfl rfl)
    gi_wp2
    refine ⟨by simp, .inl ⟨_, _, rfl, run_takeDeferred hK, ?_⟩⟩
    exact ⟨.tuple #[.slice a2 (metL N).length cap2, .nilIface], by simp [results, Tryd.results32, go_sem], a2, cap2, rfl, hsl, hbe⟩

theorem reach_bad (M b t : Int) (a a' : Option Addr) (len cap len' cap' : Nat) (N : List (List Int)) (w : World) (hs : Sl2 w a len N) (hm' : len' ≤ maxLen) (hA : autoM M b t N len' ≠ 0) :
    Calls Tryd.prog 32 #[.agg #[.int .i64 b, .int .i64 t, .slice a len cap, .slice a' len' cap'], .int .i64 M] w fun e w' => e = .returned (.tuple #[.slice none 0 0, errV (autoM M b t N len')]) ∧ Below w.heap.size w w' := by
  have HB1 : Hid (Below w.heap.size w (w.alloc (.cells #[.int .i64 b, .int .i64 t, .slice a len cap, .slice a' len' cap'] 25))) := (Below.refl _ _).alloc (Nat.le_refl _) _
  have HCK := hide (check_w M b t a a' len cap len' cap' N _ (sl2_below hs HB1.out) hm')
  rw [errV_no hA] at HCK ⊢
  clear hs
  generalize autoM M b t N len' = c at HCK ⊢
  go_enter Tryd.func32, Tryd.ntmps32
  go_wp2_with fail
  refine HCK.out.mono ?_
  rintro e w2 ⟨rfl, hb2⟩
  have HB2 := hide (below_step HB1.out hb2)
  clear hb2
  go_wp2
  go_ret2
  exact ⟨by simp, HB2.out⟩

/-- Reach, of at most M states; where it is sound they are not too many. -/
theorem reach_w (M b t : Int) (m : Nat) (a a' : Option Addr) (len cap len' cap' : Nat) (N : List (List Int)) (w : World) (hs : Sl2 w a len N) (hm' : len' ≤ maxLen) (hG : autoM M b t N len' = 0 → GoodN m len N) :
    Calls Tryd.prog 32 #[.agg #[.int .i64 b, .int .i64 t, .slice a len cap, .slice a' len' cap'], .int .i64 M] w (OfU w (if autoM M b t N len' = 0 then metL N else []) (errV (autoM M b t N len'))) := by
  by_cases hA : autoM M b t N len' = 0
  · rw [if_pos hA, errV_yes hA]
    exact (callsIn_wide (n := 3)).1 (reach_in Fence.wide 3 (fun _ => trivial) rfl (by omega) (fun f args W R k h => callsIn_wide.2 h) M b t m a a' len cap len' cap' N w hs hm' hA (hG hA))
  · rw [if_neg hA]
    refine (reach_bad M b t a a' len cap len' cap' N w hs hm' hA).mono ?_
    rintro e w' ⟨rfl, hb⟩
    exact ⟨none, 0, rfl, ⟨sl_nil _, fun _ h => by cases h⟩, hb⟩

def reachL (b t : Int) (N : List (List Int)) (e : Nat) : List Int := if autoC b t N e = 0 then metL N else []
theorem reach_u (b t : Int) (a a' : Option Addr) (len cap len' cap' : Nat) (N : List (List Int)) (w : World) (hs : Sl2 w a len N) (hm' : len' ≤ maxLen) :
    Calls Tryd.prog 31 #[.agg #[.int .i64 b, .int .i64 t, .slice a len cap, .slice a' len' cap']] w (OfU w (reachL b t N len') (errV (autoC b t N len'))) := by
  have hB := (Below.refl w.heap.size w).alloc (Nat.le_refl _) (.cells #[.int .i64 b, .int .i64 t, .slice a len cap, .slice a' len' cap'] 25)
  have HCK := hide (reach_w 80 b t (manyU b t).toNat a a' len cap len' cap' N _ (sl2_below hs hB) hm' (fun h => by
    rw [autoM_80] at h
    obtain ⟨-, -, hG, -⟩ := autoC_zero h
    rwa [hs.1] at hG))
  rw [autoM_80] at HCK
  unfold OfU at HCK
  have HB := hide hB
  unfold reachL
  clear hs hB
  generalize (if autoC b t N len' = 0 then metL N else []) = l at HCK ⊢
  generalize errV (autoC b t N len') = c at HCK ⊢
  go_enter Tryd.func31, Tryd.ntmps31
  go_wp2_with fail
  refine HCK.out.mono ?_
  rintro e w2 ⟨ar, cr, rfl, hsr, hb2⟩
  have HB2 := hide (below_step HB.out hb2)
  have HSR := hide (hsr.mono HB.out.size)
  clear hb2 hsr
  go_wp2
  go_ret2
  exact ⟨ar, cr, rfl, HSR.out, HB2.out⟩
theorem reachw_u (b t : Int) (m : Nat) (a a' : Option Addr) (len cap len' cap' : Nat) (N : List (List Int)) (w : World) (hs : Sl2 w a len N) (hm' : len' ≤ maxLen) (hA : autoM 9223372036854775807 b t N len' = 0) (hG : GoodN m len N) :
    Calls Tryd.prog 24 #[.agg #[.int .i64 b, .int .i64 t, .slice a len cap, .slice a' len' cap']] w (OfU w (metL N) .nilIface) := by
  have hB := (Below.refl w.heap.size w).alloc (Nat.le_refl _) (.cells #[.int .i64 b, .int .i64 t, .slice a len cap, .slice a' len' cap'] 25)
  have HCK := hide (reach_w 9223372036854775807 b t m a a' len cap len' cap' N _ (sl2_below hs hB) hm' (fun _ => hG))
  rw [if_pos hA, errV_yes hA] at HCK
  unfold OfU at HCK
  have HB := hide hB
  clear hs hB hA hG
  generalize metL N = l at HCK ⊢
  go_enter Tryd.func24, Tryd.ntmps24
  go_wp2_with fail
  refine HCK.out.mono ?_
  rintro e w2 ⟨ar, cr, rfl, hsr, hb2⟩
  have HB2 := hide (below_step HB.out hb2)
  have HSR := hide (hsr.mono HB.out.size)
  clear hb2 hsr
  go_wp2
  go_ret2
  exact ⟨ar, cr, rfl, HSR.out, HB2.out⟩
end Go.Proofs.YtihhlddbppljpacDoor
