/- slices.Grow and slices.Concat of numbers; some.firstSet: contracts. -/
import Derived.Shelf.Spec.SlicesGrow
import Derived.Test.YtebbjmcjgjecmaaAx
import Derived.Test.YtebbjmcjgjecmaaHe
namespace Go.Proofs.Ytebbjmcjgjecmaa
open Go.RowKit

def growRen : Go.Shelf.Ren := ⟨fun | 4 => 55 | n => n, fun | 0 => 0 | 3 => 3 | 4 => 4 | 9 => 9 | 20 => 20 | 22 => 31 | 25 => 3 | n => n, fun n => n⟩
theorem growLays : Lays8.n4 Try.prog growRen where
  mixed := by kernel_rfl
  f4 := Exists.intro "slices.Grow[[]int,int]" (And.intro (by decide) (Try.func55.trans (congrArg some (by kernel_rfl))))
  t0 := Try.underlying0
  a0 := Try.isAgg0
  z0 := Try.sizeOf0
  v0 := Try.zeroValue0
  t3 := Try.underlying3
  a3 := Try.isAgg3
  z3 := Try.sizeOf3
  v3 := Try.zeroValue3
  t4 := Try.underlying4
  a4 := Try.isAgg4
  z4 := Try.sizeOf4
  v4 := Try.zeroValue4
  t9 := Try.underlying9
  a9 := Try.isAgg9
  z9 := Try.sizeOf9
  v9 := Try.zeroValue9
  t20 := Try.underlying20
  a20 := Try.isAgg20
  z20 := Try.sizeOf20
  v20 := Try.zeroValue20
  t22 := Try.underlying31
  a22 := Try.isAgg31
  z22 := Try.sizeOf31
  v22 := Try.zeroValue31

def GrowU (w : World) (e : Ending) (w' : World) : Prop := ∃ v, e = .returned v ∧ w'.ownsRow w.heap.size 3 1 v 0 [] ∧ Below w.heap.size w w'
theorem grow_any (n : Nat) (w : World) (h0 : 0 < n) (hn : n ≤ 100000000) : Calls Try.prog 55 #[.slice none 0 0, .int .i64 (n : Int)] w (GrowU w) := by
  obtain ⟨i0, hi0, hz0, hz1, hz2⟩ := info_parts info3
  have h := Any8.slices_Grow_grow growLays i0 (.int .i64 0) hi0 hz0 (by omega) none 0 0 n [] w (Nat.le_refl _) (by omega) (by rw [hz2]; omega) (by omega) (by simp) (fun _ => rfl) (fun a e => by cases e)
  refine h.mono ?_
  rintro e w' ⟨rfl, rfl⟩
  rw [Nat.zero_add]
  have hg1 := grownCap_ge w n 0 (growRen.t 25)
  have hg2 := grownCap_le_maxLen w n 0 (growRen.t 25) (by unfold maxLen; omega)
  generalize grownCap w n 0 (growRen.t 25) = G at hg1 hg2
  refine ⟨_, rfl, ⟨rfl, .inr ⟨w.heap.size, G, _, rfl, Nat.le_refl _, heap_alloc_last w.drew _, by omega, hg2, ?_, by simp⟩⟩, (Below.refl _ _).drew.alloc (Nat.le_refl _) _⟩
  simp [Builtin.zeroCells, Value.cells]
  omega

def ConcatU (w : World) (l : List Int) (e : Ending) (w' : World) : Prop := ∃ v, e = .returned v ∧ w'.ownsRow w.heap.size 3 1 v l.length (l.map (Value.int .i64)) ∧ Below w.heap.size w w'
set_option maxHeartbeats 8000000 in
set_option maxRecDepth 8000 in
theorem concat_any (vb vc : Nat) (a1 : Option Addr) (n1 c1 : Nat) (l1 : List Int) (a2 : Option Addr) (n2 c2 : Nat) (l2 : List Int) (w : World) (hc0 : w.cell? ⟨vb, 0, none⟩ = some (.slice a1 n1 c1)) (hc1 : w.cell? ⟨vb, 1, none⟩ = some (.slice a2 n2 c2)) (h1 : Sl w a1 n1 l1) (h2 : Sl w a2 n2 l2) (hz1 : a1 = none → c1 = 0) (hz2 : a2 = none → c2 = 0) (hp : 0 < n1) (hb1 : n1 ≤ 1000) (hb2 : n2 ≤ 1000) :
    Calls Try.prog 49 #[.slice (some ⟨vb, 0, none⟩) 2 vc] w (ConcatU w (l1 ++ l2)) := by
  have HG := hide (fun n W h0 hn => grow_any n W h0 hn)
  unfold GrowU at HG
  have H1 := hide h1
  have H2 := hide h2
  have hw1 : wrap64 ((0 : Int) + (n1 : Int)) = (n1 : Int) := by unfold wrap64; omega
  have hw2 : wrap64 ((n1 : Int) + (n2 : Int)) = ((n1 + n2 : Nat) : Int) := by unfold wrap64; omega
  have hl1 := h1.1
  have hl2 := h2.1
  have HC0 := hide hc0
  have HC1 := hide hc1
  clear h1 h2
  go_enter Try.func49, Try.ntmps49
  go_wp2
  have hnn1 : ¬ ((n1 : Int) < 0) := by omega
  have hnn2 : ¬ (((n1 + n2 : Nat) : Int) < 0) := by omega
  refine wp_loop_rounds 3 ?_
  rw [rounds_succ]
  go_wp2
  rw [rounds_succ]
  go_wp2
  rw [rounds_succ]
  go_wp2_with (go_at_call 55; refine (HG.out (n1 + n2) _ (by omega) (by omega)).mono ?_; rintro e w1 ⟨v1, rfl, ho1, hb1⟩; have HO1 := hide ho1; have HB1 := hide hb1; clear ho1 hb1)
  have hc0a := (HB1.out.cell (p := ⟨vb, 0, none⟩) (World.block_lt_of_cell? w _ HC0.out)).trans HC0.out
  clear hc0 hc1
  refine wp_loop_rounds 3 ?_
  rw [rounds_succ]
  go_wp2_with (at_builtin; refine wpList_append_sl rfl _ _ rfl w.heap.size v1 [] rfl HO1.out a1 n1 c1 l1 rfl (sl_below H1.out HB1.out) hz1 (by simp) (by omega) HB1.out.size ?_; intro v2 w2 ho2 hg2; have HO2 := hide ho2; have HB2 := hide (Below.grown HB1.out hg2 HB1.out.size (fun k hk => (HO1.out.lt k hk).1)); clear ho2 hg2)
  rw [List.nil_append] at HO2
  have hc1a := (HB2.out.cell (p := ⟨vb, 1, none⟩) (World.block_lt_of_cell? w _ HC1.out)).trans HC1.out
  clear hc0a
  rw [rounds_succ]
  go_wp2_with (at_builtin; refine wpList_append_sl rfl _ _ rfl w.heap.size v2 l1 rfl HO2.out a2 n2 c2 l2 rfl (sl_below H2.out HB2.out) hz2 (by omega) (by omega) HB2.out.size ?_; intro v3 w3 ho3 hg3; have HO3 := hide ho3; have HB3 := hide (Below.grown HB2.out hg3 HB2.out.size (fun k hk => (HO2.out.lt k hk).1)); clear ho3 hg3)
  rw [rounds_succ]
  go_wp2
  go_ret
  exact ⟨v3, rfl, HO3.out, HB3.out⟩

/-- How long a slice is. -/
def lenV : Value → Nat
  | .slice _ n _ => n
  | _ => 0
def FsAt (w : World) (N : List (List Int)) (n : Nat) (ls : List Int) (v : Value) (wx : World) : Prop :=
  ∃ (M : Nat) (a : Option Addr) (c : Nat), v = .slice a (setL n M).length c ∧ SlN w.heap.size wx a (setL n M).length (setL n M) ∧ M < 2 ^ n ∧ M.testBit 0 = true ∧ (∀ s, M.testBit s = true → (cloM N n ls).testBit s = true) ∧ Below w.heap.size w wx
theorem fs_zero {N : List (List Int)} {n m : Nat} (hG : GoodN m n N) {ls : List Int} (hl : ∀ x ∈ ls, 0 ≤ x ∧ x < (m : Int)) (s : Nat) (h : (2 ^ 0).testBit s = true) : (cloM N n ls).testBit s = true := by
  rw [Nat.testBit_two_pow] at h
  have : s = 0 := by simpa using (of_decide_eq_true h).symm
  subst this
  exact clo_zero hG hl
theorem setL_pos {n M s : Nat} (h : M < 2 ^ n) (hb : M.testBit s = true) : 0 < (setL n M).length := by
  have hm : (s : Int) ∈ setL n M := mem_setL.2 ⟨by omega, by simpa using bit_lt h hb, by simpa using hb⟩
  exact List.length_pos_of_mem hm
theorem sl_some {w : World} {a : Option Addr} {n : Nat} {l : List Int} (h : Sl w a n l) (hp : 0 < n) : ∃ ad, a = some ad := by
  rcases h.2.2.2 with h0 | ⟨b, o, e, _⟩
  · omega
  · exact ⟨_, e⟩

set_option maxHeartbeats 8000000 in
set_option maxRecDepth 8000 in
theorem firstSet_any (b t : Int) (a : Option Addr) (n cap : Nat) (a' : Option Addr) (k' cap' : Nat) (m : Nat) (N : List (List Int)) (al : Option Addr) (ll cl : Nat) (ls : List Int) (w : World) (hs : Sl2 w a n N) (hG : GoodN m n N) (hn : n ≤ 80) (hls : Sl w al ll ls) (hl : ∀ x ∈ ls, 0 ≤ x ∧ x < (m : Int)) (hl0 : 0 < ll) :
    Calls Try.prog 41 #[.agg #[.int .i64 b, .int .i64 t, .slice a n cap, .slice a' k' cap'], .slice al ll cl] w (GivesRow w (setL n (cloM N n ls))) := by
  have hn1 := hG.2.1
  have hL := hls.1
  have HBX : Hid (Below w.heap.size w (w.alloc (.cells #[.int .i64 b, .int .i64 t, .slice a n cap, .slice a' k' cap'] 25))) := (Below.refl _ _).alloc (Nat.le_refl _) _
  have HAT := hide (fun w' => @box4 w w' (.int .i64 b) (.int .i64 t) (.slice a n cap) (.slice a' k' cap') 25)
  have HS := hide hs
  have HLS := hide hls
  have HNX : Hid (∀ (M : Nat) (W : World) (as_ : Option Addr) (sc : Nat), Below w.heap.size w W → M < 2 ^ n → Sl W as_ (setL n M).length (setL n M) → Calls Try.prog 42 #[.agg #[.int .i64 b, .int .i64 t, .slice a n cap, .slice a' k' cap'], .slice as_ (setL n M).length sc, .slice al ll cl] W (GivesRow W (setL n (stepM N n ls M)))) := fun M W as_ sc hb hM hsl => by
    have h := nextSet_of inOrder_any b t a n cap a' k' cap' m N as_ (setL n M).length sc (setL n M) al ll cl ls W (sl2_below hs hb) hG hn hsl (fun x hx => by have := mem_setL.1 hx; omega) (sl_below hls hb) hl
    rw [nxO_set hG hl M] at h
    exact h
  unfold GivesRow at HNX
  have HCC := hide concat_any
  have HOR := hide inOrder_any
  unfold ConcatU at HCC
  have HLEN := hide (fun M => setL_len n M)
  have HNE : Hid (∀ M, M < 2 ^ n → M.testBit 0 = true → 0 < (setL n (stepM N n ls M)).length) := fun M hM h0 => by
    have hm : ls.getD 0 0 ∈ ls := by rw [getD_at _ 0 (by omega)]; exact List.getElem_mem _
    have hlt : stepL N 0 (ls.getD 0 0) < n := runF_lt hG (s := 0) (by omega) (v := [ls.getD 0 0]) (fun y hy => hl y (by simp at hy; rw [hy]; exact hm))
    exact setL_pos (stepM_lt _ _ _ _) (stepM_bit.2 ⟨hlt, 0, by omega, h0, _, hm, rfl⟩)
  have HWID := hide (fun M => @widM_list N n ls M)
  have HWL := hide (fun M h => @widM_lt N n ls M h)
  have HWS := hide (fun M s h => @widM_sub N n ls M s h)
  have HCW := hide (fun M h => @clo_wid m n N hG ls hl M h)
  have HCD := hide (fun M h1 h2 h3 h4 => @clo_done m n N hG ls hl M h1 h2 h3 h4)
  have HWF : Hid (∀ M, ∀ x ∈ setL n M, (Lit.int .i64 x).wf = true) := fun M x hx => Go.WalkArith.wf_i64 (by have := mem_setL.1 hx; omega)
  generalize hwb : w.alloc (.cells #[.int .i64 b, .int .i64 t, .slice a n cap, .slice a' k' cap'] 25) = wb at HBX HAT
  have HSZ : Hid (wb.heap.size = w.heap.size + 1) := by show _ = _; rw [← hwb]; simp
  have HST : Hid (FsAt wb N n ls (.slice (some ⟨wb.heap.size, 0, none⟩) 1 1) (wb.alloc (.cells #[.int .i64 0] 3))) := by
    refine ⟨2 ^ 0, some ⟨wb.heap.size, 0, none⟩, 1, by rw [setL_one (by omega)]; rfl, ?_, Nat.pow_lt_pow_right (by decide) (by omega), by decide, fs_zero hG hl, (Below.refl _ _).alloc (Nat.le_refl _) _⟩
    rw [setL_one (by omega)]
    have hh := heap_alloc_last wb (.cells #[.int .i64 0] 3)
    exact ⟨⟨rfl, by decide, by decide, Or.inr ⟨wb.heap.size, 0, rfl, fun i hi => by
      have : i = 0 := by simpa using hi
      subst this
      exact cell_of_row _ _ _ _ _ (0, 0) hh⟩⟩, fun ad e => by cases e; exact Nat.le_refl _⟩
  have HEND : Hid (∀ (M : Nat) (wx : World) (ar : Option Addr) (c : Nat), M = cloM N n ls → SlN wb.heap.size wx ar (setL n M).length (setL n M) → Below wb.heap.size wb wx → GivesRow w (setL n (cloM N n ls)) (.returned (.slice ar (setL n M).length c)) wx) := fun M wx ar c e h1 h2 => by
    rw [← e]
    exact ⟨ar, c, rfl, ⟨h1.1, fun ad e => Nat.le_trans HBX.out.size (h1.2 ad e)⟩, HBX.out.trans (h2.mono HBX.out.size)⟩
  clear hs hls hl hG hL
  go_enter Try.func41, Try.ntmps41
  go_wp2_with fail
  clear hwb
  generalize wb.alloc (.cells #[.int .i64 0] 3) = W0 at HST ⊢
  go_loopw [5] (fun v wx => FsAt wb N n ls v wx) (fun v _ => n - lenV v)
  case atStart => exact HST.out
  case round =>
    obtain ⟨M, as_, sc, rfl, hsl, hM, h0, hsub, hbw⟩ := hrel
    have HSL := hide hsl
    have HSUB := hide hsub
    have HBW := hide hbw
    have HM := hide hM
    have H0 := hide h0
    obtain ⟨bx0, bx1, bx2, bx3⟩ := HAT.out _ hbw
    have HB1 := hide (HBX.out.trans (hbw.mono HBX.out.size))
    have HC := hide (HNX.out M wr as_ sc HB1.out hM hsl.1)
    have HP := hide (HNE.out M hM h0)
    have HP1 := hide (setL_pos hM h0)
    clear hsl hsub hbw hM h0
    go_wp2_with (go_at_call 42; refine HC.out.mono ?_; rintro e w1 ⟨a2, c2, rfl, hs2, hb2⟩; have HS2 := hide hs2; have HB2 := hide hb2; clear hs2 hb2)
    have HBA := hide ((Below.refl w1.heap.size w1).alloc (Nat.le_refl _) (.cells #[.slice as_ (setL n M).length sc, .slice a2 (setL n (stepM N n ls M)).length c2] 31))
    have HHA := hide (heap_alloc_last w1 (.cells #[.slice as_ (setL n M).length sc, .slice a2 (setL n (stepM N n ls M)).length c2] 31))
    have HSA : Hid (w1.heap.size + 1 = (w1.alloc (.cells #[.slice as_ (setL n M).length sc, .slice a2 (setL n (stepM N n ls M)).length c2] 31)).heap.size) := by show _ = _; simp
    generalize w1.alloc (.cells #[.slice as_ (setL n M).length sc, .slice a2 (setL n (stepM N n ls M)).length c2] 31) = wc at HBA HHA HSA ⊢
    refine (HCC.out w1.heap.size 2 as_ (setL n M).length sc (setL n M) a2 (setL n (stepM N n ls M)).length c2 (setL n (stepM N n ls M)) wc (cell_of_row _ _ _ _ _ (0, 0) HHA.out) (cell_of_row _ _ _ _ _ (0, 0) HHA.out) (sl_below (sl_below HSL.out.1 HB2.out) HBA.out) (sl_below HS2.out.1 HBA.out) (fun e => by obtain ⟨ad, h⟩ := sl_some HSL.out.1 HP1.out; rw [e] at h; cases h) (fun e => by obtain ⟨ad, h⟩ := sl_some HS2.out.1 HP.out; rw [e] at h; cases h) HP1.out (by have := HLEN.out M; omega) (by have := HLEN.out (stepM N n ls M); omega)).mono ?_
    rintro e w2 ⟨v2, rfl, ho2, hb2⟩
    have HO2 := hide ho2
    have HB3 := hide hb2
    clear ho2 hb2
    have HOC := hide (HOR.out wc.heap.size v2 (setL n M ++ setL n (stepM N n ls M)) w2 (by have := HLEN.out M; have := HLEN.out (stepM N n ls M); simp; omega) (fun x hx => by
      rcases List.mem_append.1 hx with h | h
      · exact HWF.out M x h
      · exact HWF.out _ x h) HO2.out)
    unfold OrdU at HOC
    rw [HWID.out M] at HOC
    have HBK : Hid (Below wb.heap.size wb w2) := ((HBW.out.trans (HB2.out.mono HBW.out.size)).trans (HBA.out.mono (Nat.le_trans HBW.out.size HB2.out.size))).trans (HB3.out.mono (by have h1 := HBW.out.size; have h2 := HB2.out.size; have h3 := HBA.out.size; omega))
    have HLE : Hid (wb.heap.size ≤ wc.heap.size) := by have h1 := HBW.out.size; have h2 := HB2.out.size; have h3 := HBA.out.size; show _ ≤ _; omega
    have HBR : Hid (Below wr.heap.size wr w2) := (HB2.out.trans (HBA.out.mono HB2.out.size)).trans (HB3.out.mono (by have h2 := HB2.out.size; have h3 := HBA.out.size; omega))
    have HLR : Hid (wr.heap.size ≤ wc.heap.size) := by have h2 := HB2.out.size; have h3 := HBA.out.size; show _ ≤ _; omega
    by_cases heq : (setL n (widM N n ls M)).length = (setL n M).length
    · have hbq : (((setL n (widM N n ls M)).length : Int) == ((setL n M).length : Int)) = true := by simp [heq]
      have HME : Hid (M = widM N n ls M) := setL_sub HM.out (HWL.out M HM.out) (fun s h => HWS.out M s h) (by omega)
      have HMC := hide (HCD.out M HM.out H0.out HSUB.out HME.out.symm)
      clear heq
      go_wp2_with (go_at_call 48; refine HOC.out.mono ?_; rintro e w3 ⟨a3, c3, rfl, hs3, hb3⟩; have HS3 := hide hs3; have HB4 := hide (hb3 wb wb.heap.size HLE.out HBK.out); have HB5 := hide (hb3 wr wr.heap.size HLR.out HBR.out); clear hs3 hb3)
      go_ret
      exact HEND.out M w3 as_ sc HMC.out ⟨sl_below HSL.out.1 HB5.out, HSL.out.2⟩ HB4.out
    · have hbq : (((setL n (widM N n ls M)).length : Int) == ((setL n M).length : Int)) = false := by
        rw [beq_eq_false_iff_ne]; omega
      have HNM : Hid (M ≠ widM N n ls M) := fun e => heq (by rw [← e])
      clear heq
      go_wp2_with (go_at_call 48; refine HOC.out.mono ?_; rintro e w3 ⟨a3, c3, rfl, hs3, hb3⟩; have HS3 := hide hs3; have HB4 := hide (hb3 wb wb.heap.size HLE.out HBK.out); clear hs3 hb3)
      go_roundw
      case rel => exact ⟨widM N n ls M, a3, c3, rfl, ⟨HS3.out.1, fun ad e => Nat.le_trans HLE.out (HS3.out.2 ad e)⟩, HWL.out M HM.out, HWS.out M 0 H0.out, HCW.out M HSUB.out, HB4.out⟩
      case measure =>
        have h1 := setL_len_lt HM.out (HWL.out M HM.out) (fun s h => HWS.out M s h) HNM.out
        have h2 := HLEN.out (widM N n ls M)
        show n - (setL n (widM N n ls M)).length < n - (setL n M).length
        omega
end Go.Proofs.Ytebbjmcjgjecmaa
