/- track.oldLetters, whatever closure is handed in; the closure of track.Spread: contracts. -/
import Derived.Shelf.Abstract
import Derived.Test.YtebbjmcjgjecmaaEa
import Derived.Test.YtebbjmcjgjecmaaZLp
namespace Go.Proofs.Ytebbjmcjgjecmaa
open Go.RowKit

/-- A row of numbers, k of them filled in. -/
def FillAt (w : World) (T : List Int) (m k : Nat) (wx : World) : Prop := wx.rowIs w.heap.size 3 m (fun i => .int .i64 (if i < k then T.getD i 0 else 0)) ∧ Below w.heap.size w wx
theorem fillAt_start (w : World) (T : List Int) (m : Nat) : FillAt w T m 0 (w.alloc (.cells (madeCells #[.int .i64 0] m) 3)) :=
  ⟨(World.rowIs_made w (.int .i64 0) m 3).congr fun p hp => by rw [if_neg (by omega)], (Below.refl _ _).alloc (Nat.le_refl _) _⟩
theorem fillAt_below {w : World} {T : List Int} {m k : Nat} {wx W : World} (h : FillAt w T m k wx) (hb : Below wx.heap.size wx W) : FillAt w T m k W := by
  obtain ⟨⟨c, h1, h2, h3⟩, h4⟩ := h
  exact ⟨⟨c, (hb.block _ (Array.getElem?_eq_some_iff.1 h1).1).trans h1, h2, h3⟩, below_step h4 hb⟩
theorem fillAt_step {w : World} {T : List Int} {m k : Nat} {wx : World} (h : FillAt w T m k wx) : FillAt w T m (k + 1) (wx.setCell ⟨w.heap.size, k, none⟩ (.int .i64 (T.getD k 0))) := by
  refine ⟨(h.1.set k _).congr fun p hp => ?_, h.2.setCell (Nat.le_refl _) _⟩
  by_cases e : p = k
  · subst e; rw [if_pos rfl, if_pos (by omega)]
  · rw [if_neg e]
    by_cases e2 : p < k
    · rw [if_pos e2, if_pos (by omega)]
    · rw [if_neg e2, if_neg (by omega)]
theorem fillAt_end {w : World} {T : List Int} {m : Nat} {wx : World} (h : FillAt w T m m wx) (hT : T.length = m) (hm : m ≤ maxLen) (hw : ∀ x ∈ T, (Lit.int .i64 x).wf = true) : Sl wx (some ⟨w.heap.size, 0, none⟩) m T :=
  sl_of_rowIs hT hm hw (h.1.congr fun i hi => by rw [if_pos hi])

set_option maxHeartbeats 4000000 in
set_option maxRecDepth 4000 in
theorem oldLetters_any (f : FuncId) (cs : Array Value) (b : Int) (trn mu : Nat) (F : Nat → List Int) (T : List Int) (w : World) (hM : codeM b (trn : Int) = 0) (hmu : manyU b (trn : Int) = (mu : Int))
    (he : ∀ (args : Array Value) (W : World), (callFunc f args).run Try.prog W = .ok (.enter f args) W)
    (hF : ∀ (W : World) (g l : Nat), Below w.heap.size w W → l < mu → Sl W (some ⟨g, 0, none⟩) trn (splitL b trn (l : Int)) → Calls Try.prog f (#[.slice (some ⟨g, 0, none⟩) trn trn] ++ cs) W (GivesRow W (F l)))
    (hP : ∀ l, l < mu → codeP b (F l) = 0 ∧ packL b (F l) = T.getD l 0) (hT : T.length = mu) (h36 : mu ≤ 36) (hw : ∀ x ∈ T, (Lit.int .i64 x).wf = true) :
    Calls Try.prog 26 #[.int .i64 b, .int .i64 (trn : Int), .func (.func f) #[] cs] w (OfU w T .nilIface) := by
  have HMC := hide (many_u b (trn : Int) w)
  rw [hM, errV_zero, hmu] at HMC
  have HU : Hid (∀ W l, l < mu → Calls Try.prog 36 #[.int .i64 b, .int .i64 trn, .int .i64 (l : Int)] W (UnpackC W (splitL b trn (l : Int)))) := fun W l hl => unpack_cap b trn l W (by unfold codeU; rw [if_pos hM, if_pos ⟨by omega, by omega⟩])
  have HF := hide hF
  unfold UnpackC at HU
  unfold GivesRow at HF
  have HPK : Hid (∀ W l a cap, l < mu → Sl W a (F l).length (F l) → Calls Try.prog 37 #[.int .i64 b, .slice a (F l).length cap] W fun e w' => e = .returned (.tuple #[.int .i64 (T.getD l 0), .nilIface]) ∧ w' = W) := fun W l a cap hl hs => by
    have h := pack_u b a (F l).length cap (F l) W hs
    obtain ⟨h1, h2⟩ := hP l hl
    have h3 : packU b (F l) = T.getD l 0 := by unfold packU; rw [if_pos h1, h2]
    rw [h3, h1, errV_zero] at h
    exact h
  have HEND := hide (fun wx (h : FillAt w T mu mu wx) => fillAt_end h hT (by unfold maxLen; omega) hw)
  have hmk := make_ints mu (by omega)
  have H0 := hide (fillAt_start w T mu)
  have HT := hide hT
  have HE := hide he
  clear hM hmu he hF hP hT hw
  go_enter Try.func26, Try.ntmps26
  go_wp2_with (go_at_call 9; refine HMC.out.mono ?_; rintro e w' ⟨rfl, hw⟩; rw [hw]; clear hw w')
  generalize w.alloc (.cells (madeCells #[.int .i64 0] mu) 3) = w0 at H0 ⊢
  go_loopw [26] (fun i wx => ∃ k : Nat, k ≤ mu ∧ i = .int .i64 k ∧ FillAt w T mu k wx) (fun i _ => mu - (intOf i).toNat)
  case atStart => exact ⟨0, by omega, rfl, H0.out⟩
  case round =>
    obtain ⟨k, hk, rfl, hfl⟩ := hrel
    have HFL := hide hfl
    clear hfl
    by_cases hlt : k < mu
    · have hlti : (k : Int) < (mu : Int) := by omega
      have HC := hide (HU.out wr k hlt)
      go_wp2_with fail
      refine HC.out.mono ?_
      rintro e w1 ⟨g, rfl, hg, hs1, hb1⟩
      rw [splitL_length] at hs1 ⊢
      have HB1 := hide hb1
      have HC2 := hide (HF.out w1 g k (below_step HFL.out.2 hb1) hlt hs1)
      have he := HE.out
      clear hs1 hb1 HC hg
      go_wp2_with fail
      clear he
      refine HC2.out.mono ?_
      rintro e w2 ⟨ar, cr, rfl, ⟨hs2, -⟩, hb2⟩
      have HC3 := hide (HPK.out w2 k ar cr hlt hs2)
      have HFL2 := hide (fillAt_below HFL.out (below_step HB1.out hb2))
      clear hs2 hb2 HC2
      go_wp2_with fail
      refine HC3.out.mono ?_
      rintro e w3 ⟨rfl, rfl⟩
      have hcell := HFL2.out.1.cell hlt
      have hfz := HFL2.out.1.frozen k
      have HNX := hide (fillAt_step HFL2.out)
      rw [if_neg (Nat.lt_irrefl _)] at hcell
      clear HC3
      generalize T.getD k 0 = x at HNX ⊢
      go_wp2
      go_roundw
      case rel => exact ⟨k + 1, by omega, by go_num, HNX.out⟩
      case measure => simp [intOf]; omega
    · have hlti : ¬ (k : Int) < (mu : Int) := by omega
      obtain rfl : mu = k := by omega
      have HS := hide (HEND.out wr HFL.out)
      go_wp2
      go_ret2
      refine ⟨some ⟨w.heap.size, 0, none⟩, mu, by rw [HT.out]; simp, ⟨?_, fun ad e => by cases e; exact Nat.le_refl _⟩, HFL.out.2⟩
      rw [HT.out]
      exact HS.out

/-- What the closure of Spread makes of digits. -/
theorem pick_wf {at_ d : List Int} (hd : ∀ x ∈ d, (Lit.int .i64 x).wf = true) (hr : ∀ i, i < at_.length → 0 ≤ at_.getD i 0 ∧ at_.getD i 0 < (d.length : Int)) : ∀ x ∈ at_.map (fun i => d.getD i.toNat 0), (Lit.int .i64 x).wf = true := by
  intro x hx
  obtain ⟨i, hi, rfl⟩ := List.getElem_of_mem hx
  rw [List.length_map] at hi
  have := hr i hi
  rw [getD_at _ i hi] at this
  rw [List.getElem_map, getD_at _ _ (by omega)]
  exact hd _ (List.getElem_mem _)
set_option maxHeartbeats 4000000 in
set_option maxRecDepth 4000 in
theorem spread1_any (B : Nat) (aa : Option Addr) (la ca : Nat) (at_ : List Int) (ad : Option Addr) (ld cd : Nat) (d : List Int) (w : World) (hB : w.cell? ⟨B, 0, none⟩ = some (.slice aa la ca)) (ha : Sl w aa la at_) (hd : Sl w ad ld d) (hla : la ≤ 100000000) (hr : ∀ i, i < la → 0 ≤ at_.getD i 0 ∧ at_.getD i 0 < (ld : Int)) :
    Calls Try.prog 15 #[.slice ad ld cd, .pointer (some ⟨B, 0, none⟩)] w (GivesRow w (at_.map fun i => d.getD i.toNat 0)) := by
  have hL := ha.1
  have hmk := make_ints la (by omega)
  have hB0 := (Below.refl w.heap.size w).alloc (Nat.le_refl _) (.cells (madeCells #[.int .i64 0] la) 3)
  have hB1 : (w.alloc (.cells (madeCells #[.int .i64 0] la) 3)).cell? ⟨B, 0, none⟩ = some (.slice aa la ca) := (hB0.cell (p := ⟨B, 0, none⟩) (World.block_lt_of_cell? w _ hB)).trans hB
  have H0 := hide (fillAt_start w (at_.map fun i => d.getD i.toNat 0) la)
  have HA := hide ha
  have HD := hide hd
  have HR := hide hr
  have HTG : Hid (∀ k, k < la → (at_.map fun i => d.getD i.toNat 0).getD k 0 = d.getD (at_.getD k 0).toNat 0) := fun k hk => by
    rw [getD_at _ k (by rw [List.length_map]; omega), List.getElem_map, getD_at at_ k (by omega)]
  have HEND := hide (fun wx (h : FillAt w (at_.map fun i => d.getD i.toNat 0) la la wx) => fillAt_end h (by rw [List.length_map, hL]) (by unfold maxLen; omega) (pick_wf hd.2.2.1 (fun i hi => by rw [hd.1]; exact hr i (by omega))))
  have HTL : Hid ((at_.map fun i => d.getD i.toNat 0).length = la) := by show _ = _; rw [List.length_map, hL]
  clear ha hd hr hB0 hL
  generalize (at_.map fun i => d.getD i.toNat 0) = T at H0 HTG HEND HTL ⊢
  go_enter Try.func15, Try.ntmps15
  go_wp2
  clear hB hB1
  generalize w.alloc (.cells (madeCells #[.int .i64 0] la) 3) = w0 at H0 ⊢
  go_loopw [12] (fun i wx => ∃ k : Nat, k ≤ la ∧ i = .int .i64 k ∧ FillAt w T la k wx) (fun i _ => la - (intOf i).toNat)
  case atStart => exact ⟨0, by omega, rfl, H0.out⟩
  case round =>
    obtain ⟨k, hk, rfl, hfl⟩ := hrel
    have HFL := hide hfl
    clear hfl
    by_cases hlt : k < la
    · have hlti : (k : Int) < (la : Int) := by omega
      obtain ⟨ba, oa, rfl, hca⟩ := sl_cell (sl_below HA.out HFL.out.2) k hlt
      have hx := HR.out k hlt
      have htg := HTG.out k hlt
      obtain ⟨x, hxe⟩ : ∃ x : Nat, at_.getD k 0 = (x : Int) := ⟨(at_.getD k 0).toNat, by omega⟩
      rw [hxe] at hca hx htg
      rw [Int.toNat_natCast] at htg
      have hxl : x < ld := by omega
      have hxi : (x : Int) < (ld : Int) := by omega
      obtain ⟨bd, od, rfl, hcd⟩ := sl_cell (sl_below HD.out HFL.out.2) x hxl
      rw [← htg] at hcd
      have hcell := HFL.out.1.cell hlt
      have hfz := HFL.out.1.frozen k
      have HNX := hide (fillAt_step HFL.out)
      rw [if_neg (Nat.lt_irrefl _)] at hcell
      clear htg hx hxe
      generalize T.getD k 0 = z at hcd HNX
      go_wp2
      go_roundw
      case rel => exact ⟨k + 1, by omega, by go_num, HNX.out⟩
      case measure => simp [intOf]; omega
    · have hlti : ¬ (k : Int) < (la : Int) := by omega
      obtain rfl : la = k := by omega
      have HS := hide (HEND.out wr HFL.out)
      go_wp2
      go_ret
      refine ⟨some ⟨w.heap.size, 0, none⟩, la, by rw [HTL.out]; simp, ⟨?_, fun ad e => by cases e; exact Nat.le_refl _⟩, HFL.out.2⟩
      rw [HTL.out]
      exact HS.out
end Go.Proofs.Ytebbjmcjgjecmaa
