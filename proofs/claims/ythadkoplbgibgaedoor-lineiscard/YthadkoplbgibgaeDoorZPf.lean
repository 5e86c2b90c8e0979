/- 3 texts in one. -/
import Derived.Deep.DeepCutAuto
import Derived.Deep.QuietTactic
import Derived.Test.YthadkoplbgibgaeDoorZLp
import Derived.Test.YthadkoplbgibgaeDoorPc
import Derived.Test.YthadkoplbgibgaeDoorZKa
import Derived.Test.YthadkoplbgibgaeDoorPe
import Derived.Test.YthadkoplbgibgaeDoorRe
/- The reference's LineOf: contract. -/
namespace Go.Proofs.YthadkoplbgibgaeDoor
open Go.RowKit

theorem mul_bd12 {x y : Int} (hx : absI x ≤ 12) (h0 : 0 ≤ y) (h5 : y ≤ 5) : -60 ≤ x * y ∧ x * y ≤ 60 := by
  have h := mul_bd (x := x) h0 h5
  have : absI x * 5 ≤ 60 := by omega
  omega
theorem mul_b6 {x b : Int} (h1 : 1 ≤ b) (h6 : b ≤ 6) (hx : -108 ≤ x ∧ x ≤ 108) : -648 ≤ x * b ∧ x * b ≤ 648 := by
  have : b = 1 ∨ b = 2 ∨ b = 3 ∨ b = 4 ∨ b = 5 ∨ b = 6 := by omega
  rcases this with rfl | rfl | rfl | rfl | rfl | rfl <;> omega
/-- Rows in the end. -/
theorem lnI_end {wb : World} {g0 : Nat} {rows : Nat → List Int} {es : Nat → Bool} {col : Nat → Nat} {LN LA LB : List Nat} {k : Nat} {vA vB vN vE vR : Value} {vals : List Value} {R : List Int} {W : World} (h : LnI wb g0 rows es col LN LA LB k k vA vB vN vE vR vals R W) (hk : k ≤ maxLen) (N : List (List Int)) (hN : N.length = k) (hr : ∀ j, j < k → N.getD j [] = rows j) (E : List Bool) (hE : E.length = k) (he : ∀ j, j < k → E.getD j false = es j) :
    ∃ a c a' c', vN = .slice a k c ∧ vE = .slice a' k c' ∧ Sl2 W a k N ∧ SlB W a' k E := by
  have hvl := h.rw_.1
  have h2 := h.nx.own
  rw [hvl] at h2
  have h3 := h.en.own
  rw [List.length_map, List.length_range] at h3
  have hNv : ∃ a c, vN = .slice a k c ∧ Sl2 W a k N := by
    rcases h2.2 with ⟨rfl, rfl⟩ | ⟨g, cap, cur, rfl, _⟩
    · exact ⟨none, 0, rfl, hN, hk, Or.inl rfl⟩
    · refine ⟨_, cap, rfl, hN, hk, Or.inr ⟨g, 0, rfl, fun i hi => ?_⟩⟩
      obtain ⟨gi, ci, e1, e2, -⟩ := h.rw_.2 i hi
      rw [hr i hi, Nat.zero_add, h2.cellAt i (by omega)]
      exact ⟨_, ci, e1, e2⟩
  have hEv : ∃ a c, vE = .slice a k c ∧ SlB W a k E := by
    rcases h3.2 with ⟨rfl, rfl⟩ | ⟨g, cap, cur, rfl, _⟩
    · exact ⟨none, 0, rfl, hE, hk, Or.inl rfl⟩
    · refine ⟨_, cap, rfl, hE, hk, Or.inr ⟨g, 0, rfl, fun i hi => ?_⟩⟩
      rw [Nat.zero_add, h3.cellAt i (by omega), he i hi]
      simp [hi]
  obtain ⟨a, c, rfl, hs⟩ := hNv
  obtain ⟨a', c', rfl, hs'⟩ := hEv
  exact ⟨a, c, a', c', rfl, rfl, hs, hs'⟩
/-- A cell of a row of its own. -/
theorem owC_cell {base : Nat} {col : Nat → Nat} {k : Nat} {W : World} {e : TypeId} {v : Value} {xs : List Value} (h : OwC base col k W e v xs) {i : Nat} (hi : i < xs.length) : ∃ g c, v = .slice (some ⟨g, 0, none⟩) xs.length c ∧ W.cell? ⟨g, i, none⟩ = xs[i]? := by
  have ho := h.own
  rcases ho.2 with ⟨e1, e2⟩ | ⟨g, cap, cur, e1, _⟩
  · omega
  · subst e1
    exact ⟨g, cap, rfl, ho.cellAt i (by omega)⟩
/-- Where it begins. -/
theorem lnI_start (wb : World) (rows : Nat → List Int) (es : Nat → Bool) : LnI wb wb.heap.size rows es (fun x => if x = wb.heap.size then 1 else 0) [] [] [] 0 0 (.slice none 0 0) (.slice none 0 0) (.slice none 0 0) (.slice none 0 0) (.slice none 0 0) [] [] (wb.alloc (.cells (madeCells #[.int .i64 0] 47089) 3)) :=
  ⟨(World.rowIs_made wb (.int .i64 0) 47089 3).congr fun p _ => by rw [nmbS_zero (by simp)], by simp, Nat.le_refl _, owC_nil _ _ _ _ _, owC_nil _ _ _ _ _, owC_nil _ _ _ _ _, ⟨rfl, fun j hj => by omega⟩, owC_nil _ _ _ _ _, owC_nil _ _ _ _ _, (Below.refl _ _).alloc (Nat.le_refl _) _⟩
def cut2 (X : Int) (p : Int × Int) : Int × Int := if X = 108 ∨ X = -108 then (X, 0) else p
def cut3 (p : Int × Int) : Int × Int := if 108 ≤ p.1 then (108, 0) else p
def cut4 (p : Int × Int) : Int × Int := if p.1 ≤ -108 then (-108, 0) else p
theorem lnCut_steps (b : Int) (p : Int × Int) (s : Int) : lnCut b p s = cut4 (cut3 (cut2 p.1 (lnStep b p s))) := by
  unfold lnCut cut2
  by_cases h : p.1 = 108 ∨ p.1 = -108
  · rw [if_pos h, if_pos h]
    rcases h with h | h
    · rw [h]; rfl
    · rw [h]; rfl
  · rw [if_neg h, if_neg h]
    unfold cut3
    by_cases h1 : 108 ≤ (lnStep b p s).1
    · rw [if_pos h1, if_pos h1]; rfl
    · rw [if_neg h1, if_neg h1]; rfl
def LnS (wb : World) (rows : Nat → List Int) (es : Nat → Bool) (L : List Nat) (q : Nat) (vA vB vN vE : Value) (W : World) : Prop := ∃ col vals, LnI wb wb.heap.size rows es col L L L q q vA vB vN vE (.slice none 0 0) vals [] W

set_option maxHeartbeats 32000000 in
set_option maxRecDepth 8000 in
theorem lineOf_ok (b : Int) (a : Option Addr) (n cap : Nat) (C : List Int) (c : Int) (less : Bool) (w : World) (hs : Sl w a n C) (hF : lnF b C c = 0) :
    Calls Tryd.prog 13 #[.int .i64 b, .slice a n cap, .int .i64 c, .bool less] w (RgR w b (n : Int) (leastK (lnP b C) (lnQ b C c less) (lnM b C)) (leastN (lnP b C) (lnQ b C c less) (lnM b C)) (leastE (lnP b C) (lnQ b C c less) (lnM b C))) := by
  obtain ⟨hM, h12, hc60⟩ := lnF_zero hF
  obtain ⟨hb1, hb6, ht0, ht5, -⟩ := codeM_zero hM
  obtain ⟨m1, m36⟩ := manyU_bd hM
  have hL := hs.1
  have hGD := lnG_good hb1 hb6 h12 hM
  have hal80 := autoC_80 (al_well hM).auto
  have hLL := lnL_ok hb1 hb6 h12
  have hlen : (lnGN b C).length = (lnL b C).length := gN_len _ _ _
  have hnn : (lnGN b C).length * (alN b (n : Int)).length ≤ 4000000 := by rw [← hL]; exact Nat.le_trans (Nat.mul_le_mul (by rw [hlen]; exact hLL.2.2.1) hal80) (by decide)
  have HB0 := hide ((Below.refl w.heap.size w).alloc (Nat.le_refl _) (.cells #[.int .i64 0, .int .i64 0, .slice none 0 0, .slice none 0 0] 25))
  have HX1 := hide (heap_alloc_last w (.cells #[.int .i64 0, .int .i64 0, .slice none 0 0, .slice none 0 0] 25))
  have HSZ0 : Hid ((w.alloc (.cells #[.int .i64 0, .int .i64 0, .slice none 0 0, .slice none 0 0] 25)).heap.size = w.heap.size + 1) := by show _ = _; simp
  generalize hwb : w.alloc (.cells #[.int .i64 0, .int .i64 0, .slice none 0 0, .slice none 0 0] 25) = wb at HB0 HX1 HSZ0
  have HS := hide (sl_below hs HB0.out)
  have HLF := hide (lineFault_any b a n cap C c wb HS.out)
  rw [hF] at HLF
  have HLT := hide (letters_u b (n : Int) wb)
  rw [← hL, hM] at HLT
  rw [hL] at HLT
  have hmm : manyU b (n : Int) = ((lnM b C : Nat) : Int) := by unfold lnM; rw [hL]; rw [hL] at m1; omega
  rw [hmm] at HLT
  have m1' : 1 ≤ lnM b C := m1
  have m36' : lnM b C ≤ 36 := m36
  have HRT : Hid (∀ (W : World) (a1 : Option Addr) (c1 : Nat) (a1' : Option Addr) (c1' : Nat), Sl2 W a1 (lnGN b C).length (lnGN b C) → SlB W a1' (lnGN b C).length (lnGE b C c less) → Calls Tryd.prog 30 #[.int .i64 b, .int .i64 (n : Int), .slice a1 (lnGN b C).length c1, .slice a1' (lnGN b C).length c1'] W (RgR W b (n : Int) (leastK (lnP b C) (lnQ b C c less) (lnM b C)) (leastN (lnP b C) (lnQ b C c less) (lnM b C)) (leastE (lnP b C) (lnQ b C c less) (lnM b C)))) := fun W a1 c1 a1' c1' h1 h2 => by
    have h := righted_any b n a1 (lnGN b C).length c1 a1' c1' (lnM b C) (lnGN b C) (lnGE b C c less) W h1 h2 hGD (by rw [← hL]; exact hM) (by unfold lnM; rw [hL]) hnn
    unfold lnP lnQ
    rw [hL]
    exact h
  -- what comes up
  have HRUN : Hid (∀ w, okW (lnM b C) w → LnIn b (unspot (runG (lnD b C) 23544 w)) ∧ runG (lnD b C) 23544 w < 47089) := fun w hw => by
    have h := ln_run (C := C) hb1 hb6 h12 w hw
    exact ⟨h.1, h.2.2⟩
  have HFEW : Hid (∀ i, (outG (lnD b C) (lnM b C) 23544 i).length ≤ 47089) := fun i => outG_few (fun w hw => (HRUN.out w hw).2) i
  have HMEM : Hid (∀ i, ∀ s ∈ outG (lnD b C) (lnM b C) 23544 i, LnIn b (unspot s) ∧ s < 47089) := fun i s hs => by
    obtain ⟨v, hv, rfl⟩ := outG_reach hs
    exact HRUN.out v hv
  have HCUT : Hid (∀ s, LnIn b (unspot s) → ∀ l : Nat, LnIn b (lnCut b (unspot s) (lsum b C (l : Int)))) := fun s hs l => lnCut_in hs (fun hb => by
    have h := lsum_bd (C := C) hb6 h12 (l : Int)
    have : kindsI b = 2 := by unfold kindsI; rw [if_pos (by omega)]
    omega)
  have HSB := hide (fun l : Int => lsum_bd (C := C) hb6 h12 l)
  have HKB : Hid (kindsI b ≤ 6 ∧ 2 ≤ kindsI b) := by show _ ∧ _; unfold kindsI; split <;> omega
  have HFIN : Hid (∀ i, (outG (lnD b C) (lnM b C) 23544 i).length = i → (lnGN b C).length = i ∧ (∀ j, j < i → (lnGN b C).getD j [] = foundR (lnD b C) (lnM b C) 23544 j) ∧ (lnGE b C c less).length = i ∧ ∀ j, j < i → (lnGE b C c less).getD j false = lnEnd c less (unspot ((outG (lnD b C) (lnM b C) 23544 j).getD j 0)).1) := fun i hi => by
    have h47 := HFEW.out i
    have hst := outG_stay (Nat.le_of_eq hi) (47089 - i)
    rw [show i + (47089 - i) = 47089 by omega] at hst
    have hlL : lnL b C = outG (lnD b C) (lnM b C) 23544 i := hst
    unfold lnGN lnGE
    rw [hlL]
    refine ⟨by rw [gN_len, hi], fun j hj => found_end (Nat.le_of_eq hi) (Nat.le_of_eq hi.symm) j hj, by rw [gE_len, hi], fun j hj => found_ends (fun s => lnEnd c less (unspot s).1) (Nat.le_of_eq hi) (Nat.le_of_eq hi.symm) j hj⟩
  have HDG : Hid (∀ (W : World) (l k : Nat), l < lnM b C → k < n → Calls Tryd.prog 18 #[.int .i64 b, .int .i64 (n : Int), .int .i64 (l : Int), .int .i64 (k : Int)] W fun e w' => e = .returned (.int .i64 (dOf b n (l : Int) k)) ∧ w' = W) := fun W l k hl hk => digitOf_any b n (l : Int) k W hb1 hb6 (by omega) hk (by omega) (by omega)
  have HDB : Hid (∀ (l k : Nat), 0 ≤ dOf b n (l : Int) k ∧ dOf b n (l : Int) k ≤ 5) := fun l k => by have := dOf_bd b hb6 n (l : Int) k; have := HKB.out; omega
  have HCB : Hid (∀ k, k < n → absI (C.getD k 0) ≤ 12) := fun k hk => by rw [← hL] at hk; have := absT_at C hk; omega
  have HTB : Hid (∀ (l k : Nat), k ≤ n → -60 ≤ sumT C (dOf b n (l : Int)) k ∧ sumT C (dOf b n (l : Int)) k ≤ 60) := fun l k hk => by
    have h1 := sumT_bd C (dOf b n (l : Int)) 5 k (fun i _ => HDB.out l i)
    have h2 := absT_mono C (show k ≤ C.length by omega)
    have h3 : absT C k * 5 ≤ 60 := by omega
    omega
  have HSUM : Hid (∀ l : Nat, lsum b C (l : Int) = sumT C (dOf b n (l : Int)) n) := fun l => by show lsum b C (l : Int) = _; unfold lsum; rw [hL]
  have HTS : Hid (∀ (l k : Nat), sumT C (dOf b n (l : Int)) (k + 1) = sumT C (dOf b n (l : Int)) k + C.getD k 0 * dOf b n (l : Int) k) := fun l k => rfl
  have hmk : ∀ w : World, (Instr.makeSlice 40 (.int .i64 47089) (.int .i64 47089)).run Tryd.prog w = .ok (.slice (some ⟨w.heap.size, 0, none⟩) 47089 47089) (w.alloc (.cells (madeCells #[.int .i64 0] 47089) 3)) := fun w => make_ints 47089 (by omega) w
  have HD : Hid (∀ s l : Nat, lnD b C s l = spotN (lnCut b (unspot s) (lsum b C (l : Int)))) := fun s l => rfl
  obtain ⟨i0, hi0, hz0, hz1, hz2⟩ := info_parts info3
  obtain ⟨j0, hj0, hy0, hy1, hy2⟩ := info_parts infoS2
  obtain ⟨l0, hl0, hv0, hv1, hv2⟩ := info_parts infoBo
  have HI0 := hide (lnI_start wb (foundR (lnD b C) (lnM b C) 23544) (fun j => lnEnd c less (unspot ((outG (lnD b C) (lnM b C) 23544 j).getD j 0)).1))
  have hn5 : n ≤ 5 := by omega
  clear hGD hal80 hLL hlen hnn hF h12 hM hmm hs m1 m36 hL HRUN ht0 ht5
  generalize lnGN b C = GN at HRT HFIN
  generalize lnGE b C c less = GE at HRT HFIN
  generalize leastK (lnP b C) (lnQ b C c less) (lnM b C) = K at HRT ⊢
  generalize leastN (lnP b C) (lnQ b C c less) (lnM b C) = LN at HRT ⊢
  generalize leastE (lnP b C) (lnQ b C c less) (lnM b C) = LE at HRT ⊢
  generalize lnM b C = m at HLT HDG m1' m36' HFEW HMEM HFIN HI0
  generalize lnD b C = d at HFEW HMEM HFIN HD HI0
  have HRWL : Hid (∀ j, (foundR d m 23544 j).length = m) := fun j => foundR_len d m 23544 j
  have HRWG : Hid (∀ j l, l < m → (foundR d m 23544 j).getD l 0 = (((outG d m 23544 (j + 1)).idxOf (d ((outG d m 23544 j).getD j 0) l) : Nat) : Int)) := fun j l hl => foundR_get hl
  have HOZ : Hid (outG d m 23544 0 = [23544]) := rfl
  generalize hRW : foundR d m 23544 = RW at HI0 HRWL HRWG HFIN
  clear hRW
  generalize hES : (fun j => lnEnd c less (unspot ((outG d m 23544 j).getD j 0)).1) = ES at HI0
  have HES : Hid (∀ j, lnEnd c less (unspot ((outG d m 23544 j).getD j 0)).1 = ES j) := fun j => by rw [← hES]
  clear hES
  simp only [HES.out] at HFIN
  unfold RgR BothR at HRT ⊢
  go_enter Tryd.func13, Tryd.ntmps13
  go_wp2_with fail
  clear hwb
  refine HLF.out.mono ?_
  rintro e w' ⟨rfl, hw⟩
  rw [hw]
  clear hw w' HLF
  go_wp2_with fail
  refine HLT.out.mono ?_
  rintro e w' ⟨rfl, hw⟩
  rw [hw]
  clear hw w' HLT
  go_upto_region 11 with fail
  clear hmk
  generalize wb.alloc (.cells (madeCells #[.int .i64 0] 47089) 3) = W1 at HI0 ⊢
  have HSB1 : Hid (wb.heap.size ≤ W1.heap.size) := HI0.out.bel.size
  go_upto_region 12 with (at_builtin; refine wpList_append_lies _ rfl _ _ 40 rfl wb.heap.size 3 i0 (.int .i64 0) 1 8 Tryd.underlying40 hi0 hz0 hz1 hz2 rfl (by decide) (.slice none 0 0) 0 [] rfl (World.ownsRow_nil _ _ _ _) ⟨W1.heap.size, 0, none⟩ 1 1 [.int .i64 0] rfl rfl (one_new _ _ _) (fun u hu => by simp at hu; subst hu; rfl) (by omega) (by unfold maxLen; omega) (by omega) (by have := HSB1.out; simp; omega) (W1.heap.size + 1) (by simp) ?_; intro gA cA w2 hown hgrow hat hlt; have HI1 := hide (lnI_A (s := 23544) HI0.out rfl (by rw [unspot_start]; exact hown) hgrow hat); clear hown hgrow hat hlt)
  have HSB2 : Hid (wb.heap.size ≤ w2.heap.size) := HI1.out.bel.size
  go_upto_region 13 with (at_builtin; refine wpList_append_lies _ rfl _ _ 40 rfl wb.heap.size 3 i0 (.int .i64 0) 1 8 Tryd.underlying40 hi0 hz0 hz1 hz2 rfl (by decide) (.slice none 0 0) 0 [] rfl (World.ownsRow_nil _ _ _ _) ⟨w2.heap.size, 0, none⟩ 1 1 [.int .i64 0] rfl rfl (one_new _ _ _) (fun u hu => by simp at hu; subst hu; rfl) (by omega) (by unfold maxLen; omega) (by omega) (by have := HSB2.out; simp; omega) (w2.heap.size + 1) (by simp) ?_; intro gB cB w3 hown hgrow hat hlt; have HI2 := hide (lnI_B (s := 23544) HI1.out rfl (by rw [unspot_start]; exact hown) hgrow hat); clear hown hgrow hat hlt)
  have hcz : w3.cell? ⟨wb.heap.size, 23544, none⟩ = some (.int .i64 0) := by
    have h := HI2.out.num.cell (i := 23544) (by decide)
    rw [nmbS_zero (by simp)] at h
    exact h
  have hfz := HI2.out.num.frozen 23544
  have HI3 := hide (lnI_num (s := 23544) HI2.out (by simp))
  rw [show ((([] : List Nat).length : Nat) : Int) + 1 = 1 from rfl] at HI3
  go_wp2
  clear hcz hfz
  generalize w3.setCell ⟨wb.heap.size, 23544, none⟩ (.int .i64 1) = w4 at HI3 ⊢
  go_loopg [20, 16, 17, 18, 19] 47090 (fun g u20 u16 u17 u18 u19 wx => ∃ i : Nat, g = 47090 - i ∧ u20 = .int .i64 i ∧ i ≤ (outG d m 23544 i).length ∧ LnS wb RW ES (outG d m 23544 i) i u16 u17 u18 u19 wx)
  case atStart => exact ⟨0, rfl, rfl, Nat.zero_le _, _, _, HI3.out⟩
  case round =>
    obtain ⟨i, hgi, rfl, hil, col, vals, hI⟩ := hrel
    have HGI := hide hgi
    have HI := hide hI
    have h47 := HFEW.out i
    clear hgi hI HI0 HI1 HI2 HI3
    have hpos := (outG_pos d m 23544 i).1
    obtain ⟨gA, cA, hvA, -⟩ := owC_cell HI.out.at_ (i := 0) (by rw [List.length_map]; exact hpos)
    rw [List.length_map] at hvA
    subst hvA
    by_cases hlt : i < (outG d m 23544 i).length
    · have hlti : (i : Int) < ((outG d m 23544 i).length : Int) := by omega
      have HSUC := hide (outG_nextH hlt)
      have HIDX := hide (fun l hl => found_idx (d := d) (m := m) (f := 23544) (i := i) (l := l) hlt hl)
      have HRWI := hide (fun l hl => HRWG.out i l hl)
      have HMI := hide (HMEM.out i _ (getN_mem hlt))
      have HESI := hide (HES.out i)
      have HFW1 := hide (HFEW.out (i + 1))
      have HM1 := hide (HMEM.out (i + 1))
      go_wp2
      generalize hOI : outG d m 23544 i = OI at HI HIDX HRWI HMI HESI HSUC hil hlt hlti h47 hpos ⊢
      have HOI := hide hOI
      clear hOI
      generalize hsI : OI.getD i 0 = sI at HIDX HRWI HMI HESI HSUC
      have HSII := hide hsI
      clear hsI
      rw [HSUC.out] at HFW1 HM1 HIDX HRWI
      have HRB : Hid (∀ l, l ≤ m → (rowG d OI sI l).length ≤ 47089 ∧ i < (rowG d OI sI l).length ∧ (rowG d OI sI l).getD i 0 = sI) := fun l hl => by
        have h1 := rowG_from d OI sI l
        have h2 := rowG_pre d OI sI l (m - l)
        rw [show l + (m - l) = m by omega] at h2
        exact ⟨Nat.le_trans h2.length_le HFW1.out, Nat.lt_of_lt_of_le hlt h1.length_le, by rw [pre_getN h1 hlt, HSII.out]⟩
      have HRZ : Hid (rowG d OI sI 0 = OI) := rfl
      have HRS := hide (fun l => rowG_succ d OI sI l)
      go_loopg [22, 16, 17, 21] m (fun g s22 s16 s17 s21 wx => ∃ l : Nat, g = m - l ∧ l ≤ m ∧ s22 = .int .i64 l ∧ ∃ col, LnI wb wb.heap.size RW ES col (rowG d OI sI l) (rowG d OI sI l) (rowG d OI sI l) i i s16 s17 u18 u19 s21 vals ((RW i).take l) wx)
      case atStart => exact ⟨0, rfl, by omega, rfl, col, by rw [HRZ.out]; exact HI.out⟩
      case round =>
        obtain ⟨l, hgl, hl, rfl, col, hI⟩ := hrel
        have HGL := hide hgl
        have HI := hide hI
        clear hI hgl
        obtain ⟨hrb1, hrb2, hrb3⟩ := HRB.out l hl
        obtain ⟨gA, cA, hvA, hcA⟩ := owC_cell HI.out.at_ (i := i) (by rw [List.length_map]; exact hrb2)
        rw [List.length_map] at hvA
        subst hvA
        obtain ⟨gB, cB, hvB, hcB⟩ := owC_cell HI.out.low (i := i) (by rw [List.length_map]; exact hrb2)
        rw [List.length_map] at hvB
        subst hvB
        have hgt : (rowG d OI sI l)[i]? = some sI := by
          have : (rowG d OI sI l).getD i 0 = sI := hrb3
          rw [List.getD, List.getElem?_eq_getElem hrb2] at this
          rw [List.getElem?_eq_getElem hrb2]
          exact congrArg some this
        rw [List.getElem?_map, hgt] at hcA hcB
        simp only [Option.map_some] at hcA hcB
        clear hgt hrb3
        by_cases hlm : l < m
        · as_aux_lemma =>
            have hlmi : (l : Int) < (m : Int) := by omega
            have HDGl := hide (fun W k hk => HDG.out W l k hlm hk)
            have HDBl := hide (fun k => HDB.out l k)
            have HTBl := hide (fun k hk => HTB.out l k hk)
            have HTSl := hide (fun k => HTS.out l k)
            have HSUMl := hide (HSUM.out l)
            have HCUTl := hide (HCUT.out sI HMI.out.1 l)
            have HDl := hide (HD.out sI l)
            have HZT : Hid (sumT C (dOf b n (l : Int)) 0 = 0) := rfl
            generalize dOf b n (l : Int) = dd at HDGl HDBl HTBl HTSl HSUMl HZT
            generalize hST : sumT C dd = ST at HTBl HTSl HSUMl HZT
            clear hST
            have HSW := hide (sl_below HS.out HI.out.bel)
            go_wp2
            obtain ⟨wq, hwq⟩ : ∃ wq : World, wq = wr := ⟨_, rfl⟩
            rw [← hwq] at HI hcA hcB HSW ⊢
            clear hwq wr
            go_loopw [23, 24] (fun s23 s24 wx => ∃ k q : Nat, k ≤ n ∧ s24 = .int .i64 k ∧ s23 = .int .i64 (ST k) ∧ wx = wq.drewN q) (fun _ s24 _ => n - (intOf s24).toNat)
            case atStart => exact ⟨0, 0, by omega, rfl, by rw [HZT.out], rfl⟩
            case round =>
              obtain ⟨k, q, hk, rfl, rfl, hwx⟩ := hrel
              have HWX := hide hwx
              by_cases hkn : k < n
              · have hkni : (k : Int) < (n : Int) := by omega
                obtain ⟨bc, oc, rfl, hck⟩ := sl_cell HSW.out k hkn
                have hck' : wr.cell? ⟨bc, oc + k, none⟩ = some (.int .i64 (C.getD k 0)) := by rw [hwx]; exact hck
                have HDK := hide (fun W => HDGl.out W k hkn)
                have hpb := mul_bd12 (HCB.out k hkn) (HDBl.out k).1 (HDBl.out k).2
                have htb := HTBl.out k (by omega)
                have HTK := hide (HTSl.out k)
                clear hck hwx
                generalize C.getD k 0 = x at hck' hpb HTK
                generalize dd k = y at HDK hpb HTK
                generalize ST k = z at htb HTK
                have hwp : IntKind.i64.wrap (x * y) = x * y := by rw [IntKind.wrap_i64]; omega
                have hws : IntKind.i64.wrap (z + x * y) = z + x * y := by rw [IntKind.wrap_i64]; omega
                clear hpb htb
                go_wp2
                go_quiet (first | (go_at_call 18; refine Calls.quiet_of_same (HDK.out _)))
                go_wp2
                go_roundw
                case rel => exact ⟨k + 1, q + nq, by omega, by go_num, by rw [HTK.out], by rw [HWX.out, World.drewN_drewN]⟩
                case measure => simp [intOf]; omega
              · have hkni : ¬ (k : Int) < (n : Int) := by omega
                obtain rfl : n = k := by omega
                have hSn := HTBl.out n (Nat.le_refl _)
                have hxy := lnIn_bd HMI.out.1
                rw [HSUMl.out] at HDl HCUTl
                rw [lnCut_steps] at HDl HCUTl
                have HSTP : Hid ((b = 1 → lnStep b (unspot sI) (ST n) = ((unspot sI).1 + (unspot sI).2 + ST n, (unspot sI).1 + ST n)) ∧ (b ≠ 1 → lnStep b (unspot sI) (ST n) = ((unspot sI).1 * b + ST n, 0))) := ⟨fun h => by unfold lnStep; rw [if_pos h], fun h => by unfold lnStep; rw [if_neg h]⟩
                have hcA2 : wr.cell? ⟨gA, i, none⟩ = some (.int .i64 (unspot sI).1) := by rw [hwx]; exact hcA
                have hcB2 : wr.cell? ⟨gB, i, none⟩ = some (.int .i64 (unspot sI).2) := by rw [hwx]; exact hcB
                have HUA := hide (show (unspot sI).1 = (unspot sI).1 from rfl)
                generalize lnStep b (unspot sI) (ST n) = p1 at HDl HCUTl HSTP
                generalize hXX : (unspot sI).1 = X at HDl HCUTl HSTP hcA2 hxy HUA HESI
                generalize hYY : (unspot sI).2 = Y at HSTP hcB2 hxy
                have HXX := hide hXX
                have HYY := hide hYY
                generalize ST n = sg at HSTP hSn ⊢
                obtain ⟨x1, y1⟩ := p1
                have hXb := mul_b6 hb1 hb6 ⟨hxy.1, hxy.2.1⟩
                have hwp : IntKind.i64.wrap (X * b) = X * b := by rw [IntKind.wrap_i64]; omega
                have hws : IntKind.i64.wrap (X * b + sg) = X * b + sg := by rw [IntKind.wrap_i64]; omega
                have hriL : (i : Int) < ((rowG d OI sI l).length : Int) := by omega
                clear hwx hXX hYY HSUMl HTBl HTSl HZT HSW HDGl HDBl
                go_upto_if 103 with fail
                go_cut [25, 26] from 70 to 184 (fun s25 s26 wx => s25 = .int .i64 x1 ∧ s26 = .int .i64 y1 ∧ ∃ q2, wx = wq.drewN q2)
                case first =>
                  by_cases hb : b = 1
                  · have hbb : (b == 1) = true := by simp [hb]
                    have h1 := HSTP.out.1 hb
                    simp only [Prod.mk.injEq] at h1
                    obtain ⟨rfl, rfl⟩ := h1
                    clear hb hwp hws hXb
                    go_wp2
                    go_quiet (fail)
                    go_wp2
                    go_meet
                    case rel => exact ⟨rfl, rfl, q + nq, by rw [HWX.out, World.drewN_drewN]⟩
                  · have hbb : (b == 1) = false := by simp [hb]
                    have h1 := HSTP.out.2 hb
                    simp only [Prod.mk.injEq] at h1
                    obtain ⟨rfl, rfl⟩ := h1
                    clear hb
                    go_wp2
                    go_meet
                    case rel => exact ⟨rfl, rfl, q, HWX.out⟩
                case rest =>
                  obtain ⟨rfl, rfl, q2, hwc⟩ := hcut
                  have hx1 : -1000 ≤ x1 ∧ x1 ≤ 1000 ∧ -1000 ≤ y1 ∧ y1 ≤ 1000 := by
                    by_cases hb : b = 1
                    · have h1 := HSTP.out.1 hb
                      simp only [Prod.mk.injEq] at h1
                      omega
                    · have h1 := HSTP.out.2 hb
                      simp only [Prod.mk.injEq] at h1
                      omega
                  obtain ⟨col2, hI2⟩ := lnI_below (W' := wc) HI.out (by rw [hwc]; exact below_drewN (Below.refl _ _) q2)
                  have HI2 := hide hI2
                  have hcA3 : wc.cell? ⟨gA, i, none⟩ = some (.int .i64 X) := by rw [hwc, ← HXX.out]; exact hcA
                  have HCA3 := hide hcA3
                  clear hI2 hwc HI HWX hcA hcB hcA2 hcB2 hwp hws hXb
                  obtain ⟨x2, y2, h2⟩ : ∃ x2 y2, cut2 X (x1, y1) = (x2, y2) := ⟨_, _, rfl⟩
                  rw [h2] at HDl HCUTl
                  obtain ⟨x3, y3, h3⟩ : ∃ x3 y3, cut3 (x2, y2) = (x3, y3) := ⟨_, _, rfl⟩
                  rw [h3] at HDl HCUTl
                  obtain ⟨x4, y4, h4⟩ : ∃ x4 y4, cut4 (x3, y3) = (x4, y4) := ⟨_, _, rfl⟩
                  rw [h4] at HDl HCUTl
                  have HH2 := hide h2
                  have HH3 := hide h3
                  have HH4 := hide h4
                  have hx3 : -1000 ≤ x2 ∧ x2 ≤ 1000 := by unfold cut2 at h2; split at h2 <;> (simp only [Prod.mk.injEq] at h2; omega)
                  have hx4 : -1000 ≤ x3 ∧ x3 ≤ 1000 := by unfold cut3 at h3; split at h3 <;> (simp only [Prod.mk.injEq] at h3; omega)
                  clear h2 h3 h4
                  go_upto_region 31 with fail
                  go_cut [135] from 70 to 184 (fun s135 wx => s135 = .bool (decide (X = 108 ∨ X = -108)) ∧ wx = wc)
                  case first =>
                    by_cases hX : X = 108
                    · have hXb : (X == 108) = true := by simp [hX]
                      have hd : decide (X = 108 ∨ X = -108) = true := decide_eq_true (.inl hX)
                      clear hX
                      go_wp2
                      go_meet
                      case rel => exact ⟨congrArg Value.bool hd.symm, rfl⟩
                    · have hXb : (X == 108) = false := by simp [hX]
                      by_cases hX2 : X = -108
                      · have hXb2 : (X == -108) = true := by simp [hX2]
                        have hd : decide (X = 108 ∨ X = -108) = true := decide_eq_true (.inr hX2)
                        clear hX hX2
                        go_wp2
                        go_meet
                        case rel => exact ⟨congrArg Value.bool hd.symm, rfl⟩
                      · have hXb2 : (X == -108) = false := by simp [hX2]
                        have hd : decide (X = 108 ∨ X = -108) = false := decide_eq_false (by omega)
                        clear hX hX2
                        go_wp2
                        go_meet
                        case rel => exact ⟨congrArg Value.bool hd.symm, rfl⟩
                  case rest =>
                    obtain ⟨rfl, hwc2⟩ := hcut
                    subst hwc2
                    go_upto_if 135 with fail
                    go_cut [25, 26] from 70 to 184 (fun s25 s26 wx => s25 = .int .i64 x2 ∧ s26 = .int .i64 y2 ∧ wx = wc)
                    case first =>
                      by_cases hX : X = 108 ∨ X = -108
                      · have hd : decide (X = 108 ∨ X = -108) = true := decide_eq_true hX
                        have h2 := HH2.out
                        unfold cut2 at h2
                        rw [if_pos hX] at h2
                        simp only [Prod.mk.injEq] at h2
                        obtain ⟨rfl, rfl⟩ := h2
                        rw [hd]
                        clear hX hd
                        go_wp2
                        go_meet
                        case rel => exact ⟨rfl, rfl, rfl⟩
                      · have hd : decide (X = 108 ∨ X = -108) = false := decide_eq_false hX
                        have h2 := HH2.out
                        unfold cut2 at h2
                        rw [if_neg hX] at h2
                        simp only [Prod.mk.injEq] at h2
                        obtain ⟨rfl, rfl⟩ := h2
                        rw [hd]
                        clear hX hd
                        go_wp2
                        go_meet
                        case rel => exact ⟨rfl, rfl, rfl⟩
                    case rest =>
                      obtain ⟨rfl, rfl, hwc2⟩ := hcut
                      subst hwc2
                      go_upto_if 142 with fail
                      go_cut [25, 26] from 70 to 184 (fun s25 s26 wx => s25 = .int .i64 x3 ∧ s26 = .int .i64 y3 ∧ wx = wc)
                      case first =>
                        by_cases hX : 108 ≤ x2
                        · have h2 := HH3.out
                          unfold cut3 at h2
                          rw [if_pos hX] at h2
                          simp only [Prod.mk.injEq] at h2
                          obtain ⟨rfl, rfl⟩ := h2
                          have hX2 : x2 ≥ 108 := hX
                          clear hx4
                          go_wp2
                          go_meet
                          case rel => exact ⟨rfl, rfl, rfl⟩
                        · have h2 := HH3.out
                          unfold cut3 at h2
                          rw [if_neg hX] at h2
                          simp only [Prod.mk.injEq] at h2
                          obtain ⟨rfl, rfl⟩ := h2
                          have hX2 : ¬ x2 ≥ 108 := hX
                          clear hx4
                          go_wp2
                          go_meet
                          case rel => exact ⟨rfl, rfl, rfl⟩
                      case rest =>
                        obtain ⟨rfl, rfl, hwc2⟩ := hcut
                        subst hwc2
                        go_upto_if 147 with fail
                        go_cut [25, 26] from 70 to 184 (fun s25 s26 wx => s25 = .int .i64 x4 ∧ s26 = .int .i64 y4 ∧ wx = wc)
                        case first =>
                          by_cases hX : x3 ≤ -108
                          · have h2 := HH4.out
                            unfold cut4 at h2
                            rw [if_pos hX] at h2
                            simp only [Prod.mk.injEq] at h2
                            obtain ⟨rfl, rfl⟩ := h2
                            go_wp2
                            go_meet
                            case rel => exact ⟨rfl, rfl, rfl⟩
                          · have h2 := HH4.out
                            unfold cut4 at h2
                            rw [if_neg hX] at h2
                            simp only [Prod.mk.injEq] at h2
                            obtain ⟨rfl, rfl⟩ := h2
                            go_wp2
                            go_meet
                            case rel => exact ⟨rfl, rfl, rfl⟩
                        case rest =>
                          obtain ⟨rfl, rfl, hwc2⟩ := hcut
                          subst hwc2
                          clear HH2 HH3 HH4 hx1 hx3 hx4
                          have hbd := lnIn_bd HCUTl.out
                          simp only at hbd
                          have hsp := (unspot_spot HCUTl.out).2
                          have hun := (unspot_spot HCUTl.out).1
                          rw [← HDl.out] at hsp hun
                          have hsv : (x4 + 108) * 217 + y4 + 108 = ((d sI l : Nat) : Int) := by
                            rw [HDl.out]
                            unfold spotN
                            show _ = ((((x4 + 108) * 217 + y4 + 108).toNat : Nat) : Int)
                            omega
                          have HUN := hide hun
                          have HRSl := hide (HRS.out l)
                          have HIDl := hide (HIDX.out l hlm)
                          have HRWl := hide (HRWI.out l hlm)
                          go_upto_region 41 with fail
                          clear hsv hbd hun HDl HCUTl hcA3 hxy hSn HSTP
                          generalize hspe : d sI l = sp at hsp HUN HRSl HIDl HRWl
                          have hnum := HI2.out.num.cell (i := sp) hsp
                          have hfr := HI2.out.num.frozen sp
                          have hspi : (sp : Int) < 47089 := by omega
                          have hRl : ((RW i).take l).length = l := by rw [List.length_take, HRWL.out]; omega
                          have HRO := hide HI2.out.ro.own
                          rw [List.length_map, hRl] at HRO
                          have HRL := hide hRl
                          have HTK : Hid ((RW i).take (l + 1) = (RW i).take l ++ [(RW i).getD l 0]) := by
                            have h1 := HRWL.out i
                            show _ = _
                            rw [List.take_succ_eq_append_getElem (by omega), getD_at _ l (by omega)]
                          have HSZ2 : Hid (wb.heap.size ≤ wc.heap.size) := HI2.out.bel.size
                          clear hRl
                          clear hspe
                          by_cases hin : sp ∈ rowG d OI sI l
                          · as_aux_lemma =>
                              rw [nmbS_pos hin] at hnum
                              have HAD : Hid (rowG d OI sI (l + 1) = rowG d OI sI l) := by show _ = _; rw [HRSl.out]; exact addG_old hin
                              rw [addG_old hin] at HIDl
                              rw [HRWl.out, ← HIDl.out] at HTK
                              have hix : (rowG d OI sI l).idxOf sp ≤ 47089 := Nat.le_trans List.idxOf_le_length hrb1
                              generalize (rowG d OI sI l).idxOf sp = ix at hnum HTK hix
                              have hne : (((ix : Nat) : Int) + 1 == 0) = false := by simp; omega
                              have HNR := hide (fun w3 o g' cap' k1 k2 k3 => @lnI_R wb wb.heap.size RW ES col2 (rowG d OI sI l) (rowG d OI sI l) (rowG d OI sI l) i i _ _ u18 u19 u21 vals ((RW i).take l) wc w3 o (ix : Int) l g' cap' HI2.out HRL.out k1 k2 k3)
                              clear hin
                              go_upto_region 45 with fail
                              clear hfr
                              go_wp2_with (at_builtin; refine wpList_append_lies _ rfl _ _ 40 rfl wb.heap.size 3 i0 (.int .i64 0) 1 8 Tryd.underlying40 hi0 hz0 hz1 hz2 rfl (by decide) u21 l _ rfl (HRO.out.alloc _) ⟨wc.heap.size, 0, none⟩ 1 1 [.int .i64 (ix : Int)] rfl rfl (one_new _ _ _) (fun u hu => by simp at hu; subst hu; rfl) (by omega) (by unfold maxLen; omega) (by omega) (by have := HSZ2.out; simp; omega) (wc.heap.size + 1) (by simp) ?_; intro gR cR w3 hown hgrow hat hlt; have HNX := hide (HNR.out w3 _ gR cR hown hgrow hat); clear hown hgrow hat hlt)
                              go_roundg (m - (l + 1))
                              case measure => have := HGL.out; omega
                              case rel => exact ⟨l + 1, rfl, by omega, by go_num, _, by rw [HAD.out, HTK.out]; exact HNX.out⟩
                          · as_aux_lemma =>
                              rw [nmbS_zero hin] at hnum
                              have HAD : Hid (rowG d OI sI (l + 1) = rowG d OI sI l ++ [sp]) := by show _ = _; rw [HRSl.out]; exact addG_new hin
                              have hidx : (rowG d OI sI l ++ [sp]).idxOf sp = (rowG d OI sI l).length := by rw [List.idxOf_append, if_neg hin]; simp
                              rw [addG_new hin, hidx] at HIDl
                              rw [HRWl.out, ← HIDl.out] at HTK
                              have HIN := hide hin
                              have HPA := hide (fun w3 o g' cap' k1 k2 k3 => @lnI_A wb wb.heap.size RW ES col2 (rowG d OI sI l) (rowG d OI sI l) (rowG d OI sI l) i i _ _ u18 u19 u21 vals ((RW i).take l) wc w3 o sp (rowG d OI sI l).length g' cap' HI2.out rfl k1 k2 k3)
                              simp only [HUN.out] at HPA
                              have HAO := hide HI2.out.at_.own
                              rw [List.length_map] at HAO
                              clear hidx hin
                              go_upto_region 43 with (at_builtin; refine wpList_append_lies _ rfl _ _ 40 rfl wb.heap.size 3 i0 (.int .i64 0) 1 8 Tryd.underlying40 hi0 hz0 hz1 hz2 rfl (by decide) (.slice (some ⟨gA, 0, none⟩) (rowG d OI sI l).length cA) (rowG d OI sI l).length _ rfl (HAO.out.alloc _) ⟨wc.heap.size, 0, none⟩ 1 1 [.int .i64 x4] rfl rfl (one_new _ _ _) (fun u hu => by simp at hu; subst hu; rfl) (by omega) (by unfold maxLen; omega) (by omega) (by have := HSZ2.out; simp; omega) (wc.heap.size + 1) (by simp) ?_; intro gA2 cA2 w5 hown hgrow hat hlt; have HIA := hide (HPA.out w5 _ gA2 cA2 hown hgrow hat); clear hown hgrow hat hlt)
                              have HPB := hide (fun w3 o g' cap' k1 k2 k3 => @lnI_B wb wb.heap.size RW ES _ (rowG d OI sI l) (rowG d OI sI l ++ [sp]) (rowG d OI sI l) i i _ _ u18 u19 u21 vals ((RW i).take l) w5 w3 o sp (rowG d OI sI l).length g' cap' HIA.out rfl k1 k2 k3)
                              simp only [HUN.out] at HPB
                              have HBO := hide HIA.out.low.own
                              rw [List.length_map] at HBO
                              have HSZ5 : Hid (wb.heap.size ≤ w5.heap.size) := HIA.out.bel.size
                              clear hnum hfr
                              go_upto_region 44 with (at_builtin; refine wpList_append_lies _ rfl _ _ 40 rfl wb.heap.size 3 i0 (.int .i64 0) 1 8 Tryd.underlying40 hi0 hz0 hz1 hz2 rfl (by decide) (.slice (some ⟨gB, 0, none⟩) (rowG d OI sI l).length cB) (rowG d OI sI l).length _ rfl (HBO.out.alloc _) ⟨w5.heap.size, 0, none⟩ 1 1 [.int .i64 y4] rfl rfl (one_new _ _ _) (fun u hu => by simp at hu; subst hu; rfl) (by omega) (by unfold maxLen; omega) (by omega) (by have := HSZ5.out; simp; omega) (w5.heap.size + 1) (by simp) ?_; intro gB2 cB2 w6 hown hgrow hat hlt; have HIB := hide (HPB.out w6 _ gB2 cB2 hown hgrow hat); clear hown hgrow hat hlt)
                              have hn6 := HIB.out.num.cell (i := sp) hsp
                              rw [nmbS_zero HIN.out] at hn6
                              have hf6 := HIB.out.num.frozen sp
                              have HIC := hide (lnI_num (s := sp) HIB.out HIN.out)
                              go_upto_region 45 with fail
                              clear hn6 hf6
                              generalize w6.setCell ⟨wb.heap.size, sp, none⟩ (.int .i64 (((rowG d OI sI l).length : Int) + 1)) = w7 at HIC ⊢
                              have hn7 := HIC.out.num.cell (i := sp) hsp
                              rw [nmbS_push HIN.out, if_pos rfl] at hn7
                              have HRO7 := hide HIC.out.ro.own
                              rw [List.length_map, HRL.out] at HRO7
                              have HSZ7 : Hid (wb.heap.size ≤ w7.heap.size) := HIC.out.bel.size
                              have HNR := hide (fun w3 o g' cap' k1 k2 k3 => @lnI_R wb wb.heap.size RW ES _ (rowG d OI sI l ++ [sp]) (rowG d OI sI l ++ [sp]) (rowG d OI sI l ++ [sp]) i i _ _ u18 u19 u21 vals ((RW i).take l) w7 w3 o ((rowG d OI sI l).length : Int) l g' cap' HIC.out HRL.out k1 k2 k3)
                              go_wp2_with (at_builtin; refine wpList_append_lies _ rfl _ _ 40 rfl wb.heap.size 3 i0 (.int .i64 0) 1 8 Tryd.underlying40 hi0 hz0 hz1 hz2 rfl (by decide) u21 l _ rfl (HRO7.out.alloc _) ⟨w7.heap.size, 0, none⟩ 1 1 [.int .i64 ((rowG d OI sI l).length : Int)] rfl rfl (one_new _ _ _) (fun u hu => by simp at hu; subst hu; rfl) (by omega) (by unfold maxLen; omega) (by omega) (by have := HSZ7.out; simp; omega) (w7.heap.size + 1) (by simp) ?_; intro gR cR w8 hown hgrow hat hlt; have HNX := hide (HNR.out w8 _ gR cR hown hgrow hat); clear hown hgrow hat hlt)
                              go_roundg (m - (l + 1))
                              case measure => have := HGL.out; omega
                              case rel => exact ⟨l + 1, rfl, by omega, by go_num, _, by rw [HAD.out, HTK.out]; exact HNX.out⟩
        · as_aux_lemma =>
            have hlmi : ¬ (l : Int) < (m : Int) := by omega
            obtain rfl : m = l := by omega
            have hRm : (RW i).take m = RW i := List.take_of_length_le (by rw [HRWL.out]; omega)
            rw [hRm] at HI
            have hRlen := HRWL.out i
            obtain ⟨gR, cR, hvR, -⟩ := owC_cell HI.out.ro (i := 0) (by rw [List.length_map]; omega)
            rw [List.length_map] at hvR
            subst hvR
            have hwf : ∀ z ∈ RW i, (Lit.int .i64 z).wf = true := fun z hz => by
              obtain ⟨j, hj, rfl⟩ := List.getElem_of_mem hz
              have h1 := HRWI.out j (by omega)
              rw [getD_at _ j hj] at h1
              rw [h1]
              have h2 := List.idxOf_le_length (a := d sI j) (l := rowG d OI sI m)
              exact Go.WalkArith.wf_i64 (by omega)
            have hown := HI.out.ro.own
            rw [List.length_map] at hown
            obtain ⟨ar, cr, ev, hsr⟩ := sl_of_owns rfl (by unfold maxLen; omega) hwf hown
            cases ev
            have HNN := hide (fun w3 o g' cap' k1 k2 k3 => @lnI_N wb wb.heap.size RW ES col (rowG d OI sI m) (rowG d OI sI m) (rowG d OI sI m) i i _ _ u18 u19 vals wr w3 o gR cR g' cap' HI.out hsr.1 k1 k2 k3)
            have HNO := hide HI.out.nx.own
            rw [HI.out.rw_.1] at HNO
            have HSZ1 : Hid (wb.heap.size ≤ wr.heap.size) := HI.out.bel.size
            rw [hRlen] at HNN ⊢
            clear hwf hown hsr hRm
            go_upto_region 47 with (at_builtin; refine wpList_append_lies _ rfl _ _ 22 rfl wb.heap.size 40 j0 (.slice none 0 0) 1 24 Tryd.underlying22 hj0 hy0 hy1 hy2 rfl (by decide) u18 i vals rfl (HNO.out.alloc _) ⟨wr.heap.size, 0, none⟩ 1 1 [.slice (some ⟨gR, 0, none⟩) m cR] rfl rfl (one_new _ _ _) (fun u hu => by simp at hu; subst hu; rfl) (by omega) (by unfold maxLen; omega) (by omega) (by have := HSZ1.out; simp; omega) (wr.heap.size + 1) (by simp) ?_; intro gN cN w5 hown hgrow hat hlt; have HIN := hide (HNN.out w5 _ gN cN hown hgrow hat); clear hown hgrow hat hlt)
            obtain ⟨gA', cA', hvA', hcA5⟩ := owC_cell HIN.out.at_ (i := i) (by rw [List.length_map]; exact hrb2)
            rw [List.length_map] at hvA'
            cases hvA'
            have hgt5 : (rowG d OI sI m)[i]? = some sI := by
              have := (HRB.out m (Nat.le_refl _)).2.2
              rw [List.getD, List.getElem?_eq_getElem hrb2] at this
              rw [List.getElem?_eq_getElem hrb2]
              exact congrArg some this
            rw [List.getElem?_map, hgt5] at hcA5
            simp only [Option.map_some] at hcA5
            have hxy := lnIn_bd HMI.out.1
            have HEN := hide HIN.out.en.own
            rw [List.length_map, List.length_range] at HEN
            have HSZ5 : Hid (wb.heap.size ≤ w5.heap.size) := HIN.out.bel.size
            have HPE := hide (fun w3 o g' cap' k1 k2 k3 => @lnI_E wb wb.heap.size RW ES _ (rowG d OI sI m) (rowG d OI sI m) (rowG d OI sI m) (i + 1) i _ _ _ u19 _ _ [] w5 w3 o g' cap' HIN.out k1 k2 k3)
            have hriL : (i : Int) < ((rowG d OI sI m).length : Int) := by omega
            clear hcA hcB hgt5
            generalize (unspot sI).1 = X at hcA5 HESI hxy
            generalize hev : ES i = ev at HPE HESI
            clear hev
            have h2 := HESI.out
            unfold lnEnd at h2
            cases less
            · simp only [Bool.false_eq_true, if_false] at h2
              by_cases hz : X + c = 0
              · rw [decide_eq_true hz] at h2
                subst h2
                have hzb : (X + c == 0) = true := by simp [hz]
                clear hz
                go_wp2_with (at_builtin; refine wpList_append_lies _ rfl _ _ 23 rfl wb.heap.size 4 l0 (.bool false) 1 1 Tryd.underlying23 hl0 hv0 hv1 hv2 rfl (by decide) u19 i _ rfl (HEN.out.alloc _) ⟨w5.heap.size, 0, none⟩ 1 1 [.bool true] rfl rfl (one_new _ _ _) (fun u hu => by simp at hu; subst hu; rfl) (by omega) (by unfold maxLen; omega) (by omega) (by have := HSZ5.out; simp; omega) (w5.heap.size + 1) (by simp) ?_; intro gE cE w6 hown hgrow hat hlt; have HNX := hide (HPE.out w6 _ gE cE hown hgrow hat); clear hown hgrow hat hlt)
                go_roundg (47090 - (i + 1))
                case measure => have := HGI.out; omega
                case rel => exact ⟨i + 1, rfl, by go_num, by rw [HSUC.out]; omega, _, _, by rw [HSUC.out]; exact HNX.out⟩
              · rw [decide_eq_false hz] at h2
                subst h2
                have hzb : (X + c == 0) = false := by simp [hz]
                clear hz
                go_wp2_with (at_builtin; refine wpList_append_lies _ rfl _ _ 23 rfl wb.heap.size 4 l0 (.bool false) 1 1 Tryd.underlying23 hl0 hv0 hv1 hv2 rfl (by decide) u19 i _ rfl (HEN.out.alloc _) ⟨w5.heap.size, 0, none⟩ 1 1 [.bool false] rfl rfl (one_new _ _ _) (fun u hu => by simp at hu; subst hu; rfl) (by omega) (by unfold maxLen; omega) (by omega) (by have := HSZ5.out; simp; omega) (w5.heap.size + 1) (by simp) ?_; intro gE cE w6 hown hgrow hat hlt; have HNX := hide (HPE.out w6 _ gE cE hown hgrow hat); clear hown hgrow hat hlt)
                go_roundg (47090 - (i + 1))
                case measure => have := HGI.out; omega
                case rel => exact ⟨i + 1, rfl, by go_num, by rw [HSUC.out]; omega, _, _, by rw [HSUC.out]; exact HNX.out⟩
            · simp only [if_true] at h2
              by_cases hz : X + c < 0
              · rw [decide_eq_true hz] at h2
                subst h2
                have hzb : decide (X + c < 0) = true := decide_eq_true hz
                go_wp2_with (at_builtin; refine wpList_append_lies _ rfl _ _ 23 rfl wb.heap.size 4 l0 (.bool false) 1 1 Tryd.underlying23 hl0 hv0 hv1 hv2 rfl (by decide) u19 i _ rfl (HEN.out.alloc _) ⟨w5.heap.size, 0, none⟩ 1 1 [.bool true] rfl rfl (one_new _ _ _) (fun u hu => by simp at hu; subst hu; rfl) (by omega) (by unfold maxLen; omega) (by omega) (by have := HSZ5.out; simp; omega) (w5.heap.size + 1) (by simp) ?_; intro gE cE w6 hown hgrow hat hlt; have HNX := hide (HPE.out w6 _ gE cE hown hgrow hat); clear hown hgrow hat hlt)
                go_roundg (47090 - (i + 1))
                case measure => have := HGI.out; omega
                case rel => exact ⟨i + 1, rfl, by go_num, by rw [HSUC.out]; omega, _, _, by rw [HSUC.out]; exact HNX.out⟩
              · rw [decide_eq_false hz] at h2
                subst h2
                have hzb : decide (X + c < 0) = false := decide_eq_false hz
                go_wp2_with (at_builtin; refine wpList_append_lies _ rfl _ _ 23 rfl wb.heap.size 4 l0 (.bool false) 1 1 Tryd.underlying23 hl0 hv0 hv1 hv2 rfl (by decide) u19 i _ rfl (HEN.out.alloc _) ⟨w5.heap.size, 0, none⟩ 1 1 [.bool false] rfl rfl (one_new _ _ _) (fun u hu => by simp at hu; subst hu; rfl) (by omega) (by unfold maxLen; omega) (by omega) (by have := HSZ5.out; simp; omega) (w5.heap.size + 1) (by simp) ?_; intro gE cE w6 hown hgrow hat hlt; have HNX := hide (HPE.out w6 _ gE cE hown hgrow hat); clear hown hgrow hat hlt)
                go_roundg (47090 - (i + 1))
                case measure => have := HGI.out; omega
                case rel => exact ⟨i + 1, rfl, by go_num, by rw [HSUC.out]; omega, _, _, by rw [HSUC.out]; exact HNX.out⟩
    · as_aux_lemma =>
        have hlti : ¬ (i : Int) < ((outG d m 23544 i).length : Int) := by omega
        have hEQ : (outG d m 23544 i).length = i := by omega
        obtain ⟨hf1, hf2, hf3, hf4⟩ := HFIN.out i hEQ
        obtain ⟨aN, cN, aE, cE, rfl, rfl, hsN, hsE⟩ := lnI_end HI.out (by unfold maxLen; omega) GN hf1 hf2 GE hf3 hf4
        have hRTi := HRT.out
        rw [hf1] at hRTi
        have HC := hide (hRTi wr aN cN aE cE hsN hsE)
        have HBW := hide HI.out.bel
        have HXR : Hid (wr.heap[w.heap.size]? = some (.cells #[.int .i64 0, .int .i64 0, .slice none 0 0, .slice none 0 0] 25 (0, 0))) := (HI.out.bel.block _ (by rw [HSZ0.out]; omega)).trans HX1.out
        have HSW : Hid (w.heap.size + 1 ≤ wr.heap.size) := by have := HI.out.bel.size; have := HSZ0.out; show _ ≤ _; omega
        clear hRTi hsN hsE hf1 hf2 hf3 hf4 hEQ
        go_wp2_with fail
        refine HC.out.mono ?_
        rintro e w3 (⟨hK, ax, cx, ax', cx', rfl, hnew, hb3⟩ | ⟨hK, ax, cx, ax', cx', rfl, hnew, hb3⟩)
        · have HK := hide hK
          have HNEW := hide hnew
          have HB3 := hide (below_step HB0.out (below_step HBW.out hb3))
          have hr := (hb3.block _ (by have := HSW.out; omega)).trans HXR.out
          obtain ⟨⟨r0, r1, r2, r3⟩, rf⟩ := box_cells hr
          have HR := hide hr
          clear hK hnew hb3 HC hr
          go_wp2
          obtain ⟨⟨hset, hsz, hoth⟩, hbel⟩ := box_set (v0 := .int .i64 b) (v1 := .int .i64 (n : Int)) (v2 := .slice ax LN.length cx) (v3 := .slice ax' LN.length cx') HR.out rfl
          obtain ⟨⟨z0, z1, z2, z3⟩, -⟩ := box_cells hset
          exact bodyPost_ret (v := .tuple #[.agg #[.int .i64 b, .int .i64 (n : Int), .slice ax LN.length cx, .slice ax' LN.length cx'], .int .i64 0]) (by simp [results, Tryd.results13, go_sem, z0, z1, z2, z3]) rfl (.inl ⟨HK.out, ax, cx, ax', cx', rfl, fun W' hW' => HNEW.out W' fun x hx hxl => by
            have h8 := HSW.out
            rw [hW' x (by omega) (by rw [hsz]; exact hxl), hoth x (by omega)], hbel _ _ HB3.out (by omega)⟩)
        · have HK := hide hK
          have HB3 := hide (below_step HB0.out (below_step HBW.out hb3))
          have hr := (hb3.block _ (by have := HSW.out; omega)).trans HXR.out
          obtain ⟨⟨r0, r1, r2, r3⟩, rf⟩ := box_cells hr
          have HR := hide hr
          have HNEW := hide hnew
          clear hK hnew hb3 HC hr
          go_wp2
          obtain ⟨⟨hset, hsz, hoth⟩, hbel⟩ := box_set (v0 := .int .i64 0) (v1 := .int .i64 0) (v2 := .slice ax 0 cx) (v3 := .slice ax' 0 cx') HR.out rfl
          obtain ⟨⟨z0, z1, z2, z3⟩, -⟩ := box_cells hset
          exact bodyPost_ret (v := .tuple #[.agg #[.int .i64 0, .int .i64 0, .slice ax 0 cx, .slice ax' 0 cx'], .int .i64 3]) (by simp [results, Tryd.results13, go_sem, z0, z1, z2, z3]) rfl (.inr ⟨HK.out, ax, cx, ax', cx', rfl, fun W' hW' => HNEW.out W' fun x hx hxl => by
            have h8 := HSW.out
            rw [hW' x (by omega) (by rw [hsz]; exact hxl), hoth x (by omega)], hbel _ _ HB3.out (by omega)⟩)
end Go.Proofs.YthadkoplbgibgaeDoor

/- The reference's LineOf at whatever it is given: contract. -/
namespace Go.Proofs.YthadkoplbgibgaeDoor
open Go.RowKit

set_option maxHeartbeats 4000000 in
set_option maxRecDepth 8000 in
theorem lineOf_bad (b : Int) (a : Option Addr) (n cap : Nat) (C : List Int) (c : Int) (less : Bool) (w : World) (hs : Sl w a n C) (hF : lnF b C c ≠ 0) :
    Calls Tryd.prog 13 #[.int .i64 b, .slice a n cap, .int .i64 c, .bool less] w (BothR w 0 0 [] [] (lnF b C c)) := by
  have HB0 := hide ((Below.refl w.heap.size w).alloc (Nat.le_refl _) (.cells #[.int .i64 0, .int .i64 0, .slice none 0 0, .slice none 0 0] 25))
  have HX1 := hide (heap_alloc_last w (.cells #[.int .i64 0, .int .i64 0, .slice none 0 0, .slice none 0 0] 25))
  generalize hwb : w.alloc (.cells #[.int .i64 0, .int .i64 0, .slice none 0 0, .slice none 0 0] 25) = wb at HB0 HX1
  have HLF := hide (lineFault_any b a n cap C c wb (sl_below hs HB0.out))
  have hFb : (lnF b C c == 0) = false := by simp [hF]
  unfold BothR
  clear hs hF
  generalize lnF b C c = cF at HLF hFb ⊢
  obtain ⟨⟨p0, p1, p2, p3⟩, pf⟩ := box_cells HX1.out
  go_enter Tryd.func13, Tryd.ntmps13
  go_wp2_with fail
  clear hwb
  refine HLF.out.mono ?_
  rintro e w' ⟨rfl, hw⟩
  rw [hw]
  clear hw w'
  go_wp2
  obtain ⟨⟨hset, -, -⟩, hbel⟩ := box_set (v0 := .int .i64 0) (v1 := .int .i64 0) (v2 := .slice none 0 0) (v3 := .slice none 0 0) HX1.out rfl
  obtain ⟨⟨z0, z1, z2, z3⟩, -⟩ := box_cells hset
  exact bodyPost_ret (v := .tuple #[.agg #[.int .i64 0, .int .i64 0, .slice none 0 0, .slice none 0 0], .int .i64 cF]) (by simp [results, Tryd.results13, go_sem, z0, z1, z2, z3]) rfl ⟨none, 0, none, 0, rfl, autoNew_nil _ _, hbel _ _ HB0.out (by omega)⟩
theorem lineOf_u (b : Int) (a : Option Addr) (n cap : Nat) (C : List Int) (c : Int) (less : Bool) (w : World) (hs : Sl w a n C) :
    Calls Tryd.prog 13 #[.int .i64 b, .slice a n cap, .int .i64 c, .bool less] w (BothR w (okI (lnC b C c less) b) (okI (lnC b C c less) (n : Int)) (lnN b C c less) (lnE b C c less) (lnC b C c less)) := by
  by_cases hF : lnF b C c = 0
  · refine (lineOf_ok b a n cap C c less w hs hF).mono ?_
    rintro e w' (⟨hK, h⟩ | ⟨hK, h⟩)
    · have hC : lnC b C c less = 0 := by unfold lnC; rw [if_pos hF, if_pos hK]
      unfold lnN lnE okI
      rw [if_pos hC, if_pos hC, if_pos hC, if_pos hC, hC]
      exact h
    · have hC : lnC b C c less = 3 := by unfold lnC; rw [if_pos hF, if_neg (by omega)]
      unfold lnN lnE okI
      rw [hC, if_neg (by decide), if_neg (by decide), if_neg (by decide), if_neg (by decide)]
      exact h
  · have hC : lnC b C c less = lnF b C c := by unfold lnC; rw [if_neg hF]
    unfold lnN lnE okI
    rw [hC, if_neg hF, if_neg hF, if_neg hF, if_neg hF]
    exact lineOf_bad b a n cap C c less w hs hF
end Go.Proofs.YthadkoplbgibgaeDoor

/- The law LineIs: its walk, from what package line answers. -/
namespace Go.Proofs.YthadkoplbgibgaeDoor
open Go.RowKit

set_option maxHeartbeats 16000000 in
set_option maxRecDepth 8000 in
theorem lineis_of (b : Int) (a : Option Addr) (n cap : Nat) (C : List Int) (c : Int) (less : Bool) (a2 : Option Addr) (n2 cap2 : Nat) (nums : List Int) (w : World) (hs : Sl w a n C) (hs2 : Sl w a2 n2 nums) (hg : Handle w) (hLN : LineSays) (hHD : HoldsSays) :
    Calls Tryd.prog 4 #[.int .i64 b, .slice a n cap, .int .i64 c, .bool less, .slice a2 n2 cap2] w fun e w' => e = .returned (.bool true) ∧ Below w.heap.size w w' := by
  have hL := hs.1
  have hL2 := hs2.1
  have hM2 := hs2.2.1
  unfold maxLen at hM2
  have HLO := hide (lineOf_u b a n cap C c less w hs)
  have HLN := hide (fun W h => hLN b a n cap C c less W h)
  have HHD := hide (fun W h1 h2 => hHD a n cap C c less a2 n2 cap2 nums W h1 h2)
  have HSO := hide (fun W h => sizeOf_any a n cap C W h)
  have HES := hide (fun k W (h : Handle W) => error_same k W h)
  have HAE := hide (fun bb tt a1 c1 e1 d1 a3 c3 e3 d3 W h1 g1 h2 g2 => autos_eq bb tt a1 (lnN b C c less).length c1 e1 (lnN b C c less).length d1 a3 c3 e3 d3 (lnN b C c less) (lnE b C c less) W h1 g1 h2 g2)
  have h13 := sizeI_12 C
  have HS := hide hs
  have HS2 := hide hs2
  have HG := hide hg
  unfold BothR at HLO
  unfold PairR at HLN
  clear hs hs2 hg hLN hHD
  generalize okI (lnC b C c less) b = b0 at HLO HLN
  generalize okI (lnC b C c less) (n : Int) = t0 at HLO HLN
  generalize lnC b C c less = cL at HLO HLN
  generalize lnN b C c less = NL at HLO HLN HAE
  generalize lnE b C c less = EL at HLO HLN HAE
  go_enter Tryd.func4, Tryd.ntmps4
  go_wp2_with fail
  refine HLO.out.mono ?_
  rintro e w1 ⟨ax, cx, ax', cx', rfl, hnew, hb1⟩
  obtain ⟨hA2, hbz⟩ := autoAt_pair (b := b0) (t := t0) (c := cx) (c' := cx') 25 hnew
  have HB2 := hide (below_step hb1 hbz)
  have HA2 := hide hA2
  clear hnew hb1 hbz hA2 HLO
  go_wp2_with fail
  generalize w1.alloc (.cells #[.int .i64 b0, .int .i64 t0, .slice ax NL.length cx, .slice ax' NL.length cx'] 25) = w2 at HB2 HA2 ⊢
  obtain ⟨X1, hX1⟩ : ∃ X1, X1 = w1.heap.size := ⟨_, rfl⟩
  rw [← hX1] at HA2 ⊢
  clear hX1
  refine (HLN.out w2 (sl_below HS.out HB2.out)).mono ?_
  rintro e w3 ⟨ay, cy, ay', cy', rfl, hnew, hb3⟩
  obtain ⟨hA4, hbz⟩ := autoAt_pair (b := b0) (t := t0) (c := cy) (c' := cy') 25 hnew
  have hb34 := below_step hb3 hbz
  have HB4 := hide (below_step HB2.out hb34)
  have HA4 := hide hA4
  have HA24 := hide (autoAt_below HA2.out hb34)
  clear hnew hb3 hbz hA4 hb34 HLN HA2 HB2
  go_wp2_with fail
  generalize w3.alloc (.cells #[.int .i64 b0, .int .i64 t0, .slice ay NL.length cy, .slice ay' NL.length cy'] 25) = w4 at HB4 HA4 HA24 ⊢
  obtain ⟨X3, hX3⟩ : ∃ X3, X3 = w3.heap.size := ⟨_, rfl⟩
  rw [← hX3] at HA4 ⊢
  clear hX3
  refine (HES.out cL w4 (HG.out.below HB4.out)).mono ?_
  rintro e w5 ⟨rfl, hb5⟩
  have HB5 := hide (below_step HB4.out hb5)
  obtain ⟨⟨p0, p1, p2, p3⟩, hs4, he4⟩ := autoAt_below HA4.out hb5
  obtain ⟨⟨q0, q1, q2, q3⟩, hs5, he5⟩ := autoAt_below HA24.out hb5
  have HC := hide (HAE.out b0 t0 ay cy ay' cy' ax cx ax' cx' w5 hs4 he4 hs5 he5)
  clear hb5 hs4 he4 hs5 he5 HAE HA4 HA24 HB4
  go_wp2_with fail
  refine HC.out.mono ?_
  rintro e w6 ⟨rfl, hb6⟩
  have HB6 := hide (below_step HB5.out hb6)
  have HS6 := hide (sl_below HS.out HB6.out)
  have HS26 := hide (sl_below HS2.out HB6.out)
  clear hb6 HC HB5 p0 p1 p2 p3 q0 q1 q2 q3
  have HSW := hide (HSO.out w6 HS6.out)
  go_upto_region 8 with fail
  go_cut [63] (fun s63 wx => s63 = .bool (decide (¬ ((n ≤ 5 ∧ absT C n ≤ 12) ∧ -60 ≤ c ∧ c ≤ 60))) ∧ wx = w6)
  case first =>
    rw [hL] at h13
    by_cases h5 : (n : Int) > 5
    · have hd : decide (¬ ((n ≤ 5 ∧ absT C n ≤ 12) ∧ -60 ≤ c ∧ c ≤ 60)) = true := decide_eq_true (by omega)
      clear h13
      go_wp2
      go_meet
      case rel => exact ⟨congrArg Value.bool hd.symm, rfl⟩
    · have h5' : decide ((n : Int) > 5) = false := decide_eq_false h5
      by_cases h12 : sizeI C > 12
      · have hd : decide (¬ ((n ≤ 5 ∧ absT C n ≤ 12) ∧ -60 ≤ c ∧ c ≤ 60)) = true := decide_eq_true (by omega)
        clear h13
        generalize sizeI C = sz at HSW h12
        go_wp2_with (go_at_call 15; refine HSW.out.mono ?_; rintro e w' ⟨rfl, hw⟩; rw [hw]; clear hw w')
        go_meet
        case rel => exact ⟨congrArg Value.bool hd.symm, rfl⟩
      · have h12' : decide (sizeI C > 12) = false := decide_eq_false h12
        by_cases h60 : c < -60
        · have hd : decide (¬ ((n ≤ 5 ∧ absT C n ≤ 12) ∧ -60 ≤ c ∧ c ≤ 60)) = true := decide_eq_true (by omega)
          clear h13
          generalize sizeI C = sz at HSW h12 h12'
          go_wp2_with (go_at_call 15; refine HSW.out.mono ?_; rintro e w' ⟨rfl, hw⟩; rw [hw]; clear hw w')
          go_meet
          case rel => exact ⟨congrArg Value.bool hd.symm, rfl⟩
        · have h60' : decide (c < -60) = false := decide_eq_false h60
          by_cases h61 : c > 60
          · have hd : decide (¬ ((n ≤ 5 ∧ absT C n ≤ 12) ∧ -60 ≤ c ∧ c ≤ 60)) = true := decide_eq_true (by omega)
            clear h13
            generalize sizeI C = sz at HSW h12 h12'
            go_wp2_with (go_at_call 15; refine HSW.out.mono ?_; rintro e w' ⟨rfl, hw⟩; rw [hw]; clear hw w')
            go_meet
            case rel => exact ⟨congrArg Value.bool hd.symm, rfl⟩
          · have h61' : decide (c > 60) = false := decide_eq_false h61
            have hd : decide (¬ ((n ≤ 5 ∧ absT C n ≤ 12) ∧ -60 ≤ c ∧ c ≤ 60)) = false := decide_eq_false (by omega)
            clear h13
            generalize sizeI C = sz at HSW h12 h12'
            go_wp2_with (go_at_call 15; refine HSW.out.mono ?_; rintro e w' ⟨rfl, hw⟩; rw [hw]; clear hw w')
            go_meet
            case rel => exact ⟨congrArg Value.bool hd.symm, rfl⟩
  case rest =>
    obtain ⟨rfl, hwc⟩ := hcut
    subst hwc
    clear HSW HSO h13
    obtain ⟨cF, hcF⟩ : ∃ cF : Int, cF = if (n ≤ 5 ∧ absT C n ≤ 12) ∧ -60 ≤ c ∧ c ≤ 60 then (if n2 = n then 0 else 2) else 1 := ⟨_, rfl⟩
    have HCF := hide hcF
    go_upto_if 63 with fail
    go_cut [12] (fun s12 wx => s12 = .int .i64 cF ∧ wx = wc)
    case first =>
      by_cases hO : (n ≤ 5 ∧ absT C n ≤ 12) ∧ -60 ≤ c ∧ c ≤ 60
      · have hd : decide (¬ ((n ≤ 5 ∧ absT C n ≤ 12) ∧ -60 ≤ c ∧ c ≤ 60)) = false := decide_eq_false (fun h => h hO)
        rw [if_pos hO] at hcF
        rw [hd]
        by_cases hn : n2 = n
        · have hnb : (((n2 : Nat) : Int) != ((n : Nat) : Int)) = false := by simp [hn]
          rw [if_pos hn] at hcF
          clear hn hO hd
          go_wp2
          go_meet
          case rel => exact ⟨by rw [hcF], rfl⟩
        · have hnb : (((n2 : Nat) : Int) != ((n : Nat) : Int)) = true := by simp; omega
          rw [if_neg hn] at hcF
          clear hn hO hd
          go_wp2
          go_meet
          case rel => exact ⟨by rw [hcF], rfl⟩
      · have hd : decide (¬ ((n ≤ 5 ∧ absT C n ≤ 12) ∧ -60 ≤ c ∧ c ≤ 60)) = true := decide_eq_true hO
        rw [if_neg hO] at hcF
        rw [hd]
        clear hO hd
        go_wp2
        go_meet
        case rel => exact ⟨by rw [hcF], rfl⟩
    case rest =>
      obtain ⟨rfl, hwc⟩ := hcut
      subst hwc
      have HHC : Hid (hdC C c nums = if cF = 0 then (if numOk nums = true then 0 else 1) else cF) := by
        show _ = _
        rw [hcF]
        unfold hdC
        rw [hL, hL2]
        by_cases hO : (n ≤ 5 ∧ absT C n ≤ 12) ∧ -60 ≤ c ∧ c ≤ 60
        · rw [if_pos hO, if_pos hO]
          by_cases hn : n2 = n
          · rw [if_pos hn, if_pos hn, if_pos rfl]
          · rw [if_neg hn, if_neg hn, if_neg (by decide)]
        · rw [if_neg hO, if_neg hO, if_neg (by decide)]
      have HOK : Hid (cF = 0 → n2 = n ∧ n ≤ 5 ∧ absT C C.length ≤ 12 ∧ -60 ≤ c ∧ c ≤ 60) := fun h => by
        rw [hcF] at h
        by_cases hO : (n ≤ 5 ∧ absT C n ≤ 12) ∧ -60 ≤ c ∧ c ≤ 60
        · rw [if_pos hO] at h
          by_cases hn : n2 = n
          · rw [hL]; exact ⟨hn, hO.1.1, hO.1.2, hO.2⟩
          · rw [if_neg hn] at h; omega
        · rw [if_neg hO] at h; omega
      have HHB : Hid (hdB C c less nums = if hdC C c nums = 0 then lnEnd c less (sumT C (fun i => nums.getD i 0) n) else false) := by show _ = _; unfold hdB; rw [hL]
      rw [HHB.out] at HHD
      generalize hdC C c nums = HC at HHD HHC
      have HL := hide hL
      have HL2 := hide hL2
      clear hcF HCF HHB hL hL2
      go_wp2
      go_loopg [12, 17, 18] (n2 + 1) (fun g s12 s17 s18 wx => ∃ k q : Nat, g = n2 + 1 - k ∧ k ≤ n2 ∧ s18 = .int .i64 k ∧ wx = wc.drewN q ∧ ((s12 = .int .i64 0 ∧ cF = 0 ∧ (∀ j, j < k → 0 ≤ nums.getD j 0 ∧ nums.getD j 0 ≤ 1099511627776) ∧ s17 = .int .i64 (c + sumT C (fun i => nums.getD i 0) k)) ∨ (s12 = .int .i64 HC ∧ HC ≠ 0 ∧ ∃ z : Int, s17 = .int .i64 z)))
      case atStart =>
        refine ⟨0, 0, rfl, by omega, rfl, rfl, ?_⟩
        by_cases h0 : cF = 0
        · exact .inl ⟨by rw [h0], h0, fun j hj => by omega, by simp [sumT]⟩
        · have := HHC.out
          rw [if_neg h0] at this
          exact .inr ⟨by rw [this], by rw [this]; exact h0, c, rfl⟩
      case round =>
        obtain ⟨k, q, hgk, hk, rfl, hwx, hrel⟩ := hrel
        have HGK := hide hgk
        have HWX := hide hwx
        have HBQ : Hid (Below wc.heap.size wc wr) := by show Below _ _ _; rw [hwx]; exact below_drewN (Below.refl _ _) q
        clear hgk hwx
        rcases hrel with ⟨rfl, hc0, hok, rfl⟩ | ⟨rfl, hHC, z, rfl⟩
        · obtain ⟨hnn, hn5, h12, hc60⟩ := HOK.out hc0
          have HNO := hide hok
          have hcl := HL.out
          have hnl := HL2.out
          have hfar := sum_far (C := C) (nums := nums) h12 (k := k) (by omega) hok
          have HC0 := hide hc0
          have HNN := hide hnn
          have H12 := hide h12
          have HNOT : Hid (∀ i, i < n2 → ¬ (0 ≤ nums.getD i 0 ∧ nums.getD i 0 ≤ 1099511627776) → HC = 1) := fun i hi h => by
            have := HHC.out
            rw [if_pos hc0, if_neg (numOk_not (i := i) (by omega) h)] at this
            exact this
          have HALL : Hid ((∀ i, i < n2 → 0 ≤ nums.getD i 0 ∧ nums.getD i 0 ≤ 1099511627776) → HC = 0) := fun h => by
            have := HHC.out
            rw [if_pos hc0, if_pos (numOk_of (fun i hi => h i (by omega)))] at this
            exact this
          have HMF : Hid (∀ y : Int, k < n2 → 0 ≤ y → y ≤ 1099511627776 → -13194139533312 ≤ C.getD k 0 * y ∧ C.getD k 0 * y ≤ 13194139533312) := fun y hk h0 h1 => mul_far (C := C) h12 (k := k) (by omega) h0 h1
          have HCL : Hid (k < n2 → k < n) := fun h => by omega
          clear hcl hnl hc0 hnn h12 HHC HOK
          by_cases hkl : k < n2
          · have hkli : (k : Int) < (n2 : Int) := by omega
            obtain ⟨b1, o1, rfl, hcx⟩ := sl_cell (sl_below HS26.out HBQ.out) k hkl
            obtain ⟨b2, o2, rfl, hcc⟩ := sl_cell (sl_below HS6.out HBQ.out) k (HCL.out hkl)
            have HX0 : Hid (nums.getD k 0 = nums.getD k 0) := rfl
            by_cases hx : nums.getD k 0 < 0
            · have HH1 := hide (HNOT.out k hkl (by omega))
              clear hfar hok HX0
              generalize nums.getD k 0 = x at hcx hx
              go_wp2
              go_roundg (n2 + 1 - (k + 1))
              case measure => have := HGK.out; omega
              case rel => exact ⟨k + 1, q, rfl, by omega, by go_num, HWX.out, .inr ⟨by rw [HH1.out], by rw [HH1.out]; decide, _, rfl⟩⟩
            · have hx' : decide (nums.getD k 0 < 0) = false := decide_eq_false hx
              by_cases hx2 : nums.getD k 0 > 1099511627776
              · have HH1 := hide (HNOT.out k hkl (by omega))
                clear hfar hok HX0
                generalize nums.getD k 0 = x at hcx hx hx' hx2
                go_wp2
                go_roundg (n2 + 1 - (k + 1))
                case measure => have := HGK.out; omega
                case rel => exact ⟨k + 1, q, rfl, by omega, by go_num, HWX.out, .inr ⟨by rw [HH1.out], by rw [HH1.out]; decide, _, rfl⟩⟩
              · have hx2' : decide (nums.getD k 0 > 1099511627776) = false := decide_eq_false hx2
                have hmf := HMF.out (nums.getD k 0) hkl (by omega) (by omega)
                have hkn : (k : Int) < (n : Int) := by have := HCL.out hkl; omega
                have HSS : Hid (sumT C (fun i => nums.getD i 0) (k + 1) = sumT C (fun i => nums.getD i 0) k + C.getD k 0 * nums.getD k 0) := rfl
                have HXB : Hid (0 ≤ nums.getD k 0 ∧ nums.getD k 0 ≤ 1099511627776) := ⟨by omega, by omega⟩
                clear hok HX0
                generalize sumT C (fun i => nums.getD i 0) k = SX at hfar HSS
                generalize hxv : nums.getD k 0 = x at hcx hx hx' hx2 hx2' hmf HSS HXB
                have HXV := hide hxv
                generalize C.getD k 0 = y at hcc hmf HSS
                have hwp : IntKind.i64.wrap (y * x) = y * x := by rw [IntKind.wrap_i64]; omega
                have hws : IntKind.i64.wrap (c + SX + y * x) = c + SX + y * x := by rw [IntKind.wrap_i64]; omega
                clear hmf hfar hxv
                go_wp2
                go_quiet (fail)
                go_wp2
                go_roundg (n2 + 1 - (k + 1))
                case measure => have := HGK.out; omega
                case rel => exact ⟨k + 1, q + nq, rfl, by omega, by go_num, by rw [HWX.out, World.drewN_drewN], .inl ⟨rfl, HC0.out, fun j hj => by
                  by_cases e : j = k
                  · subst e; rw [HXV.out]; exact HXB.out
                  · exact HNO.out j (by omega), by rw [HSS.out, ← Int.add_assoc]⟩⟩
          · have hkli : ¬ (k : Int) < (n2 : Int) := by omega
            obtain rfl : n2 = k := by omega
            have hH0 := HALL.out hok
            rw [hH0, if_pos rfl] at HHD
            clear hok hH0 hfar
            rw [show sumT C (fun i => nums.getD i 0) n2 = sumT C (fun i => nums.getD i 0) n by rw [HNN.out]]
            generalize sumT C (fun i => nums.getD i 0) n = SX at HHD ⊢
            have HE0 := hide (fun W h => HES.out 0 W h)
            rw [errV_zero] at HHD HE0
            obtain ⟨LB, hLB⟩ : ∃ LB, LB = lnEnd c less SX := ⟨_, rfl⟩
            rw [← hLB] at HHD
            have HLB := hide hLB
            clear hLB
            go_wp2_with fail
            refine (HHD.out _ (sl_below HS6.out HBQ.out) (sl_below HS26.out HBQ.out)).mono ?_
            rintro e w8 ⟨rfl, hb8⟩
            have HB8 := hide (below_step HB6.out (below_step HBQ.out hb8))
            clear hb8
            go_wp2_with fail
            refine (HE0.out w8 (HG.out.below HB8.out)).mono ?_
            rintro e w9 ⟨rfl, hb9⟩
            have HB9 := hide (below_step HB8.out hb9)
            clear hb9
            have h2 := HLB.out
            unfold lnEnd at h2
            clear HLB
            cases less
            · simp only [Bool.false_eq_true, if_false] at h2
              by_cases hz : c + SX = 0
              · have hzb : (c + SX == 0) = true := by simp [hz]
                rw [decide_eq_true (by omega)] at h2
                subst h2
                clear hz
                go_wp2
                go_ret
                exact ⟨by simp, HB9.out⟩
              · have hzb : (c + SX == 0) = false := by simp [hz]
                rw [decide_eq_false (by omega)] at h2
                subst h2
                clear hz
                go_wp2
                go_ret
                exact ⟨by simp, HB9.out⟩
            · simp only [if_true] at h2
              by_cases hz : c + SX < 0
              · have hzb : decide (c + SX < 0) = true := decide_eq_true hz
                rw [decide_eq_true (by omega)] at h2
                subst h2
                go_wp2
                go_ret
                exact ⟨by simp, HB9.out⟩
              · have hzb : decide (c + SX < 0) = false := decide_eq_false hz
                rw [decide_eq_false (by omega)] at h2
                subst h2
                go_wp2
                go_ret
                exact ⟨by simp, HB9.out⟩
        · have hHb : (HC == 0) = false := by simp [hHC]
          rw [if_neg hHC] at HHD
          by_cases hkl : k < n2
          · have hkli : (k : Int) < (n2 : Int) := by omega
            clear hHC HHC HOK
            go_wp2_with fail
            refine (HHD.out _ (sl_below HS6.out HBQ.out) (sl_below HS26.out HBQ.out)).mono ?_
            rintro e w8 ⟨rfl, hb8⟩
            have HB8 := hide (below_step HB6.out (below_step HBQ.out hb8))
            clear hb8
            go_wp2_with fail
            refine (HES.out HC w8 (HG.out.below HB8.out)).mono ?_
            rintro e w9 ⟨rfl, hb9⟩
            have HB9 := hide (below_step HB8.out hb9)
            clear hb9
            go_wp2
            go_ret
            exact ⟨by simp, HB9.out⟩
          · have hkli : ¬ (k : Int) < (n2 : Int) := by omega
            clear hHC HHC HOK
            go_wp2_with fail
            refine (HHD.out _ (sl_below HS6.out HBQ.out) (sl_below HS26.out HBQ.out)).mono ?_
            rintro e w8 ⟨rfl, hb8⟩
            have HB8 := hide (below_step HB6.out (below_step HBQ.out hb8))
            clear hb8
            go_wp2_with fail
            refine (HES.out HC w8 (HG.out.below HB8.out)).mono ?_
            rintro e w9 ⟨rfl, hb9⟩
            have HB9 := hide (below_step HB8.out hb9)
            clear hb9
            go_wp2
            go_ret
            exact ⟨by simp, HB9.out⟩
end Go.Proofs.YthadkoplbgibgaeDoor
