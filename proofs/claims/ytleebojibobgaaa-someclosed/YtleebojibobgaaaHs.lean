/- some.Closed, some.eachAlone: contracts. -/
import Derived.Test.YtleebojibobgaaaBy
import Derived.Test.YtleebojibobgaaaZGu
import Derived.Test.YtleebojibobgaaaZHk
import Derived.Test.YtleebojibobgaaaZNx
namespace Go.Proofs.Ytleebojibobgaaa
open Go.RowKit

set_option maxHeartbeats 4000000 in
set_option maxRecDepth 8000 in
theorem closed_saysH : ClosedSays := by
  intro b t a n cap a' k cap' N E w hs he
  have HB0 : Hid (Below w.heap.size w (w.alloc (.cells #[.int .i64 b, .int .i64 t, .slice a n cap, .slice a' k cap'] 25))) := (Below.refl _ _).alloc (Nat.le_refl _) _
  have hbx := box4 (w := w) (v0 := .int .i64 b) (v1 := .int .i64 t) (v2 := .slice a n cap) (v3 := .slice a' k cap') (T := 25) (Below.refl _ _)
  obtain ⟨p0, p1, p2, p3⟩ := hbx
  by_cases hA : autoC b t N k = 0
  · obtain ⟨hM, hk, hG, -⟩ := autoC_zero hA
    obtain rfl : k = n := by rw [hk, hs.1]
    have HC := hide (least_ok b t a k cap N a' cap' E _ (sl2_below hs HB0.out) (slB_below he HB0.out) hA)
    unfold LeastU at HC
    have hGL := least_good hG E
    have HFIN : Hid ((((leastN N E (manyU b t).toNat).getD 0 []).getD 0 0 == 0) = closedB b t N E k) := by
      show _ = _
      unfold closedB
      rw [hA]
      simp
    have HLP : Hid (0 < (leastN N E (manyU b t).toNat).length) := by rw [leastN_len]; exact hGL.2.1
    have HRP : Hid (((leastN N E (manyU b t).toNat).getD 0 []).length = (manyU b t).toNat ∧ 0 < (manyU b t).toNat) := ⟨(hGL.2.2.2.2.2 0 hGL.2.1).1, hGL.2.2.2.2.1⟩
    rw [hA, errV_zero]
    clear hs he hA hM hk hG hGL
    generalize hwb : w.alloc (.cells #[.int .i64 b, .int .i64 t, .slice a k cap, .slice a' k cap'] 25) = wb at HB0 HC p0 p1 p2 p3
    generalize leastN N E (manyU b t).toNat = LN at HC HFIN HLP HRP
    generalize leastE N E (manyU b t).toNat = LE at HC
    generalize closedB b t N E k = CB at HFIN ⊢
    go_enter Try.func10, Try.ntmps10
    go_wp2_with fail
    clear hwb p0 p1 p2 p3
    refine HC.out.mono ?_
    rintro e w1 ⟨a1, c1, a2, c2, rfl, hn1, hb1⟩
    have HB1 := hide (below_step HB0.out hb1)
    have hBA := (Below.refl w1.heap.size w1).alloc (Nat.le_refl _) (.cells #[.int .i64 b, .int .i64 t, .slice a1 LN.length c1, .slice a2 LN.length c2] 25)
    have HBA := hide (below_step HB1.out hBA)
    obtain ⟨b1, o1, ar, cr, rfl, hc1, hsr⟩ := sl2_cell (sl2_below hn1.here.1 hBA) 0 HLP.out
    obtain ⟨b2, o2, rfl, hc2⟩ := sl_cell hsr 0 (by rw [HRP.out.1]; exact HRP.out.2)
    rw [Nat.add_zero] at hc1 hc2
    have hlp : (0 : Int) < (LN.length : Int) := by have := HLP.out; omega
    have hrp : (0 : Int) < ((LN.getD 0 []).length : Int) := by have := HRP.out; omega
    clear hn1 hb1 hsr hBA
    generalize (LN.getD 0 []).getD 0 0 = z at hc2 HFIN
    generalize (LN.getD 0 []).length = ml at hc1 hrp
    go_wp2
    go_ret2
    exact ⟨by rw [← HFIN.out]; rfl, HBA.out⟩
  · have HC := hide (least_no b t a n cap N a' k cap' _ (sl2_below hs HB0.out) he.2.1 hA)
    have HFIN : Hid (closedB b t N E k = false) := by show _ = _; unfold closedB; simp [hA]
    rw [errV_no hA] at HC ⊢
    clear hs he
    generalize autoC b t N k = c at HC ⊢ hA
    clear hA
    generalize hwb : w.alloc (.cells #[.int .i64 b, .int .i64 t, .slice a n cap, .slice a' k cap'] 25) = wb at HB0 HC p0 p1 p2 p3
    generalize closedB b t N E k = CB at HFIN ⊢
    go_enter Try.func10, Try.ntmps10
    go_wp2_with fail
    clear hwb p0 p1 p2 p3
    refine HC.out.mono ?_
    rintro e w1 ⟨rfl, hb1⟩
    have HB1 := hide (below_step HB0.out hb1)
    have HBA := hide (HB1.out.alloc HB1.out.size (.cells #[.int .i64 0, .int .i64 0, .slice none 0 0, .slice none 0 0] 25))
    clear hb1
    go_wp2
    go_ret2
    exact ⟨by rw [HFIN.out]; rfl, HBA.out⟩

/-- A row of one number, laid into a row of rows. -/
theorem grdR_put {base g mu : Nat} {rows : Nat → List Int} {W : World} {vs : Nat → Value} {l : Nat} {x : Int} (h : GrdR base g mu rows W vs) (hl : l < mu) (hb : base ≤ W.heap.size) :
    ((W.alloc (.cells #[.int .i64 x] 3)).cell? ⟨g, l, none⟩ = some (vs l) ∧ (W.alloc (.cells #[.int .i64 x] 3)).frozen? ⟨g, l, none⟩ = false) ∧ GrdR base g mu (fun k => if k = l then [x] else rows k) ((W.alloc (.cells #[.int .i64 x] 3)).setCell ⟨g, l, none⟩ (.slice (some ⟨W.heap.size, 0, none⟩) 1 1)) (updV vs l (.slice (some ⟨W.heap.size, 0, none⟩) 1 1)) := by
  have hba := (Below.refl W.heap.size W).alloc (Nat.le_refl _) (.cells #[.int .i64 x] 3)
  have hr3 := h.row.of_block (hba.block g h.row.lt)
  have hgl := h.row.lt
  have hat := heap_alloc_last W (.cells #[.int .i64 x] 3)
  have hob : ∀ y, (Value.slice (some ⟨W.heap.size, 0, none⟩) 1 1).ownBlock = some y → W.heap.size = y := fun y e => by simpa [Value.ownBlock] using e
  refine ⟨⟨hr3.cell hl, hr3.frozen l⟩, ⟨(hr3.set l _).congr fun k _ => rfl, fun k hk => ?_, fun k hk => ?_, fun i k y hi hk h1 h2 => ?_⟩⟩
  · unfold updV
    by_cases e : k = l
    · simp only [if_pos e]
      refine ⟨rfl, .inr ⟨W.heap.size, 1, #[.int .i64 x], rfl, hb, ?_, Nat.le_refl _, by decide, rfl, rfl⟩⟩
      rw [Below.heap_setCell _ _ _ _ (show W.heap.size ≠ g by omega)]
      exact hat
    · simp only [if_neg e]
      refine ownsRow_of_block (h.own k hk) fun y hy => ?_
      rw [Below.heap_setCell _ _ _ _ (show y ≠ g from fun e2 => h.far k hk (e2 ▸ hy)), hba.block y ((h.own k hk).lt y hy).2]
  · unfold updV
    by_cases e : k = l
    · rw [if_pos e]; exact fun e => by have := hob _ e; omega
    · rw [if_neg e]; exact h.far k hk
  · unfold updV at h1 h2
    by_cases e1 : i = l
    · by_cases e2 : k = l
      · omega
      · rw [if_pos e1] at h1
        rw [if_neg e2] at h2
        have := hob _ h1
        have := ((h.own k hk).lt _ h2).2
        omega
    · by_cases e2 : k = l
      · rw [if_neg e1] at h1
        rw [if_pos e2] at h2
        have := hob _ h2
        have := ((h.own i hi).lt _ h1).2
        omega
      · rw [if_neg e1] at h1
        rw [if_neg e2] at h2
        exact h.apart i k y hi hk h1 h2
def aloneR (x : Nat) (l : Nat) : List Int := if l < x then [(l : Int)] else []
theorem alone_upd (x : Nat) (l : Nat) : (if l = x then [(x : Int)] else aloneR x l) = aloneR (x + 1) l := by
  unfold aloneR
  by_cases e : l = x
  · subst e; rw [if_pos rfl, if_pos (by omega)]
  · rw [if_neg e]
    by_cases e2 : l < x
    · rw [if_pos e2, if_pos (by omega)]
    · rw [if_neg e2, if_neg (by omega)]
def AloneU (w : World) (m : Nat) (e : Ending) (w' : World) : Prop := ∃ g, e = .returned (.slice (some ⟨g, 0, none⟩) m m) ∧ Sl2 w' (some ⟨g, 0, none⟩) m (sglR m) ∧ Below w.heap.size w w'
set_option maxHeartbeats 4000000 in
set_option maxRecDepth 8000 in
theorem eachAlone_any (b t : Int) (a : Option Addr) (n cap : Nat) (a' : Option Addr) (k' cap' : Nat) (m : Nat) (N : List (List Int)) (w : World) (hs : Sl2 w a n N) (hG : GoodN m n N) :
    Calls Try.prog 23 #[.agg #[.int .i64 b, .int .i64 t, .slice a n cap, .slice a' k' cap']] w (AloneU w m) := by
  have hn1 := hG.2.1
  have hm36 := hG.2.2.2.1
  have hmk := make_rows m (by omega)
  have HBX : Hid (Below w.heap.size w (w.alloc (.cells #[.int .i64 b, .int .i64 t, .slice a n cap, .slice a' k' cap'] 25))) := (Below.refl _ _).alloc (Nat.le_refl _) _
  have hbx := box4 (w := w) (v0 := .int .i64 b) (v1 := .int .i64 t) (v2 := .slice a n cap) (v3 := .slice a' k' cap') (T := 25) (Below.refl _ _)
  obtain ⟨p0, p1, p2, p3⟩ := hbx
  have hR0 := (hG.2.2.2.2.2 0 (by omega)).1
  obtain ⟨b1, o1, a1, c1, rfl, hc1, -⟩ := sl2_cell (sl2_below hs HBX.out) 0 (by omega)
  rw [hR0, Nat.add_zero] at hc1
  clear hs hG hR0
  generalize hwb : w.alloc (.cells #[.int .i64 b, .int .i64 t, .slice (some ⟨b1, o1, none⟩) n cap, .slice a' k' cap'] 25) = wb at HBX p0 p1 p2 p3 hc1
  have H0 := hide (grdR_start wb m wb.heap.size (aloneR 0) (fun l _ => by simp [aloneR]))
  have HB0 : Hid (Below wb.heap.size wb (wb.alloc (.cells (madeCells #[.slice none 0 0] m) 26))) := (Below.refl _ _).alloc (Nat.le_refl _) _
  have HEND : Hid (∀ (W : World) (vs : Nat → Value), GrdR wb.heap.size wb.heap.size m (aloneR m) W vs → Below wb.heap.size wb W → AloneU w m (.returned (.slice (some ⟨wb.heap.size, 0, none⟩) m m)) W) := fun W vs h1 h2 =>
    ⟨wb.heap.size, rfl, grdR_end h1 (by unfold maxLen; omega) (fun l hl => by simp [aloneR, hl, maxLen]) (fun l hl x hx => by
      simp only [aloneR, if_pos hl, List.mem_singleton] at hx
      rw [hx]; exact Go.WalkArith.wf_i64 (by omega)) _ (sglR_len m) (fun l hl => by rw [sglR_get hl]; simp [aloneR, hl]), HBX.out.trans (h2.mono HBX.out.size)⟩
  go_enter Try.func23, Try.ntmps23
  go_wp2_with fail
  clear hwb p0 p1 p2 p3 hc1
  generalize wb.alloc (.cells (madeCells #[.slice none 0 0] m) 26) = W0 at H0 HB0 ⊢
  go_loopw [13] (fun u wx => ∃ x : Nat, x ≤ m ∧ u = .int .i64 x ∧ ∃ vs, GrdR wb.heap.size wb.heap.size m (aloneR x) wx vs ∧ Below wb.heap.size wb wx) (fun u _ => m - (intOf u).toNat)
  case atStart => exact ⟨0, by omega, rfl, _, H0.out, HB0.out⟩
  case round =>
    obtain ⟨x, hx, rfl, vs, hgr, hbw⟩ := hrel
    have HGR := hide hgr
    have HBW := hide hbw
    clear hgr hbw
    by_cases hlt : x < m
    · have hlti : (x : Int) < (m : Int) := by omega
      obtain ⟨⟨hc, hf⟩, hn⟩ := grdR_put (x := (x : Int)) HGR.out hlt HBW.out.size
      have HN := hide (grdR_congr (rows' := aloneR (x + 1)) hn (fun l _ => alone_upd x l))
      have HB2 : Hid (Below wb.heap.size wb ((wr.alloc (.cells #[.int .i64 (x : Int)] 3)).setCell ⟨wb.heap.size, x, none⟩ (.slice (some ⟨wr.heap.size, 0, none⟩) 1 1))) := (HBW.out.alloc HBW.out.size _).setCell (Nat.le_refl _) _
      clear hn
      go_wp2
      go_roundw
      case rel => exact ⟨x + 1, by omega, by go_num, _, HN.out, HB2.out⟩
      case measure => simp [intOf]; omega
    · have hlti : ¬ (x : Int) < (m : Int) := by omega
      obtain rfl : x = m := by omega
      go_wp2
      go_ret
      exact HEND.out _ vs HGR.out HBW.out
end Go.Proofs.Ytleebojibobgaaa
