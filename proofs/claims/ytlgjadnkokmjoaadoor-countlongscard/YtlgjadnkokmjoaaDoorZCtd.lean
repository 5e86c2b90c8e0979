/- 5 texts in one. -/
import Derived.Deep.CutRange
import Derived.Deep.AppendLies
import Derived.Test.YtlgjadnkokmjoaaDoorZCtc
import Derived.Test.YtlgjadnkokmjoaaDoorZNx
import Derived.Test.YtlgjadnkokmjoaaDoorZRu
/- Squares of numbers, row by row; count.atFirst, allLetters, leads: contracts. -/
namespace Go.Proofs.YtlgjadnkokmjoaaDoor
open Go.RowKit

/-- A square of rows, each in a block of its own, one behind the other: q of n rows. -/
def SqAt (w : World) (n : Nat) (R : Nat → Nat → Int) (q : Nat) (wx : World) : Prop :=
  wx.heap.size = w.heap.size + 1 + q ∧ (wx.rowIs w.heap.size 35 n fun j => if j < q then .slice (some ⟨w.heap.size + 1 + j, 0, none⟩) n n else .slice none 0 0) ∧ (∀ j, j < q → wx.rowIs (w.heap.size + 1 + j) 3 n fun t => .int .i64 (R j t)) ∧ Below w.heap.size w wx
theorem sqAt_start (w : World) (n : Nat) (R : Nat → Nat → Int) : SqAt w n R 0 (w.alloc (.cells (madeCells #[.slice none 0 0] n) 35)) :=
  ⟨by simp, (World.rowIs_made w (.slice none 0 0) n 35).congr fun p _ => by rw [if_neg (by omega)], fun j hj => by omega, (Below.refl _ _).alloc (Nat.le_refl _) _⟩
theorem sqAt_congr {w : World} {n : Nat} {R R' : Nat → Nat → Int} {q : Nat} {wx : World} (h : SqAt w n R q wx) (e : ∀ j t, j < q → t < n → R j t = R' j t) : SqAt w n R' q wx :=
  ⟨h.1, h.2.1, fun j hj => (h.2.2.1 j hj).congr fun t ht => by rw [e j t hj ht], h.2.2.2⟩
theorem sqAt_row {w : World} {n : Nat} {R : Nat → Nat → Int} {q : Nat} {wx : World} (h : SqAt w n R q wx) :
    SqAt w n (fun j t => if j = q then 0 else R j t) (q + 1) ((wx.alloc (.cells (madeCells #[.int .i64 0] n) 3)).setCell ⟨w.heap.size, q, none⟩ (.slice (some ⟨wx.heap.size, 0, none⟩) n n)) := by
  obtain ⟨h1, h2, h3, h4⟩ := h
  have hba := (Below.refl wx.heap.size wx).alloc (Nat.le_refl _) (.cells (madeCells #[.int .i64 0] n) 3)
  have hr2 := h2.of_block (hba.block _ h2.lt)
  refine ⟨by simp; omega, (hr2.set q _).congr fun j _ => ?_, fun j hj => ?_, (below_step h4 hba).setCell (Nat.le_refl _) _⟩
  · by_cases e : j = q
    · subst e; rw [if_pos rfl, if_pos (by omega), h1]
    · rw [if_neg e]
      by_cases e2 : j < q
      · rw [if_pos e2, if_pos (by omega)]
      · rw [if_neg e2, if_neg (by omega)]
  · by_cases e : j = q
    · subst e
      have hm := World.rowIs_made wx (.int .i64 0) n 3
      rw [h1] at hm
      refine (hm.setOther (by show w.heap.size + 1 + j ≠ w.heap.size; omega) _).congr fun t _ => ?_
      show Value.int .i64 0 = .int .i64 (if j = j then 0 else R j t)
      rw [if_pos rfl]
    · have hj2 : j < q := by omega
      refine (((h3 j hj2).of_block (hba.block _ (h3 j hj2).lt)).setOther (by show w.heap.size + 1 + j ≠ w.heap.size; omega) _).congr fun t _ => ?_
      show Value.int .i64 (R j t) = .int .i64 (if j = q then 0 else R j t)
      rw [if_neg e]
theorem sqAt_put {w : World} {n : Nat} {R : Nat → Nat → Int} {q : Nat} {wx : World} (h : SqAt w n R q wx) {s t : Nat} (v : Int) (hs : s < q) :
    SqAt w n (fun j t' => if j = s ∧ t' = t then v else R j t') q (wx.setCell ⟨w.heap.size + 1 + s, t, none⟩ (.int .i64 v)) := by
  obtain ⟨h1, h2, h3, h4⟩ := h
  refine ⟨by simp; exact h1, h2.setOther (by show w.heap.size ≠ w.heap.size + 1 + s; omega) _, fun j hj => ?_, h4.setCell (by show _ ≤ w.heap.size + 1 + s; omega) _⟩
  by_cases e : j = s
  · subst e
    refine ((h3 j hj).set t _).congr fun i _ => ?_
    show (if i = t then Value.int .i64 v else .int .i64 (R j i)) = .int .i64 (if j = j ∧ i = t then v else R j i)
    by_cases e2 : i = t
    · rw [if_pos e2, if_pos ⟨rfl, e2⟩]
    · rw [if_neg e2, if_neg (fun h => e2 h.2)]
  · refine ((h3 j hj).setOther (by show w.heap.size + 1 + j ≠ w.heap.size + 1 + s; omega) _).congr fun i _ => ?_
    show Value.int .i64 (R j i) = .int .i64 (if j = s ∧ i = t then v else R j i)
    rw [if_neg (fun h => e h.1)]
theorem sqAt_end {w : World} {n : Nat} {R : Nat → Nat → Int} {wx : World} (h : SqAt w n R n wx) (hn : n ≤ 1000) (S : List (List Int)) (hS : S.length = n) (hr : ∀ s, s < n → (S.getD s []).length = n ∧ ∀ t, t < n → (S.getD s []).getD t 0 = R s t ∧ 0 ≤ R s t ∧ R s t ≤ 1152921504606846977) : Sl2 wx (some ⟨w.heap.size, 0, none⟩) n S := by
  obtain ⟨h1, h2, h3, h4⟩ := h
  refine ⟨hS, by unfold maxLen; omega, Or.inr ⟨_, _, rfl, fun i hi => ?_⟩⟩
  have hc := h2.cell hi
  rw [if_pos hi] at hc
  obtain ⟨e1, e2⟩ := hr i hi
  refine ⟨some ⟨w.heap.size + 1 + i, 0, none⟩, n, by rw [Nat.zero_add, e1]; exact hc, ?_⟩
  rw [e1]
  refine sl_of_rowIs e1 (by unfold maxLen; omega) (fun x hx => ?_) ((h3 i hi).congr fun t ht => by rw [(e2 t ht).1])
  obtain ⟨t, ht, rfl⟩ := List.getElem_of_mem hx
  have := e2 t (by omega)
  rw [getD_at _ _ ht] at this
  rw [this.1]
  exact WalkArith.wf_i64 (by omega)
/-- The numbers below m. -/
def rngL (m : Nat) : List Int := (List.range m).map fun x : Nat => (x : Int)
theorem rngL_len (m : Nat) : (rngL m).length = m := by simp [rngL]
theorem rngL_get {m x : Nat} (h : x < m) : (rngL m).getD x 0 = (x : Int) := by simp [rngL, List.getD, h]
set_option maxHeartbeats 2000000 in
set_option maxRecDepth 4000 in
theorem atFirst_any (b t : Int) (a : Option Addr) (n cap : Nat) (a' : Option Addr) (k' cap' : Nat) (w : World) (h0 : 0 < n) (hn : n ≤ 1000) :
    Calls Tryd.prog 23 #[.agg #[.int .i64 b, .int .i64 t, .slice a n cap, .slice a' k' cap']] w (NewRow w (fst0L n)) := by
  have hmk := make_ints n (by omega)
  have hBX : Below w.heap.size w (w.alloc (.cells #[.int .i64 b, .int .i64 t, .slice a n cap, .slice a' k' cap'] 25)) := (Below.refl _ _).alloc (Nat.le_refl _) _
  have hsz : (w.alloc (.cells #[.int .i64 b, .int .i64 t, .slice a n cap, .slice a' k' cap'] 25)).heap.size = w.heap.size + 1 := by simp
  have hmade := World.rowIs_made (w.alloc (.cells #[.int .i64 b, .int .i64 t, .slice a n cap, .slice a' k' cap'] 25)) (.int .i64 0) n 3
  rw [hsz] at hmade
  have HM := hide hmade
  have HBM := hide (hBX.alloc hBX.size (.cells (madeCells #[.int .i64 0] n) 3))
  clear hBX hmade hsz
  go_enter Tryd.func23, Tryd.ntmps23
  go_upto_region 2 with fail
  generalize (w.alloc (.cells #[.int .i64 b, .int .i64 t, .slice a n cap, .slice a' k' cap'] 25)).alloc (.cells (madeCells #[.int .i64 0] n) 3) = W2 at HM HBM ⊢
  have hcell := HM.out.cell h0
  have hfz := HM.out.frozen 0
  go_wp2
  go_ret
  refine ⟨w.heap.size + 1, by rw [fst0L_len]; rfl, by omega, ?_, HBM.out.setCell (by show w.heap.size ≤ w.heap.size + 1; omega) _⟩
  rw [fst0L_len]
  refine (HM.out.set 0 _).congr fun j hj => ?_
  rw [fst0L_get hj]
  by_cases e : j = 0
  · rw [if_pos e, if_pos e]
  · rw [if_neg e, if_neg e]
set_option maxHeartbeats 4000000 in
set_option maxRecDepth 4000 in
theorem allLetters_any (b t : Int) (a : Option Addr) (n cap : Nat) (a' : Option Addr) (k' cap' : Nat) (N : List (List Int)) (m : Nat) (w : World) (hs : Sl2 w a n N) (hG : 0 < n) (hm : (N.getD 0 []).length = m) (h36 : m ≤ 36) :
    Calls Tryd.prog 22 #[.agg #[.int .i64 b, .int .i64 t, .slice a n cap, .slice a' k' cap']] w (NewRow w (rngL m)) := by
  have hmk := make_ints m (by omega)
  have hBX : Below w.heap.size w (w.alloc (.cells #[.int .i64 b, .int .i64 t, .slice a n cap, .slice a' k' cap'] 25)) := (Below.refl _ _).alloc (Nat.le_refl _) _
  have H0 := hide (fillAt_start (w.alloc (.cells #[.int .i64 b, .int .i64 t, .slice a n cap, .slice a' k' cap'] 25)) (rngL m) m)
  obtain ⟨bn, on, an, cn, rfl, hcn, -⟩ := sl2_cell (sl2_below hs hBX) 0 hG
  rw [hm, Nat.add_zero] at hcn
  have HBX := hide hBX
  have HSZ : Hid ((w.alloc (.cells #[.int .i64 b, .int .i64 t, .slice (some ⟨bn, on, none⟩) n cap, .slice a' k' cap'] 25)).heap.size = w.heap.size + 1) := by show _ = _; simp
  have hni : (0 : Int) < (n : Int) := by omega
  clear hs hm hBX
  go_enter Tryd.func22, Tryd.ntmps22
  go_upto_region 2 with fail
  clear hcn
  generalize w.alloc (.cells #[.int .i64 b, .int .i64 t, .slice (some ⟨bn, on, none⟩) n cap, .slice a' k' cap'] 25) = wb at H0 HBX HSZ ⊢
  generalize hW0 : wb.alloc (.cells (madeCells #[.int .i64 0] m) 3) = w0 at H0 ⊢
  clear hW0
  go_wp2
  go_loopw [13] (fun i wx => ∃ k : Nat, k ≤ m ∧ i = .int .i64 k ∧ FillAt wb (rngL m) m k wx) (fun i _ => m - (intOf i).toNat)
  case atStart => exact ⟨0, by omega, rfl, H0.out⟩
  case round =>
    obtain ⟨k, hk, rfl, hfl⟩ := hrel
    have HFL := hide hfl
    have hsz := HSZ.out
    by_cases hlt : k < m
    · have hlti : (k : Int) < (m : Int) := by omega
      have hcell := hfl.1.cell hlt
      have hfz := hfl.1.frozen k
      have hnx := fillAt_step hfl
      rw [if_neg (Nat.lt_irrefl _)] at hcell
      rw [rngL_get hlt] at hnx
      rw [hsz] at hcell hfz hnx
      have HNX := hide hnx
      clear hfl hnx
      go_wp2
      go_roundw
      case rel => exact ⟨k + 1, by omega, by go_num, HNX.out⟩
      case measure => simp [intOf]; omega
    · have hlti : ¬ (k : Int) < (m : Int) := by omega
      obtain rfl : m = k := by omega
      have HR := hide (hfl.1.congr fun i hi => by rw [if_pos hi])
      rw [hsz] at HR
      clear hfl
      go_wp2
      go_ret
      exact ⟨w.heap.size + 1, by rw [rngL_len]; rfl, by omega, by rw [rngL_len]; exact HR.out, below_step HBX.out HFL.out.2⟩
end Go.Proofs.YtlgjadnkokmjoaaDoor

/- count.leads: contract. -/
namespace Go.Proofs.YtlgjadnkokmjoaaDoor
open Go.RowKit

/-- How many of the first k letters lead from s to t. -/
def dgT (N : List (List Int)) (ls : List Int) (s k t : Nat) : Int := csum (fun j => if t = nxA N s (ls.getD j 0) then 1 else 0) k
theorem dgT_all (N : List (List Int)) (ls : List Int) (s t : Nat) : dgT N ls s ls.length t = dgN N ls s t := rfl
theorem dgT_step (N : List (List Int)) (ls : List Int) (s k t : Nat) : dgT N ls s (k + 1) t = dgT N ls s k t + if t = nxA N s (ls.getD k 0) then 1 else 0 := rfl
theorem dgT_bd (N : List (List Int)) (ls : List Int) (s k t : Nat) : 0 ≤ dgT N ls s k t ∧ dgT N ls s k t ≤ k :=
  ⟨csum_nn fun i _ => by split <;> omega, csum_ones fun i _ => by split <;> omega⟩
theorem rowIs_eq {W : World} {g : Nat} {T : TypeId} {n : Nat} {f : Nat → Value} (h : W.rowIs g T n f) {i : Nat} (hi : i < n) {v : Value} (e : f i = v) : W.cell? ⟨g, i, none⟩ = some v := by rw [← e]; exact h.cell hi
def SqR (w : World) (n : Nat) (R : Nat → Nat → Int) (e : Ending) (w' : World) : Prop := e = .returned (.slice (some ⟨w.heap.size + 1, 0, none⟩) n n) ∧ ∃ wb : World, wb.heap.size = w.heap.size + 1 ∧ Below w.heap.size w wb ∧ SqAt wb n R n w'
theorem sqAt_drew {w : World} {n : Nat} {R : Nat → Nat → Int} {q : Nat} {wx : World} (h : SqAt w n R q wx) : SqAt w n R q wx.drew := ⟨h.1, h.2.1, h.2.2.1, h.2.2.2.drew⟩
def OkLs (N : List (List Int)) (n : Nat) (ls : List Int) : Prop := ∀ s, s < n → ∀ j, j < ls.length → 0 ≤ ls.getD j 0 ∧ (ls.getD j 0).toNat < (N.getD s []).length ∧ 0 ≤ (N.getD s []).getD (ls.getD j 0).toNat 0 ∧ (N.getD s []).getD (ls.getD j 0).toNat 0 < (n : Int)
set_option maxHeartbeats 8000000 in
set_option maxRecDepth 8000 in
theorem leads_any (b t : Int) (a : Option Addr) (n cap : Nat) (a' : Option Addr) (k' cap' : Nat) (N : List (List Int)) (al : Option Addr) (kl cl : Nat) (ls : List Int) (w : World) (hs : Sl2 w a n N) (hl : Sl w al kl ls) (hn : n ≤ 1000) (h36 : kl ≤ 36) (hx : OkLs N n ls) :
    Calls Tryd.prog 21 #[.agg #[.int .i64 b, .int .i64 t, .slice a n cap, .slice a' k' cap'], .slice al kl cl] w (SqR w n (dgN N ls)) := by
  have hmr := make_rows n (by omega)
  have hmk := make_ints n (by omega)
  have hll := hl.1
  have hBX : Below w.heap.size w (w.alloc (.cells #[.int .i64 b, .int .i64 t, .slice a n cap, .slice a' k' cap'] 25)) := (Below.refl _ _).alloc (Nat.le_refl _) _
  have HBX := hide hBX
  have HAT := hide (fun w' => @box4 w w' (.int .i64 b) (.int .i64 t) (.slice a n cap) (.slice a' k' cap') 25)
  have HS := hide (sl2_below hs hBX)
  have HL := hide (sl_below hl hBX)
  have HSZ : Hid ((w.alloc (.cells #[.int .i64 b, .int .i64 t, .slice a n cap, .slice a' k' cap'] 25)).heap.size = w.heap.size + 1) := by show _ = _; simp
  generalize hwb : w.alloc (.cells #[.int .i64 b, .int .i64 t, .slice a n cap, .slice a' k' cap'] 25) = wb at HBX HAT HS HL HSZ
  have H0 := hide (sqAt_start wb n (dgN N ls))
  have HX := hide hx
  have HLL : Hid (ls.length = kl) := hll
  obtain ⟨p0, p1, p2, p3⟩ := HAT.out wb (Below.refl _ _)
  have hBM := (Below.refl wb.heap.size wb).alloc (Nat.le_refl _) (.cells (madeCells #[.slice none 0 0] n) 35)
  obtain ⟨q0, q1, q2, q3⟩ := HAT.out _ hBM
  have HEND : Hid (∀ W, SqAt wb n (dgN N ls) n W → SqR w n (dgN N ls) (.returned (.slice (some ⟨wb.heap.size, 0, none⟩) n n)) W) := fun W h => ⟨by rw [HSZ.out], wb, HSZ.out, HBX.out, h⟩
  clear hs hl hx hBX hBM hll
  go_enter Tryd.func21, Tryd.ntmps21
  go_wp2
  clear hwb p0 p1 p2 p3 q0 q1 q2 q3
  generalize wb.alloc (.cells (madeCells #[.slice none 0 0] n) 35) = W0 at H0 ⊢
  go_loopw [17] (fun i wx => ∃ s : Nat, s ≤ n ∧ i = .int .i64 s ∧ SqAt wb n (dgN N ls) s wx) (fun i _ => n - (intOf i).toNat)
  case atStart => exact ⟨0, by omega, rfl, H0.out⟩
  case round =>
    obtain ⟨s, hsn, rfl, hsq⟩ := hrel
    have HSQ := hide hsq
    by_cases hlt : s < n
    · have hlti : (s : Int) < (n : Int) := by omega
      obtain ⟨bn, on, an, cn, rfl, hcn0, hsn'⟩ := sl2_cell HS.out s hlt
      have hcn := (hsq.2.2.2.cell (p := ⟨bn, on + s, none⟩) (World.block_lt_of_cell? wb _ hcn0)).trans hcn0
      have HSN := hide hsn'
      have HXS := hide (HX.out s hlt)
      have HNA : Hid (∀ x : Nat, nxA N s (x : Int) = ((N.getD s []).getD x 0).toNat) := fun x => rfl
      generalize N.getD s [] = row at hcn hcn0 hsn' HSN HXS HNA
      generalize hnl : row.length = nl at hcn hcn0 hsn' HSN HXS
      obtain ⟨p0, p1, p2, p3⟩ := HAT.out wr hsq.2.2.2
      have hba := (Below.refl wr.heap.size wr).alloc (Nat.le_refl _) (.cells (madeCells #[.int .i64 0] n) 3)
      obtain ⟨q0, q1, q2, q3⟩ := HAT.out _ (below_step hsq.2.2.2 hba)
      have hrA := hsq.2.1.of_block (hba.block _ hsq.2.1.lt)
      have hcA := rowIs_eq hrA hlt (if_neg (Nat.lt_irrefl s))
      have hfA := hrA.frozen s
      have HNW := hide (sqAt_congr (sqAt_row hsq) (R' := fun j t => if j = s then dgT N ls s 0 t else dgN N ls j t) (fun j t _ _ => rfl))
      clear hsq hsn' hrA hba hcn0 hnl
      go_upto_region 7 with fail
      clear hcn p0 p1 p2 p3 q0 q1 q2 q3 hcA hfA HSQ
      generalize (wr.alloc (.cells (madeCells #[.int .i64 0] n) 3)).setCell ⟨wb.heap.size, s, none⟩ (.slice (some ⟨wr.heap.size, 0, none⟩) n n) = W1 at HNW ⊢
      generalize wr.heap.size = gz
      clear wr
      go_loopw [31] (fun xv wx => ∃ k : Nat, k ≤ kl ∧ xv = .int .i64 k ∧ SqAt wb n (fun j t => if j = s then dgT N ls s k t else dgN N ls j t) (s + 1) wx) (fun xv _ => kl - (intOf xv).toNat)
      case atStart => exact ⟨0, by omega, rfl, HNW.out⟩
      case round =>
        obtain ⟨k, hk, rfl, hfl⟩ := hrel
        have HFL := hide hfl
        by_cases hlk : k < kl
        · have hlki : (k : Int) < (kl : Int) := by omega
          obtain ⟨bl, ol, rfl, hcl⟩ := sl_cell (sl_below HL.out hfl.2.2.2) k hlk
          obtain ⟨h1, h2, h3, h4⟩ := HXS.out k (by have := HLL.out; omega)
          obtain ⟨x, hx⟩ : ∃ x : Nat, ls.getD k 0 = (x : Int) := ⟨(ls.getD k 0).toNat, by omega⟩
          have HXK := hide hx
          rw [hx] at hcl h1 h2 h3 h4
          rw [Int.toNat_natCast] at h2 h3 h4
          have hxi : (x : Int) < (nl : Int) := by omega
          obtain ⟨b1, o1, rfl, hcx⟩ := sl_cell (sl_below HSN.out hfl.2.2.2) x h2
          have hna := HNA.out x
          obtain ⟨v, hv⟩ : ∃ v : Nat, row.getD x 0 = (v : Int) := ⟨(row.getD x 0).toNat, by omega⟩
          rw [hv] at hcx h3 h4 hna
          rw [Int.toNat_natCast] at hna
          have hvi : (v : Int) < (n : Int) := h4
          have hvn : v < n := by omega
          have hcT := rowIs_eq hfl.2.1 hlt (if_pos (Nat.lt_succ_self s))
          have hcR := rowIs_eq (hfl.2.2.1 s (Nat.lt_succ_self s)) hvn (congrArg (Value.int .i64) (if_pos rfl))
          have hfR := (hfl.2.2.1 s (Nat.lt_succ_self s)).frozen v
          have hbd := dgT_bd N ls s k v
          have HNX := hide (sqAt_congr (sqAt_put hfl (dgT N ls s k v + 1) (s := s) (t := v) (Nat.lt_succ_self s)) (R' := fun j t => if j = s then dgT N ls s (k + 1) t else dgN N ls j t) (fun j t _ _ => by
            by_cases e : j = s
            · subst e
              rw [if_pos rfl, if_pos rfl, dgT_step, HXK.out, hna]
              by_cases e2 : t = v
              · subst e2; rw [if_pos ⟨rfl, rfl⟩, if_pos rfl]
              · rw [if_neg (fun h => e2 h.2), if_neg e2, Int.add_zero]
            · rw [if_neg e, if_neg (fun h => e h.1), if_neg e]))
          generalize dgT N ls s k v = d at hcR hbd HNX
          have hwd : IntKind.i64.wrap (d + 1) = d + 1 := by rw [IntKind.wrap_i64]; omega
          clear hfl hx hna hv h1 h3 h4
          go_upto_region 9 with fail
          go_region
          all_goals
            go_wp2
            go_roundw
            case rel => exact ⟨k + 1, by omega, by go_num, sqAt_drew HNX.out⟩
            case measure => simp [intOf]; omega
        · have hlki : ¬ ((k : Int) < (kl : Int)) := by omega
          obtain rfl : k = kl := by omega
          have HNX := hide (sqAt_congr hfl (R' := dgN N ls) (fun j t _ _ => by
            by_cases e : j = s
            · subst e; rw [if_pos rfl, ← dgT_all, HLL.out]
            · rw [if_neg e]))
          clear hfl
          go_wp2
          go_roundw
          case rel => exact ⟨s + 1, by omega, by go_num, HNX.out⟩
          case measure => simp [intOf]; omega
    · have hlti : ¬ (s : Int) < (n : Int) := by omega
      obtain rfl : n = s := by omega
      have HE := hide (HEND.out wr hsq)
      clear hsq
      go_wp2
      go_ret
      exact HE.out
end Go.Proofs.YtlgjadnkokmjoaaDoor

/- A struct in a box, one field of which is a row of things that lie in blocks of their own. -/
namespace Go.Proofs.YtlgjadnkokmjoaaDoor
open Go.RowKit

/-- What holds as long as these blocks stand. -/
def KpW (lo hi : Nat) (P : World → Prop) (W : World) : Prop := ∀ W' : World, (∀ x, lo ≤ x → x < hi → W'.heap[x]? = W.heap[x]?) → P W'
theorem KpW.here {lo hi : Nat} {P : World → Prop} {W : World} (h : KpW lo hi P W) : P W := h W fun _ _ _ => rfl
theorem KpW.on {lo hi : Nat} {P : World → Prop} {W W2 : World} (h : KpW lo hi P W) (hk : ∀ x, lo ≤ x → x < hi → W2.heap[x]? = W.heap[x]?) : KpW lo hi P W2 := fun W' hW' => h W' fun x h1 h2 => (hW' x h1 h2).trans (hk x h1 h2)
/-- Blocks that are neither B nor v's own. -/
def Apt (bs B : Nat) (v : Value) (sz lo hi : Nat) : Prop := (bs ≤ lo ∧ (B < lo ∨ hi ≤ B)) ∧ hi ≤ sz ∧ ∀ x, v.ownBlock = some x → x < lo ∨ hi ≤ x
structure GrK (wb : World) (B f : Nat) (mk : Value → Obj) (ty : TypeId) (X : World → Prop) (P : Nat → Value → World → Prop) (q : Nat) (vals : List Value) (v : Value) (W : World) : Prop where
  box : W.heap[B]? = some (mk v)
  own : W.ownsRow (B + 1) ty 1 v q vals
  len : vals.length = q
  bel : Below wb.heap.size wb W
  base : wb.heap.size ≤ B
  put : ∀ (W : World) (v v' : Value), W.heap[B]? = some (mk v) → (W.setCell ⟨B, f, none⟩ v').heap[B]? = some (mk v')
  ext : ∃ lo hi, Apt wb.heap.size B v W.heap.size lo hi ∧ KpW lo hi X W
  els : ∀ j, j < q → ∃ u lo hi, vals[j]? = some u ∧ Apt wb.heap.size B v W.heap.size lo hi ∧ KpW lo hi (P j u) W
section
variable {wb W W2 : World} {B f : Nat} {mk : Value → Obj} {ty : TypeId} {X : World → Prop} {P : Nat → Value → World → Prop} {q : Nat} {vals : List Value} {v : Value}
theorem grK_below (h : GrK wb B f mk ty X P q vals v W) (hb : Below W.heap.size W W2) : GrK wb B f mk ty X P q vals v W2 := by
  have hsz := hb.size
  refine ⟨(hb.block B (Array.getElem?_eq_some_iff.1 h.box).1).trans h.box, ?_, h.len, below_step h.bel hb, h.base, h.put, ?_, fun j hj => ?_⟩
  · obtain ⟨h1, h2⟩ := h.own
    refine ⟨h1, ?_⟩
    rcases h2 with h2 | ⟨g, cap, cur, rfl, hg, hh, r⟩
    · exact Or.inl h2
    · exact Or.inr ⟨g, cap, cur, rfl, hg, by rw [hb.block g (Array.getElem?_eq_some_iff.1 hh).1]; exact hh, r⟩
  · obtain ⟨lo, hi, ⟨a1, a2, a3⟩, k⟩ := h.ext
    exact ⟨lo, hi, ⟨a1, by omega, a3⟩, k.on fun x _ hx => hb.block x (by omega)⟩
  · obtain ⟨u, lo, hi, e, ⟨a1, a2, a3⟩, k⟩ := h.els j hj
    exact ⟨u, lo, hi, e, ⟨a1, by omega, a3⟩, k.on fun x _ hx => hb.block x (by omega)⟩
theorem grK_push (h : GrK wb B f mk ty X P q vals v W) (hb : Below W.heap.size W W2) {u : Value} (hn : KpW W.heap.size W2.heap.size (P q u) W2) {w3 : World} {o : Obj} {g' cap' : Nat} (hown : w3.ownsRow (B + 1) ty 1 (.slice (some ⟨g', 0, none⟩) (q + 1) cap') (q + 1) (vals ++ [u])) (hgrow : (W2.alloc o).grownBy w3 v.ownBlock) (hat : v.ownBlock = some g' ∨ g' = W2.heap.size + 1) :
    w3.heap[B]? = some (mk v) ∧ GrK wb B f mk ty X P (q + 1) (vals ++ [u]) (.slice (some ⟨g', 0, none⟩) (q + 1) cap') (w3.setCell ⟨B, f, none⟩ (.slice (some ⟨g', 0, none⟩) (q + 1) cap')) := by
  have hl := (Array.getElem?_eq_some_iff.1 h.box).1
  have hsz := hb.size
  have hsz3 := hgrow.size
  rw [World.size_alloc] at hsz3
  have hvo : ∀ x, v.ownBlock = some x → B + 1 ≤ x ∧ x < W.heap.size := fun x e => h.own.lt x e
  have hne : v.ownBlock ≠ some B := fun e => by have := (hvo B e).1; omega
  have hkeep : ∀ x, x < W2.heap.size → v.ownBlock ≠ some x → w3.heap[x]? = W2.heap[x]? := fun x hx hne => by
    rw [hgrow.block x (by rw [World.size_alloc]; omega) (fun e => hne e.symm), Below.heap_alloc _ _ _ hx]
  have h3 : w3.heap[B]? = some (mk v) := (hkeep B (by omega) hne).trans ((hb.block B hl).trans h.box)
  have hgB : g' ≠ B := by
    rcases hat with e | e
    · intro e'; subst e'; exact hne e
    · omega
  have hset : ∀ x, x ≠ B → (w3.setCell ⟨B, f, none⟩ (.slice (some ⟨g', 0, none⟩) (q + 1) cap')).heap[x]? = w3.heap[x]? := fun x hx => Below.heap_setCell _ _ _ _ hx
  have hbl : Below wb.heap.size wb w3 := Below.grown ((below_step h.bel hb).alloc (by have := h.bel.size; omega) o) hgrow (by have := h.bel.size; rw [World.size_alloc]; omega) (fun k hk => by have := (hvo k hk).1; have := h.base; omega)
  have old : ∀ {lo hi : Nat} {Q : World → Prop}, Apt wb.heap.size B v W.heap.size lo hi → KpW lo hi Q W → Apt wb.heap.size B (.slice (some ⟨g', 0, none⟩) (q + 1) cap') (w3.setCell ⟨B, f, none⟩ (.slice (some ⟨g', 0, none⟩) (q + 1) cap')).heap.size lo hi ∧ KpW lo hi Q (w3.setCell ⟨B, f, none⟩ (.slice (some ⟨g', 0, none⟩) (q + 1) cap')) := fun {lo hi Q} ⟨a1, a2, a3⟩ k => by
    refine ⟨⟨a1, by simp; omega, fun x e => ?_⟩, k.on fun x h1 h2 => ?_⟩
    · have e' : g' = x := by simpa [Value.ownBlock] using e
      subst e'
      rcases hat with e2 | e2
      · exact a3 _ e2
      · right; omega
    · have hnx : v.ownBlock ≠ some x := fun e => by rcases a3 x e with h | h <;> omega
      rw [hset x (by omega), hkeep x (by omega) hnx, hb.block x (by omega)]
  refine ⟨h3, h.put w3 v _ h3, ?_, by rw [List.length_append, h.len]; rfl, hbl.setCell h.base _, h.base, h.put, ?_, fun j hj => ?_⟩
  · obtain ⟨h1, h2⟩ := hown
    refine ⟨h1, ?_⟩
    rcases h2 with h2 | ⟨g, cap, cur, e, hg, hh, r⟩
    · exact Or.inl h2
    · have e' : g' = g := by injection e with e _ _; injection e with e; injection e
      exact Or.inr ⟨g, cap, cur, e, hg, by rw [hset g (by omega)]; exact hh, r⟩
  · obtain ⟨lo, hi, ha, k⟩ := h.ext
    exact ⟨lo, hi, (old ha k).1, (old ha k).2⟩
  · by_cases e : j = q
    · subst e
      refine ⟨u, W.heap.size, W2.heap.size, by rw [List.getElem?_append_right (by rw [h.len]; omega), h.len]; simp, ⟨⟨h.bel.size, Or.inl hl⟩, by simp; omega, fun x e => ?_⟩, hn.on fun x h1 h2 => ?_⟩
      · have e' : g' = x := by simpa [Value.ownBlock] using e
        subst e'
        rcases hat with e2 | e2
        · left; exact (hvo _ e2).2
        · right; omega
      · have hnx : v.ownBlock ≠ some x := fun e => by have := (hvo x e).2; omega
        rw [hset x (by omega), hkeep x h2 hnx]
    · obtain ⟨u', lo, hi, e1, ha, k⟩ := h.els j (by omega)
      exact ⟨u', lo, hi, by rw [List.getElem?_append_left (by rw [h.len]; omega)]; exact e1, (old ha k).1, (old ha k).2⟩
theorem grK_keep (h : GrK wb B f mk ty X P q vals v W) {W' : World} (hW' : ∀ x, x ≠ B → wb.heap.size ≤ x → x < W.heap.size → W'.heap[x]? = W.heap[x]?) : X W' ∧ ∀ j, j < q → ∃ u, vals[j]? = some u ∧ P j u W' := by
  have go : ∀ {lo hi : Nat} {Q : World → Prop}, Apt wb.heap.size B v W.heap.size lo hi → KpW lo hi Q W → Q W' := fun {lo hi Q} ⟨⟨a0, a1⟩, a2, _⟩ k => k W' fun x h1 h2 => hW' x (by omega) (by omega) (by omega)
  obtain ⟨lo, hi, ha, k⟩ := h.ext
  refine ⟨go ha k, fun j hj => ?_⟩
  obtain ⟨u, lo, hi, e, ha, k⟩ := h.els j hj
  exact ⟨u, e, go ha k⟩
end
/-- In the end it reads as squares. -/
def SqP (L : Nat → List (List Int)) (j : Nat) (u : Value) (W : World) : Prop := ∃ a c, u = .slice a (L j).length c ∧ Sl2 W a (L j).length (L j)
theorem grK_end {wb W : World} {B f : Nat} {mk : Value → Obj} {X : World → Prop} {L : Nat → List (List Int)} {q : Nat} {vals : List Value} {v : Value} (h : GrK wb B f mk 22 X (SqP L) q vals v W) (hq : q ≤ maxLen) (S : List (List (List Int))) (hS : S.length = q) (hr : ∀ j, j < q → S.getD j [] = L j) : ∃ a c, v = .slice a q c ∧ ∀ W' : World, (∀ x, x ≠ B → wb.heap.size ≤ x → x < W.heap.size → W'.heap[x]? = W.heap[x]?) → Sl3 W' a q S := by
  obtain ⟨g0, g1⟩ := h.own
  rcases g1 with ⟨rfl, h1⟩ | ⟨g, cap, cur, rfl, hg, hh, hc, hcm, hcs, ht⟩
  · exact ⟨none, 0, by rw [h1], fun W' _ => ⟨hS, hq, Or.inl h1⟩⟩
  · refine ⟨_, cap, rfl, fun W' hW' => ⟨hS, hq, Or.inr ⟨g, 0, rfl, fun i hi => ?_⟩⟩⟩
    obtain ⟨u, e1, a', cap', e2, hs⟩ := (grK_keep h hW').2 i hi
    have hgl := (Array.getElem?_eq_some_iff.1 hh).1
    have hh' := (hW' g (by omega) (by have := h.base; omega) hgl).trans hh
    rw [hr i hi]
    refine ⟨a', cap', ?_, hs⟩
    rw [cell_of_row W' g (0 + i) cur 22 (0, 0) hh', Nat.zero_add]
    have h3 : (cur.toList.take (q * 1))[i]? = vals[i]? := by rw [ht]
    rw [List.getElem?_take, if_pos (by omega), Array.getElem?_toList] at h3
    rw [h3, e1, e2]
/-- A struct in a box, one field of which is a row of numbers that is made behind all that was there. -/
structure LsI (w2 wr0 : World) (B f : Nat) (mk : Value → Obj) (l : List Int) (v : Value) (W : World) : Prop where
  box : W.heap[B]? = some (mk v)
  own : W.ownsRow wr0.heap.size 3 1 v l.length (l.map (Value.int .i64))
  old : ∀ x, x ≠ B → x < wr0.heap.size → W.heap[x]? = wr0.heap[x]?
  size : wr0.heap.size ≤ W.heap.size
  bel : Below w2.heap.size w2 W
  lt : B < wr0.heap.size
  base : w2.heap.size ≤ B
  put : ∀ (W : World) (v v' : Value), W.heap[B]? = some (mk v) → (W.setCell ⟨B, f, none⟩ v').heap[B]? = some (mk v')
theorem lsI_push {w2 wr0 W : World} {B f : Nat} {mk : Value → Obj} {l : List Int} {v : Value} (h : LsI w2 wr0 B f mk l v W) {x : Int} {W2 w3 : World} (e2 : W2.heap = W.heap) (hb2 : Below w2.heap.size w2 W2) {o : Obj} {g' cap' q : Nat} (hq : l.length = q) (hown : w3.ownsRow wr0.heap.size 3 1 (.slice (some ⟨g', 0, none⟩) (q + 1) cap') (q + 1) (l.map (Value.int .i64) ++ [.int .i64 x])) (hgrow : (W2.alloc o).grownBy w3 v.ownBlock) :
    w3.heap[B]? = some (mk v) ∧ LsI w2 wr0 B f mk (l ++ [x]) (.slice (some ⟨g', 0, none⟩) (q + 1) cap') (w3.setCell ⟨B, f, none⟩ (.slice (some ⟨g', 0, none⟩) (q + 1) cap')) := by
  subst hq
  have hs2 : W2.heap.size = W.heap.size := by rw [e2]
  have hvo : ∀ x, v.ownBlock = some x → wr0.heap.size ≤ x ∧ x < W.heap.size := fun x e => h.own.lt x e
  have hlt := h.lt
  have hsz := h.size
  have hsz3 := hgrow.size
  rw [World.size_alloc] at hsz3
  have hkeep : ∀ x, x < wr0.heap.size → w3.heap[x]? = W.heap[x]? := fun x hx => by
    rw [hgrow.block x (by rw [World.size_alloc]; omega) (fun e => by have := (hvo x e.symm).1; omega), Below.heap_alloc _ _ _ (by omega), e2]
  have h3 : w3.heap[B]? = some (mk v) := (hkeep B hlt).trans h.box
  have hset : ∀ x, x ≠ B → (w3.setCell ⟨B, f, none⟩ (.slice (some ⟨g', 0, none⟩) (l.length + 1) cap')).heap[x]? = w3.heap[x]? := fun x hx => Below.heap_setCell _ _ _ _ hx
  have hbw := h.base
  have hbl : Below w2.heap.size w2 w3 := Below.grown (hb2.alloc hb2.size o) hgrow (by have := hb2.size; rw [World.size_alloc]; omega) (fun k hk => by have := (hvo k hk).1; omega)
  refine ⟨h3, h.put w3 v _ h3, ?_, fun x hx hx2 => ?_, by simp; omega, hbl.setCell hbw _, hlt, hbw, h.put⟩
  · rw [List.length_append, List.length_singleton, List.map_append]
    refine ownsRow_of_block hown fun y hy => hset y (fun e => ?_)
    have := (hown.lt y hy).1
    omega
  · rw [hset x hx, hkeep x hx2]
    exact h.old x hx hx2
/-- What leads hands back stands in the blocks that it made. -/
theorem leads_kp {w : World} {n : Nat} {N : List (List Int)} {ls : List Int} {e : Ending} {w' : World} (h : SqR w n (dgN N ls) e w') (hN : N.length = n) (hn : n ≤ 1000) (h36 : ls.length ≤ 36) : e = .returned (.slice (some ⟨w.heap.size + 1, 0, none⟩) n n) ∧ KpW w.heap.size w'.heap.size (fun W => Sl2 W (some ⟨w.heap.size + 1, 0, none⟩) n (leadsL N ls)) w' ∧ Below w.heap.size w w' := by
  obtain ⟨e1, wb, h1, h2, h3⟩ := h
  subst hN
  refine ⟨e1, fun W' hW' => ?_, below_step h2 h3.2.2.2⟩
  obtain ⟨g1, g2, g3, g4⟩ := h3
  have hsz := g1
  have hl2 := leadsL_len N ls
  have hbd : ∀ s, s < N.length → ((leadsL N ls).getD s []).length = N.length ∧ ∀ t, t < N.length → ((leadsL N ls).getD s []).getD t 0 = dgN N ls s t ∧ 0 ≤ dgN N ls s t ∧ dgN N ls s t ≤ 1152921504606846977 := fun s hs => ⟨by simp [leadsL, List.getD, hs], fun t ht => by
    rw [leadsL_get hs ht]
    have h1 := dgN_nn N ls s t
    have h2 := dgN_le N ls s t
    exact ⟨rfl, by omega, by omega⟩⟩
  have r2 := g2.of_block (hW' _ (by omega) (by have := g2.lt; omega))
  rw [h1] at r2
  refine ⟨hl2, by unfold maxLen; omega, Or.inr ⟨_, _, rfl, fun i hi => ?_⟩⟩
  have hc := r2.cell hi
  rw [if_pos hi] at hc
  obtain ⟨e1, e2⟩ := hbd i hi
  refine ⟨some ⟨w.heap.size + 1 + 1 + i, 0, none⟩, N.length, by rw [Nat.zero_add, e1]; exact hc, ?_⟩
  rw [e1]
  have r3 := g3 i hi
  have r4 := r3.of_block (hW' _ (by omega) (by have := r3.lt; omega))
  rw [h1] at r4
  refine sl_of_rowIs e1 (by unfold maxLen; omega) (fun x hx => ?_) (r4.congr fun t ht => by rw [(e2 t ht).1])
  obtain ⟨t, ht, rfl⟩ := List.getElem_of_mem hx
  have := e2 t (by omega)
  rw [getD_at _ _ ht] at this
  rw [this.1]
  exact WalkArith.wf_i64 (by omega)
end Go.Proofs.YtlgjadnkokmjoaaDoor

/- What Eval answers: mathematics; count.areCounts, isShaped: contracts. -/
namespace Go.Proofs.YtlgjadnkokmjoaaDoor
open Go.RowKit

def amtB (x : Int) : Bool := decide (0 ≤ x ∧ x ≤ 1152921504606846976)
def retQ (q : Bool) (w : World) (e : Ending) (w' : World) : Prop := e = .returned (.bool q) ∧ w' = w
theorem allD_yes {α : Type} {l : List α} {p : α → Bool} {d : α} (h : ∀ i, i < l.length → p (l.getD i d) = true) : l.all p = true := by
  rw [List.all_eq_true]
  intro x hx
  obtain ⟨i, hi, rfl⟩ := List.getElem_of_mem hx
  have := h i hi
  simpa [List.getD, hi] using this
theorem allD_no {α : Type} {l : List α} {p : α → Bool} {d : α} (i : Nat) (hi : i < l.length) (h : p (l.getD i d) = false) : l.all p = false := by
  rw [List.all_eq_false]
  refine ⟨l[i], List.getElem_mem _, ?_⟩
  have e : l.getD i d = l[i] := by simp [List.getD, hi]
  rw [← e, h]
  exact Bool.false_ne_true
set_option maxHeartbeats 2000000 in
set_option maxRecDepth 4000 in
theorem areCounts_any (a : Option Addr) (n c : Nat) (l : List Int) (w : World) (hs : Sl w a n l) : Calls Tryd.prog 27 #[.slice a n c] w (retQ (l.all amtB) w) := by
  have hL := hs.1
  have hnm := hs.2.1
  unfold maxLen at hnm
  have HS := hide hs
  have HY := hide (@allD_yes Int l amtB 0)
  have HN := hide (@allD_no Int l amtB 0)
  rw [hL] at HY HN
  generalize l.all amtB = R at HY HN ⊢
  clear hs hL
  go_enter Tryd.func27, Tryd.ntmps27
  go_wp2
  go_loop [7] (fun u => ∃ k : Nat, k ≤ n ∧ u = .int .i64 k ∧ ∀ i, i < k → amtB (l.getD i 0) = true) (fun u => n - (intOf u).toNat)
  case atStart => exact ⟨0, by omega, rfl, fun i hi => by omega⟩
  case round =>
    obtain ⟨k, hk, rfl, hd⟩ := hrel
    have HD := hide hd
    clear hd
    by_cases hlt : k < n
    · have hlti : (k : Int) < (n : Int) := by omega
      obtain ⟨b1, o1, rfl, hc⟩ := sl_cell HS.out k hlt
      have HB := hide (HN.out k hlt)
      have HD2 : Hid (amtB (l.getD k 0) = true → ∀ i, i < k + 1 → amtB (l.getD i 0) = true) := fun h i hi => by
        by_cases e : i = k
        · subst e; exact h
        · exact HD.out i (by omega)
      generalize l.getD k 0 = x at hc HB HD2
      by_cases hx : 0 ≤ x ∧ x ≤ 1152921504606846976
      · have HD3 := hide (HD2.out (decide_eq_true hx))
        obtain ⟨h1, h2⟩ := hx
        go_wp2
        go_round
        case rel => exact ⟨k + 1, by omega, by go_num, HD3.out⟩
        case measure => simp [intOf]; omega
      · have HB2 := hide (HB.out (decide_eq_false hx))
        have hx' : x < 0 ∨ (¬ x < 0 ∧ 1152921504606846976 < x) := by omega
        clear hx
        rcases hx' with hx | ⟨h1, h2⟩
        all_goals
          go_wp2
          go_ret
          exact ⟨by rw [HB2.out]; rfl, rfl⟩
    · have hlti : ¬ (k : Int) < (n : Int) := by omega
      obtain rfl : k = n := by omega
      have HR := hide (HY.out HD.out)
      go_wp2
      go_ret
      exact ⟨by rw [HR.out]; rfl, rfl⟩
end Go.Proofs.YtlgjadnkokmjoaaDoor

/- count.Eval: contract. -/
namespace Go.Proofs.YtlgjadnkokmjoaaDoor
open Go.RowKit

theorem amtB_bd {x : Int} (h : amtB x = true) : 0 ≤ x ∧ x ≤ 1152921504606846976 := of_decide_eq_true h
theorem thrL_bd {n : Nat} {row : List Int} {S : List (List Int)} (hr : bdL n row) (hq : ∀ s, s < n → bdL n (S.getD s [])) : bdL n (thrL row S) := by
  refine ⟨(thrL_len _ _).trans hr.1, fun t ht => ?_⟩
  rw [thrL_get (by rw [hr.1]; exact ht)]
  exact capI_bd (csum_nn fun i hi => Int.mul_nonneg (hr.2 i (by rw [← hr.1]; exact hi)).1 ((hq i (by rw [← hr.1]; exact hi)).2 t ht).1)
theorem bdL_wf {n : Nat} {l : List Int} (h : bdL n l) : ∀ x ∈ l, (Lit.int .i64 x).wf = true := fun x hx => by
  obtain ⟨i, hi, rfl⟩ := List.getElem_of_mem hx
  have := h.2 i (by rw [← h.1]; exact hi)
  rw [getD_at _ i hi] at this
  exact WalkArith.wf_i64 (by omega)
def EvlR (w : World) (v c : Int) (e : Ending) (w' : World) : Prop := e = .returned (.tuple #[.int .i64 v, errV c]) ∧ Below w.heap.size w w'
end Go.Proofs.YtlgjadnkokmjoaaDoor
