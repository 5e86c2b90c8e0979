/- 7 texts in one. -/
import Derived.Deep.CutRange
import Derived.Deep.AppendLies
import Derived.Test.YtlgjadnkokmjoaaCtc
import Derived.Test.YtlgjadnkokmjoaaZNx
import Derived.Test.YtlgjadnkokmjoaaZRu
import Derived.Test.YtlgjadnkokmjoaaZLp
/- Squares of numbers, row by row; count.atFirst, allLetters, leads: contracts. -/
namespace Go.Proofs.Ytlgjadnkokmjoaa
open Go.RowKit

/-- A square of rows, each in a block of its own, one behind the other: q of n rows. -/
def SqAt (w : World) (n : Nat) (R : Nat → Nat → Int) (q : Nat) (wx : World) : Prop :=
  wx.heap.size = w.heap.size + 1 + q ∧ (wx.rowIs w.heap.size 26 n fun j => if j < q then .slice (some ⟨w.heap.size + 1 + j, 0, none⟩) n n else .slice none 0 0) ∧ (∀ j, j < q → wx.rowIs (w.heap.size + 1 + j) 3 n fun t => .int .i64 (R j t)) ∧ Below w.heap.size w wx
theorem sqAt_start (w : World) (n : Nat) (R : Nat → Nat → Int) : SqAt w n R 0 (w.alloc (.cells (madeCells #[.slice none 0 0] n) 26)) :=
  ⟨by simp, (World.rowIs_made w (.slice none 0 0) n 26).congr fun p _ => by rw [if_neg (by omega)], fun j hj => by omega, (Below.refl _ _).alloc (Nat.le_refl _) _⟩
theorem sqAt_congr {w : World} {n : Nat} {R R' : Nat → Nat → Int} {q : Nat} {wx : World} (h : SqAt w n R q wx) (e : ∀ j t, j < q → t < n → R j t = R' j t) : SqAt w n R' q wx :=
  ⟨h.1, h.2.1, fun j hj => (h.2.2.1 j hj).congr fun t ht => by rw [e j t hj ht], h.2.2.2⟩
theorem sqAt_row {w : World} {n : Nat} {R : Nat → Nat → Int} {q : Nat} {wx : World} (h : SqAt w n R q wx) :
    SqAt w n (fun j t => if j = q then 0 else R j t) (q + 1) ((wx.alloc (.cells (madeCells #[.int .i64 0] n) 3)).setCell ⟨w.heap.size, q, none⟩ (.slice (some ⟨wx.heap.size, 0, none⟩) n n)) := by
  obtain ⟨h1, h2, h3, h4⟩ := h
  have hba := (Below.refl wx.heap.size wx).alloc (Nat.le_refl _) (.cells (madeCells #[.int .i64 0] n) 3)
  have hr2 := h2.of_block (hba.block _ h2.lt)
  refine ⟨by simp; omega, (hr2.set q _).congr fun j _ => ?_, fun j hj => ?_, (below_step h4 hba).setCell (Nat.le_refl _) _⟩
  · by_cases e : j = q
    · subst e; rw [if_pos rfl, if_pos (by omega), h1]
    · rw [if_neg e]
      by_cases e2 : j < q
      · rw [if_pos e2, if_pos (by omega)]
      · rw [if_neg e2, if_neg (by omega)]
  · by_cases e : j = q
    · subst e
      have hm := World.rowIs_made wx (.int .i64 0) n 3
      rw [h1] at hm
      refine (hm.setOther (by show w.heap.size + 1 + j ≠ w.heap.size; omega) _).congr fun t _ => ?_
      show Value.int .i64 0 = .int .i64 (if j = j then 0 else R j t)
      rw [if_pos rfl]
    · have hj2 : j < q := by omega
      refine (((h3 j hj2).of_block (hba.block _ (h3 j hj2).lt)).setOther (by show w.heap.size + 1 + j ≠ w.heap.size; omega) _).congr fun t _ => ?_
      show Value.int .i64 (R j t) = .int .i64 (if j = q then 0 else R j t)
      rw [if_neg e]
theorem sqAt_put {w : World} {n : Nat} {R : Nat → Nat → Int} {q : Nat} {wx : World} (h : SqAt w n R q wx) {s t : Nat} (v : Int) (hs : s < q) :
    SqAt w n (fun j t' => if j = s ∧ t' = t then v else R j t') q (wx.setCell ⟨w.heap.size + 1 + s, t, none⟩ (.int .i64 v)) := by
  obtain ⟨h1, h2, h3, h4⟩ := h
  refine ⟨by simp; exact h1, h2.setOther (by show w.heap.size ≠ w.heap.size + 1 + s; omega) _, fun j hj => ?_, h4.setCell (by show _ ≤ w.heap.size + 1 + s; omega) _⟩
  by_cases e : j = s
  · subst e
    refine ((h3 j hj).set t _).congr fun i _ => ?_
    show (if i = t then Value.int .i64 v else .int .i64 (R j i)) = .int .i64 (if j = j ∧ i = t then v else R j i)
    by_cases e2 : i = t
    · rw [if_pos e2, if_pos ⟨rfl, e2⟩]
    · rw [if_neg e2, if_neg (fun h => e2 h.2)]
  · refine ((h3 j hj).setOther (by show w.heap.size + 1 + j ≠ w.heap.size + 1 + s; omega) _).congr fun i _ => ?_
    show Value.int .i64 (R j i) = .int .i64 (if j = s ∧ i = t then v else R j i)
    rw [if_neg (fun h => e h.1)]
theorem sqAt_end {w : World} {n : Nat} {R : Nat → Nat → Int} {wx : World} (h : SqAt w n R n wx) (hn : n ≤ 1000) (S : List (List Int)) (hS : S.length = n) (hr : ∀ s, s < n → (S.getD s []).length = n ∧ ∀ t, t < n → (S.getD s []).getD t 0 = R s t ∧ 0 ≤ R s t ∧ R s t ≤ 1152921504606846977) : Sl2 wx (some ⟨w.heap.size, 0, none⟩) n S := by
  obtain ⟨h1, h2, h3, h4⟩ := h
  refine ⟨hS, by unfold maxLen; omega, Or.inr ⟨_, _, rfl, fun i hi => ?_⟩⟩
  have hc := h2.cell hi
  rw [if_pos hi] at hc
  obtain ⟨e1, e2⟩ := hr i hi
  refine ⟨some ⟨w.heap.size + 1 + i, 0, none⟩, n, by rw [Nat.zero_add, e1]; exact hc, ?_⟩
  rw [e1]
  refine sl_of_rowIs e1 (by unfold maxLen; omega) (fun x hx => ?_) ((h3 i hi).congr fun t ht => by rw [(e2 t ht).1])
  obtain ⟨t, ht, rfl⟩ := List.getElem_of_mem hx
  have := e2 t (by omega)
  rw [getD_at _ _ ht] at this
  rw [this.1]
  exact WalkArith.wf_i64 (by omega)
/-- The numbers below m. -/
def rngL (m : Nat) : List Int := (List.range m).map fun x : Nat => (x : Int)
theorem rngL_len (m : Nat) : (rngL m).length = m := by simp [rngL]
theorem rngL_get {m x : Nat} (h : x < m) : (rngL m).getD x 0 = (x : Int) := by simp [rngL, List.getD, h]
set_option maxHeartbeats 2000000 in
set_option maxRecDepth 4000 in
theorem atFirst_any (b t : Int) (a : Option Addr) (n cap : Nat) (a' : Option Addr) (k' cap' : Nat) (w : World) (h0 : 0 < n) (hn : n ≤ 1000) :
    Calls Try.prog 13 #[.agg #[.int .i64 b, .int .i64 t, .slice a n cap, .slice a' k' cap']] w (NewRow w (fst0L n)) := by
  have hmk := make_ints n (by omega)
  have hBX : Below w.heap.size w (w.alloc (.cells #[.int .i64 b, .int .i64 t, .slice a n cap, .slice a' k' cap'] 25)) := (Below.refl _ _).alloc (Nat.le_refl _) _
  have hsz : (w.alloc (.cells #[.int .i64 b, .int .i64 t, .slice a n cap, .slice a' k' cap'] 25)).heap.size = w.heap.size + 1 := by simp
  have hmade := World.rowIs_made (w.alloc (.cells #[.int .i64 b, .int .i64 t, .slice a n cap, .slice a' k' cap'] 25)) (.int .i64 0) n 3
  rw [hsz] at hmade
  have HM := hide hmade
  have HBM := hide (hBX.alloc hBX.size (.cells (madeCells #[.int .i64 0] n) 3))
  clear hBX hmade hsz
  go_enter Try.func13, Try.ntmps13
  go_upto_region 2 with fail
  generalize (w.alloc (.cells #[.int .i64 b, .int .i64 t, .slice a n cap, .slice a' k' cap'] 25)).alloc (.cells (madeCells #[.int .i64 0] n) 3) = W2 at HM HBM ⊢
  have hcell := HM.out.cell h0
  have hfz := HM.out.frozen 0
  go_wp2
  go_ret
  refine ⟨w.heap.size + 1, by rw [fst0L_len]; rfl, by omega, ?_, HBM.out.setCell (by show w.heap.size ≤ w.heap.size + 1; omega) _⟩
  rw [fst0L_len]
  refine (HM.out.set 0 _).congr fun j hj => ?_
  rw [fst0L_get hj]
  by_cases e : j = 0
  · rw [if_pos e, if_pos e]
  · rw [if_neg e, if_neg e]
set_option maxHeartbeats 4000000 in
set_option maxRecDepth 4000 in
theorem allLetters_any (b t : Int) (a : Option Addr) (n cap : Nat) (a' : Option Addr) (k' cap' : Nat) (N : List (List Int)) (m : Nat) (w : World) (hs : Sl2 w a n N) (hG : 0 < n) (hm : (N.getD 0 []).length = m) (h36 : m ≤ 36) :
    Calls Try.prog 24 #[.agg #[.int .i64 b, .int .i64 t, .slice a n cap, .slice a' k' cap']] w (NewRow w (rngL m)) := by
  have hmk := make_ints m (by omega)
  have hBX : Below w.heap.size w (w.alloc (.cells #[.int .i64 b, .int .i64 t, .slice a n cap, .slice a' k' cap'] 25)) := (Below.refl _ _).alloc (Nat.le_refl _) _
  have H0 := hide (fillAt_start (w.alloc (.cells #[.int .i64 b, .int .i64 t, .slice a n cap, .slice a' k' cap'] 25)) (rngL m) m)
  obtain ⟨bn, on, an, cn, rfl, hcn, -⟩ := sl2_cell (sl2_below hs hBX) 0 hG
  rw [hm, Nat.add_zero] at hcn
  have HBX := hide hBX
  have HSZ : Hid ((w.alloc (.cells #[.int .i64 b, .int .i64 t, .slice (some ⟨bn, on, none⟩) n cap, .slice a' k' cap'] 25)).heap.size = w.heap.size + 1) := by show _ = _; simp
  have hni : (0 : Int) < (n : Int) := by omega
  clear hs hm hBX
  go_enter Try.func24, Try.ntmps24
  go_upto_region 2 with fail
  clear hcn
  generalize w.alloc (.cells #[.int .i64 b, .int .i64 t, .slice (some ⟨bn, on, none⟩) n cap, .slice a' k' cap'] 25) = wb at H0 HBX HSZ ⊢
  generalize hW0 : wb.alloc (.cells (madeCells #[.int .i64 0] m) 3) = w0 at H0 ⊢
  clear hW0
  go_wp2
  go_loopw [13] (fun i wx => ∃ k : Nat, k ≤ m ∧ i = .int .i64 k ∧ FillAt wb (rngL m) m k wx) (fun i _ => m - (intOf i).toNat)
  case atStart => exact ⟨0, by omega, rfl, H0.out⟩
  case round =>
    obtain ⟨k, hk, rfl, hfl⟩ := hrel
    have HFL := hide hfl
    have hsz := HSZ.out
    by_cases hlt : k < m
    · have hlti : (k : Int) < (m : Int) := by omega
      have hcell := hfl.1.cell hlt
      have hfz := hfl.1.frozen k
      have hnx := fillAt_step hfl
      rw [if_neg (Nat.lt_irrefl _)] at hcell
      rw [rngL_get hlt] at hnx
      rw [hsz] at hcell hfz hnx
      have HNX := hide hnx
      clear hfl hnx
      go_wp2
      go_roundw
      case rel => exact ⟨k + 1, by omega, by go_num, HNX.out⟩
      case measure => simp [intOf]; omega
    · have hlti : ¬ (k : Int) < (m : Int) := by omega
      obtain rfl : m = k := by omega
      have HR := hide (hfl.1.congr fun i hi => by rw [if_pos hi])
      rw [hsz] at HR
      clear hfl
      go_wp2
      go_ret
      exact ⟨w.heap.size + 1, by rw [rngL_len]; rfl, by omega, by rw [rngL_len]; exact HR.out, below_step HBX.out HFL.out.2⟩
end Go.Proofs.Ytlgjadnkokmjoaa

/- count.leads: contract. -/
namespace Go.Proofs.Ytlgjadnkokmjoaa
open Go.RowKit

/-- How many of the first k letters lead from s to t. -/
def dgT (N : List (List Int)) (ls : List Int) (s k t : Nat) : Int := csum (fun j => if t = nxA N s (ls.getD j 0) then 1 else 0) k
theorem dgT_all (N : List (List Int)) (ls : List Int) (s t : Nat) : dgT N ls s ls.length t = dgN N ls s t := rfl
theorem dgT_step (N : List (List Int)) (ls : List Int) (s k t : Nat) : dgT N ls s (k + 1) t = dgT N ls s k t + if t = nxA N s (ls.getD k 0) then 1 else 0 := rfl
theorem dgT_bd (N : List (List Int)) (ls : List Int) (s k t : Nat) : 0 ≤ dgT N ls s k t ∧ dgT N ls s k t ≤ k :=
  ⟨csum_nn fun i _ => by split <;> omega, csum_ones fun i _ => by split <;> omega⟩
theorem rowIs_eq {W : World} {g : Nat} {T : TypeId} {n : Nat} {f : Nat → Value} (h : W.rowIs g T n f) {i : Nat} (hi : i < n) {v : Value} (e : f i = v) : W.cell? ⟨g, i, none⟩ = some v := by rw [← e]; exact h.cell hi
def SqR (w : World) (n : Nat) (R : Nat → Nat → Int) (e : Ending) (w' : World) : Prop := e = .returned (.slice (some ⟨w.heap.size + 1, 0, none⟩) n n) ∧ ∃ wb : World, wb.heap.size = w.heap.size + 1 ∧ Below w.heap.size w wb ∧ SqAt wb n R n w'
theorem sqAt_drew {w : World} {n : Nat} {R : Nat → Nat → Int} {q : Nat} {wx : World} (h : SqAt w n R q wx) : SqAt w n R q wx.drew := ⟨h.1, h.2.1, h.2.2.1, h.2.2.2.drew⟩
def OkLs (N : List (List Int)) (n : Nat) (ls : List Int) : Prop := ∀ s, s < n → ∀ j, j < ls.length → 0 ≤ ls.getD j 0 ∧ (ls.getD j 0).toNat < (N.getD s []).length ∧ 0 ≤ (N.getD s []).getD (ls.getD j 0).toNat 0 ∧ (N.getD s []).getD (ls.getD j 0).toNat 0 < (n : Int)
set_option maxHeartbeats 8000000 in
set_option maxRecDepth 8000 in
theorem leads_any (b t : Int) (a : Option Addr) (n cap : Nat) (a' : Option Addr) (k' cap' : Nat) (N : List (List Int)) (al : Option Addr) (kl cl : Nat) (ls : List Int) (w : World) (hs : Sl2 w a n N) (hl : Sl w al kl ls) (hn : n ≤ 1000) (h36 : kl ≤ 36) (hx : OkLs N n ls) :
    Calls Try.prog 14 #[.agg #[.int .i64 b, .int .i64 t, .slice a n cap, .slice a' k' cap'], .slice al kl cl] w (SqR w n (dgN N ls)) := by
  have hmr := make_rows n (by omega)
  have hmk := make_ints n (by omega)
  have hll := hl.1
  have hBX : Below w.heap.size w (w.alloc (.cells #[.int .i64 b, .int .i64 t, .slice a n cap, .slice a' k' cap'] 25)) := (Below.refl _ _).alloc (Nat.le_refl _) _
  have HBX := hide hBX
  have HAT := hide (fun w' => @box4 w w' (.int .i64 b) (.int .i64 t) (.slice a n cap) (.slice a' k' cap') 25)
  have HS := hide (sl2_below hs hBX)
  have HL := hide (sl_below hl hBX)
  have HSZ : Hid ((w.alloc (.cells #[.int .i64 b, .int .i64 t, .slice a n cap, .slice a' k' cap'] 25)).heap.size = w.heap.size + 1) := by show _ = _; simp
  generalize hwb : w.alloc (.cells #[.int .i64 b, .int .i64 t, .slice a n cap, .slice a' k' cap'] 25) = wb at HBX HAT HS HL HSZ
  have H0 := hide (sqAt_start wb n (dgN N ls))
  have HX := hide hx
  have HLL : Hid (ls.length = kl) := hll
  obtain ⟨p0, p1, p2, p3⟩ := HAT.out wb (Below.refl _ _)
  have hBM := (Below.refl wb.heap.size wb).alloc (Nat.le_refl _) (.cells (madeCells #[.slice none 0 0] n) 26)
  obtain ⟨q0, q1, q2, q3⟩ := HAT.out _ hBM
  have HEND : Hid (∀ W, SqAt wb n (dgN N ls) n W → SqR w n (dgN N ls) (.returned (.slice (some ⟨wb.heap.size, 0, none⟩) n n)) W) := fun W h => ⟨by rw [HSZ.out], wb, HSZ.out, HBX.out, h⟩
  clear hs hl hx hBX hBM hll
  go_enter Try.func14, Try.ntmps14
  go_wp2
  clear hwb p0 p1 p2 p3 q0 q1 q2 q3
  generalize wb.alloc (.cells (madeCells #[.slice none 0 0] n) 26) = W0 at H0 ⊢
  go_loopw [17] (fun i wx => ∃ s : Nat, s ≤ n ∧ i = .int .i64 s ∧ SqAt wb n (dgN N ls) s wx) (fun i _ => n - (intOf i).toNat)
  case atStart => exact ⟨0, by omega, rfl, H0.out⟩
  case round =>
    obtain ⟨s, hsn, rfl, hsq⟩ := hrel
    have HSQ := hide hsq
    by_cases hlt : s < n
    · have hlti : (s : Int) < (n : Int) := by omega
      obtain ⟨bn, on, an, cn, rfl, hcn0, hsn'⟩ := sl2_cell HS.out s hlt
      have hcn := (hsq.2.2.2.cell (p := ⟨bn, on + s, none⟩) (World.block_lt_of_cell? wb _ hcn0)).trans hcn0
      have HSN := hide hsn'
      have HXS := hide (HX.out s hlt)
      have HNA : Hid (∀ x : Nat, nxA N s (x : Int) = ((N.getD s []).getD x 0).toNat) := fun x => rfl
      generalize N.getD s [] = row at hcn hcn0 hsn' HSN HXS HNA
      generalize hnl : row.length = nl at hcn hcn0 hsn' HSN HXS
      obtain ⟨p0, p1, p2, p3⟩ := HAT.out wr hsq.2.2.2
      have hba := (Below.refl wr.heap.size wr).alloc (Nat.le_refl _) (.cells (madeCells #[.int .i64 0] n) 3)
      obtain ⟨q0, q1, q2, q3⟩ := HAT.out _ (below_step hsq.2.2.2 hba)
      have hrA := hsq.2.1.of_block (hba.block _ hsq.2.1.lt)
      have hcA := rowIs_eq hrA hlt (if_neg (Nat.lt_irrefl s))
      have hfA := hrA.frozen s
      have HNW := hide (sqAt_congr (sqAt_row hsq) (R' := fun j t => if j = s then dgT N ls s 0 t else dgN N ls j t) (fun j t _ _ => rfl))
      clear hsq hsn' hrA hba hcn0 hnl
      go_upto_region 7 with fail
      clear hcn p0 p1 p2 p3 q0 q1 q2 q3 hcA hfA HSQ
      generalize (wr.alloc (.cells (madeCells #[.int .i64 0] n) 3)).setCell ⟨wb.heap.size, s, none⟩ (.slice (some ⟨wr.heap.size, 0, none⟩) n n) = W1 at HNW ⊢
      generalize wr.heap.size = gz
      clear wr
      go_loopw [31] (fun xv wx => ∃ k : Nat, k ≤ kl ∧ xv = .int .i64 k ∧ SqAt wb n (fun j t => if j = s then dgT N ls s k t else dgN N ls j t) (s + 1) wx) (fun xv _ => kl - (intOf xv).toNat)
      case atStart => exact ⟨0, by omega, rfl, HNW.out⟩
      case round =>
        obtain ⟨k, hk, rfl, hfl⟩ := hrel
        have HFL := hide hfl
        by_cases hlk : k < kl
        · have hlki : (k : Int) < (kl : Int) := by omega
          obtain ⟨bl, ol, rfl, hcl⟩ := sl_cell (sl_below HL.out hfl.2.2.2) k hlk
          obtain ⟨h1, h2, h3, h4⟩ := HXS.out k (by have := HLL.out; omega)
          obtain ⟨x, hx⟩ : ∃ x : Nat, ls.getD k 0 = (x : Int) := ⟨(ls.getD k 0).toNat, by omega⟩
          have HXK := hide hx
          rw [hx] at hcl h1 h2 h3 h4
          rw [Int.toNat_natCast] at h2 h3 h4
          have hxi : (x : Int) < (nl : Int) := by omega
          obtain ⟨b1, o1, rfl, hcx⟩ := sl_cell (sl_below HSN.out hfl.2.2.2) x h2
          have hna := HNA.out x
          obtain ⟨v, hv⟩ : ∃ v : Nat, row.getD x 0 = (v : Int) := ⟨(row.getD x 0).toNat, by omega⟩
          rw [hv] at hcx h3 h4 hna
          rw [Int.toNat_natCast] at hna
          have hvi : (v : Int) < (n : Int) := h4
          have hvn : v < n := by omega
          have hcT := rowIs_eq hfl.2.1 hlt (if_pos (Nat.lt_succ_self s))
          have hcR := rowIs_eq (hfl.2.2.1 s (Nat.lt_succ_self s)) hvn (congrArg (Value.int .i64) (if_pos rfl))
          have hfR := (hfl.2.2.1 s (Nat.lt_succ_self s)).frozen v
          have hbd := dgT_bd N ls s k v
          have HNX := hide (sqAt_congr (sqAt_put hfl (dgT N ls s k v + 1) (s := s) (t := v) (Nat.lt_succ_self s)) (R' := fun j t => if j = s then dgT N ls s (k + 1) t else dgN N ls j t) (fun j t _ _ => by
            by_cases e : j = s
            · subst e
              rw [if_pos rfl, if_pos rfl, dgT_step, HXK.out, hna]
              by_cases e2 : t = v
              · subst e2; rw [if_pos ⟨rfl, rfl⟩, if_pos rfl]
              · rw [if_neg (fun h => e2 h.2), if_neg e2, Int.add_zero]
            · rw [if_neg e, if_neg (fun h => e h.1), if_neg e]))
          generalize dgT N ls s k v = d at hcR hbd HNX
          have hwd : IntKind.i64.wrap (d + 1) = d + 1 := by rw [IntKind.wrap_i64]; omega
          clear hfl hx hna hv h1 h3 h4
          go_upto_region 9 with fail
          go_region
          all_goals
            go_wp2
            go_roundw
            case rel => exact ⟨k + 1, by omega, by go_num, sqAt_drew HNX.out⟩
            case measure => simp [intOf]; omega
        · have hlki : ¬ ((k : Int) < (kl : Int)) := by omega
          obtain rfl : k = kl := by omega
          have HNX := hide (sqAt_congr hfl (R' := dgN N ls) (fun j t _ _ => by
            by_cases e : j = s
            · subst e; rw [if_pos rfl, ← dgT_all, HLL.out]
            · rw [if_neg e]))
          clear hfl
          go_wp2
          go_roundw
          case rel => exact ⟨s + 1, by omega, by go_num, HNX.out⟩
          case measure => simp [intOf]; omega
    · have hlti : ¬ (s : Int) < (n : Int) := by omega
      obtain rfl : n = s := by omega
      have HE := hide (HEND.out wr hsq)
      clear hsq
      go_wp2
      go_ret
      exact HE.out
end Go.Proofs.Ytlgjadnkokmjoaa

/- A struct in a box, one field of which is a row of things that lie in blocks of their own. -/
namespace Go.Proofs.Ytlgjadnkokmjoaa
open Go.RowKit

/-- What holds as long as these blocks stand. -/
def KpW (lo hi : Nat) (P : World → Prop) (W : World) : Prop := ∀ W' : World, (∀ x, lo ≤ x → x < hi → W'.heap[x]? = W.heap[x]?) → P W'
theorem KpW.here {lo hi : Nat} {P : World → Prop} {W : World} (h : KpW lo hi P W) : P W := h W fun _ _ _ => rfl
theorem KpW.on {lo hi : Nat} {P : World → Prop} {W W2 : World} (h : KpW lo hi P W) (hk : ∀ x, lo ≤ x → x < hi → W2.heap[x]? = W.heap[x]?) : KpW lo hi P W2 := fun W' hW' => h W' fun x h1 h2 => (hW' x h1 h2).trans (hk x h1 h2)
/-- Blocks that are neither B nor v's own. -/
def Apt (bs B : Nat) (v : Value) (sz lo hi : Nat) : Prop := (bs ≤ lo ∧ (B < lo ∨ hi ≤ B)) ∧ hi ≤ sz ∧ ∀ x, v.ownBlock = some x → x < lo ∨ hi ≤ x
structure GrK (wb : World) (B f : Nat) (mk : Value → Obj) (ty : TypeId) (X : World → Prop) (P : Nat → Value → World → Prop) (q : Nat) (vals : List Value) (v : Value) (W : World) : Prop where
  box : W.heap[B]? = some (mk v)
  own : W.ownsRow (B + 1) ty 1 v q vals
  len : vals.length = q
  bel : Below wb.heap.size wb W
  base : wb.heap.size ≤ B
  put : ∀ (W : World) (v v' : Value), W.heap[B]? = some (mk v) → (W.setCell ⟨B, f, none⟩ v').heap[B]? = some (mk v')
  ext : ∃ lo hi, Apt wb.heap.size B v W.heap.size lo hi ∧ KpW lo hi X W
  els : ∀ j, j < q → ∃ u lo hi, vals[j]? = some u ∧ Apt wb.heap.size B v W.heap.size lo hi ∧ KpW lo hi (P j u) W
section
variable {wb W W2 : World} {B f : Nat} {mk : Value → Obj} {ty : TypeId} {X : World → Prop} {P : Nat → Value → World → Prop} {q : Nat} {vals : List Value} {v : Value}
theorem grK_below (h : GrK wb B f mk ty X P q vals v W) (hb : Below W.heap.size W W2) : GrK wb B f mk ty X P q vals v W2 := by
  have hsz := hb.size
  refine ⟨(hb.block B (Array.getElem?_eq_some_iff.1 h.box).1).trans h.box, ?_, h.len, below_step h.bel hb, h.base, h.put, ?_, fun j hj => ?_⟩
  · obtain ⟨h1, h2⟩ := h.own
    refine ⟨h1, ?_⟩
    rcases h2 with h2 | ⟨g, cap, cur, rfl, hg, hh, r⟩
    · exact Or.inl h2
    · exact Or.inr ⟨g, cap, cur, rfl, hg, by rw [hb.block g (Array.getElem?_eq_some_iff.1 hh).1]; exact hh, r⟩
  · obtain ⟨lo, hi, ⟨a1, a2, a3⟩, k⟩ := h.ext
    exact ⟨lo, hi, ⟨a1, by omega, a3⟩, k.on fun x _ hx => hb.block x (by omega)⟩
  · obtain ⟨u, lo, hi, e, ⟨a1, a2, a3⟩, k⟩ := h.els j hj
    exact ⟨u, lo, hi, e, ⟨a1, by omega, a3⟩, k.on fun x _ hx => hb.block x (by omega)⟩
theorem grK_push (h : GrK wb B f mk ty X P q vals v W) (hb : Below W.heap.size W W2) {u : Value} (hn : KpW W.heap.size W2.heap.size (P q u) W2) {w3 : World} {o : Obj} {g' cap' : Nat} (hown : w3.ownsRow (B + 1) ty 1 (.slice (some ⟨g', 0, none⟩) (q + 1) cap') (q + 1) (vals ++ [u])) (hgrow : (W2.alloc o).grownBy w3 v.ownBlock) (hat : v.ownBlock = some g' ∨ g' = W2.heap.size + 1) :
    w3.heap[B]? = some (mk v) ∧ GrK wb B f mk ty X P (q + 1) (vals ++ [u]) (.slice (some ⟨g', 0, none⟩) (q + 1) cap') (w3.setCell ⟨B, f, none⟩ (.slice (some ⟨g', 0, none⟩) (q + 1) cap')) := by
  have hl := (Array.getElem?_eq_some_iff.1 h.box).1
  have hsz := hb.size
  have hsz3 := hgrow.size
  rw [World.size_alloc] at hsz3
  have hvo : ∀ x, v.ownBlock = some x → B + 1 ≤ x ∧ x < W.heap.size := fun x e => h.own.lt x e
  have hne : v.ownBlock ≠ some B := fun e => by have := (hvo B e).1; omega
  have hkeep : ∀ x, x < W2.heap.size → v.ownBlock ≠ some x → w3.heap[x]? = W2.heap[x]? := fun x hx hne => by
    rw [hgrow.block x (by rw [World.size_alloc]; omega) (fun e => hne e.symm), Below.heap_alloc _ _ _ hx]
  have h3 : w3.heap[B]? = some (mk v) := (hkeep B (by omega) hne).trans ((hb.block B hl).trans h.box)
  have hgB : g' ≠ B := by
    rcases hat with e | e
    · intro e'; subst e'; exact hne e
    · omega
  have hset : ∀ x, x ≠ B → (w3.setCell ⟨B, f, none⟩ (.slice (some ⟨g', 0, none⟩) (q + 1) cap')).heap[x]? = w3.heap[x]? := fun x hx => Below.heap_setCell _ _ _ _ hx
  have hbl : Below wb.heap.size wb w3 := Below.grown ((below_step h.bel hb).alloc (by have := h.bel.size; omega) o) hgrow (by have := h.bel.size; rw [World.size_alloc]; omega) (fun k hk => by have := (hvo k hk).1; have := h.base; omega)
  have old : ∀ {lo hi : Nat} {Q : World → Prop}, Apt wb.heap.size B v W.heap.size lo hi → KpW lo hi Q W → Apt wb.heap.size B (.slice (some ⟨g', 0, none⟩) (q + 1) cap') (w3.setCell ⟨B, f, none⟩ (.slice (some ⟨g', 0, none⟩) (q + 1) cap')).heap.size lo hi ∧ KpW lo hi Q (w3.setCell ⟨B, f, none⟩ (.slice (some ⟨g', 0, none⟩) (q + 1) cap')) := fun {lo hi Q} ⟨a1, a2, a3⟩ k => by
    refine ⟨⟨a1, by simp; omega, fun x e => ?_⟩, k.on fun x h1 h2 => ?_⟩
    · have e' : g' = x := by simpa [Value.ownBlock] using e
      subst e'
      rcases hat with e2 | e2
      · exact a3 _ e2
      · right; omega
    · have hnx : v.ownBlock ≠ some x := fun e => by rcases a3 x e with h | h <;> omega
      rw [hset x (by omega), hkeep x (by omega) hnx, hb.block x (by omega)]
  refine ⟨h3, h.put w3 v _ h3, ?_, by rw [List.length_append, h.len]; rfl, hbl.setCell h.base _, h.base, h.put, ?_, fun j hj => ?_⟩
  · obtain ⟨h1, h2⟩ := hown
    refine ⟨h1, ?_⟩
    rcases h2 with h2 | ⟨g, cap, cur, e, hg, hh, r⟩
    · exact Or.inl h2
    · have e' : g' = g := by injection e with e _ _; injection e with e; injection e
      exact Or.inr ⟨g, cap, cur, e, hg, by rw [hset g (by omega)]; exact hh, r⟩
  · obtain ⟨lo, hi, ha, k⟩ := h.ext
    exact ⟨lo, hi, (old ha k).1, (old ha k).2⟩
  · by_cases e : j = q
    · subst e
      refine ⟨u, W.heap.size, W2.heap.size, by rw [List.getElem?_append_right (by rw [h.len]; omega), h.len]; simp, ⟨⟨h.bel.size, Or.inl hl⟩, by simp; omega, fun x e => ?_⟩, hn.on fun x h1 h2 => ?_⟩
      · have e' : g' = x := by simpa [Value.ownBlock] using e
        subst e'
        rcases hat with e2 | e2
        · left; exact (hvo _ e2).2
        · right; omega
      · have hnx : v.ownBlock ≠ some x := fun e => by have := (hvo x e).2; omega
        rw [hset x (by omega), hkeep x h2 hnx]
    · obtain ⟨u', lo, hi, e1, ha, k⟩ := h.els j (by omega)
      exact ⟨u', lo, hi, by rw [List.getElem?_append_left (by rw [h.len]; omega)]; exact e1, (old ha k).1, (old ha k).2⟩
theorem grK_keep (h : GrK wb B f mk ty X P q vals v W) {W' : World} (hW' : ∀ x, x ≠ B → wb.heap.size ≤ x → x < W.heap.size → W'.heap[x]? = W.heap[x]?) : X W' ∧ ∀ j, j < q → ∃ u, vals[j]? = some u ∧ P j u W' := by
  have go : ∀ {lo hi : Nat} {Q : World → Prop}, Apt wb.heap.size B v W.heap.size lo hi → KpW lo hi Q W → Q W' := fun {lo hi Q} ⟨⟨a0, a1⟩, a2, _⟩ k => k W' fun x h1 h2 => hW' x (by omega) (by omega) (by omega)
  obtain ⟨lo, hi, ha, k⟩ := h.ext
  refine ⟨go ha k, fun j hj => ?_⟩
  obtain ⟨u, lo, hi, e, ha, k⟩ := h.els j hj
  exact ⟨u, e, go ha k⟩
end
/-- In the end it reads as squares. -/
def SqP (L : Nat → List (List Int)) (j : Nat) (u : Value) (W : World) : Prop := ∃ a c, u = .slice a (L j).length c ∧ Sl2 W a (L j).length (L j)
theorem grK_end {wb W : World} {B f : Nat} {mk : Value → Obj} {X : World → Prop} {L : Nat → List (List Int)} {q : Nat} {vals : List Value} {v : Value} (h : GrK wb B f mk 22 X (SqP L) q vals v W) (hq : q ≤ maxLen) (S : List (List (List Int))) (hS : S.length = q) (hr : ∀ j, j < q → S.getD j [] = L j) : ∃ a c, v = .slice a q c ∧ ∀ W' : World, (∀ x, x ≠ B → wb.heap.size ≤ x → x < W.heap.size → W'.heap[x]? = W.heap[x]?) → Sl3 W' a q S := by
  obtain ⟨g0, g1⟩ := h.own
  rcases g1 with ⟨rfl, h1⟩ | ⟨g, cap, cur, rfl, hg, hh, hc, hcm, hcs, ht⟩
  · exact ⟨none, 0, by rw [h1], fun W' _ => ⟨hS, hq, Or.inl h1⟩⟩
  · refine ⟨_, cap, rfl, fun W' hW' => ⟨hS, hq, Or.inr ⟨g, 0, rfl, fun i hi => ?_⟩⟩⟩
    obtain ⟨u, e1, a', cap', e2, hs⟩ := (grK_keep h hW').2 i hi
    have hgl := (Array.getElem?_eq_some_iff.1 hh).1
    have hh' := (hW' g (by omega) (by have := h.base; omega) hgl).trans hh
    rw [hr i hi]
    refine ⟨a', cap', ?_, hs⟩
    rw [cell_of_row W' g (0 + i) cur 22 (0, 0) hh', Nat.zero_add]
    have h3 : (cur.toList.take (q * 1))[i]? = vals[i]? := by rw [ht]
    rw [List.getElem?_take, if_pos (by omega), Array.getElem?_toList] at h3
    rw [h3, e1, e2]
/-- A struct in a box, one field of which is a row of numbers that is made behind all that was there. -/
structure LsI (w2 wr0 : World) (B f : Nat) (mk : Value → Obj) (l : List Int) (v : Value) (W : World) : Prop where
  box : W.heap[B]? = some (mk v)
  own : W.ownsRow wr0.heap.size 3 1 v l.length (l.map (Value.int .i64))
  old : ∀ x, x ≠ B → x < wr0.heap.size → W.heap[x]? = wr0.heap[x]?
  size : wr0.heap.size ≤ W.heap.size
  bel : Below w2.heap.size w2 W
  lt : B < wr0.heap.size
  base : w2.heap.size ≤ B
  put : ∀ (W : World) (v v' : Value), W.heap[B]? = some (mk v) → (W.setCell ⟨B, f, none⟩ v').heap[B]? = some (mk v')
theorem lsI_push {w2 wr0 W : World} {B f : Nat} {mk : Value → Obj} {l : List Int} {v : Value} (h : LsI w2 wr0 B f mk l v W) {x : Int} {W2 w3 : World} (e2 : W2.heap = W.heap) (hb2 : Below w2.heap.size w2 W2) {o : Obj} {g' cap' q : Nat} (hq : l.length = q) (hown : w3.ownsRow wr0.heap.size 3 1 (.slice (some ⟨g', 0, none⟩) (q + 1) cap') (q + 1) (l.map (Value.int .i64) ++ [.int .i64 x])) (hgrow : (W2.alloc o).grownBy w3 v.ownBlock) :
    w3.heap[B]? = some (mk v) ∧ LsI w2 wr0 B f mk (l ++ [x]) (.slice (some ⟨g', 0, none⟩) (q + 1) cap') (w3.setCell ⟨B, f, none⟩ (.slice (some ⟨g', 0, none⟩) (q + 1) cap')) := by
  subst hq
  have hs2 : W2.heap.size = W.heap.size := by rw [e2]
  have hvo : ∀ x, v.ownBlock = some x → wr0.heap.size ≤ x ∧ x < W.heap.size := fun x e => h.own.lt x e
  have hlt := h.lt
  have hsz := h.size
  have hsz3 := hgrow.size
  rw [World.size_alloc] at hsz3
  have hkeep : ∀ x, x < wr0.heap.size → w3.heap[x]? = W.heap[x]? := fun x hx => by
    rw [hgrow.block x (by rw [World.size_alloc]; omega) (fun e => by have := (hvo x e.symm).1; omega), Below.heap_alloc _ _ _ (by omega), e2]
  have h3 : w3.heap[B]? = some (mk v) := (hkeep B hlt).trans h.box
  have hset : ∀ x, x ≠ B → (w3.setCell ⟨B, f, none⟩ (.slice (some ⟨g', 0, none⟩) (l.length + 1) cap')).heap[x]? = w3.heap[x]? := fun x hx => Below.heap_setCell _ _ _ _ hx
  have hbw := h.base
  have hbl : Below w2.heap.size w2 w3 := Below.grown (hb2.alloc hb2.size o) hgrow (by have := hb2.size; rw [World.size_alloc]; omega) (fun k hk => by have := (hvo k hk).1; omega)
  refine ⟨h3, h.put w3 v _ h3, ?_, fun x hx hx2 => ?_, by simp; omega, hbl.setCell hbw _, hlt, hbw, h.put⟩
  · rw [List.length_append, List.length_singleton, List.map_append]
    refine ownsRow_of_block hown fun y hy => hset y (fun e => ?_)
    have := (hown.lt y hy).1
    omega
  · rw [hset x hx, hkeep x hx2]
    exact h.old x hx hx2
/-- What leads hands back stands in the blocks that it made. -/
theorem leads_kp {w : World} {n : Nat} {N : List (List Int)} {ls : List Int} {e : Ending} {w' : World} (h : SqR w n (dgN N ls) e w') (hN : N.length = n) (hn : n ≤ 1000) (h36 : ls.length ≤ 36) : e = .returned (.slice (some ⟨w.heap.size + 1, 0, none⟩) n n) ∧ KpW w.heap.size w'.heap.size (fun W => Sl2 W (some ⟨w.heap.size + 1, 0, none⟩) n (leadsL N ls)) w' ∧ Below w.heap.size w w' := by
  obtain ⟨e1, wb, h1, h2, h3⟩ := h
  subst hN
  refine ⟨e1, fun W' hW' => ?_, below_step h2 h3.2.2.2⟩
  obtain ⟨g1, g2, g3, g4⟩ := h3
  have hsz := g1
  have hl2 := leadsL_len N ls
  have hbd : ∀ s, s < N.length → ((leadsL N ls).getD s []).length = N.length ∧ ∀ t, t < N.length → ((leadsL N ls).getD s []).getD t 0 = dgN N ls s t ∧ 0 ≤ dgN N ls s t ∧ dgN N ls s t ≤ 1152921504606846977 := fun s hs => ⟨by simp [leadsL, List.getD, hs], fun t ht => by
    rw [leadsL_get hs ht]
    have h1 := dgN_nn N ls s t
    have h2 := dgN_le N ls s t
    exact ⟨rfl, by omega, by omega⟩⟩
  have r2 := g2.of_block (hW' _ (by omega) (by have := g2.lt; omega))
  rw [h1] at r2
  refine ⟨hl2, by unfold maxLen; omega, Or.inr ⟨_, _, rfl, fun i hi => ?_⟩⟩
  have hc := r2.cell hi
  rw [if_pos hi] at hc
  obtain ⟨e1, e2⟩ := hbd i hi
  refine ⟨some ⟨w.heap.size + 1 + 1 + i, 0, none⟩, N.length, by rw [Nat.zero_add, e1]; exact hc, ?_⟩
  rw [e1]
  have r3 := g3 i hi
  have r4 := r3.of_block (hW' _ (by omega) (by have := r3.lt; omega))
  rw [h1] at r4
  refine sl_of_rowIs e1 (by unfold maxLen; omega) (fun x hx => ?_) (r4.congr fun t ht => by rw [(e2 t ht).1])
  obtain ⟨t, ht, rfl⟩ := List.getElem_of_mem hx
  have := e2 t (by omega)
  rw [getD_at _ _ ht] at this
  rw [this.1]
  exact WalkArith.wf_i64 (by omega)
end Go.Proofs.Ytlgjadnkokmjoaa

/- What Eval answers: mathematics; count.areCounts, isShaped: contracts. -/
namespace Go.Proofs.Ytlgjadnkokmjoaa
open Go.RowKit

def amtB (x : Int) : Bool := decide (0 ≤ x ∧ x ≤ 1152921504606846976)
def shpB (n : Nat) (s : List (List Int)) : Bool := decide (s.length = n) && s.all (fun r => decide (r.length = n))
def shapeB (n m : Nat) (S : List (List (List Int))) (L : List Int) : Bool := (decide (L.length = n) && decide (S.length = m)) && S.all (shpB n)
def cntsB (F : List Int) (S : List (List (List Int))) (L : List Int) : Bool := (F.all amtB && L.all amtB) && S.all (fun s => s.all (fun r => r.all amtB))
/-- What is wrong with what counts by matrices. -/
def repC (b t : Int) (F : List Int) (S : List (List (List Int))) (L : List Int) : Int :=
  if codeM b t = 0 then (if F.length = 0 then 4 else if 80 < F.length then 3 else if shapeB F.length (manyU b t).toNat S L = true then (if cntsB F S L = true then 0 else 1) else 2) else codeM b t
/-- The row behind a word, if nothing that comes up is too great. -/
def evGo (S : List (List (List Int))) : List Int → List Int → Option (List Int)
  | row, [] => some row
  | row, x :: v => if (thrL row (S.getD x.toNat [])).all amtB = true then evGo S (thrL row (S.getD x.toNat [])) v else none
def evS (row L : List Int) : Int := capI (csum (fun i => row.getD i 0 * L.getD i 0) row.length)
def evlX (F : List Int) (S : List (List (List Int))) (L w : List Int) : Option Int := match evGo S F w with
  | none => none
  | some row => if evS row L ≤ 1152921504606846976 then some (evS row L) else none
def evlC (b t : Int) (F : List Int) (S : List (List (List Int))) (L w : List Int) : Int :=
  if repC b t F S L = 0 then (if wordC S.length w = 0 then (if (evlX F S L w).isSome = true then 0 else 3) else wordC S.length w) else repC b t F S L
def evlV (b t : Int) (F : List Int) (S : List (List (List Int))) (L w : List Int) : Int :=
  if evlC b t F S L w = 0 then (evlX F S L w).getD 0 else 0
def retQ (q : Bool) (w : World) (e : Ending) (w' : World) : Prop := e = .returned (.bool q) ∧ w' = w
def retQB (q : Bool) (w : World) (e : Ending) (w' : World) : Prop := e = .returned (.bool q) ∧ Below w.heap.size w w'
theorem allD_yes {α : Type} {l : List α} {p : α → Bool} {d : α} (h : ∀ i, i < l.length → p (l.getD i d) = true) : l.all p = true := by
  rw [List.all_eq_true]
  intro x hx
  obtain ⟨i, hi, rfl⟩ := List.getElem_of_mem hx
  have := h i hi
  simpa [List.getD, hi] using this
theorem allD_no {α : Type} {l : List α} {p : α → Bool} {d : α} (i : Nat) (hi : i < l.length) (h : p (l.getD i d) = false) : l.all p = false := by
  rw [List.all_eq_false]
  refine ⟨l[i], List.getElem_mem _, ?_⟩
  have e : l.getD i d = l[i] := by simp [List.getD, hi]
  rw [← e, h]
  exact Bool.false_ne_true
theorem allD_at {α : Type} {l : List α} {p : α → Bool} {d : α} (h : l.all p = true) {i : Nat} (hi : i < l.length) : p (l.getD i d) = true := by
  have e : l.getD i d = l[i] := by simp [List.getD, hi]
  rw [e]
  exact List.all_eq_true.1 h _ (List.getElem_mem _)
set_option maxHeartbeats 2000000 in
set_option maxRecDepth 4000 in
theorem areCounts_any (a : Option Addr) (n c : Nat) (l : List Int) (w : World) (hs : Sl w a n l) : Calls Try.prog 19 #[.slice a n c] w (retQ (l.all amtB) w) := by
  have hL := hs.1
  have hnm := hs.2.1
  unfold maxLen at hnm
  have HS := hide hs
  have HY := hide (@allD_yes Int l amtB 0)
  have HN := hide (@allD_no Int l amtB 0)
  rw [hL] at HY HN
  generalize l.all amtB = R at HY HN ⊢
  clear hs hL
  go_enter Try.func19, Try.ntmps19
  go_wp2
  go_loop [7] (fun u => ∃ k : Nat, k ≤ n ∧ u = .int .i64 k ∧ ∀ i, i < k → amtB (l.getD i 0) = true) (fun u => n - (intOf u).toNat)
  case atStart => exact ⟨0, by omega, rfl, fun i hi => by omega⟩
  case round =>
    obtain ⟨k, hk, rfl, hd⟩ := hrel
    have HD := hide hd
    clear hd
    by_cases hlt : k < n
    · have hlti : (k : Int) < (n : Int) := by omega
      obtain ⟨b1, o1, rfl, hc⟩ := sl_cell HS.out k hlt
      have HB := hide (HN.out k hlt)
      have HD2 : Hid (amtB (l.getD k 0) = true → ∀ i, i < k + 1 → amtB (l.getD i 0) = true) := fun h i hi => by
        by_cases e : i = k
        · subst e; exact h
        · exact HD.out i (by omega)
      generalize l.getD k 0 = x at hc HB HD2
      by_cases hx : 0 ≤ x ∧ x ≤ 1152921504606846976
      · have HD3 := hide (HD2.out (decide_eq_true hx))
        obtain ⟨h1, h2⟩ := hx
        go_wp2
        go_round
        case rel => exact ⟨k + 1, by omega, by go_num, HD3.out⟩
        case measure => simp [intOf]; omega
      · have HB2 := hide (HB.out (decide_eq_false hx))
        have hx' : x < 0 ∨ (¬ x < 0 ∧ 1152921504606846976 < x) := by omega
        clear hx
        rcases hx' with hx | ⟨h1, h2⟩
        all_goals
          go_wp2
          go_ret
          exact ⟨by rw [HB2.out]; rfl, rfl⟩
    · have hlti : ¬ (k : Int) < (n : Int) := by omega
      obtain rfl : k = n := by omega
      have HR := hide (HY.out HD.out)
      go_wp2
      go_ret
      exact ⟨by rw [HR.out]; rfl, rfl⟩
set_option maxHeartbeats 4000000 in
set_option maxRecDepth 4000 in
theorem isShaped_any (b t : Int) (a1 : Option Addr) (n1 c1 : Nat) (a2 : Option Addr) (n2 c2 : Nat) (a3 : Option Addr) (n3 c3 : Nat) (S : List (List (List Int))) (L : List Int) (m n : Nat) (w : World) (hS : Sl3 w a2 n2 S) (hL : Sl w a3 n3 L) (hm : m ≤ 36) (hn : n ≤ 80) :
    Calls Try.prog 32 #[.agg #[.int .i64 b, .int .i64 t, .slice a1 n1 c1, .slice a2 n2 c2, .slice a3 n3 c3], .int .i64 (m : Int), .int .i64 (n : Int)] w (retQB (shapeB n m S L) w) := by
  have hBX : Below w.heap.size w (w.alloc (.cells #[.int .i64 b, .int .i64 t, .slice a1 n1 c1, .slice a2 n2 c2, .slice a3 n3 c3] 29)) := (Below.refl _ _).alloc (Nat.le_refl _) _
  have HBX := hide hBX
  obtain ⟨p0, p1, p2, p3, p4⟩ := @box5R w _ (.int .i64 b) (.int .i64 t) (.slice a1 n1 c1) (.slice a2 n2 c2) (.slice a3 n3 c3) 29 (Below.refl _ _)
  have HS := hide (sl3_below hS hBX)
  have hSl := hS.1
  have hLl := hL.1
  have hm2 := hS.2.1
  unfold maxLen at hm2
  have HSB : Hid (shapeB n m S L = ((decide (n3 = n) && decide (n2 = m)) && S.all (shpB n))) := by show _ = _; unfold shapeB; rw [hSl, hLl]
  have HY := hide (@allD_yes _ S (shpB n) [])
  have HN := hide (@allD_no _ S (shpB n) [])
  rw [hSl] at HY HN
  generalize hwb : w.alloc (.cells #[.int .i64 b, .int .i64 t, .slice a1 n1 c1, .slice a2 n2 c2, .slice a3 n3 c3] 29) = wb at HBX p0 p1 p2 p3 p4 HS
  generalize S.all (shpB n) = R at HSB HY HN
  generalize shapeB n m S L = Q at HSB ⊢
  clear hS hL hSl hLl hBX
  have hcase : n3 ≠ n ∨ (n3 = n ∧ n2 ≠ m) ∨ (n3 = n ∧ n2 = m) := by omega
  rcases hcase with h3 | ⟨rfl, h2⟩ | ⟨rfl, rfl⟩
  · have hne : ((n3 : Int) != (n : Int)) = true := by simp; omega
    have HQ : Hid (Q = false) := by show _ = _; rw [HSB.out, decide_eq_false h3]; rfl
    go_enter Try.func32, Try.ntmps32
    go_wp2
    go_ret
    exact ⟨by rw [HQ.out]; rfl, HBX.out⟩
  · have hne : ((n3 : Int) != (n3 : Int)) = false := by simp
    have hne2 : ((n2 : Int) != (m : Int)) = true := by simp; omega
    have HQ : Hid (Q = false) := by show _ = _; rw [HSB.out, decide_eq_false h2, Bool.and_false]; rfl
    go_enter Try.func32, Try.ntmps32
    go_wp2
    go_ret
    exact ⟨by rw [HQ.out]; rfl, HBX.out⟩
  · have hne : ((n3 : Int) != (n3 : Int)) = false := by simp
    have hne2 : ((n2 : Int) != (n2 : Int)) = false := by simp
    have HQ : Hid (Q = R) := by show _ = _; rw [HSB.out]; simp
    clear HSB
    go_enter Try.func32, Try.ntmps32
    go_wp2
    clear hwb p0 p1 p2 p3 p4
    go_loop [26] (fun u => ∃ k : Nat, k ≤ n2 ∧ u = .int .i64 k ∧ ∀ i, i < k → shpB n3 (S.getD i []) = true) (fun u => n2 - (intOf u).toNat)
    case atStart => exact ⟨0, by omega, rfl, fun i hi => by omega⟩
    case round =>
      obtain ⟨k, hk, rfl, hd⟩ := hrel
      have HD := hide hd
      clear hd
      by_cases hlt : k < n2
      · have hlti : (k : Int) < (n2 : Int) := by omega
        obtain ⟨b1, o1, a4, c4, rfl, hc, hs4⟩ := sl3_cell HS.out k hlt
        have HB := hide (HN.out k hlt)
        have HD2 : Hid (shpB n3 (S.getD k []) = true → ∀ i, i < k + 1 → shpB n3 (S.getD i []) = true) := fun h i hi => by
          by_cases e : i = k
          · subst e; exact h
          · exact HD.out i (by omega)
        generalize S.getD k [] = s at hc hs4 HB HD2
        have hsl : s.length ≤ maxLen := hs4.2.1
        unfold maxLen at hsl
        have HS4 := hide hs4
        have HSP : Hid (shpB n3 s = (decide (s.length = n3) && s.all (fun r => decide (r.length = n3)))) := rfl
        have HY2 := hide (@allD_yes _ s (fun r => decide (r.length = n3)) [])
        have HN2 := hide (@allD_no _ s (fun r => decide (r.length = n3)) [])
        generalize s.all (fun r => decide (r.length = n3)) = R2 at HSP HY2 HN2
        generalize hsn : s.length = ns at hc HS4 hsl HSP HY2 HN2
        clear hs4 hsn
        by_cases hns : ns = n3
        · subst hns
          have hne3 : ((ns : Int) != (ns : Int)) = false := by simp
          go_wp2
          go_loop [36] (fun u => ∃ j : Nat, j ≤ ns ∧ u = .int .i64 j ∧ ∀ i, i < j → (s.getD i []).length = ns) (fun u => ns - (intOf u).toNat)
          case atStart => exact ⟨0, by omega, rfl, fun i hi => by omega⟩
          case round =>
            obtain ⟨j, hj, rfl, hd⟩ := hrel
            have HDJ := hide hd
            clear hd
            by_cases hltj : j < ns
            · have hltji : (j : Int) < (ns : Int) := by omega
              obtain ⟨b5, o5, a5, c5, rfl, hc5, -⟩ := sl2_cell HS4.out j hltj
              have HBJ := hide (HN2.out j hltj)
              have HDJ2 : Hid ((s.getD j []).length = ns → ∀ i, i < j + 1 → (s.getD i []).length = ns) := fun h i hi => by
                by_cases e : i = j
                · subst e; exact h
                · exact HDJ.out i (by omega)
              generalize (s.getD j []).length = nr at hc5 HBJ HDJ2
              by_cases hnr : nr = ns
              · subst hnr
                have HDJ3 := hide (HDJ2.out rfl)
                go_wp2
                go_round
                case rel => exact ⟨j + 1, by omega, by go_num, HDJ3.out⟩
                case measure => simp [intOf]; omega
              · have hne4 : ((nr : Int) != (ns : Int)) = true := by simp; omega
                have HF : Hid (Q = false) := by
                  show _ = _
                  rw [HQ.out]
                  exact HB.out (by rw [HSP.out, HBJ.out (decide_eq_false hnr), Bool.and_false])
                go_wp2
                go_ret
                exact ⟨by rw [HF.out]; rfl, HBX.out⟩
            · have hltji : ¬ (j : Int) < (ns : Int) := by omega
              obtain rfl : j = ns := by omega
              have HD3 := hide (HD2.out (by rw [HSP.out, HY2.out (fun i hi => decide_eq_true (HDJ.out i hi))]; simp))
              go_wp2
              go_round
              case rel => exact ⟨k + 1, by omega, by go_num, HD3.out⟩
              case measure => simp [intOf]; omega
        · have hne3 : ((ns : Int) != (n3 : Int)) = true := by simp; omega
          have HF : Hid (Q = false) := by
            show _ = _
            rw [HQ.out]
            exact HB.out (by rw [HSP.out, decide_eq_false hns]; rfl)
          go_wp2
          go_ret
          exact ⟨by rw [HF.out]; rfl, HBX.out⟩
      · have hlti : ¬ (k : Int) < (n2 : Int) := by omega
        obtain rfl : k = n2 := by omega
        have HR := hide (HQ.out.trans (HY.out HD.out))
        go_wp2
        go_ret
        exact ⟨by rw [HR.out]; rfl, HBX.out⟩
end Go.Proofs.Ytlgjadnkokmjoaa

/- count.hasCounts, checkWord, check: contracts. -/
namespace Go.Proofs.Ytlgjadnkokmjoaa
open Go.RowKit

set_option maxHeartbeats 4000000 in
set_option maxRecDepth 4000 in
theorem hasCounts_any (b t : Int) (a1 : Option Addr) (n1 c1 : Nat) (a2 : Option Addr) (n2 c2 : Nat) (a3 : Option Addr) (n3 c3 : Nat) (F : List Int) (S : List (List (List Int))) (L : List Int) (w : World) (hF : Sl w a1 n1 F) (hS : Sl3 w a2 n2 S) (hL : Sl w a3 n3 L) :
    Calls Try.prog 33 #[.agg #[.int .i64 b, .int .i64 t, .slice a1 n1 c1, .slice a2 n2 c2, .slice a3 n3 c3]] w (retQB (cntsB F S L) w) := by
  have hBX : Below w.heap.size w (w.alloc (.cells #[.int .i64 b, .int .i64 t, .slice a1 n1 c1, .slice a2 n2 c2, .slice a3 n3 c3] 29)) := (Below.refl _ _).alloc (Nat.le_refl _) _
  have HBX := hide hBX
  obtain ⟨p0, p1, p2, p3, p4⟩ := @box5R w _ (.int .i64 b) (.int .i64 t) (.slice a1 n1 c1) (.slice a2 n2 c2) (.slice a3 n3 c3) 29 (Below.refl _ _)
  have HS := hide (sl3_below hS hBX)
  have hSl := hS.1
  have hm2 := hS.2.1
  unfold maxLen at hm2
  have HCF := hide (areCounts_any a1 n1 c1 F _ (sl_below hF hBX))
  have HCL := hide (areCounts_any a3 n3 c3 L _ (sl_below hL hBX))
  unfold retQ at HCF HCL
  have HSB : Hid (cntsB F S L = ((F.all amtB && L.all amtB) && S.all (fun s => s.all (fun r => r.all amtB)))) := rfl
  have HY := hide (@allD_yes _ S (fun s => s.all (fun r => r.all amtB)) [])
  have HN := hide (@allD_no _ S (fun s => s.all (fun r => r.all amtB)) [])
  rw [hSl] at HY HN
  generalize hwb : w.alloc (.cells #[.int .i64 b, .int .i64 t, .slice a1 n1 c1, .slice a2 n2 c2, .slice a3 n3 c3] 29) = wb at HBX p0 p1 p2 p3 p4 HS HCF HCL
  generalize S.all (fun s => s.all (fun r => r.all amtB)) = R at HSB HY HN
  generalize cntsB F S L = Q at HSB ⊢
  generalize F.all amtB = qF at HCF HSB
  generalize L.all amtB = qL at HCL HSB
  clear hF hS hL hSl hBX
  cases qF with
  | false =>
    have HQ : Hid (Q = false) := by show _ = _; rw [HSB.out]; simp
    go_enter Try.func33, Try.ntmps33
    go_wp2_with fail
    refine HCF.out.mono ?_
    rintro e w' ⟨rfl, hw⟩
    rw [hw]
    clear hw w'
    go_wp2
    go_ret
    exact ⟨by rw [HQ.out]; rfl, HBX.out⟩
  | true =>
    cases qL with
    | false =>
      have HQ : Hid (Q = false) := by show _ = _; rw [HSB.out]; simp
      go_enter Try.func33, Try.ntmps33
      go_wp2_with fail
      refine HCF.out.mono ?_
      rintro e w' ⟨rfl, hw⟩
      rw [hw]
      clear hw w'
      go_wp2_with fail
      refine HCL.out.mono ?_
      rintro e w' ⟨rfl, hw⟩
      rw [hw]
      clear hw w'
      go_wp2
      go_ret
      exact ⟨by rw [HQ.out]; rfl, HBX.out⟩
    | true =>
      have HQ : Hid (Q = R) := by show _ = _; rw [HSB.out]; simp
      go_enter Try.func33, Try.ntmps33
      go_wp2_with fail
      refine HCF.out.mono ?_
      rintro e w' ⟨rfl, hw⟩
      rw [hw]
      clear hw w'
      go_wp2_with fail
      refine HCL.out.mono ?_
      rintro e w' ⟨rfl, hw⟩
      rw [hw]
      clear hw w'
      go_wp2
      clear hwb p0 p1 p2 p3 p4 HCF HCL HSB
      go_loop [20] (fun u => ∃ k : Nat, k ≤ n2 ∧ u = .int .i64 k ∧ ∀ i, i < k → (S.getD i []).all (fun r => r.all amtB) = true) (fun u => n2 - (intOf u).toNat)
      case atStart => exact ⟨0, by omega, rfl, fun i hi => by omega⟩
      case round =>
        obtain ⟨k, hk, rfl, hd⟩ := hrel
        have HD := hide hd
        clear hd
        by_cases hlt : k < n2
        · have hlti : (k : Int) < (n2 : Int) := by omega
          obtain ⟨b1, o1, a4, c4, rfl, hc, hs4⟩ := sl3_cell HS.out k hlt
          have HB := hide (HN.out k hlt)
          have HD2 : Hid ((S.getD k []).all (fun r => r.all amtB) = true → ∀ i, i < k + 1 → (S.getD i []).all (fun r => r.all amtB) = true) := fun h i hi => by
            by_cases e : i = k
            · subst e; exact h
            · exact HD.out i (by omega)
          generalize S.getD k [] = s at hc hs4 HB HD2
          have hsl : s.length ≤ maxLen := hs4.2.1
          unfold maxLen at hsl
          have HS4 := hide hs4
          have HY2 := hide (@allD_yes _ s (fun r => r.all amtB) [])
          have HN2 := hide (@allD_no _ s (fun r => r.all amtB) [])
          generalize s.all (fun r => r.all amtB) = R2 at HB HD2 HY2 HN2
          generalize hsn : s.length = ns at hc HS4 hsl HY2 HN2
          clear hs4 hsn
          go_wp2
          go_loop [26] (fun u => ∃ j : Nat, j ≤ ns ∧ u = .int .i64 j ∧ ∀ i, i < j → (s.getD i []).all amtB = true) (fun u => ns - (intOf u).toNat)
          case atStart => exact ⟨0, by omega, rfl, fun i hi => by omega⟩
          case round =>
            obtain ⟨j, hj, rfl, hd⟩ := hrel
            have HDJ := hide hd
            clear hd
            by_cases hltj : j < ns
            · have hltji : (j : Int) < (ns : Int) := by omega
              obtain ⟨b5, o5, a5, c5, rfl, hc5, hs5⟩ := sl2_cell HS4.out j hltj
              have HBJ := hide (HN2.out j hltj)
              have HDJ2 : Hid ((s.getD j []).all amtB = true → ∀ i, i < j + 1 → (s.getD i []).all amtB = true) := fun h i hi => by
                by_cases e : i = j
                · subst e; exact h
                · exact HDJ.out i (by omega)
              have HC5 := hide (areCounts_any a5 _ c5 _ _ hs5)
              unfold retQ at HC5
              clear hs5
              generalize (s.getD j []).length = nr at hc5 HC5
              generalize (s.getD j []).all amtB = q at HBJ HDJ2 HC5
              cases q with
              | true =>
                have HDJ3 := hide (HDJ2.out rfl)
                go_wp2_with fail
                refine HC5.out.mono ?_
                rintro e w' ⟨rfl, hw⟩
                rw [hw]
                clear hw w'
                go_wp2
                go_round
                case rel => exact ⟨j + 1, by omega, by go_num, HDJ3.out⟩
                case measure => simp [intOf]; omega
              | false =>
                have HF : Hid (Q = false) := HQ.out.trans (HB.out (HBJ.out rfl))
                go_wp2_with fail
                refine HC5.out.mono ?_
                rintro e w' ⟨rfl, hw⟩
                rw [hw]
                clear hw w'
                go_wp2
                go_ret
                exact ⟨by rw [HF.out]; rfl, HBX.out⟩
            · have hltji : ¬ (j : Int) < (ns : Int) := by omega
              obtain rfl : j = ns := by omega
              have HD3 := hide (HD2.out (HY2.out HDJ.out))
              go_wp2
              go_round
              case rel => exact ⟨k + 1, by omega, by go_num, HD3.out⟩
              case measure => simp [intOf]; omega
        · have hlti : ¬ (k : Int) < (n2 : Int) := by omega
          obtain rfl : k = n2 := by omega
          have HR := hide (HQ.out.trans (HY.out HD.out))
          go_wp2
          go_ret
          exact ⟨by rw [HR.out]; rfl, HBX.out⟩
set_option maxHeartbeats 1000000 in
set_option maxRecDepth 4000 in
theorem checkWord_any (m : Nat) (aw : Option Addr) (lw cw : Nat) (l : List Int) (w : World) (hs : Sl w aw lw l) :
    Calls Try.prog 17 #[.slice aw lw cw, .int .i64 m] w fun e w' => e = .returned (errV (wordC m l)) ∧ w' = w := by
  have hL := hs.1
  have hm := hs.2.1
  unfold maxLen at hm
  have HS := hide hs
  clear hs
  by_cases hlong : 400 < lw
  · rw [@wordC_long m l (by omega)]
    have hlong' : (400 : Int) < (lw : Int) := by omega
    go_enter Try.func17, Try.ntmps17
    go_wp2
    go_ret
    exact ⟨by simp [errV], rfl⟩
  · have hlong' : ¬ (400 : Int) < (lw : Int) := by omega
    have HBAD := hide (fun k => @wordC_bad m l (by omega) k)
    have HGOOD := hide (@wordC_good m l (by omega))
    rw [hL] at HBAD HGOOD
    generalize wordC m l = c at HBAD HGOOD ⊢
    go_enter Try.func17, Try.ntmps17
    go_wp2
    go_loop [13] (fun i => ∃ k : Nat, k ≤ lw ∧ i = .int .i64 k ∧ ∀ j, j < k → 0 ≤ l.getD j 0 ∧ l.getD j 0 < (m : Int)) (fun i => lw - (intOf i).toNat)
    case atStart => exact ⟨0, by omega, rfl, by omega⟩
    case round =>
      obtain ⟨k, hk, rfl, hd⟩ := hrel
      have HD := hide hd
      clear hd
      by_cases hlt : k < lw
      · have hlti : (k : Int) < (lw : Int) := by omega
        obtain ⟨bb, o, rfl, hck⟩ := sl_cell HS.out k hlt
        have HB' := hide (HBAD.out k hlt)
        have HD' : Hid (0 ≤ l.getD k 0 ∧ l.getD k 0 < (m : Int) → ∀ j, j < k + 1 → 0 ≤ l.getD j 0 ∧ l.getD j 0 < (m : Int)) := by
          intro h j hj
          by_cases e : j = k
          · subst e; exact h
          · exact HD.out j (by omega)
        generalize l.getD k 0 = x at hck HB' HD'
        by_cases hx : 0 ≤ x ∧ x < (m : Int)
        · have HD2 := hide (HD'.out hx)
          obtain ⟨hx1, hx2⟩ := hx
          have hx3 : ¬ x ≥ (m : Int) := by omega
          go_wp2
          go_round
          case rel => exact ⟨k + 1, by omega, by go_num, HD2.out⟩
          case measure => simp [intOf]; omega
        · have HB2 := hide (HB'.out hx)
          have hx' : x < 0 ∨ (¬ x < 0 ∧ (m : Int) ≤ x) := by omega
          clear hx
          rcases hx' with hx | ⟨hx1, hx2⟩
          all_goals
            go_wp2
            go_ret
            exact ⟨by rw [HB2.out]; simp [errV], rfl⟩
      · have hlti : ¬ ((k : Int) < (lw : Int)) := by omega
        have HG2 := hide (HGOOD.out fun j hj => HD.out j (by omega))
        go_wp2
        go_ret
        exact ⟨by rw [HG2.out]; simp [errV], rfl⟩
set_option maxHeartbeats 4000000 in
set_option maxRecDepth 4000 in
theorem countCheck_any (b t : Int) (a1 : Option Addr) (n1 c1 : Nat) (a2 : Option Addr) (n2 c2 : Nat) (a3 : Option Addr) (n3 c3 : Nat) (F : List Int) (S : List (List (List Int))) (L : List Int) (w : World) (hF : Sl w a1 n1 F) (hS : Sl3 w a2 n2 S) (hL : Sl w a3 n3 L) :
    Calls Try.prog 16 #[.agg #[.int .i64 b, .int .i64 t, .slice a1 n1 c1, .slice a2 n2 c2, .slice a3 n3 c3]] w fun e w' => e = .returned (errV (repC b t F S L)) ∧ Below w.heap.size w w' := by
  have hBX : Below w.heap.size w (w.alloc (.cells #[.int .i64 b, .int .i64 t, .slice a1 n1 c1, .slice a2 n2 c2, .slice a3 n3 c3] 29)) := (Below.refl _ _).alloc (Nat.le_refl _) _
  have HBX := hide hBX
  have HAT := hide (fun w' => @box5R w w' (.int .i64 b) (.int .i64 t) (.slice a1 n1 c1) (.slice a2 n2 c2) (.slice a3 n3 c3) 29)
  have hFl := hF.1
  have hm1 := hF.2.1
  unfold maxLen at hm1
  have HMU := hide (fun W => many_u b t W)
  have HRC : Hid (repC b t F S L = if codeM b t = 0 then (if n1 = 0 then 4 else if 80 < n1 then 3 else if shapeB n1 (manyU b t).toNat S L = true then (if cntsB F S L = true then 0 else 1) else 2) else codeM b t) := by show _ = _; rw [← hFl]; rfl
  have hMM : codeM b t = 0 → ∃ m : Nat, manyU b t = m ∧ m ≤ 36 := fun hM => by
    have hlo := pw_pos (kindsI b) (kinds_bd2 b (codeM_zero hM).2.1).1 t.toNat
    have hhi := (codeM_zero hM).2.2.2.2.1
    have hmu := (codeM_zero hM).2.2.2.2.2
    rw [← hmu] at hlo hhi
    exact ⟨(manyU b t).toNat, by omega, by omega⟩
  have HF := hide hF
  have HS := hide hS
  have HL := hide hL
  have HSH := hide (fun m W (h1 : m ≤ 36) (h2 : n1 ≤ 80) (h : Below w.heap.size w W) => isShaped_any b t a1 n1 c1 a2 n2 c2 a3 n3 c3 S L m n1 W (sl3_below HS.out h) (sl_below HL.out h) h1 h2)
  have HHC := hide (fun W (h : Below w.heap.size w W) => hasCounts_any b t a1 n1 c1 a2 n2 c2 a3 n3 c3 F S L W (sl_below HF.out h) (sl3_below HS.out h) (sl_below HL.out h))
  unfold retQB at HSH HHC
  generalize repC b t F S L = C at HRC ⊢
  clear hF hS hL hFl
  by_cases hM : codeM b t = 0
  · obtain ⟨m, hm, h36⟩ := hMM hM
    rw [hm, hM, errV_zero] at HMU
    rw [hm, if_pos hM, Int.toNat_natCast] at HRC
    have HSH1 := hide (fun W h2 h => HSH.out m W h36 h2 h)
    generalize shapeB n1 m S L = q1 at HRC HSH1
    generalize cntsB F S L = q2 at HRC HHC
    clear hMM hM hm
    generalize hwb : w.alloc (.cells #[.int .i64 b, .int .i64 t, .slice a1 n1 c1, .slice a2 n2 c2, .slice a3 n3 c3] 29) = wb at hBX HBX HAT
    obtain ⟨p0, p1, p2, p3, p4⟩ := HAT.out wb (Below.refl _ _)
    by_cases h0 : n1 = 0
    · rw [if_pos h0] at HRC
      subst h0
      go_enter Try.func16, Try.ntmps16
      go_wp2_with (go_at_call 27; refine (HMU.out _).mono ?_; rintro e w' ⟨rfl, hw⟩; rw [hw]; clear hw w')
      go_ret
      exact ⟨by rw [HRC.out]; simp [errV], HBX.out⟩
    · rw [if_neg h0] at HRC
      have h0' : ((n1 : Int) == 0) = false := by simp; omega
      by_cases h80 : 80 < n1
      · rw [if_pos h80] at HRC
        have h80' : (80 : Int) < (n1 : Int) := by omega
        go_enter Try.func16, Try.ntmps16
        go_wp2_with (go_at_call 27; refine (HMU.out _).mono ?_; rintro e w' ⟨rfl, hw⟩; rw [hw]; clear hw w')
        go_ret
        exact ⟨by rw [HRC.out]; simp [errV], HBX.out⟩
      · rw [if_neg h80] at HRC
        have h80' : ¬ (80 : Int) < (n1 : Int) := by omega
        have HC1 := hide (HSH1.out wb (by omega) hBX)
        clear hBX
        cases q1 with
        | false =>
          rw [if_neg (by decide)] at HRC
          go_enter Try.func16, Try.ntmps16
          go_wp2_with (first
            | (go_at_call 27; refine (HMU.out _).mono ?_; rintro e w' ⟨rfl, hw⟩; rw [hw]; clear hw w')
            | (go_at_call 32; refine HC1.out.mono ?_; rintro e w1 ⟨rfl, hb1⟩; have HB1 := hide (below_step HBX.out hb1); clear hb1))
          go_ret
          exact ⟨by rw [HRC.out]; simp [errV], HB1.out⟩
        | true =>
          rw [if_pos rfl] at HRC
          cases q2 with
          | false =>
            rw [if_neg (by decide)] at HRC
            go_enter Try.func16, Try.ntmps16
            go_wp2_with (first
              | (go_at_call 27; refine (HMU.out _).mono ?_; rintro e w' ⟨rfl, hw⟩; rw [hw]; clear hw w')
              | (go_at_call 32; refine HC1.out.mono ?_; rintro e w1 ⟨rfl, hb1⟩; have HB1 := hide (below_step HBX.out hb1); have HC2 := hide (HHC.out w1 HB1.out); obtain ⟨q0, q1, q2, q3, q4⟩ := HAT.out w1 hb1; clear hb1)
              | (go_at_call 33; refine HC2.out.mono ?_; rintro e w2 ⟨rfl, hb2⟩; have HB2 := hide (below_step HB1.out hb2); clear hb2))
            go_ret
            exact ⟨by rw [HRC.out]; simp [errV], HB2.out⟩
          | true =>
            rw [if_pos rfl] at HRC
            go_enter Try.func16, Try.ntmps16
            go_wp2_with (first
              | (go_at_call 27; refine (HMU.out _).mono ?_; rintro e w' ⟨rfl, hw⟩; rw [hw]; clear hw w')
              | (go_at_call 32; refine HC1.out.mono ?_; rintro e w1 ⟨rfl, hb1⟩; have HB1 := hide (below_step HBX.out hb1); have HC2 := hide (HHC.out w1 HB1.out); obtain ⟨q0, q1, q2, q3, q4⟩ := HAT.out w1 hb1; clear hb1)
              | (go_at_call 33; refine HC2.out.mono ?_; rintro e w2 ⟨rfl, hb2⟩; have HB2 := hide (below_step HB1.out hb2); clear hb2))
            go_ret
            exact ⟨by rw [HRC.out]; simp [errV], HB2.out⟩
  · rw [if_neg hM] at HRC
    rw [errV_no hM] at HMU
    have HM := hide hM
    generalize codeM b t = cm at HMU HRC HM
    clear hMM hM
    go_enter Try.func16, Try.ntmps16
    go_wp2_with (go_at_call 27; refine (HMU.out _).mono ?_; rintro e w' ⟨rfl, hw⟩; rw [hw]; clear hw w')
    go_ret
    exact ⟨by rw [HRC.out, errV_no HM.out]; rfl, HBX.out⟩
end Go.Proofs.Ytlgjadnkokmjoaa

/- count.Eval: contract. -/
namespace Go.Proofs.Ytlgjadnkokmjoaa
open Go.RowKit

theorem amtB_bd {x : Int} (h : amtB x = true) : 0 ≤ x ∧ x ≤ 1152921504606846976 := of_decide_eq_true h
theorem thrL_bd {n : Nat} {row : List Int} {S : List (List Int)} (hr : bdL n row) (hq : ∀ s, s < n → bdL n (S.getD s [])) : bdL n (thrL row S) := by
  refine ⟨(thrL_len _ _).trans hr.1, fun t ht => ?_⟩
  rw [thrL_get (by rw [hr.1]; exact ht)]
  exact capI_bd (csum_nn fun i hi => Int.mul_nonneg (hr.2 i (by rw [← hr.1]; exact hi)).1 ((hq i (by rw [← hr.1]; exact hi)).2 t ht).1)
theorem bdL_wf {n : Nat} {l : List Int} (h : bdL n l) : ∀ x ∈ l, (Lit.int .i64 x).wf = true := fun x hx => by
  obtain ⟨i, hi, rfl⟩ := List.getElem_of_mem hx
  have := h.2 i (by rw [← h.1]; exact hi)
  rw [getD_at _ i hi] at this
  exact WalkArith.wf_i64 (by omega)
theorem bdL_of {n : Nat} {l : List Int} (hl : l.length = n) (h : l.all amtB = true) : bdL n l :=
  ⟨hl, fun i hi => by have := amtB_bd (allD_at (d := 0) h (i := i) (by omega)); omega⟩
/-- What a sound one has. -/
structure RepOk (n m : Nat) (F : List Int) (S : List (List (List Int))) (L : List Int) : Prop where
  pos : 0 < n
  few : n ≤ 80
  fst : bdL n F
  last : bdL n L
  len : S.length = m
  step : ∀ x, x < m → (S.getD x []).length = n ∧ ∀ s, s < n → bdL n ((S.getD x []).getD s [])
theorem repC_ok {b t : Int} {F : List Int} {S : List (List (List Int))} {L : List Int} (h : repC b t F S L = 0) : RepOk F.length (manyU b t).toNat F S L := by
  unfold repC at h
  split at h
  · split at h
    · cases h
    · split at h
      · cases h
      · split at h
        · rename_i hM h0 h80 hsh
          split at h
          · rename_i hct
            simp only [shapeB, Bool.and_eq_true, decide_eq_true_eq] at hsh
            simp only [cntsB, Bool.and_eq_true] at hct
            obtain ⟨⟨s1, s2⟩, s3⟩ := hsh
            obtain ⟨⟨c1, c2⟩, c3⟩ := hct
            refine ⟨by omega, by omega, bdL_of rfl c1, bdL_of s1 c2, s2, fun x hx => ?_⟩
            have hs := allD_at (d := []) s3 (i := x) (by omega)
            have hc := allD_at (d := []) c3 (i := x) (by omega)
            simp only [shpB, Bool.and_eq_true, decide_eq_true_eq] at hs
            refine ⟨hs.1, fun s hs' => bdL_of ?_ (allD_at (d := []) hc (i := s) (by omega))⟩
            exact of_decide_eq_true (allD_at (d := []) hs.2 (i := s) (by omega))
          · cases h
        · cases h
  · rename_i hM
    exact absurd h hM
def EvlR (w : World) (v c : Int) (e : Ending) (w' : World) : Prop := e = .returned (.tuple #[.int .i64 v, errV c]) ∧ Below w.heap.size w w'
theorem evGo_step {S : List (List (List Int))} {row l : List Int} {k : Nat} (hk : k < l.length) : evGo S row (l.drop k) = if (thrL row (S.getD (l.getD k 0).toNat [])).all amtB = true then evGo S (thrL row (S.getD (l.getD k 0).toNat [])) (l.drop (k + 1)) else none := by
  have e : l.drop k = l.getD k 0 :: l.drop (k + 1) := by
    rw [List.drop_eq_getElem_cons hk]
    congr 1
    exact (getD_at _ k hk).symm
  rw [e]
  rfl
set_option maxHeartbeats 8000000 in
set_option maxRecDepth 8000 in
theorem eval_ok (b t : Int) (a1 : Option Addr) (n c1 : Nat) (a2 : Option Addr) (m c2 : Nat) (a3 : Option Addr) (c3 : Nat) (F : List Int) (S : List (List (List Int))) (L : List Int) (aw : Option Addr) (lw cw : Nat) (l : List Int) (w : World) (hF : Sl w a1 n F) (hS : Sl3 w a2 m S) (hL : Sl w a3 n L) (hl : Sl w aw lw l)
    (hR : repC b t F S L = 0) (hO : RepOk n m F S L) (hW : wordC m l = 0) :
    Calls Try.prog 6 #[.agg #[.int .i64 b, .int .i64 t, .slice a1 n c1, .slice a2 m c2, .slice a3 n c3], .slice aw lw cw] w (EvlR w ((evlX F S L l).getD 0) (if (evlX F S L l).isSome = true then 0 else 3)) := by
  have hB0 : Below w.heap.size w (w.alloc (.cells #[.int .i64 b, .int .i64 t, .slice a1 n c1, .slice a2 m c2, .slice a3 n c3] 29)) := (Below.refl _ _).alloc (Nat.le_refl _) _
  have HB0 := hide hB0
  have HAT := hide (fun w' => @box5R w w' (.int .i64 b) (.int .i64 t) (.slice a1 n c1) (.slice a2 m c2) (.slice a3 n c3) 29)
  have HCK := hide (countCheck_any b t a1 n c1 a2 m c2 a3 n c3 F S L _ (sl_below hF hB0) (sl3_below hS hB0) (sl_below hL hB0))
  rw [hR, errV_zero] at HCK
  have HCW := hide (fun W (h : Below w.heap.size w W) => checkWord_any m aw lw cw l W (sl_below hl h))
  rw [hW, errV_zero] at HCW
  have hlw := wordC_zero hW
  rw [hl.1] at hlw
  have HLW := hide hlw.2
  have hl400 := hlw.1
  have HF := hide hF
  have HS := hide hS
  have HL := hide hL
  have HW := hide hl
  have HO := hide hO
  have h80 := hO.few
  have hlen := hl.1
  have HST : Hid (∀ (k : Nat) (row : List Int), k < lw → evGo S row (l.drop k) = if (thrL row (S.getD (l.getD k 0).toNat [])).all amtB = true then evGo S (thrL row (S.getD (l.getD k 0).toNat [])) (l.drop (k + 1)) else none) := fun k row hk => evGo_step (by omega)
  have HNONE : Hid (evGo S F l = none → ∀ W, Below w.heap.size w W → EvlR w ((evlX F S L l).getD 0) (if (evlX F S L l).isSome = true then 0 else 3) (.returned (.tuple #[.int .i64 0, .iface 52 (.int .i64 3)])) W) := fun h W hW => by
    have e : evlX F S L l = none := by unfold evlX; rw [h]
    rw [e]
    exact ⟨rfl, hW⟩
  have HFULL : Hid (∀ row, evGo S F l = some row → amtB (evS row L) = false → 0 ≤ evS row L → ∀ W, Below w.heap.size w W → EvlR w ((evlX F S L l).getD 0) (if (evlX F S L l).isSome = true then 0 else 3) (.returned (.tuple #[.int .i64 0, .iface 52 (.int .i64 3)])) W) := fun row h h2 h3 W hW => by
    have h4 : ¬ evS row L ≤ 1152921504606846976 := fun h5 => by
      have := of_decide_eq_false h2
      exact this ⟨h3, h5⟩
    have e : evlX F S L l = none := by unfold evlX; rw [h]; exact if_neg h4
    rw [e]
    exact ⟨rfl, hW⟩
  have HDONE : Hid (∀ row, evGo S F l = some row → amtB (evS row L) = true → ∀ W, Below w.heap.size w W → EvlR w ((evlX F S L l).getD 0) (if (evlX F S L l).isSome = true then 0 else 3) (.returned (.tuple #[.int .i64 (evS row L), .nilIface])) W) := fun row h h2 W hW => by
    have e : evlX F S L l = some (evS row L) := by unfold evlX; rw [h]; exact if_pos (amtB_bd h2).2
    rw [e]
    exact ⟨rfl, hW⟩
  have HDR : Hid (l.drop lw = []) := by show _ = _; rw [← hlen]; simp
  have HD0 : Hid (l.drop 0 = l) := by show _ = _; rfl
  generalize EvlR w ((evlX F S L l).getD 0) (if (evlX F S L l).isSome = true then 0 else 3) = R at HNONE HFULL HDONE ⊢
  clear hF hS hL hl hR hO hW hlw hlen hB0
  generalize hwb : w.alloc (.cells #[.int .i64 b, .int .i64 t, .slice a1 n c1, .slice a2 m c2, .slice a3 n c3] 29) = wb at HB0 HAT HCK
  obtain ⟨p0, p1, p2, p3, p4⟩ := HAT.out wb (Below.refl _ _)
  go_enter Try.func6, Try.ntmps6
  go_wp2_with fail
  clear hwb p0 p1 p2 p3 p4
  refine HCK.out.mono ?_
  rintro e w1 ⟨rfl, hb1⟩
  have HB1 := hide hb1
  have HCW1 := hide (HCW.out w1 (below_step HB0.out hb1))
  obtain ⟨p0, p1, p2, p3, p4⟩ := HAT.out w1 hb1
  clear hb1 HCK HCW
  go_wp2_with (refine HCW1.out.mono ?_; rintro e w' ⟨rfl, hw⟩; rw [hw]; clear hw w')
  clear p0 p1 p2 p3 p4 HCW1
  go_loopw [8, 29] (fun u i wx => ∃ k : Nat, k ≤ lw ∧ i = .int .i64 k ∧ ∃ ra rc row, u = .slice ra n rc ∧ Sl wx ra n row ∧ bdL n row ∧ evGo S F l = evGo S row (l.drop k) ∧ Below wb.heap.size wb wx) (fun _ i _ => lw - (intOf i).toNat)
  case atStart => exact ⟨0, by omega, rfl, a1, c1, F, rfl, sl_below HF.out (below_step HB0.out HB1.out), HO.out.fst, by rw [HD0.out], HB1.out⟩
  case round =>
    obtain ⟨k, hk, rfl, ra, rc, row, rfl, hrow, hbd, hgo, hbw⟩ := hrel
    have HROW := hide hrow
    have HBD := hide hbd
    have HGO := hide hgo
    have HBW := hide hbw
    obtain ⟨p0, p1, p2, p3, p4⟩ := HAT.out wr hbw
    clear hrow hbd hgo hbw
    by_cases hlt : k < lw
    · have hlti : (k : Int) < (lw : Int) := by omega
      obtain ⟨bl, ol, rfl, hcl⟩ := sl_cell (sl_below HW.out (below_step HB0.out HBW.out)) k hlt
      have hx := HLW.out k hlt
      have HSTK := hide (HST.out k row hlt)
      obtain ⟨x, hxe⟩ : ∃ x : Nat, l.getD k 0 = (x : Int) := ⟨(l.getD k 0).toNat, by omega⟩
      rw [hxe] at hcl hx HSTK
      rw [Int.toNat_natCast] at HSTK
      have hxm : (x : Int) < (m : Int) := hx.2
      obtain ⟨b2, o2, a4, c4, rfl, hc4, hs4⟩ := sl3_cell (sl3_below HS.out (below_step HB0.out HBW.out)) x (by omega)
      obtain ⟨hx1, hx2⟩ := HO.out.step x (by omega)
      rw [hx1] at hc4 hs4
      have HTB := hide (thrL_bd HBD.out hx2)
      have HTC := hide (through_any ra n rc row a4 c4 (S.getD x []) wr HROW.out hs4 (by omega) HBD.out hx2)
      unfold NewRow at HTC
      rw [thrL_len, HBD.out.1] at HTC
      generalize S.getD x [] = sx at hc4 HSTK HTB HTC
      generalize thrL row sx = row' at HSTK HTB HTC
      clear hs4 hx1 hx2 hxe hx
      go_wp2_with fail
      clear p0 p1 p2 p3 p4 hc4 hcl
      refine HTC.out.mono ?_
      rintro e w2 ⟨g, rfl, hg, hr2, hb2⟩
      have hs2 := sl_of_rowIs HTB.out.1 (by unfold maxLen; omega) (bdL_wf HTB.out) hr2
      have HS2 := hide hs2
      have HB2 := hide (below_step HBW.out hb2)
      have HAC := hide (areCounts_any (some ⟨g, 0, none⟩) n n row' w2 hs2)
      unfold retQ at HAC
      clear hs2 hr2 hb2 hg HTC
      generalize row'.all amtB = q at HSTK HAC
      cases q with
      | true =>
        rw [if_pos rfl] at HSTK
        have HGN := hide (HGO.out.trans HSTK.out)
        go_wp2_with (refine HAC.out.mono ?_; rintro e w' ⟨rfl, hw⟩; rw [hw]; clear hw w')
        go_roundw
        case rel => exact ⟨k + 1, by omega, by go_num, _, _, row', rfl, HS2.out, HTB.out, HGN.out, HB2.out⟩
        case measure => simp [intOf]; omega
      | false =>
        rw [if_neg (by decide)] at HSTK
        have HFIN := hide (HNONE.out (HGO.out.trans HSTK.out) w2 (below_step HB0.out HB2.out))
        go_wp2_with (refine HAC.out.mono ?_; rintro e w' ⟨rfl, hw⟩; rw [hw]; clear hw w')
        exact HFIN.out
    · have hlti : ¬ (k : Int) < (lw : Int) := by omega
      obtain rfl : k = lw := by omega
      rw [HDR.out] at HGO
      have HGS : Hid (evGo S F l = some row) := HGO.out
      have hsl := sl_below HL.out (below_step HB0.out HBW.out)
      have HAD := hide (addedI_any 21 #[] (fun i => .int .i64 (L.getD i 0)) (fun i => L.getD i 0) ra n rc row a3 n c3 wr (enters_of Try.func21 (by kernel_rfl) rfl) HROW.out (fun i hi => by obtain ⟨b9, o9, e9, h9⟩ := sl_cell hsl i hi; exact ⟨b9, o9, e9, h9⟩) (Nat.le_refl _) (fun i _ => evl1_any (L.getD i 0) wr) HBD.out.2 HO.out.last.2)
      have hes : evS row L = capI (csum (fun i => row.getD i 0 * L.getD i 0) n) := by unfold evS; rw [HBD.out.1]
      rw [← hes] at HAD
      unfold retI at HAD
      have hpos : 0 ≤ evS row L ∧ evS row L ≤ 1152921504606846977 := by
        rw [hes]
        exact capI_bd (csum_nn fun i hi => Int.mul_nonneg (HBD.out.2 i hi).1 (HO.out.last.2 i hi).1)
      have HFUL := hide (fun h => HFULL.out row HGS.out h hpos.1)
      have HDON := hide (HDONE.out row HGS.out)
      generalize evS row L = v at HAD HFUL HDON hpos
      have hba := (Below.refl wr.heap.size wr).alloc (Nat.le_refl _) (.cells #[.int .i64 v] 3)
      have HBA := hide (below_step HB0.out (below_step HBW.out hba))
      have hs1 : Sl (wr.alloc (.cells #[.int .i64 v] 3)) (some ⟨wr.heap.size, 0, none⟩) 1 [v] := by
        refine ⟨rfl, by decide, fun y hy => by simp at hy; rw [hy]; exact WalkArith.wf_i64 (by omega), Or.inr ⟨_, _, rfl, fun i hi => ?_⟩⟩
        rw [cell_of_row _ _ (0 + i) _ 3 (0, 0) (heap_alloc_last wr _)]
        obtain rfl : i = 0 := by omega
        rfl
      have HAC := hide (areCounts_any (some ⟨wr.heap.size, 0, none⟩) 1 1 [v] _ hs1)
      unfold retQ at HAC
      rw [show [v].all amtB = amtB v by simp] at HAC
      clear hs1 hba hsl hes
      generalize amtB v = q at HAC HFUL HDON
      cases q with
      | true =>
        have HFIN := hide (HDON.out rfl _ HBA.out)
        go_wp2_with (first
          | (go_at_call 20; refine HAD.out.mono ?_; rintro e w' ⟨rfl, hw⟩; rw [hw]; clear hw w')
          | (go_at_call 19; refine HAC.out.mono ?_; rintro e w' ⟨rfl, hw⟩; rw [hw]; clear hw w'))
        exact HFIN.out
      | false =>
        have HFIN := hide (HFUL.out rfl _ HBA.out)
        go_wp2_with (first
          | (go_at_call 20; refine HAD.out.mono ?_; rintro e w' ⟨rfl, hw⟩; rw [hw]; clear hw w')
          | (go_at_call 19; refine HAC.out.mono ?_; rintro e w' ⟨rfl, hw⟩; rw [hw]; clear hw w'))
        exact HFIN.out
end Go.Proofs.Ytlgjadnkokmjoaa

/- count.Eval at whatever it is given; the reference's amount, more, RepFault: contracts. -/
namespace Go.Proofs.Ytlgjadnkokmjoaa
open Go.RowKit

set_option maxHeartbeats 4000000 in
set_option maxRecDepth 4000 in
theorem eval_any (b t : Int) (a1 : Option Addr) (n1 c1 : Nat) (a2 : Option Addr) (n2 c2 : Nat) (a3 : Option Addr) (n3 c3 : Nat) (F : List Int) (S : List (List (List Int))) (L : List Int) (aw : Option Addr) (lw cw : Nat) (l : List Int) (w : World) (hF : Sl w a1 n1 F) (hS : Sl3 w a2 n2 S) (hL : Sl w a3 n3 L) (hl : Sl w aw lw l) :
    Calls Try.prog 6 #[.agg #[.int .i64 b, .int .i64 t, .slice a1 n1 c1, .slice a2 n2 c2, .slice a3 n3 c3], .slice aw lw cw] w (EvlR w (evlV b t F S L l) (evlC b t F S L l)) := by
  by_cases hR : repC b t F S L = 0
  · have hO := repC_ok hR
    have e1 : F.length = n1 := hF.1
    have e2 : (manyU b t).toNat = n2 := by rw [← hO.len]; exact hS.1
    have e3 : n3 = n1 := by rw [← e1, ← hO.last.1]; exact hL.1.symm
    subst e3
    rw [e1, e2] at hO
    by_cases hW : wordC n2 l = 0
    · have hc : evlC b t F S L l = if (evlX F S L l).isSome = true then 0 else 3 := by unfold evlC; rw [if_pos hR, hO.len, if_pos hW]
      have hv : evlV b t F S L l = (evlX F S L l).getD 0 := by
        unfold evlV
        rw [hc]
        cases evlX F S L l with
        | none => rfl
        | some v => rfl
      rw [hc, hv]
      exact eval_ok b t a1 n3 c1 a2 n2 c2 a3 c3 F S L aw lw cw l w hF hS hL hl hR hO hW
    · have hc : evlC b t F S L l = wordC n2 l := by unfold evlC; rw [if_pos hR, hO.len, if_neg hW]
      have hv : evlV b t F S L l = 0 := by unfold evlV; rw [hc, if_neg hW]
      rw [hc, hv]
      unfold EvlR
      rw [errV_no hW]
      have hB0 : Below w.heap.size w (w.alloc (.cells #[.int .i64 b, .int .i64 t, .slice a1 n3 c1, .slice a2 n2 c2, .slice a3 n3 c3] 29)) := (Below.refl _ _).alloc (Nat.le_refl _) _
      have HB0 := hide hB0
      have HAT := hide (fun w' => @box5R w w' (.int .i64 b) (.int .i64 t) (.slice a1 n3 c1) (.slice a2 n2 c2) (.slice a3 n3 c3) 29)
      have HCK := hide (countCheck_any b t a1 n3 c1 a2 n2 c2 a3 n3 c3 F S L _ (sl_below hF hB0) (sl3_below hS hB0) (sl_below hL hB0))
      rw [hR, errV_zero] at HCK
      have HCW := hide (fun W (h : Below w.heap.size w W) => checkWord_any n2 aw lw cw l W (sl_below hl h))
      rw [errV_no hW] at HCW
      generalize wordC n2 l = c at HCW ⊢
      clear hF hS hL hl hR hO hW hc hv hB0 e1 e2
      generalize hwb : w.alloc (.cells #[.int .i64 b, .int .i64 t, .slice a1 n3 c1, .slice a2 n2 c2, .slice a3 n3 c3] 29) = wb at HB0 HAT HCK
      obtain ⟨p0, p1, p2, p3, p4⟩ := HAT.out wb (Below.refl _ _)
      go_enter Try.func6, Try.ntmps6
      go_wp2_with fail
      clear hwb p0 p1 p2 p3 p4
      refine HCK.out.mono ?_
      rintro e w1 ⟨rfl, hb1⟩
      have HB1 := hide (below_step HB0.out hb1)
      have HCW1 := hide (HCW.out w1 (below_step HB0.out hb1))
      obtain ⟨p0, p1, p2, p3, p4⟩ := HAT.out w1 hb1
      clear hb1 HCK HCW
      go_wp2_with (refine HCW1.out.mono ?_; rintro e w' ⟨rfl, hw⟩; rw [hw]; clear hw w')
      go_ret2
      exact ⟨rfl, HB1.out⟩
  · have hc : evlC b t F S L l = repC b t F S L := by unfold evlC; rw [if_neg hR]
    have hv : evlV b t F S L l = 0 := by unfold evlV; rw [hc, if_neg hR]
    rw [hc, hv]
    unfold EvlR
    rw [errV_no hR]
    have hB0 : Below w.heap.size w (w.alloc (.cells #[.int .i64 b, .int .i64 t, .slice a1 n1 c1, .slice a2 n2 c2, .slice a3 n3 c3] 29)) := (Below.refl _ _).alloc (Nat.le_refl _) _
    have HB0 := hide hB0
    have HAT := hide (fun w' => @box5R w w' (.int .i64 b) (.int .i64 t) (.slice a1 n1 c1) (.slice a2 n2 c2) (.slice a3 n3 c3) 29)
    have HCK := hide (countCheck_any b t a1 n1 c1 a2 n2 c2 a3 n3 c3 F S L _ (sl_below hF hB0) (sl3_below hS hB0) (sl_below hL hB0))
    rw [errV_no hR] at HCK
    generalize repC b t F S L = c at HCK ⊢
    clear hF hS hL hl hR hc hv hB0
    generalize hwb : w.alloc (.cells #[.int .i64 b, .int .i64 t, .slice a1 n1 c1, .slice a2 n2 c2, .slice a3 n3 c3] 29) = wb at HB0 HAT HCK
    obtain ⟨p0, p1, p2, p3, p4⟩ := HAT.out wb (Below.refl _ _)
    go_enter Try.func6, Try.ntmps6
    go_wp2_with fail
    clear hwb p0 p1 p2 p3 p4
    refine HCK.out.mono ?_
    rintro e w1 ⟨rfl, hb1⟩
    have HB1 := hide (below_step HB0.out hb1)
    clear hb1 HCK
    go_wp2
    go_ret2
    exact ⟨rfl, HB1.out⟩
end Go.Proofs.Ytlgjadnkokmjoaa
