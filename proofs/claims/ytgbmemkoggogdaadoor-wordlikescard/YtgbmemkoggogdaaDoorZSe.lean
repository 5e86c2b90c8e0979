/- 2 texts in one. -/
import Derived.Deep.RegionHeldLaw
import Derived.Deep.RegionLaw
import Derived.Deep.RegionWith
import Derived.Laws.AppendOwnNone
import Derived.Laws.BitsLemmas
import Derived.Test.YtgbmemkoggogdaaDoorZNx
import Derived.Test.YtgbmemkoggogdaaDoorZAt
import Derived.Test.YtgbmemkoggogdaaDoorBp
import Derived.Test.YtgbmemkoggogdaaDoorBt
import Derived.Test.YtgbmemkoggogdaaDoorZCf
import Derived.Test.YtgbmemkoggogdaaDoorZDb
import Derived.Test.YtgbmemkoggogdaaDoorZE
import Derived.Test.YtgbmemkoggogdaaDoorEa
import Derived.Test.YtgbmemkoggogdaaDoorG
import Derived.Test.YtgbmemkoggogdaaDoorZMp
import Derived.Test.YtgbmemkoggogdaaDoorZHh
import Derived.Test.YtgbmemkoggogdaaDoorZLp
import Derived.Test.YtgbmemkoggogdaaDoorZKa
/- word.isOutput, allUpTo, begun, step and the closure of ofAllWords: contracts. -/
namespace Go.Proofs.YtgbmemkoggogdaaDoor
open Go.RowKit

set_option maxHeartbeats 1000000 in
set_option maxRecDepth 4000 in
theorem isOutput_any (v : Int) (w : World) : Calls Tryd.prog 59 #[.int .i64 v] w fun e w' => e = .returned (.bool (decide (0 ≤ v ∧ v ≤ 9))) ∧ w' = w := by
  by_cases h1 : 0 ≤ v
  · by_cases h2 : v ≤ 9
    · have e : decide (0 ≤ v ∧ v ≤ 9) = true := decide_eq_true ⟨h1, h2⟩
      rw [e]
      go_enter Tryd.func59, Tryd.ntmps59
      go_wp2
      go_ret
      exact ⟨by simp, rfl⟩
    · have e : decide (0 ≤ v ∧ v ≤ 9) = false := decide_eq_false fun h => h2 h.2
      rw [e]
      go_enter Tryd.func59, Tryd.ntmps59
      go_wp2
      go_ret
      exact ⟨by simp, rfl⟩
  · have e : decide (0 ≤ v ∧ v ≤ 9) = false := decide_eq_false fun h => h1 h.1
    rw [e]
    go_enter Tryd.func59, Tryd.ntmps59
    go_wp2
    go_ret
    exact ⟨by simp, rfl⟩
def upB (m : Int) (l : List Int) : Bool := l.all fun x => decide (0 ≤ x ∧ x ≤ m)
theorem upB_no {m : Int} {l : List Int} {j : Nat} (hj : j < l.length) (h : ¬ (0 ≤ l.getD j 0 ∧ l.getD j 0 ≤ m)) : upB m l = false := by
  unfold upB
  rw [List.all_eq_false]
  exact ⟨l.getD j 0, by rw [getD_at _ j hj]; exact List.getElem_mem hj, by simpa using h⟩
theorem upB_yes {m : Int} {l : List Int} (h : ∀ j, j < l.length → 0 ≤ l.getD j 0 ∧ l.getD j 0 ≤ m) : upB m l = true := by
  unfold upB
  rw [List.all_eq_true]
  intro x hx
  obtain ⟨j, hj, rfl⟩ := List.getElem_of_mem hx
  have := h j hj
  rw [getD_at _ j hj] at this
  simpa using this
set_option maxHeartbeats 1000000 in
set_option maxRecDepth 4000 in
theorem allUpTo_any (m : Int) (a : Option Addr) (len cap : Nat) (l : List Int) (w : World) (hs : Sl w a len l) : Calls Tryd.prog 58 #[.int .i64 m, .slice a len cap] w fun e w' => e = .returned (.bool (upB m l)) ∧ w' = w := by
  have hL := hs.1
  have hmx := hs.2.1
  unfold maxLen at hmx
  have HNO : Hid (∀ j, j < len → ¬ (0 ≤ l.getD j 0 ∧ l.getD j 0 ≤ m) → upB m l = false) := fun j hj h => upB_no (by omega) h
  have HYES : Hid ((∀ j, j < len → 0 ≤ l.getD j 0 ∧ l.getD j 0 ≤ m) → upB m l = true) := fun h => upB_yes (fun j hj => h j (by omega))
  have HS := hide hs
  generalize upB m l = V at HNO HYES ⊢
  clear hs hL
  go_enter Tryd.func58, Tryd.ntmps58
  go_wp2
  go_loop [9] (fun u => ∃ j : Nat, u = .int .i64 j ∧ j ≤ len ∧ ∀ i, i < j → 0 ≤ l.getD i 0 ∧ l.getD i 0 ≤ m) (fun u => len - (intOf u).toNat)
  case atStart => exact ⟨0, rfl, by omega, fun i hi => by omega⟩
  case round =>
    obtain ⟨j, rfl, hj, hall⟩ := hrel
    have HALL := hide hall
    clear hall
    by_cases hlt : j < len
    · have hlti : (j : Int) < (len : Int) := by omega
      obtain ⟨bb, o, rfl, hc⟩ := sl_cell HS.out j hlt
      have HNj := hide (HNO.out j hlt)
      have HST : Hid (0 ≤ l.getD j 0 ∧ l.getD j 0 ≤ m → ∀ i, i < j + 1 → 0 ≤ l.getD i 0 ∧ l.getD i 0 ≤ m) := fun h i hi => by
        by_cases e : i = j
        · subst e; exact h
        · exact HALL.out i (by omega)
      obtain ⟨x, hx⟩ : ∃ x, x = l.getD j 0 := ⟨_, rfl⟩
      rw [← hx] at hc HNj HST
      clear hx
      by_cases h1 : 0 ≤ x
      · by_cases h2 : x ≤ m
        · go_wp2
          go_round
          case rel => exact ⟨j + 1, by go_num, by omega, HST.out ⟨h1, h2⟩⟩
          case measure => simp [intOf]; omega
        · have hV := HNj.out fun h => h2 h.2
          have h2' : m < x := by omega
          go_wp2
          go_ret
          exact ⟨by simp, rfl⟩
      · have hV := HNj.out fun h => h1 h.1
        have h1' : x < 0 := by omega
        go_wp2
        go_ret
        exact ⟨by simp, rfl⟩
    · have hlti : ¬ (j : Int) < (len : Int) := by omega
      obtain rfl : j = len := by omega
      have hV := HYES.out HALL.out
      go_wp2
      go_ret
      exact ⟨by simp, rfl⟩
set_option maxHeartbeats 1000000 in
set_option maxRecDepth 4000 in
theorem wbegun_any (a : Int) (w : World) : Calls Tryd.prog 62 #[.int .i64 a] w fun e w' => e = .returned (.int .i64 (bgn a)) ∧ w' = w := by
  unfold bgn
  by_cases h : a = -1
  · have h' : (a == -1) = true := by simp [h]
    rw [if_pos h]
    clear h
    go_enter Tryd.func62, Tryd.ntmps62
    go_wp2
    go_ret
    exact ⟨by simp, rfl⟩
  · have h' : (a == -1) = false := by simp [h]
    rw [if_neg h]
    clear h
    go_enter Tryd.func62, Tryd.ntmps62
    go_wp2
    go_ret
    exact ⟨by simp, rfl⟩
set_option maxHeartbeats 4000000 in
set_option maxRecDepth 4000 in
theorem wstep_any (b : Int) (a : Option Addr) (n cap : Nat) (ao : Option Addr) (no co : Nat) (N : List (List Int)) (k : Nat) (A C : Int) (x : Nat) (w : World) (hs : Sl2 w a n N) (hG : GoodN k n N) (hA : A = -2 ∨ A = -1 ∨ (0 ≤ A ∧ A < (n : Int))) (hx : x < k) :
    Calls Tryd.prog 61 #[outV b a n cap ao no co, .agg #[.int .i64 A, .int .i64 C], .int .i64 (x : Int)] w fun e w' => e = .returned (.agg #[.int .i64 (stpW b N A C (x : Int)).1, .int .i64 (stpW b N A C (x : Int)).2]) ∧ Below w.heap.size w w' := by
  have hB := below_three w (.cells #[.int .i64 b, .slice a n cap, .slice ao no co] 25) (.cells #[.int .i64 A, .int .i64 C] 81) (.cells #[.int .i64 0, .int .i64 0] 81)
  have h1 := heap_alloc2_fst w (.cells #[.int .i64 b, .slice a n cap, .slice ao no co] 25) (.cells #[.int .i64 A, .int .i64 C] 81)
  have h2 := heap_alloc2_snd w (.cells #[.int .i64 b, .slice a n cap, .slice ao no co] 25) (.cells #[.int .i64 A, .int .i64 C] 81)
  have hsz : ((w.alloc (.cells #[.int .i64 b, .slice a n cap, .slice ao no co] 25)).alloc (.cells #[.int .i64 A, .int .i64 C] 81)).heap.size = w.heap.size + 2 := by simp
  have h3 := heap_alloc_last ((w.alloc (.cells #[.int .i64 b, .slice a n cap, .slice ao no co] 25)).alloc (.cells #[.int .i64 A, .int .i64 C] 81)) (.cells #[.int .i64 0, .int .i64 0] 81)
  rw [hsz] at h3
  have h1' := (Below.heap_alloc _ (.cells #[.int .i64 0, .int .i64 0] 81) _ (Array.getElem?_eq_some_iff.1 h1).1).trans h1
  have h2' := (Below.heap_alloc _ (.cells #[.int .i64 0, .int .i64 0] 81) _ (Array.getElem?_eq_some_iff.1 h2).1).trans h2
  have HBEG := hide (fun W => wbegun_any A W)
  have HN := hide (fun (W : World) (h : Below w.heap.size w W) => sl2_below hs h)
  have hkk : k ≤ 36 := hG.2.2.2.1
  have HPOS : Hid (0 < n) := hG.2.1
  have HROW : Hid (∀ s, s < n → (N.getD s []).length = k) := fun s hsn => (hG.2.2.2.2.2 s hsn).1
  clear hG hs h1 h2 hsz
  unfold outV
  generalize hW0 : ((w.alloc (.cells #[.int .i64 b, .slice a n cap, .slice ao no co] 25)).alloc (.cells #[.int .i64 A, .int .i64 C] 81)).alloc (.cells #[.int .i64 0, .int .i64 0] 81) = w0 at hB h1' h2' h3
  have HB := hide hB
  have HX3 := hide h3
  have HX1 := hide h1'
  have HX2 := hide h2'
  obtain ⟨⟨p0, p1, p2⟩, -⟩ := box3_cells h1'
  obtain ⟨⟨q0, q1⟩, -⟩ := box2_cells h2'
  obtain ⟨⟨r0, r1⟩, rf⟩ := box2_cells h3
  clear hB h1' h2' h3
  have HSET : Hid (∀ (W : World), W.heap[w.heap.size + 2]? = w0.heap[w.heap.size + 2]? → Below w.heap.size w W → ∀ y z : Int, ((W.setCell ⟨w.heap.size + 2, 0, none⟩ (.int .i64 y)).setCell ⟨w.heap.size + 2, 1, none⟩ (.int .i64 z)).cell? ⟨w.heap.size + 2, 0, none⟩ = some (.int .i64 y) ∧ ((W.setCell ⟨w.heap.size + 2, 0, none⟩ (.int .i64 y)).setCell ⟨w.heap.size + 2, 1, none⟩ (.int .i64 z)).cell? ⟨w.heap.size + 2, 1, none⟩ = some (.int .i64 z) ∧ Below w.heap.size w ((W.setCell ⟨w.heap.size + 2, 0, none⟩ (.int .i64 y)).setCell ⟨w.heap.size + 2, 1, none⟩ (.int .i64 z))) := fun W hW hb y z => by
    rw [HX3.out] at hW
    refine ⟨?_, ?_, (hb.setCell (by show w.heap.size ≤ w.heap.size + 2; omega) _).setCell (by show w.heap.size ≤ w.heap.size + 2; omega) _⟩
    · simp [World.cell?, World.setCell, Array.getElem?_modify, hW]
    · simp [World.cell?, World.setCell, Array.getElem?_modify, hW]
  by_cases hA2 : A = -2
  · have e : stpW b N A C (x : Int) = (-2, 0) := by unfold stpW; rw [if_pos (.inl hA2)]
    rw [e]
    have hA' : (A == -2) = true := by simp [hA2]
    clear hA2 hA e
    go_enter Tryd.func61, Tryd.ntmps61
    go_wp2
    obtain ⟨z0, z1, hbf⟩ := HSET.out w0 rfl HB.out (-2) 0
    exact bodyPost_ret (v := .agg #[.int .i64 (-2), .int .i64 0]) (by simp [results, Tryd.results61, go_sem, z0, z1]) rfl ⟨rfl, hbf⟩
  · have hA2' : (A == -2) = false := by simp [hA2]
    by_cases hC1 : C = 1 ∧ (x : Int) = 1
    · have e : stpW b N A C (x : Int) = (-2, 0) := by unfold stpW; rw [if_pos (.inr hC1)]
      rw [e]
      have hC' : (C == 1) = true := by simp [hC1.1]
      have hx' : ((x : Int) == 1) = true := by simp [hC1.2]
      clear hA2 hA e hC1
      go_enter Tryd.func61, Tryd.ntmps61
      go_wp2
      obtain ⟨z0, z1, hbf⟩ := HSET.out w0 rfl HB.out (-2) 0
      exact bodyPost_ret (v := .agg #[.int .i64 (-2), .int .i64 0]) (by simp [results, Tryd.results61, go_sem, z0, z1]) rfl ⟨rfl, hbf⟩
    · have hCx : (C == 1) = false ∨ ((C == 1) = true ∧ ((x : Int) == 1) = false) := by
        by_cases e1 : C = 1
        · have : ¬ (x : Int) = 1 := fun h => hC1 ⟨e1, h⟩
          exact .inr ⟨by simp [e1], by simpa using this⟩
        · exact .inl (by simp [e1])
      by_cases hA1 : A = -1 ∧ (x : Int) = 0
      · have e : stpW b N A C (x : Int) = (A, C) := by unfold stpW; rw [if_neg (fun h => h.elim hA2 hC1), if_pos hA1]
        rw [e]
        have hA' : (A == -1) = true := by simp [hA1.1]
        have hx' : ((x : Int) == 0) = true := by simp [hA1.2]
        clear hA2 hA e hC1 hA1
        rcases hCx with hc1 | ⟨hc1, hc2⟩
        all_goals
          go_enter Tryd.func61, Tryd.ntmps61
          go_wp2
          obtain ⟨z0, z1, hbf⟩ := HSET.out w0 rfl HB.out A C
          exact bodyPost_ret (v := .agg #[.int .i64 A, .int .i64 C]) (by simp [results, Tryd.results61, go_sem, z0, z1]) rfl ⟨rfl, hbf⟩
      · have hAx : (A == -1) = false ∨ ((A == -1) = true ∧ ((x : Int) == 0) = false) := by
          by_cases e1 : A = -1
          · have : ¬ (x : Int) = 0 := fun h => hA1 ⟨e1, h⟩
            exact .inr ⟨by simp [e1], by simpa using this⟩
          · exact .inl (by simp [e1])
        have e : stpW b N A C (x : Int) = ((N.getD (bgn A).toNat []).getD x 0, if b = 1 then (x : Int) else 0) := by unfold stpW; rw [if_neg (fun h => h.elim hA2 hC1), if_neg hA1, Int.toNat_natCast]
        rw [e]
        obtain ⟨s, hsn, hsb⟩ : ∃ s : Nat, s < n ∧ bgn A = (s : Int) := by
          rcases hA with h | h | h
          · exact absurd h hA2
          · exact ⟨0, HPOS.out, by unfold bgn; rw [if_pos h]; rfl⟩
          · exact ⟨A.toNat, by omega, by unfold bgn; rw [if_neg (by omega)]; omega⟩
        rw [hsb] at HBEG ⊢
        rw [Int.toNat_natCast]
        have hsi : (s : Int) < (n : Int) := by omega
        have hxi : (x : Int) < (k : Int) := by omega
        obtain ⟨bb, o, a1, cc1, rfl, hck, hsl⟩ := sl2_cell (HN.out w0 HB.out) s hsn
        have hrl := HROW.out s hsn
        rw [hrl] at hck hsl
        obtain ⟨b1, o1, rfl, hcx⟩ := sl_cell hsl x hx
        have HR0 : Hid (w.heap.size + 2 < w0.heap.size) := (Array.getElem?_eq_some_iff.1 HX3.out).1
        generalize hRz : (N.getD s []).getD x 0 = z at hcx ⊢
        clear hA2 hA e hC1 hA1 hsl hrl hRz hsb HX1 HX2
        obtain ⟨y, hy⟩ : ∃ y : Int, y = if b = 1 then (x : Int) else 0 := ⟨_, rfl⟩
        rw [← hy]
        have HY1 : Hid (b = 1 → y = (x : Int)) := fun h => by rw [hy, if_pos h]
        have HY2 : Hid (b ≠ 1 → y = 0) := fun h => by rw [hy, if_neg h]
        clear hy
        have HF : Hid (∀ W : World, (w0.alloc (.cells #[.int .i64 z, .int .i64 0] 81)).drew = W → (W.cell? ⟨w.heap.size, 0, none⟩ = some (.int .i64 b) ∧ W.cell? ⟨w.heap.size + 2, 0, none⟩ = some (.int .i64 0) ∧ W.cell? ⟨w.heap.size + 2, 1, none⟩ = some (.int .i64 0) ∧ (∀ i, W.frozen? ⟨w.heap.size + 2, i, none⟩ = false)) ∧ W.heap[w0.heap.size]? = some (.cells #[.int .i64 z, .int .i64 0] 81 (0, 0)) ∧ W.heap[w.heap.size + 2]? = w0.heap[w.heap.size + 2]? ∧ Below w.heap.size w W) := fun W hW => by
          have hb : Below w0.heap.size w0 W := by rw [← hW]; exact ((Below.refl w0.heap.size w0).alloc (Nat.le_refl _) _).drew
          have h2 := (hb.block _ HR0.out).trans HX3.out
          have h1 := (hb.cell (p := ⟨w.heap.size, 0, none⟩) (World.block_lt_of_cell? w0 _ p0)).trans p0
          obtain ⟨⟨e0, e1⟩, ef⟩ := box2_cells h2
          refine ⟨⟨h1, e0, e1, ef⟩, ?_, hb.block _ HR0.out, below_step HB.out hb⟩
          rw [← hW]
          exact heap_alloc_last w0 (.cells #[.int .i64 z, .int .i64 0] 81)
        rcases hCx with hc1 | ⟨hc1, hc2⟩ <;> rcases hAx with ha1 | ⟨ha1, ha2⟩
        all_goals
          go_enter Tryd.func61, Tryd.ntmps61
          go_wp2_with fail
          clear hW0
          go_region_held_law (fun W => W.cell? ⟨w.heap.size, 1, none⟩ = some (.slice (some ⟨bb, o, none⟩) n cap) ∧ W.cell? ⟨w.heap.size + 1, 0, none⟩ = some (.int .i64 A) ∧ W.cell? ⟨bb, o + s, none⟩ = some (.slice (some ⟨b1, o1, none⟩) k cc1) ∧ W.cell? ⟨b1, o1 + x, none⟩ = some (.int .i64 z)) (first | go_keep) (first | (go_at_call 62; refine (HBEG.out _).mono ?_; rintro e w' ⟨rfl, hw'⟩; rw [hw']; clear hw' w'))
          all_goals
            clear p0 p1 p2 q0 q1 r0 r1 rf hck hcx
            obtain ⟨W1, hW1⟩ : ∃ W, (w0.alloc (.cells #[.int .i64 z, .int .i64 0] 81)).drew = W := ⟨_, rfl⟩
            rw [hW1]
            obtain ⟨⟨p0, r0, r1, rf⟩, ht, hr, hbW⟩ := HF.out W1 hW1
            obtain ⟨⟨t0, t1⟩, tf⟩ := box2_cells ht
            have HT := hide ht
            have HRR := hide hr
            have HBW := hide hbW
            clear hW1 ht hr hbW HF
            by_cases hb : b = 1
            · obtain rfl := HY1.out hb
              have hb1 : (b == 1) = true := by simp [hb]
              clear hb
              have hh : (W1.setCell ⟨w0.heap.size, 1, none⟩ (.int .i64 (x : Int))).heap[w.heap.size + 2]? = w0.heap[w.heap.size + 2]? := (Below.heap_setCell _ _ _ _ (by have := HR0.out; show w.heap.size + 2 ≠ w0.heap.size; omega)).trans HRR.out
              have hB2 : Below w.heap.size w (W1.setCell ⟨w0.heap.size, 1, none⟩ (.int .i64 (x : Int))) := HBW.out.setCell (by have := HR0.out; show w.heap.size ≤ w0.heap.size; omega) _
              obtain ⟨⟨e0, e1⟩, ef⟩ := box2_cells (hh.trans HX3.out)
              have HH := hide hh
              have HB2 := hide hB2
              clear hh hB2
              go_wp2
              obtain ⟨z0, z1, hbf⟩ := HSET.out _ HH.out HB2.out z (x : Int)
              exact bodyPost_ret (v := .agg #[.int .i64 z, .int .i64 (x : Int)]) (by simp [results, Tryd.results61, go_sem, z0, z1]) rfl ⟨rfl, hbf⟩
            · obtain rfl := HY2.out hb
              have hb1 : (b == 1) = false := by simp [hb]
              clear hb
              go_wp2
              obtain ⟨z0, z1, hbf⟩ := HSET.out W1 HRR.out HBW.out z 0
              exact bodyPost_ret (v := .agg #[.int .i64 z, .int .i64 0]) (by simp [results, Tryd.results61, go_sem, z0, z1]) rfl ⟨rfl, hbf⟩
end Go.Proofs.YtgbmemkoggogdaaDoor

/- word.Check, At, Head: contracts. -/
namespace Go.Proofs.YtgbmemkoggogdaaDoor
open Go.RowKit

theorem rowC_upB {k n : Nat} {r : List Int} (h : r.length = k) : rowC k n r = if upB ((n : Int) - 1) r = true then 0 else 1 := by
  have e : (r.all fun x => decide (0 ≤ x ∧ x < (n : Int))) = upB ((n : Int) - 1) r := by
    unfold upB
    congr 1
    funext x
    exact decide_eq_decide.2 ⟨fun h => by omega, fun h => by omega⟩
  unfold rowC
  rw [if_pos h, e]
set_option maxHeartbeats 8000000 in
set_option maxRecDepth 4000 in
theorem word_check_any : CheckSays := by
  intro b a n cap ao no co N O w hs ho
  have hL := hs.1
  have hLo := ho.1
  have hmx := hs.2.1
  have hmo := ho.2.1
  unfold maxLen at hmx hmo
  have HBX := hide (outBox w b a n cap ao no co 25 hs ho)
  have HC : Hid (outC b N O = if 1 ≤ b ∧ b ≤ 6 then (if n = 0 then 4 else if 20 < n then 3 else if no = n then firstC (outRs (kindsI b).toNat N O) else 2) else 1) := by show _ = _; unfold outC; rw [hL, hLo]
  have HAT : Hid (∀ s, s < n → (∀ j, j < s → outR (kindsI b).toNat n (N.getD j []) (O.getD j 0) = 0) → outR (kindsI b).toNat n (N.getD s []) (O.getD s 0) ≠ 0 → firstC (outRs (kindsI b).toNat N O) = outR (kindsI b).toNat n (N.getD s []) (O.getD s 0)) := fun s hs2 hj hc => by
    have h := firstC_pre (outRs (kindsI b).toNat N O) s (fun j hjs => by rw [outRs_get (by omega), hL]; exact hj j hjs) (by rw [outRs_len, hL]; exact hs2) (by rw [outRs_get (by omega), hL]; exact hc)
    rw [outRs_get (by omega), hL] at h
    exact h
  have HALL : Hid ((∀ j, j < n → outR (kindsI b).toNat n (N.getD j []) (O.getD j 0) = 0) → firstC (outRs (kindsI b).toNat N O) = 0) := fun h => firstC_all _ fun j hj => by
    rw [outRs_len] at hj
    rw [outRs_get hj, hL]
    exact h j (by omega)
  clear hs ho hL hLo
  generalize firstC (outRs (kindsI b).toNat N O) = F at HC HAT HALL
  generalize outC b N O = c at HC ⊢
  unfold outV
  obtain ⟨⟨c0, c1, c2⟩, hs2, ho2, hbw⟩ := HBX.out _ (Below.refl _ _)
  have HS := hide hs2
  have HO := hide ho2
  have HB1 := hide hbw
  clear hs2 ho2 hbw HBX
  by_cases hb : 1 ≤ b ∧ b ≤ 6
  · have HRX := hide (fun W => isBase_yes b W hb.1 hb.2)
    have HKX := hide (fun W => kinds_any b W hb.1 hb.2)
    have hcc := HC.out
    rw [if_pos hb] at hcc
    have hk := kinds_nat hb.1 hb.2
    rw [← hk.2.2] at HKX
    generalize (kindsI b).toNat = k at HKX HAT HALL hk
    by_cases h0 : n = 0
    · subst h0
      rw [if_pos rfl] at hcc
      subst hcc
      go_enter Tryd.func34, Tryd.ntmps34
      go_wp2_with (go_at_call 57; refine (HRX.out _).mono ?_; rintro e w' ⟨rfl, hw'⟩; rw [hw']; clear hw' w')
      go_ret
      exact ⟨by simp [errV], HB1.out⟩
    · rw [if_neg h0] at hcc
      have h0i : ((n : Int) == 0) = false := by simp; omega
      by_cases h20 : 20 < n
      · rw [if_pos h20] at hcc
        subst hcc
        have h20i : (n : Int) > 20 := by omega
        go_enter Tryd.func34, Tryd.ntmps34
        go_wp2_with (go_at_call 57; refine (HRX.out _).mono ?_; rintro e w' ⟨rfl, hw'⟩; rw [hw']; clear hw' w')
        go_ret
        exact ⟨by simp [errV], HB1.out⟩
      · rw [if_neg h20] at hcc
        have h20i : ¬ (n : Int) > 20 := by omega
        by_cases hno : no = n
        · subst hno
          rw [if_pos rfl] at hcc
          subst hcc
          have hnn : ((no : Int) == (no : Int)) = true := by simp
          go_enter Tryd.func34, Tryd.ntmps34
          go_wp2_with (go_at_call 57; refine (HRX.out _).mono ?_; rintro e w' ⟨rfl, hw'⟩; rw [hw']; clear hw' w')
          generalize w.alloc (.cells #[.int .i64 b, .slice a no cap, .slice ao no co] 25) = wb at HS HO HB1 c0 c1 c2 ⊢
          go_loop [31] (fun iv => ∃ s : Nat, s ≤ no ∧ iv = .int .i64 s ∧ (∀ j, j < s → outR k no (N.getD j []) (O.getD j 0) = 0)) (fun iv => no - (intOf iv).toNat)
          case atStart => exact ⟨0, by omega, rfl, fun j hj => by omega⟩
          case round =>
            obtain ⟨s, hsn, rfl, hall⟩ := hrel
            have HALLS := hide hall
            clear hall
            by_cases hlt : s < no
            · have hlti : (s : Int) < (no : Int) := by omega
              obtain ⟨bb, o, a1, cc1, rfl, hck, hsl⟩ := sl2_cell HS.out s hlt
              obtain ⟨bo, oo, rfl, hco⟩ := sl_cell HO.out s hlt
              have HATs := hide (HAT.out s hlt HALLS.out)
              have HNX : Hid (outR k no (N.getD s []) (O.getD s 0) = 0 → ∀ j, j < s + 1 → outR k no (N.getD j []) (O.getD j 0) = 0) := fun h j hj => by
                by_cases e : j = s
                · subst e; exact h
                · exact HALLS.out j (by omega)
              have HUP := hide (fun cp => allUpTo_any ((no : Int) - 1) a1 (N.getD s []).length cp (N.getD s []) wb hsl)
              have HIO := hide (fun W => isOutput_any (O.getD s 0) W)
              have hrm := hsl.2.1
              unfold maxLen at hrm
              clear hsl
              generalize hrl : N.getD s [] = r at hck HATs HNX HUP hrm
              generalize hov : O.getD s 0 = ov at hco HATs HNX HIO
              clear hrl hov
              by_cases hlen : r.length = k
              · have hlen' : ((r.length : Int) == (k : Int)) = true := by simp; omega
                have hrow := rowC_upB (n := no) hlen
                by_cases hu : upB ((no : Int) - 1) r = true
                · rw [hu] at HUP
                  rw [if_pos hu] at hrow
                  by_cases h9 : 0 ≤ ov ∧ ov ≤ 9
                  · rw [decide_eq_true h9] at HIO
                    have HZ := hide (HNX.out (by unfold outR; rw [if_pos hrow, if_pos h9]))
                    clear hrow hu h9 hlen
                    go_wp2_with (first
                      | (go_at_call 16; refine (HKX.out _).mono ?_; rintro e w' ⟨rfl, hw'⟩; rw [hw']; clear hw' w')
                      | (go_at_call 58; refine (HUP.out _).mono ?_; rintro e w' ⟨rfl, hw'⟩; rw [hw']; clear hw' w')
                      | (go_at_call 59; refine (HIO.out _).mono ?_; rintro e w' ⟨rfl, hw'⟩; rw [hw']; clear hw' w'))
                    go_round
                    case rel => exact ⟨s + 1, by omega, by go_num, HZ.out⟩
                    case measure => simp [intOf]; omega
                  · rw [decide_eq_false h9] at HIO
                    have e1 : outR k no r ov = 1 := by unfold outR; rw [if_pos hrow, if_neg h9]
                    have hF := HATs.out (by rw [e1]; decide)
                    rw [e1] at hF
                    clear hrow hu h9 hlen e1
                    subst hF
                    go_wp2_with (first
                      | (go_at_call 16; refine (HKX.out _).mono ?_; rintro e w' ⟨rfl, hw'⟩; rw [hw']; clear hw' w')
                      | (go_at_call 58; refine (HUP.out _).mono ?_; rintro e w' ⟨rfl, hw'⟩; rw [hw']; clear hw' w')
                      | (go_at_call 59; refine (HIO.out _).mono ?_; rintro e w' ⟨rfl, hw'⟩; rw [hw']; clear hw' w'))
                    go_ret
                    exact ⟨by simp [errV], HB1.out⟩
                · have hu' : upB ((no : Int) - 1) r = false := by simpa using hu
                  rw [hu'] at HUP
                  rw [if_neg hu] at hrow
                  have e1 : outR k no r ov = 1 := by unfold outR; rw [if_neg (by rw [hrow]; decide), hrow]
                  have hF := HATs.out (by rw [e1]; decide)
                  rw [e1] at hF
                  clear hrow hu hu' hlen e1
                  subst hF
                  go_wp2_with (first
                    | (go_at_call 16; refine (HKX.out _).mono ?_; rintro e w' ⟨rfl, hw'⟩; rw [hw']; clear hw' w')
                    | (go_at_call 58; refine (HUP.out _).mono ?_; rintro e w' ⟨rfl, hw'⟩; rw [hw']; clear hw' w'))
                  go_ret
                  exact ⟨by simp [errV], HB1.out⟩
              · have hlen' : ((r.length : Int) == (k : Int)) = false := by simp; omega
                have e1 : outR k no r ov = 2 := by unfold outR; rw [if_neg (by rw [rowC_long hlen]; decide), rowC_long hlen]
                have hF := HATs.out (by rw [e1]; decide)
                rw [e1] at hF
                clear hlen e1
                subst hF
                go_wp2_with (go_at_call 16; refine (HKX.out _).mono ?_; rintro e w' ⟨rfl, hw'⟩; rw [hw']; clear hw' w')
                go_ret
                exact ⟨by simp [errV], HB1.out⟩
            · have hlti : ¬ (s : Int) < (no : Int) := by omega
              obtain rfl : s = no := by omega
              have hF := HALL.out HALLS.out
              subst hF
              go_wp2
              go_ret
              exact ⟨by simp [errV], HB1.out⟩
        · rw [if_neg hno] at hcc
          subst hcc
          have hnn : ((no : Int) == (n : Int)) = false := by simp; omega
          go_enter Tryd.func34, Tryd.ntmps34
          go_wp2_with (go_at_call 57; refine (HRX.out _).mono ?_; rintro e w' ⟨rfl, hw'⟩; rw [hw']; clear hw' w')
          go_ret
          exact ⟨by simp [errV], HB1.out⟩
  · have HRX := hide (fun W => isBase_no b W (by omega))
    have hcc := HC.out
    rw [if_neg hb] at hcc
    subst hcc
    go_enter Tryd.func34, Tryd.ntmps34
    go_wp2_with (go_at_call 57; refine (HRX.out _).mono ?_; rintro e w' ⟨rfl, hw'⟩; rw [hw']; clear hw' w')
    go_ret
    exact ⟨by simp [errV], HB1.out⟩
end Go.Proofs.YtgbmemkoggogdaaDoor
