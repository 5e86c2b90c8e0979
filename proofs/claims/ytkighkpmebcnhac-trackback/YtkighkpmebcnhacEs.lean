/- track.isDigit, track.Fix: contracts. -/
import Derived.Test.YtkighkpmebcnhacZEg
import Derived.Test.YtkighkpmebcnhacEp
import Derived.Test.YtkighkpmebcnhacZEo
namespace Go.Proofs.Ytkighkpmebcnhac
open Go.RowKit

set_option maxHeartbeats 1000000 in
set_option maxRecDepth 4000 in
theorem isDigit_any (b x : Int) (w : World) (h1 : 1 ≤ b) (h2 : b ≤ 6) :
    Calls Try.prog 32 #[.int .i64 b, .int .i64 x] w fun e w' => e = .returned (.bool (decide (0 ≤ x ∧ x < kindsI b))) ∧ w' = w := by
  have HK := hide (fun w => kinds_any b w h1 h2)
  generalize kindsI b = K at HK ⊢
  by_cases h0 : 0 ≤ x
  · by_cases hk : x < K
    · have hd : decide (0 ≤ x ∧ x < K) = true := by simp; omega
      rw [hd]
      clear hd
      go_enter Try.func32, Try.ntmps32
      go_wp2_with (go_at_call 44; refine (HK.out _).mono ?_; rintro e w' ⟨rfl, hw⟩; rw [hw]; clear hw w')
      go_ret
      exact ⟨by simp, rfl⟩
    · have hd : decide (0 ≤ x ∧ x < K) = false := by simp; omega
      rw [hd]
      clear hd
      go_enter Try.func32, Try.ntmps32
      go_wp2_with (go_at_call 44; refine (HK.out _).mono ?_; rintro e w' ⟨rfl, hw⟩; rw [hw]; clear hw w')
      go_ret
      exact ⟨by simp [hk], rfl⟩
  · have hd : decide (0 ≤ x ∧ x < K) = false := by simp; omega
    rw [hd]
    clear hd
    go_enter Try.func32, Try.ntmps32
    go_wp2_with (go_at_call 44; refine (HK.out _).mono ?_; rintro e w' ⟨rfl, hw⟩; rw [hw]; clear hw w')
    go_ret
    exact ⟨by simp, rfl⟩

theorem four_new (w : World) (o1 o2 o3 o4 : Obj) : Below w.heap.size w ((((w.alloc o1).alloc o2).alloc o3).alloc o4) ∧ ((((w.alloc o1).alloc o2).alloc o3).alloc o4).heap[w.heap.size]? = some o1 ∧ ((((w.alloc o1).alloc o2).alloc o3).alloc o4).heap[w.heap.size + 1]? = some o2 ∧ ((((w.alloc o1).alloc o2).alloc o3).alloc o4).heap[w.heap.size + 2]? = some o3 ∧ ((((w.alloc o1).alloc o2).alloc o3).alloc o4).heap[w.heap.size + 3]? = some o4 := by
  have h4 := heap_alloc_last (((w.alloc o1).alloc o2).alloc o3) o4
  simp only [World.size_alloc] at h4
  obtain ⟨h1, h2, h3⟩ := three_new w o1 o2 o3
  refine ⟨(below_three w o1 o2 o3).alloc (by simp; omega) _, ?_, ?_, ?_, h4⟩
  · rw [Below.heap_alloc _ _ _ (by simp; omega)]; exact h1
  · rw [Below.heap_alloc _ _ _ (by simp)]; exact h2
  · rw [Below.heap_alloc _ _ _ (by simp)]; exact h3

set_option maxHeartbeats 8000000 in
set_option maxRecDepth 8000 in
theorem fix_ok_u (b : Int) (tr : Nat) (a : Option Addr) (n cap : Nat) (a' : Option Addr) (cap' : Nat) (N : List (List Int)) (E : List Bool) (tk x : Nat) (w : World) (hs : Sl2 w a n N) (he : SlB w a' n E) (hA : autoC b ((tr : Int) + 1) N n = 0) (htk : tk ≤ tr) (hx : (x : Int) < kindsI b) :
    Calls Try.prog 16 #[.agg #[.int .i64 b, .int .i64 ((tr : Int) + 1), .slice a n cap, .slice a' n cap'], .int .i64 (tk : Int), .int .i64 (x : Int)] w (PairR w b (tr : Int) (leastN (relN N (fixT b tr tk (x : Int) (manyU b (tr : Int)).toNat)) E (manyU b (tr : Int)).toNat) (leastE (relN N (fixT b tr tk (x : Int) (manyU b (tr : Int)).toNat)) E (manyU b (tr : Int)).toNat) 0) := by
  obtain ⟨hMt, -, hG, hmu⟩ := autoC_zero hA
  have hn80 := autoC_80 hA
  rw [hs.1] at hG hn80
  obtain ⟨hM, hm1, hm2, hm3, hm4, htr4, h1, h2⟩ := many_less hMt
  have hkb := kinds_bd2 b h2
  have hmm : manyU b (tr : Int) = ((manyU b (tr : Int)).toNat : Int) := by omega
  have hok := fix_ok b h2 htk (x := (x : Int)) ⟨by omega, hx⟩ (manyU b (tr : Int)).toNat (manyU b ((tr : Int) + 1)).toNat (by rw [hm4]; omega)
  obtain ⟨hB0, hx1, hx2, hx3, hx4⟩ := four_new w (.cells #[.int .i64 b, .int .i64 ((tr : Int) + 1), .slice a n cap, .slice a' n cap'] 25) (.cells #[.int .i64 (tk : Int)] 3) (.cells #[.int .i64 (x : Int)] 3) (.cells #[.int .i64 0, .int .i64 0, .slice none 0 0, .slice none 0 0] 25)
  have HB0 := hide hB0
  have HX1 := hide hx1
  have HX2 := hide hx2
  have HX3 := hide hx3
  have HX4 := hide hx4
  have HS := hide (sl2_below hs hB0)
  have HE := hide (slB_below he hB0)
  have HCK := hide (check_u b ((tr : Int) + 1) a a' n cap n cap' N _ HS.out he.2.1)
  rw [hA, errV_zero] at HCK
  have HID := hide (fun W => isDigit_any b (x : Int) W h1 h2)
  rw [show decide (0 ≤ (x : Int) ∧ (x : Int) < kindsI b) = true by simp; omega] at HID
  have HF : Hid (∀ (W : World) (B B' g l : Nat), W.cell? ⟨B, 0, none⟩ = some (.int .i64 (tk : Int)) → W.cell? ⟨B', 0, none⟩ = some (.int .i64 (x : Int)) → l < (manyU b (tr : Int)).toNat → Sl W (some ⟨g, 0, none⟩) tr (splitL b tr (l : Int)) → Calls Try.prog 33 #[.slice (some ⟨g, 0, none⟩) tr tr, .pointer (some ⟨B, 0, none⟩), .pointer (some ⟨B', 0, none⟩)] W (GivesRow W (putD b tr tk (x : Int) (l : Int)))) := fun W B B' g l k1 k2 k3 k4 =>
    fix1_any B B' tk (x : Int) g tr (splitL b tr (l : Int)) W k1 k2 k4 (WalkArith.wf_i64 (by omega)) (by omega) htk
  have HRA := hide (fun cs W k1 k2 k3 => readAnew_any 33 cs b ((tr : Int) + 1) a n cap a' cap' N E tr (manyU b (tr : Int)).toNat (manyU b ((tr : Int) + 1)).toNat (fun l => putD b tr tk (x : Int) (l : Int)) (fixT b tr tk (x : Int) (manyU b (tr : Int)).toNat) W k1 k2 hG hn80 hM hmm (enters_of Try.func33 (by kernel_rfl) rfl) k3
    (fun l hl => ⟨by unfold codeP; rw [putD_len htk, show ((tr + 1 : Nat) : Int) = (tr : Int) + 1 by omega, if_pos hMt, if_pos (digB_put b h2 ⟨by omega, hx⟩ _)], by
      have := fix_get b tr tk (x : Int) (n := (manyU b (tr : Int)).toNat) (y := (l : Int)) (by omega) (by omega)
      rw [Int.toNat_natCast] at this
      exact this.symm⟩) (fix_len b tr tk (x : Int) _) (by omega) (by omega) hok)
  unfold PairR at HRA ⊢
  rw [errV_zero] at HRA ⊢
  have hti : ¬ ((tr : Int) + 1 ≤ (tk : Int)) := by omega
  have htn : decide ((tk : Int) < 0) = false := by simp
  have hti' : decide ((tr : Int) + 1 ≤ (tk : Int)) = false := by simp; omega
  clear hs he hA hM hMt hG hok hB0 hmu hm1 hm2 hm3 hm4 hx1 hx2 hx3 hx4 hmm hx
  generalize leastN (relN N (fixT b tr tk (x : Int) (manyU b (tr : Int)).toNat)) E (manyU b (tr : Int)).toNat = LN at HRA ⊢
  generalize leastE (relN N (fixT b tr tk (x : Int) (manyU b (tr : Int)).toNat)) E (manyU b (tr : Int)).toNat = LE at HRA ⊢
  generalize hW0 : (((w.alloc (.cells #[.int .i64 b, .int .i64 ((tr : Int) + 1), .slice a n cap, .slice a' n cap'] 25)).alloc (.cells #[.int .i64 (tk : Int)] 3)).alloc (.cells #[.int .i64 (x : Int)] 3)).alloc (.cells #[.int .i64 0, .int .i64 0, .slice none 0 0, .slice none 0 0] 25) = wb at HB0 HX1 HX2 HX3 HX4 HS HE HCK
  have HSZ0 : Hid (wb.heap.size = w.heap.size + 4) := by show _ = _; rw [← hW0]; simp
  obtain ⟨⟨p0, p1, p2, p3⟩, -⟩ := box_cells HX1.out
  go_enter Try.func16, Try.ntmps16
  go_wp2_with fail
  clear hW0 p0 p1 p2 p3
  refine HCK.out.mono ?_
  rintro e w1 ⟨rfl, hb1⟩
  have HB1 := hide hb1
  obtain ⟨⟨p0, p1, p2, p3⟩, -⟩ := box_cells ((hb1.block _ (by have := HSZ0.out; omega)).trans HX1.out)
  have HY2 : Hid (w1.heap[w.heap.size + 1]? = some (.cells #[.int .i64 (tk : Int)] 3)) := (hb1.block _ (by have := HSZ0.out; omega)).trans HX2.out
  have HY3 : Hid (w1.heap[w.heap.size + 2]? = some (.cells #[.int .i64 (x : Int)] 3)) := (hb1.block _ (by have := HSZ0.out; omega)).trans HX3.out
  have HY4 := hide ((hb1.block _ (by have := HSZ0.out; omega)).trans HX4.out)
  have pa : w1.cell? ⟨w.heap.size + 1, 0, none⟩ = some (.int .i64 (tk : Int)) := by simp [World.cell?, HY2.out]
  have pb : w1.cell? ⟨w.heap.size + 2, 0, none⟩ = some (.int .i64 (x : Int)) := by simp [World.cell?, HY3.out]
  have HC := hide (HRA.out #[.pointer (some ⟨w.heap.size + 1, 0, none⟩), .pointer (some ⟨w.heap.size + 2, 0, none⟩)] w1 (sl2_below HS.out hb1) (slB_below HE.out hb1) (fun W g l k1 k2 k3 => HF.out W (w.heap.size + 1) (w.heap.size + 2) g l (by
    have h := (k1.block _ (Array.getElem?_eq_some_iff.1 HY2.out).1).trans HY2.out
    simp [World.cell?, h]) (by
    have h := (k1.block _ (Array.getElem?_eq_some_iff.1 HY3.out).1).trans HY3.out
    simp [World.cell?, h]) k2 k3))
  clear hb1 HCK HRA HF
  go_wp2_with (go_at_call 32; refine (HID.out _).mono ?_; rintro e w' ⟨rfl, hw⟩; rw [hw]; clear hw w')
  clear p0 p1 p2 p3 pa pb
  refine HC.out.mono ?_
  rintro e w3 ⟨ay, cy, ay', cy', rfl, hnew, hb3⟩
  have hold := (hb3.block _ (Array.getElem?_eq_some_iff.1 HY4.out).1).trans HY4.out
  have HHOLD := hide hold
  have HNEW := hide hnew
  have HBF := hide (below_step HB0.out (below_step HB1.out hb3))
  have HSW := hide HB1.out.size
  obtain ⟨⟨o0, o1, o2, o3⟩, of⟩ := box_cells hold
  clear hnew hb3 hold HC
  go_wp2
  obtain ⟨⟨hset, hsz, hoth⟩, hbel⟩ := box_set (v0 := .int .i64 b) (v1 := .int .i64 (tr : Int)) (v2 := .slice ay LN.length cy) (v3 := .slice ay' LN.length cy') HHOLD.out rfl
  have hfin : AutoNew w ay LN.length LN ay' LE ((((w3.setCell ⟨w.heap.size + 3, 0, none⟩ (.int .i64 b)).setCell ⟨w.heap.size + 3, 1, none⟩ (.int .i64 (tr : Int))).setCell ⟨w.heap.size + 3, 2, none⟩ (.slice ay LN.length cy)).setCell ⟨w.heap.size + 3, 3, none⟩ (.slice ay' LN.length cy')) := fun W' hW' => HNEW.out W' (fun x hx hxl => by
    have h1 := HSW.out
    have h2 := HSZ0.out
    rw [hW' x (by omega) (by rw [hsz]; exact hxl), hoth x (by omega)])
  have hb := hbel w w.heap.size HBF.out (by omega)
  obtain ⟨⟨z0, z1, z2, z3⟩, -⟩ := box_cells hset
  exact bodyPost_ret (v := .tuple #[.agg #[.int .i64 b, .int .i64 (tr : Int), .slice ay LN.length cy, .slice ay' LN.length cy'], .nilIface]) (by simp [results, Try.results16, go_sem, z0, z1, z2, z3]) rfl ⟨ay, cy, ay', cy', rfl, hfin, hb⟩

set_option maxHeartbeats 8000000 in
set_option maxRecDepth 8000 in
theorem fix_bad_u (b t : Int) (a : Option Addr) (n cap : Nat) (a' : Option Addr) (k cap' : Nat) (N : List (List Int)) (tk x : Int) (w : World) (hs : Sl2 w a n N) (hk : k ≤ maxLen) (hC : fixC b t N k tk x ≠ 0) :
    Calls Try.prog 16 #[.agg #[.int .i64 b, .int .i64 t, .slice a n cap, .slice a' k cap'], .int .i64 tk, .int .i64 x] w (PairR w 0 0 [] [] (fixC b t N k tk x)) := by
  obtain ⟨hB0, hx1, hx2, hx3, hx4⟩ := four_new w (.cells #[.int .i64 b, .int .i64 t, .slice a n cap, .slice a' k cap'] 25) (.cells #[.int .i64 tk] 3) (.cells #[.int .i64 x] 3) (.cells #[.int .i64 0, .int .i64 0, .slice none 0 0, .slice none 0 0] 25)
  have HB0 := hide hB0
  have HX1 := hide hx1
  have HX2 := hide hx2
  have HX3 := hide hx3
  have HX4 := hide hx4
  have HCK := hide (check_u b t a a' n cap k cap' N _ (sl2_below hs hB0) hk)
  have HC : Hid (fixC b t N k tk x = if autoC b t N k = 0 then (if (0 ≤ tk ∧ tk < t) ∧ 0 ≤ x ∧ x < kindsI b then 0 else 1) else autoC b t N k) := by show _ = _; rfl
  have HBS : Hid (autoC b t N k = 0 → 1 ≤ b ∧ b ≤ 6) := fun h => by
    obtain ⟨h1, h2, -⟩ := codeM_zero (autoC_zero h).1
    exact ⟨h1, h2⟩
  unfold PairR
  rw [errV_ne hC]
  clear hs hk hB0 hx1 hx2 hx3 hx4
  generalize fixC b t N k tk x = c at HC hC ⊢
  generalize autoC b t N k = cx at HCK HC HBS
  generalize hW0 : (((w.alloc (.cells #[.int .i64 b, .int .i64 t, .slice a n cap, .slice a' k cap'] 25)).alloc (.cells #[.int .i64 tk] 3)).alloc (.cells #[.int .i64 x] 3)).alloc (.cells #[.int .i64 0, .int .i64 0, .slice none 0 0, .slice none 0 0] 25) = wb at HB0 HX1 HX2 HX3 HX4 HCK
  obtain ⟨⟨p0, p1, p2, p3⟩, -⟩ := box_cells HX1.out
  by_cases hx : cx = 0
  · rw [if_pos hx] at HC
    obtain ⟨h1, h2⟩ := HBS.out hx
    rw [errV_yes hx] at HCK
    have hno : ¬ ((0 ≤ tk ∧ tk < t) ∧ 0 ≤ x ∧ x < kindsI b) := fun h => hC (by rw [HC.out, if_pos h])
    rw [if_neg hno] at HC
    obtain rfl := HC.out
    have HID := hide (fun W => isDigit_any b x W h1 h2)
    have hway : decide (tk < 0) = true ∨ (decide (tk < 0) = false ∧ decide (t ≤ tk) = true ∧ t ≤ tk) ∨ (decide (tk < 0) = false ∧ decide (t ≤ tk) = false ∧ ¬ t ≤ tk ∧ decide (0 ≤ x ∧ x < kindsI b) = false) := by
      by_cases h0 : tk < 0
      · exact .inl (by simpa using h0)
      · by_cases h1 : t ≤ tk
        · exact .inr (.inl ⟨by simpa using h0, by simpa using h1, h1⟩)
        · exact .inr (.inr ⟨by simpa using h0, by simpa using h1, h1, decide_eq_false fun h => hno ⟨by omega, h⟩⟩)
    clear hno hx HC HBS hC
    go_enter Try.func16, Try.ntmps16
    go_wp2_with fail
    clear hW0 p0 p1 p2 p3
    refine HCK.out.mono ?_
    rintro e w1 ⟨rfl, hb1⟩
    obtain ⟨⟨p0, p1, p2, p3⟩, -⟩ := box_cells ((hb1.block _ (Array.getElem?_eq_some_iff.1 HX1.out).1).trans HX1.out)
    have hy2 := (hb1.block _ (Array.getElem?_eq_some_iff.1 HX2.out).1).trans HX2.out
    have hy3 := (hb1.block _ (Array.getElem?_eq_some_iff.1 HX3.out).1).trans HX3.out
    have hr := (hb1.block _ (Array.getElem?_eq_some_iff.1 HX4.out).1).trans HX4.out
    have pa : w1.cell? ⟨w.heap.size + 1, 0, none⟩ = some (.int .i64 tk) := by simp [World.cell?, hy2]
    have pb : w1.cell? ⟨w.heap.size + 2, 0, none⟩ = some (.int .i64 x) := by simp [World.cell?, hy3]
    obtain ⟨⟨r0, r1, r2, r3⟩, rf⟩ := box_cells hr
    have HR := hide hr
    have HB1 := hide (below_step HB0.out hb1)
    clear hr hb1 hy2 hy3 HCK
    rcases hway with hw1 | ⟨hw1, hw2, hw3⟩ | ⟨hw1, hw2, hw3, hw4⟩
    · go_wp2_with fail
      obtain ⟨⟨hset, -, -⟩, hbel⟩ := box_set (v0 := .int .i64 0) (v1 := .int .i64 0) (v2 := .slice none 0 0) (v3 := .slice none 0 0) HR.out rfl
      obtain ⟨⟨z0, z1, z2, z3⟩, -⟩ := box_cells hset
      exact bodyPost_ret (v := .tuple #[.agg #[.int .i64 0, .int .i64 0, .slice none 0 0, .slice none 0 0], .iface 45 (.int .i64 1)]) (by simp [results, Try.results16, go_sem, z0, z1, z2, z3]) rfl ⟨none, 0, none, 0, rfl, autoNew_nil _ _, hbel _ _ HB1.out (by omega)⟩
    · go_wp2_with fail
      obtain ⟨⟨hset, -, -⟩, hbel⟩ := box_set (v0 := .int .i64 0) (v1 := .int .i64 0) (v2 := .slice none 0 0) (v3 := .slice none 0 0) HR.out rfl
      obtain ⟨⟨z0, z1, z2, z3⟩, -⟩ := box_cells hset
      exact bodyPost_ret (v := .tuple #[.agg #[.int .i64 0, .int .i64 0, .slice none 0 0, .slice none 0 0], .iface 45 (.int .i64 1)]) (by simp [results, Try.results16, go_sem, z0, z1, z2, z3]) rfl ⟨none, 0, none, 0, rfl, autoNew_nil _ _, hbel _ _ HB1.out (by omega)⟩
    · rw [hw4] at HID
      go_wp2_with (go_at_call 32; refine (HID.out _).mono ?_; rintro e w' ⟨rfl, hw⟩; rw [hw]; clear hw w')
      obtain ⟨⟨hset, -, -⟩, hbel⟩ := box_set (v0 := .int .i64 0) (v1 := .int .i64 0) (v2 := .slice none 0 0) (v3 := .slice none 0 0) HR.out rfl
      obtain ⟨⟨z0, z1, z2, z3⟩, -⟩ := box_cells hset
      exact bodyPost_ret (v := .tuple #[.agg #[.int .i64 0, .int .i64 0, .slice none 0 0, .slice none 0 0], .iface 45 (.int .i64 1)]) (by simp [results, Try.results16, go_sem, z0, z1, z2, z3]) rfl ⟨none, 0, none, 0, rfl, autoNew_nil _ _, hbel _ _ HB1.out (by omega)⟩
  · rw [if_neg hx] at HC
    obtain rfl := HC.out
    rw [errV_ne hx] at HCK
    clear hx HBS hC HC
    go_enter Try.func16, Try.ntmps16
    go_wp2_with fail
    clear hW0 p0 p1 p2 p3
    refine HCK.out.mono ?_
    rintro e w1 ⟨rfl, hb1⟩
    have hr := (hb1.block _ (Array.getElem?_eq_some_iff.1 HX4.out).1).trans HX4.out
    obtain ⟨⟨r0, r1, r2, r3⟩, rf⟩ := box_cells hr
    have HR := hide hr
    have HB1 := hide (below_step HB0.out hb1)
    clear hr hb1
    go_wp2
    obtain ⟨⟨hset, -, -⟩, hbel⟩ := box_set (v0 := .int .i64 0) (v1 := .int .i64 0) (v2 := .slice none 0 0) (v3 := .slice none 0 0) HR.out rfl
    obtain ⟨⟨z0, z1, z2, z3⟩, -⟩ := box_cells hset
    exact bodyPost_ret (v := .tuple #[.agg #[.int .i64 0, .int .i64 0, .slice none 0 0, .slice none 0 0], .iface 45 (.int .i64 c)]) (by simp [results, Try.results16, go_sem, z0, z1, z2, z3]) rfl ⟨none, 0, none, 0, rfl, autoNew_nil _ _, hbel _ _ HB1.out (by omega)⟩

theorem fix_u (b t : Int) (a : Option Addr) (n cap : Nat) (a' : Option Addr) (k cap' : Nat) (N : List (List Int)) (E : List Bool) (tk x : Int) (w : World) (hs : Sl2 w a n N) (he : SlB w a' k E) :
    Calls Try.prog 16 #[.agg #[.int .i64 b, .int .i64 t, .slice a n cap, .slice a' k cap'], .int .i64 tk, .int .i64 x] w (PairR w (okI (fixC b t N k tk x) b) (okI (fixC b t N k tk x) (t - 1)) (fixN b t N E k tk x) (fixE b t N E k tk x) (fixC b t N k tk x)) := by
  by_cases hc : fixC b t N k tk x = 0
  · obtain ⟨hA, ⟨ht0, ht1⟩, hx0, hx1⟩ := fixC_zero hc
    obtain rfl : k = n := by rw [(autoC_zero hA).2.1, hs.1]
    unfold fixN fixE okI
    rw [if_pos hc, if_pos hc, if_pos hc, if_pos hc, hc]
    obtain ⟨tr, rfl⟩ : ∃ tr : Nat, t = (tr : Int) + 1 := ⟨(t - 1).toNat, by omega⟩
    obtain ⟨tkn, rfl⟩ : ∃ tkn : Nat, tk = (tkn : Int) := ⟨tk.toNat, by omega⟩
    obtain ⟨xn, rfl⟩ : ∃ xn : Nat, x = (xn : Int) := ⟨x.toNat, by omega⟩
    rw [show (tr : Int) + 1 - 1 = (tr : Int) by omega, show ((tr : Int) + 1).toNat - 1 = tr by omega, Int.toNat_natCast]
    exact fix_ok_u b tr a k cap a' cap' N E tkn xn w hs he hA (by omega) hx1
  · unfold fixN fixE okI
    rw [if_neg hc, if_neg hc, if_neg hc, if_neg hc]
    exact fix_bad_u b t a n cap a' k cap' N tk x w hs he.2.1 hc
end Go.Proofs.Ytkighkpmebcnhac
