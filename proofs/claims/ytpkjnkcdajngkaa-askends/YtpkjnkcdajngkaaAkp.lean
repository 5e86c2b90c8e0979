/- AskEnds: its walk. -/
import Derived.Test.YtpkjnkcdajngkaaAko
import Derived.Deep.Cut
import Derived.Deep.CutRange
namespace Go.Proofs.Ytpkjnkcdajngkaa
open Go.RowKit

def ThrV (w : World) (e : Ending) (w' : World) : Prop := ∃ a c a' c', e = .returned (.agg #[.int .i64 2, .int .i64 1, .slice a 3 c, .slice a' 3 c']) ∧ Sl2 w' a 3 thrN ∧ SlB w' a' 3 thrE ∧ Cap0 w' a ∧ Below w.heap.size w w'
theorem thr_cap (w : World) (T T2 T3 : TypeId) (o : Obj) (W : World) (h : (((((w.alloc o).alloc (.cells #[.int .i64 0, .int .i64 1] T)).alloc (.cells #[.int .i64 2, .int .i64 0] T)).alloc (.cells #[.int .i64 1, .int .i64 2] T)).alloc (.cells #[.slice (some ⟨w.heap.size + 1, 0, none⟩) 2 2, .slice (some ⟨w.heap.size + 2, 0, none⟩) 2 2, .slice (some ⟨w.heap.size + 3, 0, none⟩) 2 2] T2)).alloc (.cells #[.bool true, .bool false, .bool false] T3) = W) :
    Cap0 W (some ⟨w.heap.size + 4, 0, none⟩) := by
  obtain ⟨-, hB, -, g1, g2, g3, g4, g5⟩ := six_boxes w _ _ _ _ _ _ W h
  intro b o x l c e hc
  cases e
  simp [World.cell?, g4] at hc
  omega
set_option maxHeartbeats 1000000 in
set_option maxRecDepth 4000 in
theorem threesV_any (w : World) : Calls Try.prog 6 #[] w (ThrV w) := by
  go_enter Try.func6, Try.ntmps6
  go_wp2
  obtain ⟨q1, q2, q3⟩ := thr_world w 3 26 4 _ _ rfl
  exact bodyPost_ret (v := .agg #[.int .i64 2, .int .i64 1, .slice (some ⟨w.heap.size + 4, 0, none⟩) 3 3, .slice (some ⟨w.heap.size + 5, 0, none⟩) 3 3]) (by simp [results, Try.results6, go_sem]) rfl ⟨_, 3, _, 3, rfl, q1, q2, thr_cap w 3 26 4 _ _ rfl, q3⟩
theorem four_boxes (w : World) (o0 o1 o2 o3 : Obj) (W : World) (h : (((w.alloc o0).alloc o1).alloc o2).alloc o3 = W) :
    Below w.heap.size w W ∧ W.heap[w.heap.size]? = some o0 ∧ W.heap[w.heap.size + 1]? = some o1 ∧ W.heap[w.heap.size + 2]? = some o2 ∧ W.heap[w.heap.size + 3]? = some o3 := by
  subst h
  have e : ∀ (w : World) (o : Obj), (w.alloc o).heap.size = w.heap.size + 1 := fun w o => by simp
  have l : ∀ (w : World) (o : Obj), (w.alloc o).heap[w.heap.size]? = some o := fun w o => heap_alloc_last w o
  have p : ∀ (w : World) (o : Obj) (x : Nat) (v : Obj), w.heap[x]? = some v → (w.alloc o).heap[x]? = some v := fun w o x v h => (Below.heap_alloc _ _ _ (Array.getElem?_eq_some_iff.1 h).1).trans h
  refine ⟨((((Below.refl _ w).alloc (Nat.le_refl _) _).alloc (by simp) _).alloc (by simp; omega) _).alloc (by simp; omega) _, ?_, ?_, ?_, ?_⟩
  · exact p _ _ _ _ (p _ _ _ _ (p _ _ _ _ (l w o0)))
  · exact p _ _ _ _ (p _ _ _ _ (by simpa [e] using l (w.alloc o0) o1))
  · exact p _ _ _ _ (by simpa [e] using l ((w.alloc o0).alloc o1) o2)
  · simpa [e] using l (((w.alloc o0).alloc o1).alloc o2) o3
theorem two_world (w : World) (T T2 T3 : TypeId) (W : World) (h : (((w.alloc (.cells #[.int .i64 1, .int .i64 1] T)).alloc (.cells #[.int .i64 1, .int .i64 1] T)).alloc (.cells #[.slice (some ⟨w.heap.size, 0, none⟩) 2 2, .slice (some ⟨w.heap.size + 1, 0, none⟩) 2 2] T2)).alloc (.cells #[.bool true, .bool false] T3) = W) :
    Sl2 W (some ⟨w.heap.size + 2, 0, none⟩) 2 twoN ∧ SlB W (some ⟨w.heap.size + 3, 0, none⟩) 2 twoE ∧ Cap0 W (some ⟨w.heap.size + 2, 0, none⟩) ∧ Below w.heap.size w W := by
  obtain ⟨hB, g1, g2, g4, g5⟩ := four_boxes w _ _ _ _ W h
  have c1 : ∀ i, W.cell? ⟨w.heap.size, i, none⟩ = #[Value.int .i64 1, .int .i64 1][i]? := fun i => by simp [World.cell?, g1]
  have c2 : ∀ i, W.cell? ⟨w.heap.size + 1, i, none⟩ = #[Value.int .i64 1, .int .i64 1][i]? := fun i => by simp [World.cell?, g2]
  have c4 : ∀ i, W.cell? ⟨w.heap.size + 2, i, none⟩ = #[Value.slice (some ⟨w.heap.size, 0, none⟩) 2 2, .slice (some ⟨w.heap.size + 1, 0, none⟩) 2 2][i]? := fun i => by simp [World.cell?, g4]
  have c5 : ∀ i, W.cell? ⟨w.heap.size + 3, i, none⟩ = #[Value.bool true, .bool false][i]? := fun i => by simp [World.cell?, g5]
  have two : ∀ i, i < 2 → i = 0 ∨ i = 1 := by omega
  have s1 : Sl W (some ⟨w.heap.size, 0, none⟩) 2 [1, 1] := ⟨rfl, by decide, by decide, Or.inr ⟨_, 0, rfl, fun i hi => by rcases two i hi with rfl | rfl <;> exact c1 _⟩⟩
  have s2 : Sl W (some ⟨w.heap.size + 1, 0, none⟩) 2 [1, 1] := ⟨rfl, by decide, by decide, Or.inr ⟨_, 0, rfl, fun i hi => by rcases two i hi with rfl | rfl <;> exact c2 _⟩⟩
  refine ⟨⟨rfl, by decide, Or.inr ⟨_, 0, rfl, fun i hi => ?_⟩⟩, ⟨rfl, by decide, Or.inr ⟨_, 0, rfl, fun i hi => by rcases two i hi with rfl | rfl <;> exact c5 _⟩⟩, ?_, hB⟩
  · rcases two i hi with rfl | rfl
    · exact ⟨_, 2, c4 0, s1⟩
    · exact ⟨_, 2, c4 1, s2⟩
  · intro b o x l c e hc
    cases e
    rw [c4 0] at hc
    simp at hc
    omega
theorem thr_finR {w w' : World} {e : Ending} (h : FinR 2 1 thrN thrE w e w') : e = .returned (.tuple #[.bool false, .nilIface]) ∧ Below w.heap.size w w' := by
  obtain ⟨h1, h2⟩ := h
  rw [show thrE.length = 3 from rfl, thr_auto, if_pos rfl, thr_fin] at h1
  exact ⟨h1, h2⟩
theorem two_finR {w w' : World} {e : Ending} (h : FinR 2 1 twoN twoE w e w') : e = .returned (.tuple #[.bool true, .nilIface]) ∧ Below w.heap.size w w' := by
  obtain ⟨h1, h2⟩ := h
  rw [show twoE.length = 2 from rfl, two_auto, if_pos rfl, two_fin] at h1
  exact ⟨h1, h2⟩
theorem cap0_below {w W : World} {a : Option Addr} {n : Nat} {N : List (List Int)} (h : Cap0 w a) (hs : Sl2 w a n N) (hn : 0 < n) (hb : Below w.heap.size w W) : Cap0 W a := by
  intro b o x l c e hc
  obtain ⟨b', o', x', c', e', hc', -⟩ := sl2_cell hs 0 hn
  rw [e] at e'
  cases e'
  have := (hb.cell (p := ⟨b, o + 0, none⟩) (World.block_lt_of_cell? w _ hc')).trans hc'
  rw [Nat.add_zero] at this hc'
  rw [this] at hc
  cases hc
  exact h b o _ _ _ e hc'
set_option maxHeartbeats 16000000 in
set_option maxRecDepth 8000 in
theorem askends_any (b t : Int) (a : Option Addr) (n cap : Nat) (a' : Option Addr) (k cap' : Nat) (N : List (List Int)) (E : List Bool) (aw : Option Addr) (lw cw : Nat) (u : List Int) (w : World) (hs : Sl2 w a n N) (he : SlB w a' k E) (hcp : 0 < n → Cap0 w a) (hw : Sl w aw lw u) :
    Calls Try.prog 4 #[.agg #[.int .i64 b, .int .i64 t, .slice a n cap, .slice a' k cap'], .slice aw lw cw] w fun e w' => e = .returned (.bool true) ∧ Below w.heap.size w w' := by
  have hEl := he.1
  have hNl := hs.1
  have HB1 : Hid (Below w.heap.size w (w.alloc (.cells #[.int .i64 b, .int .i64 t, .slice a n cap, .slice a' k cap'] 25))) := (Below.refl _ _).alloc (Nat.le_refl _) _
  have HBX := hide (fun W => @box4 w W (.int .i64 b) (.int .i64 t) (.slice a n cap) (.slice a' k cap') 25)
  generalize hw1 : w.alloc (.cells #[.int .i64 b, .int .i64 t, .slice a n cap, .slice a' k cap'] 25) = w1 at HB1 HBX
  have HTH := hide (threesV_any w1)
  unfold ThrV at HTH
  have HFI : Hid (∀ (W : World), Below w1.heap.size w1 W → Calls Try.prog 10 #[.agg #[.int .i64 b, .int .i64 t, .slice a n cap, .slice a' k cap']] W (FinR b t N E W)) := fun W hb => by
    have hb' := HB1.out.trans (hb.mono HB1.out.size)
    exact finite_any b t a a' n cap k cap' N E W (sl2_below hs hb') (slB_below he hb') fun hn => cap0_below (hcp hn) hs hn hb'
  have HTK := hide (fun (W : World) (hb : Below w1.heap.size w1 W) => takes_u b t a a' n cap k cap' N E aw lw cw u W (sl2_below (sl2_below hs HB1.out) hb) (slB_below (slB_below he HB1.out) hb) (sl_below (sl_below hw HB1.out) hb))
  have HW := hide (fun (W : World) (hb : Below w1.heap.size w1 W) => sl_below (sl_below hw HB1.out) hb)
  clear hs he hw hcp
  go_enter Try.func4, Try.ntmps4
  go_wp2_with (go_at_call 6; refine HTH.out.mono ?_; rintro e w2 ⟨a3, c3, a3', c3', rfl, hs3, he3, hcp3, hb2⟩; have HF3 := hide (finite_any 2 1 a3 a3' 3 c3 3 c3' thrN thrE w2 hs3 he3 fun _ => hcp3); have HB2 := hide hb2; clear hs3 he3 hcp3 hb2)
  refine HF3.out.mono ?_
  intro e w3 hr3
  obtain ⟨rfl, hb3⟩ := thr_finR hr3
  have HB3 := hide (below_step HB2.out hb3)
  clear hr3 hb3 HF3 HTH
  go_wp2_with fail
  obtain ⟨q1, q2, q3, q4⟩ := two_world w3 3 26 4 _ rfl
  refine (finite_any 2 1 _ _ 2 2 2 2 twoN twoE _ q1 q2 fun _ => q3).mono ?_
  intro e w4 hr4
  obtain ⟨rfl, hb4⟩ := two_finR hr4
  have HB4 := hide (below_step (below_step HB3.out q4) hb4)
  clear hr4 hb4 q1 q2 q3 q4 HB2
  obtain ⟨z0, z1, z2, z3⟩ := HBX.out w4 HB4.out
  have HF := hide (HFI.out w4 HB4.out)
  unfold FinR at HF
  rw [hEl] at HF
  clear HFI
  have HFW : Hid (∀ W, Below w4.heap.size w4 W → Below w.heap.size w W) := fun W hb => below_step HB1.out (below_step HB4.out hb)
  by_cases hA : autoC b t N k = 0
  · rw [if_pos hA, errV_yes hA] at HF
    cases hf : finB N E k with
    | false =>
      rw [hf] at HF
      clear hf hA HTK HW
      go_wp2_with fail
      refine HF.out.mono ?_
      rintro e w5 ⟨rfl, hb5⟩
      have HB5 := hide (HFW.out w5 hb5)
      clear hb5
      go_wp2
      go_ret
      exact ⟨rfl, HB5.out⟩
    | true =>
      rw [hf] at HF
      have HEND := hide (fun h1 h2 h3 h4 => @fins_end b t N E k hA hEl hf u h1 h2 h3 h4)
      have HKN : Hid (k = n) := (autoC_zero hA).2.1.trans hNl
      clear hf hA
      go_wp2_with fail
      refine HF.out.mono ?_
      rintro e w5 ⟨rfl, hb5⟩
      have HB5 := hide (below_step HB4.out hb5)
      obtain ⟨y0, y1, y2, y3⟩ := HBX.out w5 HB5.out
      have HT := hide (HTK.out w5 HB5.out)
      have HW5 := hide (fun W hb => HW.out W (below_step HB5.out hb))
      clear hb5 HTK HW z0 z1 z2 z3
      by_cases h2 : runC b t N k u = 0
      · rw [errV_yes h2] at HT
        cases h1 : takesB b t N E u with
        | false =>
          rw [h1] at HT
          clear h1 h2 HEND HW5
          go_wp2_with fail
          refine HT.out.mono ?_
          rintro e w6 ⟨rfl, hb6⟩
          have HB6 := hide (below_step HB1.out (below_step HB5.out hb6))
          clear hb6
          go_wp2
          go_ret
          exact ⟨rfl, HB6.out⟩
        | true =>
          rw [h1] at HT
          have HE2 := hide (HEND.out h1 h2)
          clear h1 h2 HEND
          go_wp2_with fail
          refine HT.out.mono ?_
          rintro e w6 ⟨rfl, hb6⟩
          have HB6 := hide (below_step HB5.out hb6)
          obtain ⟨x0, x1, x2, x3⟩ := HBX.out w6 HB6.out
          have hsw := HW5.out w6 hb6
          have hul := hsw.1
          have hcase : lw = 0 ∨ 0 < lw := by omega
          clear hb6 y0 y1 y2 y3 HT HF HW5
          rcases hcase with hl0 | hl0
          · subst hl0
            clear hsw hul HE2
            go_wp2
            go_ret
            exact ⟨rfl, below_step HB1.out HB6.out⟩
          · obtain ⟨b2, o2, rfl, hc2⟩ := sl_cell hsw 0 hl0
            replace hc2 : w6.cell? ⟨b2, o2, none⟩ = some (.int .i64 (u.getD 0 0)) := hc2
            have hlne : ((lw : Int) == 0) = false := by simp; omega
            have hli : (0 : Int) < (lw : Int) := by omega
            have hle : u.getD 0 0 ≠ 0 → (lw : Int) ≤ (n : Int) := fun h => by
              have := HE2.out (by rintro rfl; simp at hul; omega) h
              have := HKN.out
              omega
            have HLE := hide hle
            clear hsw hul HE2 hle hl0
            generalize u.getD 0 0 = y at hc2 HLE
            by_cases hy : y = 0
            · have hyb : (y == 0) = true := by simpa using hy
              clear hy HLE
              go_wp2
              go_ret
              exact ⟨rfl, below_step HB1.out HB6.out⟩
            · have hyb : (y == 0) = false := by simpa using hy
              have hle := HLE.out hy
              clear hy HLE
              go_wp2
              go_ret
              exact ⟨by simp, below_step HB1.out HB6.out⟩
      · have hne : errV (runC b t N k u) = .iface 39 (.int .i64 (runC b t N k u)) := by unfold errV; rw [if_neg h2]
        rw [hne] at HT
        clear hne h2 HEND HW5
        generalize runC b t N k u = rc at HT
        generalize takesB b t N E u = tb at HT
        go_wp2_with fail
        refine HT.out.mono ?_
        rintro e w6 ⟨rfl, hb6⟩
        have HB6 := hide (below_step HB1.out (below_step HB5.out hb6))
        clear hb6
        go_wp2
        go_ret
        exact ⟨rfl, HB6.out⟩
  · have hne : errV (autoC b t N k) = .iface 39 (.int .i64 (autoC b t N k)) := by unfold errV; rw [if_neg hA]
    rw [if_neg hA, hne] at HF
    clear hne hA HTK HW
    generalize autoC b t N k = rc at HF
    go_wp2_with fail
    refine HF.out.mono ?_
    rintro e w5 ⟨rfl, hb5⟩
    have HB5 := hide (HFW.out w5 hb5)
    clear hb5
    go_wp2
    go_ret
    exact ⟨rfl, HB5.out⟩
end Go.Proofs.Ytpkjnkcdajngkaa
