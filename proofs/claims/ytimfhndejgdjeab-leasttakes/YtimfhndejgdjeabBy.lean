/- least.Least: contract. -/
import Derived.Test.YtimfhndejgdjeabAv
import Derived.Test.YtimfhndejgdjeabBx
import Derived.Deep.RegionWith
namespace Go.Proofs.Ytimfhndejgdjeab
open Go.RowKit

def LeastU (w : World) (b t : Int) (N : List (List Int)) (E : List Bool) (m : Nat) (e : Ending) (w' : World) : Prop :=
  ∃ a c a' c', e = .returned (.tuple #[.agg #[.int .i64 b, .int .i64 t, .slice a (leastN N E m).length c, .slice a' (leastN N E m).length c'], .nilIface]) ∧ AutoNew w a (leastN N E m).length (leastN N E m) a' (leastE N E m) w' ∧ Below w.heap.size w w'

set_option maxHeartbeats 8000000 in
set_option maxRecDepth 8000 in
theorem least_ok (b t : Int) (a : Option Addr) (n cap : Nat) (N : List (List Int)) (a' : Option Addr) (cap' : Nat) (E : List Bool) (w : World) (hs : Sl2 w a n N) (he : SlB w a' n E) (hA : autoC b t N n = 0) :
    Calls Try.prog 9 #[.agg #[.int .i64 b, .int .i64 t, .slice a n cap, .slice a' n cap']] w (LeastU w b t N E (manyU b t).toNat) := by
  obtain ⟨-, -, hG, -⟩ := autoC_zero hA
  rw [hs.1] at hG
  have hB0 : Below w.heap.size w ((w.alloc (.cells #[.int .i64 b, .int .i64 t, .slice a n cap, .slice a' n cap'] 25)).alloc (.cells #[.int .i64 0, .int .i64 0, .slice none 0 0, .slice none 0 0] 25)) := ((Below.refl _ _).alloc (Nat.le_refl _) _).alloc (by simp) _
  have HB0 := hide hB0
  have HS := hide (sl2_below hs hB0)
  have HE := hide (slB_below he hB0)
  have HBX := hide (fun W (h : Below _ _ W) => (@two_boxes w W (.int .i64 b) (.int .i64 t) (.slice a n cap) (.slice a' n cap') (.int .i64 0) (.int .i64 0) (.slice none 0 0) (.slice none 0 0) 25 h).1)
  have HOLD := hide (heap_alloc_last (w.alloc (.cells #[.int .i64 b, .int .i64 t, .slice a n cap, .slice a' n cap'] 25)) (.cells #[.int .i64 0, .int .i64 0, .slice none 0 0, .slice none 0 0] 25))
  rw [World.size_alloc] at HOLD
  have HRE := hide (fun W h => reach_u b t a a' n cap n cap' N W h he.2.1)
  rw [show reachL b t N n = metL N by unfold reachL; rw [if_pos hA], hA, errV_yes rfl] at HRE
  unfold OfU at HRE
  generalize (manyU b t).toNat = m at hG ⊢
  have HCL := hide (fun ast cs W h1 h2 h3 => classes_any b t a n cap m N a' cap' E ast cs W h1 hG h2 h3)
  unfold ClsU at HCL
  have HMG := hide (fun K ast cs ac cc W h1 h2 h3 h4 => merge_any b t a n cap m N a' cap' E (simB N E m (K + 1)) (simB_eqv N E m (K + 1)) ast cs ac cc W h1 hG h2 h3 h4)
  have HRS := hide (fun K h => @round_stab m n N hG E K h)
  clear hs he hA hG hB0
  generalize hW0 : (w.alloc (.cells #[.int .i64 b, .int .i64 t, .slice a n cap, .slice a' n cap'] 25)).alloc (.cells #[.int .i64 0, .int .i64 0, .slice none 0 0, .slice none 0 0] 25) = wb at HB0 HS HE HBX HOLD
  have HSZ0 : Hid (wb.heap.size = w.heap.size + 2) := by show _ = _; rw [← hW0]; simp
  obtain ⟨hx0, hx1, hx2, hx3⟩ := HBX.out wb (Below.refl _ _)
  unfold LeastU
  generalize hLN : leastN N E m = LN at HRS ⊢
  generalize hLE : leastE N E m = LE at HRS ⊢
  clear hLN hLE
  go_enter Try.func9, Try.ntmps9
  go_wp2_with fail
  clear hW0 hx0 hx1 hx2 hx3
  refine (HRE.out wb HS.out).mono ?_
  rintro e w1 ⟨ar, cr, rfl, ⟨hsr, -⟩, hb1⟩
  have HB1 := hide hb1
  obtain ⟨hx0, hx1, hx2, hx3⟩ := HBX.out w1 hb1
  have hbd : Below wb.heap.size wb w1.drew := (below_drewN (Below.refl _ _) 1 : Below w1.heap.size w1 (w1.drewN 1)) |> below_step hb1
  have HBD := hide hbd
  have hsrd : Sl w1.drew ar (metL N).length (metL N) := sl_below hsr (below_drewN (Below.refl _ _) 1 : Below w1.heap.size w1 (w1.drewN 1))
  have HC1 := hide (HCL.out ar cr w1.drew (sl2_below HS.out hbd) (slB_below HE.out hbd) hsrd)
  have HSR := hide hsrd
  have HM2 : Hid (∀ K bf w2, Sl w2 (some ⟨bf, 0, none⟩) n ((List.range n).map (freshF (simB N E m (K + 1)) (metL N) (metL N).length)) → Below w1.drew.heap.size w1.drew w2 → (repsL (simB N E m K) (metL N)).length = (repsL (simB N E m (K + 1)) (metL N)).length →
      Calls Try.prog 15 #[.agg #[.int .i64 b, .int .i64 t, .slice a n cap, .slice a' n cap'], .slice ar (metL N).length cr, .slice (some ⟨bf, 0, none⟩) n n] w2 (GivesAuto w2 b t LN LE)) := fun K bf w2 h1 h2 h3 => by
    have h := HMG.out K ar cr (some ⟨bf, 0, none⟩) n w2 (sl2_below HS.out (below_step hbd h2)) (slB_below HE.out (below_step hbd h2)) (sl_below hsrd h2) h1
    obtain ⟨-, e1, e2, -⟩ := HRS.out K h3
    rwa [e1, e2] at h
  unfold GivesAuto at HM2
  have HOB : Hid (∀ w3, Below w1.drew.heap.size w1.drew w3 → w3.heap[w.heap.size + 1]? = some (.cells #[.int .i64 0, .int .i64 0, .slice none 0 0, .slice none 0 0] 25 (0, 0))) := fun w3 h3 => ((below_step hbd h3).block (w.heap.size + 1) (by have := HSZ0.out; omega)).trans HOLD.out
  clear hsr hsrd hb1 hbd HRE HCL HMG HRS
  go_wp2_with fail
  go_region_with (first
    | (go_at_call 16; refine HC1.out.mono ?_; rintro e w2 ⟨K, bf, hK, rfl, hbf, hsl, hb2⟩; have HB2 := hide hb2; have HM3 := hide (HM2.out K bf w2 hsl hb2 hK); obtain ⟨hy0, hy1, hy2, hy3⟩ := HBX.out w2 (below_step HBD.out hb2); clear hK hbf hsl hb2)
    | (go_at_call 15; refine HM3.out.mono ?_; rintro e w3 ⟨ax, cx, ax', cx', rfl, hnew, hb3⟩; have HNEW := hide hnew; have HB3 := hide hb3; have hold := HOB.out w3 (below_step HB2.out hb3); have HHOLD := hide hold; have ho0 : w3.cell? ⟨w.heap.size + 1, 0, none⟩ = some (.int .i64 0) := (by simp [World.cell?, hold]); have ho1 : w3.cell? ⟨w.heap.size + 1, 1, none⟩ = some (.int .i64 0) := (by simp [World.cell?, hold]); have ho2 : w3.cell? ⟨w.heap.size + 1, 2, none⟩ = some (.slice none 0 0) := (by simp [World.cell?, hold]); have ho3 : w3.cell? ⟨w.heap.size + 1, 3, none⟩ = some (.slice none 0 0) := (by simp [World.cell?, hold]); have hf : ∀ i, w3.frozen? ⟨w.heap.size + 1, i, none⟩ = false := (fun i => by simp [World.frozen?, hold]); clear hnew hb3 hold))
  all_goals
    go_wp2
    have hset := set_all (v0 := .int .i64 b) (v1 := .int .i64 t) (v2 := .slice ax LN.length cx) (v3 := .slice ax' LN.length cx') HHOLD.out
    have hb03 := below_step (below_step HB0.out HBD.out) (below_step HB2.out HB3.out)
    have hbel : Below w.heap.size w ((((w3.setCell ⟨w.heap.size + 1, 0, none⟩ (.int .i64 b)).setCell ⟨w.heap.size + 1, 1, none⟩ (.int .i64 t)).setCell ⟨w.heap.size + 1, 2, none⟩ (.slice ax LN.length cx)).setCell ⟨w.heap.size + 1, 3, none⟩ (.slice ax' LN.length cx')) := (((hb03.setCell (by simp) _).setCell (by simp) _).setCell (by simp) _).setCell (by simp) _
    have hfin : AutoNew w ax LN.length LN ax' LE ((((w3.setCell ⟨w.heap.size + 1, 0, none⟩ (.int .i64 b)).setCell ⟨w.heap.size + 1, 1, none⟩ (.int .i64 t)).setCell ⟨w.heap.size + 1, 2, none⟩ (.slice ax LN.length cx)).setCell ⟨w.heap.size + 1, 3, none⟩ (.slice ax' LN.length cx')) := fun W' hW' => HNEW.out W' (fun x hx hxl => by
      have h2 := (below_step HBD.out HB2.out).size
      have hne : x ≠ w.heap.size + 1 := by have := HSZ0.out; omega
      rw [hW' x (by have := HSZ0.out; omega) (by simp [World.setCell]; exact hxl), Below.heap_setCell _ _ _ _ hne, Below.heap_setCell _ _ _ _ hne, Below.heap_setCell _ _ _ _ hne, Below.heap_setCell _ _ _ _ hne])
    generalize (((w3.setCell ⟨w.heap.size + 1, 0, none⟩ (.int .i64 b)).setCell ⟨w.heap.size + 1, 1, none⟩ (.int .i64 t)).setCell ⟨w.heap.size + 1, 2, none⟩ (.slice ax LN.length cx)).setCell ⟨w.heap.size + 1, 3, none⟩ (.slice ax' LN.length cx') = wZ at hset hbel hfin ⊢
    have z0 : wZ.cell? ⟨w.heap.size + 1, 0, none⟩ = some (.int .i64 b) := by simp [World.cell?, hset]
    have z1 : wZ.cell? ⟨w.heap.size + 1, 1, none⟩ = some (.int .i64 t) := by simp [World.cell?, hset]
    have z2 : wZ.cell? ⟨w.heap.size + 1, 2, none⟩ = some (.slice ax LN.length cx) := by simp [World.cell?, hset]
    have z3 : wZ.cell? ⟨w.heap.size + 1, 3, none⟩ = some (.slice ax' LN.length cx') := by simp [World.cell?, hset]
    exact bodyPost_ret (v := .tuple #[.agg #[.int .i64 b, .int .i64 t, .slice ax LN.length cx, .slice ax' LN.length cx'], .nilIface]) (by simp [results, Try.results9, go_sem, z0, z1, z2, z3]) rfl ⟨ax, cx, ax', cx', rfl, hfin, hbel⟩

set_option maxHeartbeats 4000000 in
set_option maxRecDepth 4000 in
theorem least_no (b t : Int) (a : Option Addr) (n cap : Nat) (N : List (List Int)) (a' : Option Addr) (k cap' : Nat) (w : World) (hs : Sl2 w a n N) (hm : k ≤ maxLen) (hA : autoC b t N k ≠ 0) :
    Calls Try.prog 9 #[.agg #[.int .i64 b, .int .i64 t, .slice a n cap, .slice a' k cap']] w fun e w' => e = .returned (.tuple #[.agg #[.int .i64 0, .int .i64 0, .slice none 0 0, .slice none 0 0], errV (autoC b t N k)]) ∧ Below w.heap.size w w' := by
  have hB0 : Below w.heap.size w ((w.alloc (.cells #[.int .i64 b, .int .i64 t, .slice a n cap, .slice a' k cap'] 25)).alloc (.cells #[.int .i64 0, .int .i64 0, .slice none 0 0, .slice none 0 0] 25)) := ((Below.refl _ _).alloc (Nat.le_refl _) _).alloc (by simp) _
  have HB0 := hide hB0
  have HBX := hide (fun W (h : Below _ _ W) => (@two_boxes w W (.int .i64 b) (.int .i64 t) (.slice a n cap) (.slice a' k cap') (.int .i64 0) (.int .i64 0) (.slice none 0 0) (.slice none 0 0) 25 h).1)
  have HOLD := hide (heap_alloc_last (w.alloc (.cells #[.int .i64 b, .int .i64 t, .slice a n cap, .slice a' k cap'] 25)) (.cells #[.int .i64 0, .int .i64 0, .slice none 0 0, .slice none 0 0] 25))
  rw [World.size_alloc] at HOLD
  have HRE := hide (reach_no b t a a' n cap k cap' N _ (sl2_below hs hB0) hm hA)
  rw [errV_no hA] at HRE ⊢
  generalize autoC b t N k = c at HRE ⊢
  clear hs hm hA hB0
  generalize hW0 : (w.alloc (.cells #[.int .i64 b, .int .i64 t, .slice a n cap, .slice a' k cap'] 25)).alloc (.cells #[.int .i64 0, .int .i64 0, .slice none 0 0, .slice none 0 0] 25) = wb at HB0 HBX HOLD HRE
  have HSZ0 : Hid (wb.heap.size = w.heap.size + 2) := by show _ = _; rw [← hW0]; simp
  obtain ⟨hx0, hx1, hx2, hx3⟩ := HBX.out wb (Below.refl _ _)
  go_enter Try.func9, Try.ntmps9
  go_wp2_with fail
  clear hW0 hx0 hx1 hx2 hx3
  refine HRE.out.mono ?_
  rintro e w3 ⟨rfl, hb1⟩
  have hold : w3.heap[w.heap.size + 1]? = some (.cells #[.int .i64 0, .int .i64 0, .slice none 0 0, .slice none 0 0] 25 (0, 0)) := (hb1.block (w.heap.size + 1) (by have := HSZ0.out; omega)).trans HOLD.out
  have HHOLD := hide hold
  have HB1 := hide (below_step HB0.out hb1)
  have ho0 : w3.cell? ⟨w.heap.size + 1, 0, none⟩ = some (.int .i64 0) := by simp [World.cell?, hold]
  have ho1 : w3.cell? ⟨w.heap.size + 1, 1, none⟩ = some (.int .i64 0) := by simp [World.cell?, hold]
  have ho2 : w3.cell? ⟨w.heap.size + 1, 2, none⟩ = some (.slice none 0 0) := by simp [World.cell?, hold]
  have ho3 : w3.cell? ⟨w.heap.size + 1, 3, none⟩ = some (.slice none 0 0) := by simp [World.cell?, hold]
  have hf : ∀ i, w3.frozen? ⟨w.heap.size + 1, i, none⟩ = false := fun i => by simp [World.frozen?, hold]
  clear hb1 hold
  go_wp2
  have hset := set_all (v0 := .int .i64 0) (v1 := .int .i64 0) (v2 := .slice none 0 0) (v3 := .slice none 0 0) HHOLD.out
  have hbel : Below w.heap.size w ((((w3.setCell ⟨w.heap.size + 1, 0, none⟩ (.int .i64 0)).setCell ⟨w.heap.size + 1, 1, none⟩ (.int .i64 0)).setCell ⟨w.heap.size + 1, 2, none⟩ (.slice none 0 0)).setCell ⟨w.heap.size + 1, 3, none⟩ (.slice none 0 0)) := (((HB1.out.setCell (by simp) _).setCell (by simp) _).setCell (by simp) _).setCell (by simp) _
  generalize (((w3.setCell ⟨w.heap.size + 1, 0, none⟩ (.int .i64 0)).setCell ⟨w.heap.size + 1, 1, none⟩ (.int .i64 0)).setCell ⟨w.heap.size + 1, 2, none⟩ (.slice none 0 0)).setCell ⟨w.heap.size + 1, 3, none⟩ (.slice none 0 0) = wZ at hset hbel ⊢
  have z0 : wZ.cell? ⟨w.heap.size + 1, 0, none⟩ = some (.int .i64 0) := by simp [World.cell?, hset]
  have z1 : wZ.cell? ⟨w.heap.size + 1, 1, none⟩ = some (.int .i64 0) := by simp [World.cell?, hset]
  have z2 : wZ.cell? ⟨w.heap.size + 1, 2, none⟩ = some (.slice none 0 0) := by simp [World.cell?, hset]
  have z3 : wZ.cell? ⟨w.heap.size + 1, 3, none⟩ = some (.slice none 0 0) := by simp [World.cell?, hset]
  exact bodyPost_ret (v := .tuple #[.agg #[.int .i64 0, .int .i64 0, .slice none 0 0, .slice none 0 0], .iface 44 (.int .i64 c)]) (by simp [results, Try.results9, go_sem, z0, z1, z2, z3]) rfl ⟨rfl, hbel⟩
end Go.Proofs.Ytimfhndejgdjeab
