/- The reference's BothOf: contract. -/
import Derived.Test.YtklejobfnofbaaeDoorBp
import Derived.Test.YtklejobfnofbaaeDoorCh
import Derived.Test.YtklejobfnofbaaeDoorCi
namespace Go.Proofs.YtklejobfnofbaaeDoor
open Go.RowKit

theorem autoNew_nil (w W : World) : AutoNew w none 0 [] none [] W := fun W' _ => ⟨⟨rfl, by unfold maxLen; omega, .inl rfl⟩, ⟨rfl, by unfold maxLen; omega, .inl rfl⟩⟩
/-- An automaton and a code are handed back. -/
def BothR (w : World) (b t : Int) (N : List (List Int)) (E : List Bool) (c : Int) (e : Ending) (w' : World) : Prop :=
  ∃ a ca a' ca', e = .returned (.tuple #[.agg #[.int .i64 b, .int .i64 t, .slice a N.length ca, .slice a' N.length ca'], .int .i64 c]) ∧ AutoNew w a N.length N a' E w' ∧ Below w.heap.size w w'
theorem below_three (w : World) (o1 o2 o3 : Obj) : Below w.heap.size w (((w.alloc o1).alloc o2).alloc o3) := (((Below.refl _ _).alloc (Nat.le_refl _) _).alloc (by simp) _).alloc (by simp; omega) _
/-- Two automata in their boxes, and the result's box behind them. -/
theorem three_boxes {w w' : World} {v0 v1 v2 v3 u0 u1 u2 u3 : Value} {T : TypeId} {o : Obj} (hb : Below (((w.alloc (.cells #[v0, v1, v2, v3] T)).alloc (.cells #[u0, u1, u2, u3] T)).alloc o).heap.size (((w.alloc (.cells #[v0, v1, v2, v3] T)).alloc (.cells #[u0, u1, u2, u3] T)).alloc o) w') :
    w'.heap[w.heap.size + 2]? = some o ∧ Below ((w.alloc (.cells #[v0, v1, v2, v3] T)).alloc (.cells #[u0, u1, u2, u3] T)).heap.size ((w.alloc (.cells #[v0, v1, v2, v3] T)).alloc (.cells #[u0, u1, u2, u3] T)) w' := by
  refine ⟨?_, below_step ((Below.refl _ _).alloc (Nat.le_refl _) _) hb⟩
  have h := heap_alloc_last ((w.alloc (.cells #[v0, v1, v2, v3] T)).alloc (.cells #[u0, u1, u2, u3] T)) o
  have hs : ((w.alloc (.cells #[v0, v1, v2, v3] T)).alloc (.cells #[u0, u1, u2, u3] T)).heap.size = w.heap.size + 2 := by simp
  rw [hs] at h
  exact (hb.block _ (by simp)).trans h

set_option maxHeartbeats 4000000 in
set_option maxRecDepth 8000 in
theorem bothOf_range (b t : Int) (a : Option Addr) (n cap : Nat) (a' : Option Addr) (k cap' : Nat) (b2 t2 : Int) (a2 : Option Addr) (n2 cap2 : Nat) (a2' : Option Addr) (k2 cap2' : Nat) (how : Int) (w : World) (hh : how < 0 ∨ 15 < how) :
    Calls Tryd.prog 22 #[.agg #[.int .i64 b, .int .i64 t, .slice a n cap, .slice a' k cap'], .agg #[.int .i64 b2, .int .i64 t2, .slice a2 n2 cap2, .slice a2' k2 cap2'], .int .i64 how] w (BothR w 0 0 [] [] 1) := by
  have HB := hide (below_three w (.cells #[.int .i64 b, .int .i64 t, .slice a n cap, .slice a' k cap'] 25) (.cells #[.int .i64 b2, .int .i64 t2, .slice a2 n2 cap2, .slice a2' k2 cap2'] 25) (.cells #[.int .i64 0, .int .i64 0, .slice none 0 0, .slice none 0 0] 25))
  have HBX := hide (@three_boxes w _ (.int .i64 b) (.int .i64 t) (.slice a n cap) (.slice a' k cap') (.int .i64 b2) (.int .i64 t2) (.slice a2 n2 cap2) (.slice a2' k2 cap2') 25 (.cells #[.int .i64 0, .int .i64 0, .slice none 0 0, .slice none 0 0] 25) (Below.refl _ _)).1
  go_enter Tryd.func22, Tryd.ntmps22
  by_cases h0 : how < 0
  · have h0' : decide (how < 0) = true := by simpa using h0
    go_wp2
    obtain ⟨⟨z0, z1, z2, z3⟩, -⟩ := box_cells HBX.out
    exact bodyPost_ret (v := .tuple #[.agg #[.int .i64 0, .int .i64 0, .slice none 0 0, .slice none 0 0], .int .i64 1]) (by simp [results, Tryd.results22, go_sem, z0, z1, z2, z3]) rfl ⟨none, 0, none, 0, rfl, autoNew_nil _ _, HB.out⟩
  · have h1 : 15 < how := by omega
    have h0' : decide (how < 0) = false := by simpa using h0
    go_wp2
    obtain ⟨⟨z0, z1, z2, z3⟩, -⟩ := box_cells HBX.out
    exact bodyPost_ret (v := .tuple #[.agg #[.int .i64 0, .int .i64 0, .slice none 0 0, .slice none 0 0], .int .i64 1]) (by simp [results, Tryd.results22, go_sem, z0, z1, z2, z3]) rfl ⟨none, 0, none, 0, rfl, autoNew_nil _ _, HB.out⟩

set_option maxHeartbeats 4000000 in
set_option maxRecDepth 8000 in
theorem bothOf_in (b t : Int) (a : Option Addr) (n cap : Nat) (a' : Option Addr) (k cap' : Nat) (N : List (List Int)) (E : List Bool) (b2 t2 : Int) (a2 : Option Addr) (n2 cap2 : Nat) (a2' : Option Addr) (k2 cap2' : Nat) (N2 : List (List Int)) (E2 : List Bool) (how : Int) (w : World)
    (hs : Sl2 w a n N) (he : SlB w a' k E) (hs2 : Sl2 w a2 n2 N2) (he2 : SlB w a2' k2 E2) (h0 : 0 ≤ how) (h15 : how ≤ 15) (hC : alikeC b t N k b2 t2 N2 k2 ≠ 0) :
    Calls Tryd.prog 22 #[.agg #[.int .i64 b, .int .i64 t, .slice a n cap, .slice a' k cap'], .agg #[.int .i64 b2, .int .i64 t2, .slice a2 n2 cap2, .slice a2' k2 cap2'], .int .i64 how] w (BothR w 0 0 [] [] (alikeC b t N k b2 t2 N2 k2)) := by
  have hB := below_three w (.cells #[.int .i64 b, .int .i64 t, .slice a n cap, .slice a' k cap'] 25) (.cells #[.int .i64 b2, .int .i64 t2, .slice a2 n2 cap2, .slice a2' k2 cap2'] 25) (.cells #[.int .i64 0, .int .i64 0, .slice none 0 0, .slice none 0 0] 25)
  have HB := hide hB
  have HAL := hide (alike_u b t a n cap a' k cap' b2 t2 a2 n2 cap2 a2' k2 cap2' N N2 _ (sl2_below hs hB) he.2.1 (sl2_below hs2 hB) he2.2.1)
  have HBX := hide (fun w' => @three_boxes w w' (.int .i64 b) (.int .i64 t) (.slice a n cap) (.slice a' k cap') (.int .i64 b2) (.int .i64 t2) (.slice a2 n2 cap2) (.slice a2' k2 cap2') 25 (.cells #[.int .i64 0, .int .i64 0, .slice none 0 0, .slice none 0 0] 25))
  clear hs he hs2 he2 hB
  generalize alikeC b t N k b2 t2 N2 k2 = c at hC HAL ⊢
  have hcn : (c != 0) = true := by simpa using hC
  obtain ⟨-, hbb⟩ := HBX.out _ (Below.refl _ _)
  obtain ⟨⟨p0, p1, p2, p3⟩, q0, q1, q2, q3⟩ := two_boxes hbb
  clear hbb
  go_enter Tryd.func22, Tryd.ntmps22
  go_wp2_with fail
  refine HAL.out.mono ?_
  rintro e w1 ⟨rfl, hb1⟩
  obtain ⟨hr, -⟩ := HBX.out w1 hb1
  obtain ⟨⟨r0, r1, r2, r3⟩, rf⟩ := box_cells hr
  have HR := hide hr
  have HB1 := hide (below_step HB.out hb1)
  clear hr hb1 p0 p1 p2 p3 q0 q1 q2 q3
  have h0' : decide (how < 0) = false := by simp; omega
  have h1' : decide (15 < how) = false := by simp; omega
  go_wp2
  obtain ⟨⟨hset, -, -⟩, hbel⟩ := box_set (v0 := .int .i64 0) (v1 := .int .i64 0) (v2 := .slice none 0 0) (v3 := .slice none 0 0) HR.out rfl
  obtain ⟨⟨z0, z1, z2, z3⟩, -⟩ := box_cells hset
  exact bodyPost_ret (v := .tuple #[.agg #[.int .i64 0, .int .i64 0, .slice none 0 0, .slice none 0 0], .int .i64 c]) (by simp [results, Tryd.results22, go_sem, z0, z1, z2, z3]) rfl ⟨none, 0, none, 0, rfl, autoNew_nil _ _, hbel _ _ HB1.out (by omega)⟩

/-- The two as one that has a state for each pair of theirs, and which of them are ends. -/
def bothP (b t : Int) (N N2 : List (List Int)) : List (List Int) := prodN N N2 (manyU b t).toNat
def bothQ (how : Int) (N N2 : List (List Int)) (E E2 : List Bool) : List Bool := prodE how N.length N2.length E E2
def bothK (b t : Int) (how : Int) (N N2 : List (List Int)) (E E2 : List Bool) : Nat := leastK (bothP b t N N2) (bothQ how N N2 E E2) (manyU b t).toNat

set_option maxHeartbeats 4000000 in
set_option maxRecDepth 8000 in
theorem bothOf_ok (b t : Int) (a : Option Addr) (n cap : Nat) (a' : Option Addr) (k cap' : Nat) (N : List (List Int)) (E : List Bool) (b2 t2 : Int) (a2 : Option Addr) (n2 cap2 : Nat) (a2' : Option Addr) (k2 cap2' : Nat) (N2 : List (List Int)) (E2 : List Bool) (how : Int) (w : World)
    (hs : Sl2 w a n N) (he : SlB w a' k E) (hs2 : Sl2 w a2 n2 N2) (he2 : SlB w a2' k2 E2) (h0 : 0 ≤ how) (h15 : how ≤ 15) (hC : alikeC b t N k b2 t2 N2 k2 = 0) :
    Calls Tryd.prog 22 #[.agg #[.int .i64 b, .int .i64 t, .slice a n cap, .slice a' k cap'], .agg #[.int .i64 b2, .int .i64 t2, .slice a2 n2 cap2, .slice a2' k2 cap2'], .int .i64 how] w fun e w' =>
      (bothK b t how N N2 E E2 ≤ 80 ∧ BothR w b t (leastN (bothP b t N N2) (bothQ how N N2 E E2) (manyU b t).toNat) (leastE (bothP b t N N2) (bothQ how N N2 E E2) (manyU b t).toNat) 0 e w') ∨ (80 < bothK b t how N N2 E E2 ∧ BothR w 0 0 [] [] 3 e w') := by
  have hB := below_three w (.cells #[.int .i64 b, .int .i64 t, .slice a n cap, .slice a' k cap'] 25) (.cells #[.int .i64 b2, .int .i64 t2, .slice a2 n2 cap2, .slice a2' k2 cap2'] 25) (.cells #[.int .i64 0, .int .i64 0, .slice none 0 0, .slice none 0 0] 25)
  have HB := hide hB
  have HAL := hide (alike_u b t a n cap a' k cap' b2 t2 a2 n2 cap2 a2' k2 cap2' N N2 _ (sl2_below hs hB) he.2.1 (sl2_below hs2 hB) he2.2.1)
  rw [hC] at HAL
  have HBX := hide (fun w' => @three_boxes w w' (.int .i64 b) (.int .i64 t) (.slice a n cap) (.slice a' k cap') (.int .i64 b2) (.int .i64 t2) (.slice a2 n2 cap2) (.slice a2' k2 cap2') 25 (.cells #[.int .i64 0, .int .i64 0, .slice none 0 0, .slice none 0 0] 25))
  obtain ⟨h1, h2, rfl, rfl⟩ := alikeC_zero hC
  obtain ⟨-, e1, g1, -⟩ := autoC_zero h1
  obtain ⟨-, e2, g2, -⟩ := autoC_zero h2
  have m1 := autoC_80 h1
  have m2 := autoC_80 h2
  have l1 := hs.1
  have l2 := hs2.1
  rw [l1] at g1 m1 e1
  rw [l2] at g2 m2 e2
  subst e1
  subst e2
  have hnn : k * k2 ≤ 6400 := Nat.le_trans (Nat.mul_le_mul m1 m2) (by decide)
  have hPG := prod_good g1 g2 hnn
  have HPR := hide (fun W h1 h2 h3 h4 => product_any b t a k cap a' cap' _ N E b t a2 k2 cap2 a2' cap2' N2 E2 how W h1 h2 g1 h3 h4 g2 hnn ⟨h0, h15⟩)
  unfold ProdU at HPR
  have hP : bothP b t N N2 = prodN N N2 (manyU b t).toNat := rfl
  have hQ : bothQ how N N2 E E2 = prodE how k k2 E E2 := by unfold bothQ; rw [l1, l2]
  have hKd : bothK b t how N N2 E E2 = leastK (bothP b t N N2) (bothQ how N N2 E E2) (manyU b t).toNat := rfl
  rw [hKd, hP, hQ]
  have hPL := hPG.1
  have HSH := hide (fun ap cp ap' cp' W h1 h2 => shrunk_u b t ap (k * k2) cp _ (prodN N N2 (manyU b t).toNat) ap' cp' (prodE how k k2 E E2) W h1 hPG h2)
  unfold ShrR ShrU at HSH
  rw [hPL] at HPR
  generalize prodN N N2 (manyU b t).toNat = P at HPR HSH ⊢
  generalize prodE how k k2 E E2 = Q at HPR HSH ⊢
  generalize leastN P Q (manyU b t).toNat = L at HSH ⊢
  generalize leastE P Q (manyU b t).toNat = LE at HSH ⊢
  generalize leastK P Q (manyU b t).toNat = K at HSH ⊢
  have HS := hide (sl2_below hs hB)
  have HE := hide (slB_below he hB)
  have HS2 := hide (sl2_below hs2 hB)
  have HE2 := hide (slB_below he2 hB)
  clear hs he hs2 he2 hB hC h1 h2 g1 g2 m1 m2 l1 l2 hPG hPL hP hQ hKd hnn
  obtain ⟨-, hbb⟩ := HBX.out _ (Below.refl _ _)
  obtain ⟨⟨p0, p1, p2, p3⟩, q0, q1, q2, q3⟩ := two_boxes hbb
  clear hbb
  have h0' : decide (how < 0) = false := by simp; omega
  have h1' : decide (15 < how) = false := by simp; omega
  go_enter Tryd.func22, Tryd.ntmps22
  go_wp2_with fail
  refine HAL.out.mono ?_
  rintro e w1 ⟨rfl, hb1⟩
  have HB1 := hide hb1
  clear hb1 p0 p1 p2 p3 q0 q1 q2 q3 HAL
  obtain ⟨-, hbb⟩ := HBX.out w1 HB1.out
  obtain ⟨⟨p0, p1, p2, p3⟩, q0, q1, q2, q3⟩ := two_boxes hbb
  clear hbb
  go_wp2_with fail
  refine (HPR.out w1 (sl2_below HS.out HB1.out) (slB_below HE.out HB1.out) (sl2_below HS2.out HB1.out) (slB_below HE2.out HB1.out)).mono ?_
  rintro e w2 ⟨ap, cp, ap', cp', rfl, hsp, hep, hb2⟩
  have HSP := hide hsp
  have HEP := hide hep
  have HB2 := hide (below_step HB1.out hb2)
  clear hsp hep hb2 p0 p1 p2 p3 q0 q1 q2 q3 HPR HS HE HS2 HE2
  obtain ⟨-, hbb⟩ := HBX.out w2 HB2.out
  obtain ⟨⟨p0, p1, p2, p3⟩, q0, q1, q2, q3⟩ := two_boxes hbb
  clear hbb
  go_wp2_with fail
  refine (HSH.out ap cp ap' cp' w2 HSP.out HEP.out).mono ?_
  rintro e w3 (⟨hK, ax, cx, ax', cx', rfl, hnew, hb3⟩ | ⟨hK, rfl, hb3⟩)
  · have HK := hide hK
    have HNEW := hide hnew
    have HB3 := hide (below_step HB2.out hb3)
    have HSZ : Hid (w.heap.size + 3 ≤ w2.heap.size) := by
      have := HB2.out.size
      simp at this
      exact this
    clear hK hnew hb3 p0 p1 p2 p3 q0 q1 q2 q3 HSH HSP HEP
    obtain ⟨hr, -⟩ := HBX.out _ (HB3.out.alloc HB3.out.size (.cells #[.int .i64 b, .int .i64 t, .slice ax L.length cx, .slice ax' L.length cx'] 25))
    obtain ⟨⟨r0, r1, r2, r3⟩, rf⟩ := box_cells hr
    have HR := hide hr
    clear hr
    go_wp2
    obtain ⟨⟨hset, hsz, hoth⟩, hbel⟩ := box_set (v0 := .int .i64 b) (v1 := .int .i64 t) (v2 := .slice ax L.length cx) (v3 := .slice ax' L.length cx') HR.out rfl
    obtain ⟨⟨z0, z1, z2, z3⟩, -⟩ := box_cells hset
    have hfin : AutoNew w ax L.length L ax' LE (((((w3.alloc (.cells #[.int .i64 b, .int .i64 t, .slice ax L.length cx, .slice ax' L.length cx'] 25)).setCell ⟨w.heap.size + 2, 0, none⟩ (.int .i64 b)).setCell ⟨w.heap.size + 2, 1, none⟩ (.int .i64 t)).setCell ⟨w.heap.size + 2, 2, none⟩ (.slice ax L.length cx)).setCell ⟨w.heap.size + 2, 3, none⟩ (.slice ax' L.length cx')) := fun W' hW' => by
      refine (HNEW.out.below ((Below.refl w3.heap.size w3).alloc (Nat.le_refl _) (.cells #[.int .i64 b, .int .i64 t, .slice ax L.length cx, .slice ax' L.length cx'] 25))) W' fun x hx hxl => ?_
      rw [hW' x (by have := HSZ.out; omega) (by rw [hsz]; exact hxl), hoth x (by have := HSZ.out; omega)]
    exact bodyPost_ret (v := .tuple #[.agg #[.int .i64 b, .int .i64 t, .slice ax L.length cx, .slice ax' L.length cx'], .int .i64 0]) (by simp [results, Tryd.results22, go_sem, z0, z1, z2, z3]) rfl (.inl ⟨HK.out, ax, cx, ax', cx', rfl, hfin, hbel _ _ (below_step HB.out (HB3.out.alloc HB3.out.size _)) (by omega)⟩)
  · have HK := hide hK
    have HB3 := hide (below_step HB2.out hb3)
    clear hK hb3 p0 p1 p2 p3 q0 q1 q2 q3 HSH HSP HEP
    obtain ⟨hr, -⟩ := HBX.out _ (HB3.out.alloc HB3.out.size (.cells #[.int .i64 0, .int .i64 0, .slice none 0 0, .slice none 0 0] 25))
    obtain ⟨⟨r0, r1, r2, r3⟩, rf⟩ := box_cells hr
    have HR := hide hr
    clear hr
    go_wp2
    obtain ⟨⟨hset, hsz, hoth⟩, hbel⟩ := box_set (v0 := .int .i64 0) (v1 := .int .i64 0) (v2 := .slice none 0 0) (v3 := .slice none 0 0) HR.out rfl
    obtain ⟨⟨z0, z1, z2, z3⟩, -⟩ := box_cells hset
    exact bodyPost_ret (v := .tuple #[.agg #[.int .i64 0, .int .i64 0, .slice none 0 0, .slice none 0 0], .int .i64 3]) (by simp [results, Tryd.results22, go_sem, z0, z1, z2, z3]) rfl (.inr ⟨HK.out, none, 0, none, 0, rfl, autoNew_nil _ _, hbel _ _ (below_step HB.out (HB3.out.alloc HB3.out.size _)) (by omega)⟩)

/-- Both's code, and what it hands back. -/
def bothC (how b t : Int) (N : List (List Int)) (E : List Bool) (k : Nat) (b2 t2 : Int) (N2 : List (List Int)) (E2 : List Bool) (k2 : Nat) : Int :=
  if 0 ≤ how ∧ how ≤ 15 then (if alikeC b t N k b2 t2 N2 k2 = 0 then (if bothK b t how N N2 E E2 ≤ 80 then 0 else 3) else alikeC b t N k b2 t2 N2 k2) else 1
def bothN (how b t : Int) (N : List (List Int)) (E : List Bool) (k : Nat) (b2 t2 : Int) (N2 : List (List Int)) (E2 : List Bool) (k2 : Nat) : List (List Int) :=
  if bothC how b t N E k b2 t2 N2 E2 k2 = 0 then leastN (bothP b t N N2) (bothQ how N N2 E E2) (manyU b t).toNat else []
def bothE (how b t : Int) (N : List (List Int)) (E : List Bool) (k : Nat) (b2 t2 : Int) (N2 : List (List Int)) (E2 : List Bool) (k2 : Nat) : List Bool :=
  if bothC how b t N E k b2 t2 N2 E2 k2 = 0 then leastE (bothP b t N N2) (bothQ how N N2 E E2) (manyU b t).toNat else []
/-- A number where all went well, else zero. -/
def okI (c x : Int) : Int := if c = 0 then x else 0
theorem alikeC_of {b t : Int} {N : List (List Int)} {k : Nat} {b2 t2 : Int} {N2 : List (List Int)} {k2 : Nat} {how : Int} {E E2 : List Bool} (h0 : 0 ≤ how) (h15 : how ≤ 15) (hC : alikeC b t N k b2 t2 N2 k2 ≠ 0) : bothC how b t N E k b2 t2 N2 E2 k2 = alikeC b t N k b2 t2 N2 k2 := by
  unfold bothC
  rw [if_pos ⟨h0, h15⟩, if_neg hC]
theorem bothOf_u (b t : Int) (a : Option Addr) (n cap : Nat) (a' : Option Addr) (k cap' : Nat) (N : List (List Int)) (E : List Bool) (b2 t2 : Int) (a2 : Option Addr) (n2 cap2 : Nat) (a2' : Option Addr) (k2 cap2' : Nat) (N2 : List (List Int)) (E2 : List Bool) (how : Int) (w : World)
    (hs : Sl2 w a n N) (he : SlB w a' k E) (hs2 : Sl2 w a2 n2 N2) (he2 : SlB w a2' k2 E2) :
    Calls Tryd.prog 22 #[.agg #[.int .i64 b, .int .i64 t, .slice a n cap, .slice a' k cap'], .agg #[.int .i64 b2, .int .i64 t2, .slice a2 n2 cap2, .slice a2' k2 cap2'], .int .i64 how] w (BothR w (okI (bothC how b t N E k b2 t2 N2 E2 k2) b) (okI (bothC how b t N E k b2 t2 N2 E2 k2) t) (bothN how b t N E k b2 t2 N2 E2 k2) (bothE how b t N E k b2 t2 N2 E2 k2) (bothC how b t N E k b2 t2 N2 E2 k2)) := by
  by_cases hh : 0 ≤ how ∧ how ≤ 15
  · by_cases hC : alikeC b t N k b2 t2 N2 k2 = 0
    · refine (bothOf_ok b t a n cap a' k cap' N E b2 t2 a2 n2 cap2 a2' k2 cap2' N2 E2 how w hs he hs2 he2 hh.1 hh.2 hC).mono ?_
      rintro e w' (⟨hK, h⟩ | ⟨hK, h⟩)
      · have hc : bothC how b t N E k b2 t2 N2 E2 k2 = 0 := by unfold bothC; rw [if_pos hh, if_pos hC, if_pos hK]
        unfold bothN bothE okI
        rw [hc, if_pos rfl, if_pos rfl, if_pos rfl, if_pos rfl]
        exact h
      · have hc : bothC how b t N E k b2 t2 N2 E2 k2 = 3 := by unfold bothC; rw [if_pos hh, if_pos hC, if_neg (by omega)]
        unfold bothN bothE okI
        rw [hc, if_neg (by decide), if_neg (by decide), if_neg (by decide), if_neg (by decide)]
        exact h
    · have hc := @alikeC_of b t N k b2 t2 N2 k2 how E E2 hh.1 hh.2 hC
      unfold bothN bothE okI
      rw [hc, if_neg hC, if_neg hC, if_neg hC, if_neg hC]
      exact bothOf_in b t a n cap a' k cap' N E b2 t2 a2 n2 cap2 a2' k2 cap2' N2 E2 how w hs he hs2 he2 hh.1 hh.2 hC
  · have hc : bothC how b t N E k b2 t2 N2 E2 k2 = 1 := by unfold bothC; rw [if_neg hh]
    unfold bothN bothE okI
    rw [hc, if_neg (by decide), if_neg (by decide), if_neg (by decide), if_neg (by decide)]
    exact bothOf_range b t a n cap a' k cap' b2 t2 a2 n2 cap2 a2' k2 cap2' how w (by omega)
end Go.Proofs.YtklejobfnofbaaeDoor
