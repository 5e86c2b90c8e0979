/- The walk of the law LeastTakes. -/
import Derived.Test.YtihhlddbppljpabBs
import Derived.Test.YtihhlddbppljpabBy
import Derived.Test.YtihhlddbppljpabCh
import Derived.Test.YtihhlddbppljpabCm
namespace Go.Proofs.Ytihhlddbppljpab
open Go.RowKit

theorem fact_three : autoC 2 1 [[1, 2], [2, 1], [1, 2]] 3 = 0 ∧ (leastN [[1, 2], [2, 1], [1, 2]] [true, true, true] (manyU 2 1).toNat).length = 1 := by constructor <;> decide +kernel
/-- The automaton of the fact, built. -/
theorem three_world (w : World) (T T2 T3 : TypeId) :
    Sl2 (((((w.alloc (.cells #[.int .i64 1, .int .i64 2] T)).alloc (.cells #[.int .i64 2, .int .i64 1] T)).alloc (.cells #[.int .i64 1, .int .i64 2] T)).alloc (.cells #[.slice (some ⟨w.heap.size, 0, none⟩) 2 2, .slice (some ⟨w.heap.size + 1, 0, none⟩) 2 2, .slice (some ⟨w.heap.size + 2, 0, none⟩) 2 2] T2)).alloc (.cells #[.bool true, .bool true, .bool true] T3)) (some ⟨w.heap.size + 3, 0, none⟩) 3 [[1, 2], [2, 1], [1, 2]] ∧
    SlB (((((w.alloc (.cells #[.int .i64 1, .int .i64 2] T)).alloc (.cells #[.int .i64 2, .int .i64 1] T)).alloc (.cells #[.int .i64 1, .int .i64 2] T)).alloc (.cells #[.slice (some ⟨w.heap.size, 0, none⟩) 2 2, .slice (some ⟨w.heap.size + 1, 0, none⟩) 2 2, .slice (some ⟨w.heap.size + 2, 0, none⟩) 2 2] T2)).alloc (.cells #[.bool true, .bool true, .bool true] T3)) (some ⟨w.heap.size + 4, 0, none⟩) 3 [true, true, true] ∧
    Below w.heap.size w (((((w.alloc (.cells #[.int .i64 1, .int .i64 2] T)).alloc (.cells #[.int .i64 2, .int .i64 1] T)).alloc (.cells #[.int .i64 1, .int .i64 2] T)).alloc (.cells #[.slice (some ⟨w.heap.size, 0, none⟩) 2 2, .slice (some ⟨w.heap.size + 1, 0, none⟩) 2 2, .slice (some ⟨w.heap.size + 2, 0, none⟩) 2 2] T2)).alloc (.cells #[.bool true, .bool true, .bool true] T3)) := by
  obtain ⟨u1, hu1⟩ : ∃ u1, u1 = w.alloc (.cells #[.int .i64 1, .int .i64 2] T) := ⟨_, rfl⟩
  obtain ⟨u2, hu2⟩ : ∃ u2, u2 = u1.alloc (.cells #[.int .i64 2, .int .i64 1] T) := ⟨_, rfl⟩
  obtain ⟨u3, hu3⟩ : ∃ u3, u3 = u2.alloc (.cells #[.int .i64 1, .int .i64 2] T) := ⟨_, rfl⟩
  obtain ⟨u4, hu4⟩ : ∃ u4, u4 = u3.alloc (.cells #[.slice (some ⟨w.heap.size, 0, none⟩) 2 2, .slice (some ⟨w.heap.size + 1, 0, none⟩) 2 2, .slice (some ⟨w.heap.size + 2, 0, none⟩) 2 2] T2) := ⟨_, rfl⟩
  obtain ⟨u5, hu5⟩ : ∃ u5, u5 = u4.alloc (.cells #[.bool true, .bool true, .bool true] T3) := ⟨_, rfl⟩
  rw [← hu1, ← hu2, ← hu3, ← hu4, ← hu5]
  have s1 : u1.heap.size = w.heap.size + 1 := by rw [hu1]; simp
  have s2 : u2.heap.size = w.heap.size + 2 := by rw [hu2]; simp [s1]
  have s3 : u3.heap.size = w.heap.size + 3 := by rw [hu3]; simp [s2]
  have s4 : u4.heap.size = w.heap.size + 4 := by rw [hu4]; simp [s3]
  have b1 : Below w.heap.size w u1 := by rw [hu1]; exact (Below.refl _ _).alloc (Nat.le_refl _) _
  have b2 : Below u1.heap.size u1 u2 := by rw [hu2]; exact (Below.refl _ _).alloc (Nat.le_refl _) _
  have b3 : Below u2.heap.size u2 u3 := by rw [hu3]; exact (Below.refl _ _).alloc (Nat.le_refl _) _
  have b4 : Below u3.heap.size u3 u4 := by rw [hu4]; exact (Below.refl _ _).alloc (Nat.le_refl _) _
  have b5 : Below u4.heap.size u4 u5 := by rw [hu5]; exact (Below.refl _ _).alloc (Nat.le_refl _) _
  have g1 : u1.heap[w.heap.size]? = some (.cells #[.int .i64 1, .int .i64 2] T (0, 0)) := by rw [hu1]; exact heap_alloc_last _ _
  have g2 : u2.heap[w.heap.size + 1]? = some (.cells #[.int .i64 2, .int .i64 1] T (0, 0)) := by rw [hu2, ← s1]; exact heap_alloc_last _ _
  have g3 : u3.heap[w.heap.size + 2]? = some (.cells #[.int .i64 1, .int .i64 2] T (0, 0)) := by rw [hu3, ← s2]; exact heap_alloc_last _ _
  have g4 : u4.heap[w.heap.size + 3]? = some (.cells #[.slice (some ⟨w.heap.size, 0, none⟩) 2 2, .slice (some ⟨w.heap.size + 1, 0, none⟩) 2 2, .slice (some ⟨w.heap.size + 2, 0, none⟩) 2 2] T2 (0, 0)) := by rw [hu4, ← s3]; exact heap_alloc_last _ _
  have g5 : u5.heap[w.heap.size + 4]? = some (.cells #[.bool true, .bool true, .bool true] T3 (0, 0)) := by rw [hu5, ← s4]; exact heap_alloc_last _ _
  have k1 := (b5.block w.heap.size (by omega)).trans ((b4.block _ (by omega)).trans ((b3.block _ (by omega)).trans ((b2.block _ (by omega)).trans g1)))
  have k2 := (b5.block (w.heap.size + 1) (by omega)).trans ((b4.block _ (by omega)).trans ((b3.block _ (by omega)).trans g2))
  have k3 := (b5.block (w.heap.size + 2) (by omega)).trans ((b4.block _ (by omega)).trans g3)
  have k4 := (b5.block (w.heap.size + 3) (by omega)).trans g4
  clear hu1 hu2 hu3 hu4 hu5
  have three : ∀ i, i < 3 → i = 0 ∨ i = 1 ∨ i = 2 := by omega
  have two : ∀ i, i < 2 → i = 0 ∨ i = 1 := by omega
  have r1 : Sl u5 (some ⟨w.heap.size, 0, none⟩) 2 [1, 2] := ⟨rfl, by decide, by decide, Or.inr ⟨_, 0, rfl, fun i hi => by rcases two i hi with rfl | rfl <;> simp [World.cell?, k1]⟩⟩
  have r2 : Sl u5 (some ⟨w.heap.size + 1, 0, none⟩) 2 [2, 1] := ⟨rfl, by decide, by decide, Or.inr ⟨_, 0, rfl, fun i hi => by rcases two i hi with rfl | rfl <;> simp [World.cell?, k2]⟩⟩
  have r3 : Sl u5 (some ⟨w.heap.size + 2, 0, none⟩) 2 [1, 2] := ⟨rfl, by decide, by decide, Or.inr ⟨_, 0, rfl, fun i hi => by rcases two i hi with rfl | rfl <;> simp [World.cell?, k3]⟩⟩
  refine ⟨⟨rfl, by decide, Or.inr ⟨_, 0, rfl, fun i hi => ?_⟩⟩, ⟨rfl, by decide, Or.inr ⟨_, 0, rfl, fun i hi => by rcases three i hi with rfl | rfl | rfl <;> simp [World.cell?, g5]⟩⟩, below_step (below_step (below_step (below_step b1 b2) b3) b4) b5⟩
  rcases three i hi with rfl | rfl | rfl
  · exact ⟨_, 2, by simp [World.cell?, k4], r1⟩
  · exact ⟨_, 2, by simp [World.cell?, k4], r2⟩
  · exact ⟨_, 2, by simp [World.cell?, k4], r3⟩

/-- What stands behind the second call: the automaton, the least one, the word. -/
def LtAt (w W : World) (mb : Nat) (b t : Int) (a : Option Addr) (n cap : Nat) (a' : Option Addr) (cap' : Nat) (N : List (List Int)) (E : List Bool) (ax : Option Addr) (K cx : Nat) (ax' : Option Addr) (cx' : Nat) (LN : List (List Int)) (LE : List Bool) (aw : Option Addr) (lw : Nat) (l : List Int) : Prop :=
  Below w.heap.size w W ∧ AutoAt W w.heap.size b t a n cap a' n cap' N E ∧ AutoAt W mb b t ax K cx ax' K cx' LN LE ∧ Sl W aw lw l
theorem ltAt_step {w W W' : World} {mb : Nat} {b t : Int} {a : Option Addr} {n cap : Nat} {a' : Option Addr} {cap' : Nat} {N : List (List Int)} {E : List Bool} {ax : Option Addr} {K cx : Nat} {ax' : Option Addr} {cx' : Nat} {LN : List (List Int)} {LE : List Bool} {aw : Option Addr} {lw : Nat} {l : List Int} (h : LtAt w W mb b t a n cap a' cap' N E ax K cx ax' cx' LN LE aw lw l) (hb : Below W.heap.size W W') : LtAt w W' mb b t a n cap a' cap' N E ax K cx ax' cx' LN LE aw lw l :=
  ⟨below_step h.1 hb, autoAt_below h.2.1 hb, autoAt_below h.2.2.1 hb, sl_below h.2.2.2 hb⟩

set_option maxHeartbeats 16000000 in
set_option maxRecDepth 8000 in
theorem ltakes_any (b t : Int) (a : Option Addr) (n cap : Nat) (a' : Option Addr) (k cap' : Nat) (N : List (List Int)) (E : List Bool) (aw : Option Addr) (lw cw : Nat) (l : List Int) (s t2 : Int) (w : World) (hs : Sl2 w a n N) (he : SlB w a' k E) (hw : Sl w aw lw l) :
    Calls Try.prog 4 #[.agg #[.int .i64 b, .int .i64 t, .slice a n cap, .slice a' k cap'], .slice aw lw cw, .int .i64 s, .int .i64 t2] w fun e w' => e = .returned (.bool true) ∧ Below w.heap.size w w' := by
  have hB0 : Below w.heap.size w (w.alloc (.cells #[.int .i64 b, .int .i64 t, .slice a n cap, .slice a' k cap'] 25)) := (Below.refl _ _).alloc (Nat.le_refl _) _
  have HB0 := hide hB0
  have HAT := hide (autoAt_new (b := b) (t := t) (cap := cap) (cap' := cap') (T := 25) hs he)
  have HWD := hide (sl_below hw hB0)
  have HAT0 := hide (fun W (h : Below _ _ W) => autoAt_below (autoAt_new (b := b) (t := t) (cap := cap) (cap' := cap') (T := 25) hs he) h)
  have H3 := hide (three_world (w.alloc (.cells #[.int .i64 b, .int .i64 t, .slice a n cap, .slice a' k cap'] 25)) 3 26 4)
  have HL0 := hide (fun aa cc aa' cc' W h1 h2 => least_ok 2 1 aa 3 cc [[1, 2], [2, 1], [1, 2]] aa' cc' [true, true, true] W h1 h2 fact_three.1)
  unfold LeastU at HL0
  rw [fact_three.2] at HL0
  have hLn := hs.1
  have hLe := he.1
  have hke := he.2.1
  clear hs he hw hB0
  have HWB0 := hide (heap_alloc_last w (.cells #[.int .i64 b, .int .i64 t, .slice a n cap, .slice a' k cap'] 25))
  generalize hW0 : w.alloc (.cells #[.int .i64 b, .int .i64 t, .slice a n cap, .slice a' k cap'] 25) = w0 at HB0 HAT HAT0 HWD H3
  go_enter Try.func4, Try.ntmps4
  go_wp2_with fail
  clear hW0
  change Calls _ _ #[.agg #[.int .i64 2, .int .i64 1, .slice (some ⟨w0.heap.size + 3, 0, none⟩) 3 3, .slice (some ⟨w0.heap.size + 4, 0, none⟩) 3 3]] (((((w0.alloc (.cells #[.int .i64 1, .int .i64 2] 3)).alloc (.cells #[.int .i64 2, .int .i64 1] 3)).alloc (.cells #[.int .i64 1, .int .i64 2] 3)).alloc (.cells #[.slice (some ⟨w0.heap.size, 0, none⟩) 2 2, .slice (some ⟨w0.heap.size + 1, 0, none⟩) 2 2, .slice (some ⟨w0.heap.size + 2, 0, none⟩) 2 2] 26)).alloc (.cells #[.bool true, .bool true, .bool true] 4)) _
  obtain ⟨h31, h32, h33⟩ := H3.out
  have HB3 := hide h33
  have HC0 := hide (HL0.out (some ⟨w0.heap.size + 3, 0, none⟩) 3 (some ⟨w0.heap.size + 4, 0, none⟩) 3 _ h31 h32)
  clear h31 h32 h33 H3 HL0
  generalize ((((w0.alloc (.cells #[.int .i64 1, .int .i64 2] 3)).alloc (.cells #[.int .i64 2, .int .i64 1] 3)).alloc (.cells #[.int .i64 1, .int .i64 2] 3)).alloc (.cells #[.slice (some ⟨w0.heap.size, 0, none⟩) 2 2, .slice (some ⟨w0.heap.size + 1, 0, none⟩) 2 2, .slice (some ⟨w0.heap.size + 2, 0, none⟩) 2 2] 26)).alloc (.cells #[.bool true, .bool true, .bool true] 4) = w1 at HB3 HC0 ⊢
  refine HC0.out.mono ?_
  rintro e w2 ⟨a0, c0, a0', c0', rfl, -, hb2⟩
  have HB2 := hide (below_step HB3.out hb2)
  clear hb2 HB3 HC0
  have hBm : Below w2.heap.size w2 (w2.alloc (.cells #[.int .i64 2, .int .i64 1, .slice a0 1 c0, .slice a0' 1 c0'] 25)) := (Below.refl _ _).alloc (Nat.le_refl _) _
  have HBM := hide (below_step HB2.out hBm)
  have HMX := hide (heap_alloc_last w2 (.cells #[.int .i64 2, .int .i64 1, .slice a0 1 c0, .slice a0' 1 c0'] 25))
  have HSM : Hid ((w2.alloc (.cells #[.int .i64 2, .int .i64 1, .slice a0 1 c0, .slice a0' 1 c0'] 25)).heap.size = w2.heap.size + 1) := by show _ = _; simp
  obtain ⟨hx0, hx1, hx2, hx3⟩ := (autoAt_below HAT.out HBM.out).1
  clear hBm
  go_wp2_with fail
  clear hx0 hx1 hx2 hx3
  generalize w2.alloc (.cells #[.int .i64 2, .int .i64 1, .slice a0 1 c0, .slice a0' 1 c0'] 25) = w3 at HBM HMX HSM ⊢
  have HA3 := hide (autoAt_below HAT.out HBM.out)
  by_cases hA : autoC b t N k = 0
  · obtain ⟨hM, hE, hG, hmu⟩ := autoC_zero hA
    have h80 := autoC_80 hA
    obtain rfl : k = n := by omega
    rw [hLn] at hG h80
    have HLA := hide (least_ok b t a k cap N a' cap' E w3 HA3.out.2.1 HA3.out.2.2 hA)
    unfold LeastU at HLA
    have hL := least_good hG E
    have hK80 := leastK_80 hG E h80
    have hA2 := autoC_good hM hL hK80
    have hlnK := leastN_len N E (manyU b t).toNat
    have hleK := leastE_len N E (manyU b t).toNat
    obtain ⟨hag1, hag2⟩ := least_again hG E
    have hmet := least_met hG E
    have HTK := hide (fun v hv => least_takes hG E v hv)
    have HDF := hide (fun s' t' h1 h2 h3 => @beg_differ (manyU b t).toNat k N hG E s' t' h1 h2 h3 hK80)
    rw [hlnK] at HLA
    have HLM := hide (fun ax cx ax' cx' W h1 h2 => least_ok b t ax (leastK N E (manyU b t).toNat) cx (leastN N E (manyU b t).toNat) ax' cx' (leastE N E (manyU b t).toNat) W h1 h2 hA2)
    unfold LeastU at HLM
    rw [hag1, hag2, hlnK] at HLM
    have HAU := hide (fun ay cy ay' cy' ax cx ax' cx' W h1 h2 h3 h4 => autos_eq b t ay (leastK N E (manyU b t).toNat) cy ay' (leastK N E (manyU b t).toNat) cy' ax cx ax' cx' (leastN N E (manyU b t).toNat) (leastE N E (manyU b t).toNat) W h1 h2 h3 h4)
    have hrc : runC b t N k l = wordC (manyU b t).toNat l := by unfold runC; rw [if_pos hA]
    have hrc2 : runC b t (leastN N E (manyU b t).toNat) (leastK N E (manyU b t).toNat) l = wordC (manyU b t).toNat l := by unfold runC; rw [if_pos hA2]
    have htb : takesB b t (leastN N E (manyU b t).toNat) (leastE N E (manyU b t).toNat) l = takesB b t N E l := by
      unfold takesB
      rw [hLe, hleK, hrc, hrc2]
      by_cases hw0 : wordC (manyU b t).toNat l = 0
      · rw [if_pos hw0, if_pos hw0]
        refine HTK.out l fun x hx => ?_
        obtain ⟨j, hj, rfl⟩ := List.getElem_of_mem hx
        have := (wordC_zero hw0).2 j hj
        rwa [getD_at _ j hj] at this
      · rw [if_neg hw0, if_neg hw0]
    have HT1 := hide (fun W h1 h2 h3 => takes_u b t a a' k cap k cap' N E aw lw cw l W h1 h2 h3)
    rw [hrc] at HT1
    have HT2 := hide (fun ax cx ax' cx' W h1 h2 h3 => takes_u b t ax ax' (leastK N E (manyU b t).toNat) cx (leastK N E (manyU b t).toNat) cx' (leastN N E (manyU b t).toNat) (leastE N E (manyU b t).toNat) aw lw cw l W h1 h2 h3)
    rw [hrc2, htb] at HT2
    have HRE := hide (fun ax cx ax' cx' W h1 => reach_u b t ax ax' (leastK N E (manyU b t).toNat) cx (leastK N E (manyU b t).toNat) cx' (leastN N E (manyU b t).toNat) W h1 (by unfold maxLen; omega))
    rw [show reachL b t (leastN N E (manyU b t).toNat) (leastK N E (manyU b t).toNat) = natsL (leastK N E (manyU b t).toNat) by unfold reachL; rw [if_pos hA2, hmet], hA2, errV_yes rfl] at HRE
    unfold OfU at HRE
    rw [natsL_len] at HRE
    have HBG := hide (fun ax cx ax' cx' (s' : Nat) W h1 h2 h3 => begun_any b t ax (leastK N E (manyU b t).toNat) cx (manyU b t).toNat (leastN N E (manyU b t).toNat) ax' cx' (leastE N E (manyU b t).toNat) s' W h1 hL h2 h3)
    unfold GivesAuto at HBG
    have HDI : Hid (∀ (s' t' : Nat), s' < leastK N E (manyU b t).toNat → t' < leastK N E (manyU b t).toNat → s' ≠ t' → ∀ (a1 : Option Addr) (c1 : Nat) (e1 : Option Addr) (d1 : Nat) (a2 : Option Addr) (c2 : Nat) (e2 : Option Addr) (d2 : Nat) (W : World), Sl2 W a1 (leastK N E (manyU b t).toNat) (begN (leastN N E (manyU b t).toNat) s') → SlB W e1 (leastK N E (manyU b t).toNat) (begE (leastE N E (manyU b t).toNat) (leastK N E (manyU b t).toNat) s') → Sl2 W a2 (leastK N E (manyU b t).toNat) (begN (leastN N E (manyU b t).toNat) t') → SlB W e2 (leastK N E (manyU b t).toNat) (begE (leastE N E (manyU b t).toNat) (leastK N E (manyU b t).toNat) t') →
        Calls Try.prog 11 #[.agg #[.int .i64 b, .int .i64 t, .slice a1 (leastK N E (manyU b t).toNat) c1, .slice e1 (leastK N E (manyU b t).toNat) d1], .agg #[.int .i64 b, .int .i64 t, .slice a2 (leastK N E (manyU b t).toNat) c2, .slice e2 (leastK N E (manyU b t).toNat) d2]] W fun e W' => (∃ ad cd len, e = .returned (.tuple #[.slice ad len cd, .nilIface])) ∧ Below W.heap.size W W') := by
      intro s' t' hs' ht' hne a1 c1 e1 d1 a2 c2 e2 d2 W h1 h2 h3 h4
      have g1 := beg_good hL hs'
      have g2 := beg_good hL ht'
      have z1 := autoC_good hM g1 hK80
      have z2 := autoC_good hM g2 hK80
      have hal : alikeC b t (begN (leastN N E (manyU b t).toNat) s') (leastK N E (manyU b t).toNat) b t (begN (leastN N E (manyU b t).toNat) t') (leastK N E (manyU b t).toNat) = 0 := by unfold alikeC; rw [if_pos z1, if_pos z2, if_pos ⟨rfl, rfl⟩]
      have hdi := HDF.out s' t' hs' ht' hne
      have hde : diffE b t (begN (leastN N E (manyU b t).toNat) s') (begE (leastE N E (manyU b t).toNat) (leastK N E (manyU b t).toNat) s') (leastK N E (manyU b t).toNat) b t (begN (leastN N E (manyU b t).toNat) t') (begE (leastE N E (manyU b t).toNat) (leastK N E (manyU b t).toNat) t') (leastK N E (manyU b t).toNat) = 0 := by
        unfold diffE diffP
        rw [if_pos hal, g1.1, g2.1, if_pos hdi]
      have h := differ_u b t a1 (leastK N E (manyU b t).toNat) c1 e1 (leastK N E (manyU b t).toNat) d1 _ _ b t a2 (leastK N E (manyU b t).toNat) c2 e2 (leastK N E (manyU b t).toNat) d2 _ _ W h1 h2 h3 h4
      rw [hde, errV_yes rfl] at h
      refine h.mono ?_
      rintro e W' ⟨ad, cd, rfl, -, hb⟩
      exact ⟨⟨ad, cd, _, rfl⟩, hb⟩
    have HBL : Hid (∀ s' : Nat, (begN (leastN N E (manyU b t).toNat) s').length = leastK N E (manyU b t).toNat) := fun s' => by simp [begN, hlnK]
    simp only [HBL.out] at HBG
    clear hA hM hE hG hmu h80 hL hA2 hlnK hleK hag1 hag2 hmet HTK HDF hrc hrc2 htb HAT HBL
    generalize takesB b t N E l = xv at HT1 HT2
    generalize wordC (manyU b t).toNat l = c at HT1 HT2
    generalize leastK N E (manyU b t).toNat = K at *
    generalize leastN N E (manyU b t).toNat = LN at *
    generalize leastE N E (manyU b t).toNat = LE at *
    refine HLA.out.mono ?_
    rintro e w4 ⟨ax, cx, ax', cx', rfl, hnew, hb4⟩
    have hbox := (hb4.block w2.heap.size (by have := HSM.out; omega)).trans HMX.out
    obtain ⟨⟨o0, o1, o2, o3⟩, hf⟩ := box_cells hbox
    obtain ⟨w5, hw5⟩ : ∃ w5, (((w4.setCell ⟨w2.heap.size, 0, none⟩ (.int .i64 b)).setCell ⟨w2.heap.size, 1, none⟩ (.int .i64 t)).setCell ⟨w2.heap.size, 2, none⟩ (.slice ax K cx)).setCell ⟨w2.heap.size, 3, none⟩ (.slice ax' K cx') = w5 := ⟨_, rfl⟩
    obtain ⟨⟨hbx5, hsz5, hkp5⟩, hbl5⟩ := box_set hbox hw5.symm
    have hB05 := hbl5 w0 w0.heap.size (below_step HBM.out hb4) (HB2.out.size)
    have H5 : Hid (LtAt w w5 w2.heap.size b t a k cap a' cap' N E ax K cx ax' cx' LN LE aw lw l) := by
      have hn5 := hnew w5 (fun x h1 h2 => hkp5 x (by have := HSM.out; omega))
      have hA5 : AutoAt w5 w.heap.size b t a k cap a' k cap' N E := by
        have h3 := autoAt_below HA3.out hb4
        have hB30 : Below w0.heap.size w0 w4 := below_step HBM.out hb4
        exact HAT0.out w5 hB05
      exact ⟨below_step HB0.out hB05, hA5, ⟨(box_cells hbx5).1, hn5.1, hn5.2⟩, sl_below HWD.out hB05⟩
    clear hbox hbx5 hsz5 hkp5 hbl5 hB05 hnew hb4 HBM HMX HSM HLA HA3 HB2 HWD
    obtain ⟨y0, y1, y2, y3⟩ := H5.out.2.2.1.1
    go_wp2_with fail
    clear hw5 o0 o1 o2 o3 hf y0 y1 y2 y3
    refine (HLM.out ax cx ax' cx' w5 H5.out.2.2.1.2.1 H5.out.2.2.1.2.2).mono ?_
    rintro e w6 ⟨ay, cy, ay', cy', rfl, hnew, hb6⟩
    have hb7 := hb6.trans (((Below.refl w6.heap.size w6).alloc (Nat.le_refl _) (.cells #[.int .i64 b, .int .i64 t, .slice ay K cy, .slice ay' K cy'] 25)).mono hb6.size)
    have H7 := hide (ltAt_step H5.out hb7)
    have HN7 := hide (hnew.below ((Below.refl w6.heap.size w6).alloc (Nat.le_refl _) (.cells #[.int .i64 b, .int .i64 t, .slice ay K cy, .slice ay' K cy'] 25))).here
    have hbx7 := heap_alloc_last w6 (.cells #[.int .i64 b, .int .i64 t, .slice ay K cy, .slice ay' K cy'] 25)
    obtain ⟨y0, y1, y2, y3⟩ := H7.out.2.2.1.1
    clear hb6 hnew H5 HLM hb7
    go_wp2_with fail
    clear y0 y1 y2 y3 hbx7
    generalize w6.alloc (.cells #[.int .i64 b, .int .i64 t, .slice ay K cy, .slice ay' K cy'] 25) = w7 at H7 HN7 ⊢
    refine (HAU.out ay cy ay' cy' ax cx ax' cx' w7 HN7.out.1 HN7.out.2 H7.out.2.2.1.2.1 H7.out.2.2.1.2.2).mono ?_
    rintro e w8 ⟨rfl, hb8⟩
    have H8 := hide (ltAt_step H7.out hb8)
    clear hb8 H7 HN7 HAU
    obtain ⟨y0, y1, y2, y3⟩ := H8.out.2.1.1
    go_wp2_with fail
    clear y0 y1 y2 y3
    refine (HT1.out w8 H8.out.2.1.2.1 H8.out.2.1.2.2 H8.out.2.2.2).mono ?_
    rintro e w9 ⟨rfl, hb9⟩
    have H9 := hide (ltAt_step H8.out hb9)
    clear hb9 H8 HT1
    obtain ⟨y0, y1, y2, y3⟩ := H9.out.2.2.1.1
    go_wp2_with fail
    clear y0 y1 y2 y3
    refine (HT2.out ax cx ax' cx' w9 H9.out.2.2.1.2.1 H9.out.2.2.1.2.2 H9.out.2.2.2).mono ?_
    rintro e wa ⟨rfl, hba⟩
    have Ha := hide (ltAt_step H9.out hba)
    clear hba H9 HT2
    obtain ⟨y0, y1, y2, y3⟩ := Ha.out.2.2.1.1
    go_wp2_with fail
    clear y0 y1 y2 y3
    refine (HRE.out ax cx ax' cx' wa Ha.out.2.2.1.2.1).mono ?_
    rintro e wc ⟨ar, cr, rfl, -, hbc⟩
    have Hc := hide (ltAt_step Ha.out hbc)
    clear hbc Ha HRE
    obtain ⟨y0, y1, y2, y3⟩ := Hc.out.2.2.1.1
    have hKK : ((K : Int) != (K : Int)) = false := by simp
    have hxx : (xv != xv) = false := by simp
    have hcv : errV c = .nilIface ∨ ∃ z, errV c = .iface 44 (.int .i64 z) := by
      by_cases h : c = 0
      · exact .inl (errV_yes h)
      · exact .inr ⟨c, errV_no h⟩
    generalize errV c = ev at hcv ⊢
    rcases hcv with rfl | ⟨z, rfl⟩
    all_goals
      go_wp2_with fail
      go_quiet (fail)
      have hbd : Below wc.heap.size wc (wc.drewN nq) := below_drewN (Below.refl _ _) nq
      have Hd := hide (ltAt_step Hc.out hbd)
      clear hbd y0 y1 y2 y3 Hc
      generalize wc.drewN nq = wd at Hd ⊢
      obtain ⟨y0, y1, y2, y3⟩ := Hd.out.2.2.1.1
      have HBD := hide Hd.out.1
      by_cases hin : (0 ≤ s ∧ s < (K : Int)) ∧ (0 ≤ t2 ∧ t2 < (K : Int)) ∧ s ≠ t2
      · obtain ⟨⟨i1, i2⟩, ⟨i3, i4⟩, i5⟩ := hin
        obtain ⟨s', hs'⟩ : ∃ s' : Nat, s = (s' : Int) := ⟨s.toNat, by omega⟩
        obtain ⟨t', ht'⟩ : ∃ t' : Nat, t2 = (t' : Int) := ⟨t2.toNat, by omega⟩
        subst hs'
        subst ht'
        have j1 : ¬ ((s' : Int) < 0) := by omega
        have j2 : ¬ ((s' : Int) ≥ (K : Int)) := by omega
        have j3 : ¬ ((t' : Int) < 0) := by omega
        have j4 : ¬ ((t' : Int) ≥ (K : Int)) := by omega
        have j5 : ((s' : Int) == (t' : Int)) = false := by simp; omega
        have hsK : s' < K := by omega
        have htK : t' < K := by omega
        have hst : s' ≠ t' := by omega
        clear i1 i3 i5
        have hbd : Below wd.heap.size wd wd.drew := (Below.refl _ _).drew
        have HD1 := hide (ltAt_step Hd.out hbd)
        have HB1 := hide (HBG.out ax cx ax' cx' s' wd.drew HD1.out.2.2.1.2.1 HD1.out.2.2.1.2.2 hsK)
        have HB2 : Hid (∀ W, Below wd.drew.heap.size wd.drew W → _) := fun W h => HBG.out ax cx ax' cx' t' W (sl2_below HD1.out.2.2.1.2.1 h) (slB_below HD1.out.2.2.1.2.2 h) htK
        have HYS : Hid (∀ W, Below wd.drew.heap.size wd.drew W → AutoAt W w2.heap.size b t ax K cx ax' K cx' LN LE) := fun W h => autoAt_below HD1.out.2.2.1 h
        have HDD := hide (HDI.out s' t' hsK htK hst)
        have HBE := hide HD1.out.1
        clear hbd HBG HDI HBD
        go_wp2_with fail
        go_region_with (first
          | (go_at_call_of 12 (Value.int .i64 (s' : Int)); refine HB1.out.mono ?_; rintro e we ⟨a1, c1, e1, d1, rfl, hn1, hbe⟩; have HN1 := hide hn1; have HBe := hide hbe; obtain ⟨x0, x1, x2, x3⟩ := (HYS.out we hbe).1; have HC2 := hide (HB2.out we hbe); clear hn1 hbe)
          | (go_at_call_of 12 (Value.int .i64 (t' : Int)); refine HC2.out.mono ?_; rintro e wf ⟨a2, c2, e2, d2, rfl, hn2, hbf⟩; have HC3 := hide (HDD.out a1 c1 e1 d1 a2 c2 e2 d2 wf (sl2_below HN1.out.here.1 hbf) (slB_below HN1.out.here.2 hbf) hn2.here.1 hn2.here.2); have HBf := hide (below_step HBe.out hbf); clear hn2 hbf)
          | (go_at_call 11; refine HC3.out.mono ?_; rintro e wg ⟨⟨ad, cd, len, rfl⟩, hbg⟩; have HBg := hide (below_step HBf.out hbg); clear hbg))
        all_goals
          go_wp2
          go_ret
          exact ⟨by simp, below_step HBE.out HBg.out⟩
      · have hout : s < 0 ∨ (¬ s < 0 ∧ (K : Int) ≤ s) ∨ (¬ s < 0 ∧ ¬ (K : Int) ≤ s ∧ t2 < 0) ∨ (¬ s < 0 ∧ ¬ (K : Int) ≤ s ∧ ¬ t2 < 0 ∧ (K : Int) ≤ t2) ∨ (¬ s < 0 ∧ ¬ (K : Int) ≤ s ∧ ¬ t2 < 0 ∧ ¬ (K : Int) ≤ t2 ∧ (s == t2) = true) := by
          by_cases h1 : s < 0
          · exact .inl h1
          · by_cases h2 : (K : Int) ≤ s
            · exact .inr (.inl ⟨h1, h2⟩)
            · by_cases h3 : t2 < 0
              · exact .inr (.inr (.inl ⟨h1, h2, h3⟩))
              · by_cases h4 : (K : Int) ≤ t2
                · exact .inr (.inr (.inr (.inl ⟨h1, h2, h3, h4⟩)))
                · refine .inr (.inr (.inr (.inr ⟨h1, h2, h3, h4, ?_⟩)))
                  have : s = t2 := Classical.byContradiction fun h5 => hin ⟨⟨by omega, by omega⟩, ⟨by omega, by omega⟩, h5⟩
                  simpa using this
        clear hin
        rcases hout with h1 | ⟨h1, h2⟩ | ⟨h1, h2, h3⟩ | ⟨h1, h2, h3, h4⟩ | ⟨h1, h2, h3, h4, h5⟩
        all_goals
          go_wp2
          go_ret
          exact ⟨by simp, HBD.out⟩
  · have HLN := hide (least_no b t a n cap N a' k cap' w3 HA3.out.2.1 hke hA)
    rw [errV_no hA] at HLN
    generalize autoC b t N k = c at HLN hA
    clear hA
    refine HLN.out.mono ?_
    rintro e w4 ⟨rfl, hb4⟩
    have hbox := (hb4.block w2.heap.size (by have := HSM.out; omega)).trans HMX.out
    obtain ⟨⟨o0, o1, o2, o3⟩, hf⟩ := box_cells hbox
    have HBX := hide hbox
    have HB4 := hide (below_step (below_step HB0.out HBM.out) hb4)
    have HSZ2 := hide (below_step HB0.out HB2.out).size
    clear hbox hb4
    go_wp2
    go_ret
    exact ⟨by simp, (((HB4.out.setCell HSZ2.out _).setCell HSZ2.out _).setCell HSZ2.out _).setCell HSZ2.out _⟩
end Go.Proofs.Ytihhlddbppljpab
