/- The contracts of auto.Run and auto.Takes. -/
import Derived.Test.YtpkjnkcdajngkaaAc
namespace Go.Proofs.Ytpkjnkcdajngkaa
open Go.RowKit

/-- The slice reads as these truths. -/
def SlB (w : World) (a : Option Addr) (len : Nat) (E : List Bool) : Prop :=
  E.length = len ∧ len ≤ maxLen ∧ (len = 0 ∨ ∃ b o, a = some ⟨b, o, none⟩ ∧ ∀ i, i < len → w.cell? ⟨b, o + i, none⟩ = some (.bool (E.getD i false)))
theorem slB_below {w W : World} {a : Option Addr} {len : Nat} {E : List Bool} (h : SlB w a len E) (hb : Below w.heap.size w W) : SlB W a len E := by
  obtain ⟨h1, h2, h3⟩ := h
  refine ⟨h1, h2, ?_⟩
  rcases h3 with h3 | ⟨b, o, rfl, hc⟩
  · exact Or.inl h3
  · refine Or.inr ⟨b, o, rfl, fun i hi => ?_⟩
    have := hc i hi
    rw [hb.cell (p := ⟨b, o + i, none⟩) (World.block_lt_of_cell? w _ this)]
    exact this
theorem slB_cell {w : World} {a : Option Addr} {len : Nat} {E : List Bool} (h : SlB w a len E) (i : Nat) (hi : i < len) : ∃ b o, a = some ⟨b, o, none⟩ ∧ w.cell? ⟨b, o + i, none⟩ = some (.bool (E.getD i false)) := by
  rcases h.2.2 with h0 | ⟨b, o, rfl, hc⟩
  · omega
  · exact ⟨b, o, rfl, hc i hi⟩

/-- An automaton's box. -/
theorem box4 {w w' : World} {v0 v1 v2 v3 : Value} {T : TypeId} (hb : Below (w.alloc (.cells #[v0, v1, v2, v3] T)).heap.size (w.alloc (.cells #[v0, v1, v2, v3] T)) w') :
    w'.cell? ⟨w.heap.size, 0, none⟩ = some v0 ∧ w'.cell? ⟨w.heap.size, 1, none⟩ = some v1 ∧ w'.cell? ⟨w.heap.size, 2, none⟩ = some v2 ∧ w'.cell? ⟨w.heap.size, 3, none⟩ = some v3 := by
  have key : ∀ i, w'.cell? ⟨w.heap.size, i, none⟩ = #[v0, v1, v2, v3][i]? := fun i => by
    rw [hb.cell (p := ⟨w.heap.size, i, none⟩) (by simp)]
    exact cell_of_row _ _ i _ T (0, 0) (heap_alloc_last w _)
  exact ⟨key 0, key 1, key 2, key 3⟩

def runC (b t : Int) (N : List (List Int)) (e : Nat) (l : List Int) : Int := if autoC b t N e = 0 then wordC (manyU b t).toNat l else autoC b t N e
def runS (b t : Int) (N : List (List Int)) (e : Nat) (l : List Int) : Nat := if runC b t N e l = 0 then runL N l else 0
def takesB (b t : Int) (N : List (List Int)) (E : List Bool) (l : List Int) : Bool := if runC b t N E.length l = 0 then E.getD (runL N l) false else false

set_option maxHeartbeats 4000000 in
set_option maxRecDepth 4000 in
theorem run_u (b t : Int) (a a' : Option Addr) (len cap len' cap' : Nat) (N : List (List Int)) (aw : Option Addr) (lw cw : Nat) (l : List Int) (w : World) (hs : Sl2 w a len N) (hm' : len' ≤ maxLen) (hw : Sl w aw lw l) :
    Calls Try.prog 14 #[.agg #[.int .i64 b, .int .i64 t, .slice a len cap, .slice a' len' cap'], .slice aw lw cw] w fun e w' => e = .returned (.tuple #[.int .i64 (runS b t N len' l), errV (runC b t N len' l)]) ∧ Below w.heap.size w w' := by
  have hL := hs.1
  have hLw := hw.1
  have hmw := hw.2.1
  unfold maxLen at hmw
  have HB1 : Hid (Below w.heap.size w (w.alloc (.cells #[.int .i64 b, .int .i64 t, .slice a len cap, .slice a' len' cap'] 25))) := (Below.refl _ _).alloc (Nat.le_refl _) _
  have HCK := hide (check_u b t a a' len cap len' cap' N _ (sl2_below hs HB1.out) hm')
  have HS := hide hs
  have HW := hide hw
  clear hs hw
  by_cases hA : autoC b t N len' = 0
  · obtain ⟨hM, hE, hG, hmu⟩ := autoC_zero hA
    rw [hL] at hG hE
    have hC : runC b t N len' l = wordC (manyU b t).toNat l := by unfold runC; rw [if_pos hA]
    have hS : runS b t N len' l = if wordC (manyU b t).toNat l = 0 then runL N l else 0 := by unfold runS; rw [hC]
    rw [hC, hS]
    rw [errV_yes hA] at HCK
    clear hC hS hA hM hmu hE
    generalize (manyU b t).toNat = m at hG ⊢
    have HG := hide hG
    by_cases hlong : 400 < lw
    · rw [@wordC_long m l (by omega), if_neg (by decide)]
      have hlong' : (400 : Int) < (lw : Int) := by omega
      go_enter Try.func14, Try.ntmps14
      go_wp2_with fail
      refine HCK.out.mono ?_
      rintro e w2 ⟨rfl, hb2⟩
      have HB2 := hide (below_step HB1.out hb2)
      clear hb2
      go_wp2
      go_ret2
      exact ⟨by simp [errV], HB2.out⟩
    · have hlong' : ¬ (400 : Int) < (lw : Int) := by omega
      have HBAD := hide (fun k => @wordC_bad m l (by omega) k)
      have HGOOD := hide (@wordC_good m l (by omega))
      have HLT := hide (fun k => @runL_lt m len N hG l k)
      have HTS := hide (fun k => @runL_take_succ N l k)
      have HST := hide (fun s => @goodN_step m len N hG s)
      have HROW : Hid (∀ s, s < len → (N.getD s []).length = m) := fun s h => (hG.2.2.2.2.2 s h).1
      have hm36 := hG.2.2.2.1
      have hn80 := hG.2.2.1
      have HEND : Hid (runL N (l.take lw) = runL N l) := by show _ = _; rw [List.take_of_length_le (by omega)]
      rw [hLw] at HBAD HGOOD HLT HTS
      clear hG
      generalize hRL : runL N l = RL at HEND ⊢
      clear hRL
      generalize wordC m l = c at HBAD HGOOD ⊢
      have HR0 : Hid (c = 0 → Value.tuple #[.int .i64 ((if c = 0 then RL else 0 : Nat) : Int), errV c] = .tuple #[.int .i64 RL, .nilIface]) := fun h => by rw [if_pos h, errV_yes h]
      have HR1 : Hid (c = 1 → Value.tuple #[.int .i64 ((if c = 0 then RL else 0 : Nat) : Int), errV c] = .tuple #[.int .i64 0, .iface 39 (.int .i64 1)]) := fun h => by subst h; rfl
      generalize Value.tuple #[.int .i64 ((if c = 0 then RL else 0 : Nat) : Int), errV c] = R at HR0 HR1 ⊢
      go_enter Try.func14, Try.ntmps14
      go_wp2_with fail
      refine HCK.out.mono ?_
      rintro e w2 ⟨rfl, hb2⟩
      have HB2 := hide (below_step HB1.out hb2)
      have hbox := box4 hb2
      have hbx := hbox.2.2.1
      have HS2 := hide (sl2_below HS.out HB2.out)
      have HW2 := hide (sl_below HW.out HB2.out)
      clear hb2 hbox HCK HB1 HS HW
      go_wp2
      go_loop [7, 21] (fun s i => ∃ k : Nat, k ≤ lw ∧ i = .int .i64 k ∧ s = .int .i64 (runL N (l.take k) : Nat) ∧ ∀ j, j < k → 0 ≤ l.getD j 0 ∧ l.getD j 0 < (m : Int)) (fun _ i => lw - (intOf i).toNat)
      case atStart => exact ⟨0, by omega, rfl, by simp [runL], by omega⟩
      case round =>
        obtain ⟨k, hk, rfl, rfl, hd⟩ := hrel
        have HD := hide hd
        clear hd
        by_cases hlt : k < lw
        · have hlti : (k : Int) < (lw : Int) := by omega
          have hsl := HLT.out k (by omega) HD.out
          have HTS' := hide (HTS.out k hlt)
          obtain ⟨bw, ow, rfl, hcw⟩ := sl_cell HW2.out k hlt
          have HD' : Hid (0 ≤ l.getD k 0 ∧ l.getD k 0 < (m : Int) → ∀ j, j < k + 1 → 0 ≤ l.getD j 0 ∧ l.getD j 0 < (m : Int)) := by
            intro h j hj
            by_cases e : j = k
            · subst e; exact h
            · exact HD.out j (by omega)
          have HB' := hide (HBAD.out k hlt)
          generalize runL N (l.take k) = s at hsl HTS' ⊢
          generalize l.getD k 0 = x at hcw HD' HB' HTS'
          obtain ⟨bn, on, a1, c1, rfl, hcn, hsl1⟩ := sl2_cell HS2.out s hsl
          rw [HROW.out s hsl] at hcn hsl1
          have hsli : (s : Int) < (len : Int) := by omega
          by_cases hx : 0 ≤ x ∧ x < (m : Int)
          · have HD2 := hide (HD'.out hx)
            have HST' := hide (HST.out s hsl x hx)
            obtain ⟨y, rfl⟩ : ∃ y : Nat, x = y := ⟨x.toNat, by omega⟩
            have hy : y < m := by omega
            have hyi : (y : Int) < (m : Int) := by omega
            obtain ⟨b1, o1, rfl, hc1⟩ := sl_cell hsl1 y hy
            rw [Int.toNat_natCast] at HST'
            rw [← HST'.out.2] at hc1
            clear hsl1 HB' HD' hx
            generalize stepL N s (y : Int) = s' at hc1 HTS'
            go_wp2
            go_round
            case rel => exact ⟨k + 1, by omega, by go_num, by rw [HTS'.out], HD2.out⟩
            case measure => simp [intOf]; omega
          · have HB2' := hide (HB'.out hx)
            have hx' : x < 0 ∨ (¬ x < 0 ∧ (m : Int) ≤ x) := by omega
            clear hx hsl1
            rcases hx' with hx | ⟨hx1, hx2⟩
            all_goals
              go_wp2
              go_ret2
              exact ⟨by rw [HR1.out HB2'.out]; simp, HB2.out⟩
        · have hlti : ¬ ((k : Int) < (lw : Int)) := by omega
          obtain rfl : k = lw := by omega
          have HC := hide (HGOOD.out HD.out)
          rw [HEND.out]
          go_wp2
          go_ret2
          exact ⟨by rw [HR0.out HC.out]; simp, HB2.out⟩
  · have hC : runC b t N len' l = autoC b t N len' := by unfold runC; rw [if_neg hA]
    have hS : runS b t N len' l = 0 := by unfold runS; rw [hC, if_neg hA]
    rw [hC, hS]
    rw [errV_no hA] at HCK ⊢
    clear hC hS
    generalize autoC b t N len' = c at HCK ⊢
    go_enter Try.func14, Try.ntmps14
    go_wp2_with fail
    refine HCK.out.mono ?_
    rintro e w2 ⟨rfl, hb2⟩
    have HB2 := hide (below_step HB1.out hb2)
    clear hb2
    go_wp2
    go_ret2
    exact ⟨by simp, HB2.out⟩

set_option maxHeartbeats 4000000 in
set_option maxRecDepth 4000 in
theorem takes_u (b t : Int) (a a' : Option Addr) (len cap len' cap' : Nat) (N : List (List Int)) (E : List Bool) (aw : Option Addr) (lw cw : Nat) (l : List Int) (w : World) (hs : Sl2 w a len N) (he : SlB w a' len' E) (hw : Sl w aw lw l) :
    Calls Try.prog 7 #[.agg #[.int .i64 b, .int .i64 t, .slice a len cap, .slice a' len' cap'], .slice aw lw cw] w fun e w' => e = .returned (.tuple #[.bool (takesB b t N E l), errV (runC b t N len' l)]) ∧ Below w.heap.size w w' := by
  have hLE := he.1
  have HB1 : Hid (Below w.heap.size w (w.alloc (.cells #[.int .i64 b, .int .i64 t, .slice a len cap, .slice a' len' cap'] 25))) := (Below.refl _ _).alloc (Nat.le_refl _) _
  have HRU := hide (run_u b t a a' len cap len' cap' N aw lw cw l _ (sl2_below hs HB1.out) he.2.1 (sl_below hw HB1.out))
  have HE := hide (slB_below he HB1.out)
  by_cases hC : runC b t N len' l = 0
  · have hS : runS b t N len' l = runL N l := by unfold runS; rw [if_pos hC]
    have hT : takesB b t N E l = E.getD (runL N l) false := by unfold takesB; rw [hLE, if_pos hC]
    have hlt : runL N l < len' := by
      have hA : autoC b t N len' = 0 := by
        apply Classical.byContradiction
        intro h
        unfold runC at hC
        rw [if_neg h] at hC
        exact h hC
      unfold runC at hC
      rw [if_pos hA] at hC
      obtain ⟨_, hE, hG, _⟩ := autoC_zero hA
      rw [hE]
      have := runL_lt hG l l.length (Nat.le_refl _) (wordC_zero hC).2
      rwa [List.take_of_length_le (Nat.le_refl _)] at this
    rw [hT, hC]
    rw [hS, hC] at HRU
    clear hs he hw hC hS hT
    generalize runL N l = s at hlt HRU ⊢
    have hlti : (s : Int) < (len' : Int) := by omega
    rw [errV_yes rfl] at HRU ⊢
    obtain ⟨x, hx⟩ : ∃ x, E.getD s false = x := ⟨_, rfl⟩
    rw [hx]
    have HX := hide hx
    clear hx
    go_enter Try.func7, Try.ntmps7
    go_wp2_with fail
    refine HRU.out.mono ?_
    rintro e w2 ⟨rfl, hb2⟩
    have HB2 := hide (below_step HB1.out hb2)
    have hbx := (box4 hb2).2.2.2
    obtain ⟨be, oe, rfl, hce⟩ := slB_cell (slB_below HE.out hb2) s hlt
    clear hb2 HRU HE HB1
    rw [HX.out] at hce
    go_wp2
    go_ret2
    exact ⟨by simp, HB2.out⟩
  · have hT : takesB b t N E l = false := by unfold takesB; rw [hLE, if_neg hC]
    rw [hT]
    rw [errV_no hC] at HRU ⊢
    clear hs he hw hC hT HE
    generalize runS b t N len' l = s at HRU
    generalize runC b t N len' l = c at HRU ⊢
    go_enter Try.func7, Try.ntmps7
    go_wp2_with fail
    refine HRU.out.mono ?_
    rintro e w2 ⟨rfl, hb2⟩
    have HB2 := hide (below_step HB1.out hb2)
    clear hb2
    go_wp2
    go_ret2
    exact ⟨by simp, HB2.out⟩
end Go.Proofs.Ytpkjnkcdajngkaa
