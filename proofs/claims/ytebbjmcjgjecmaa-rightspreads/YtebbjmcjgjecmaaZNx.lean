/- 10 texts in one. -/
import Derived.Deep.AppendLies
import Derived.OneCell
import Derived.Test.YtebbjmcjgjecmaaLs
import Derived.Test.YtebbjmcjgjecmaaZG
/- Slices of slices of numbers: as they are read, and as a call builds them. -/
namespace Go.Proofs.Ytebbjmcjgjecmaa
open Go.RowKit

/-- The slice reads as rows of numbers. -/
def Sl2 (w : World) (a : Option Addr) (len : Nat) (ls : List (List Int)) : Prop :=
  ls.length = len ∧ len ≤ maxLen ∧
  (len = 0 ∨ ∃ b o, a = some ⟨b, o, none⟩ ∧ ∀ i, i < len → ∃ a' cap', w.cell? ⟨b, o + i, none⟩ = some (.slice a' (ls.getD i []).length cap') ∧ Sl w a' (ls.getD i []).length (ls.getD i []))

theorem sl2_below {w W : World} {a : Option Addr} {len : Nat} {ls : List (List Int)} (h : Sl2 w a len ls) (hb : Below w.heap.size w W) : Sl2 W a len ls := by
  obtain ⟨h1, h2, h3⟩ := h
  refine ⟨h1, h2, ?_⟩
  rcases h3 with h3 | ⟨b, o, rfl, hc⟩
  · exact Or.inl h3
  · refine Or.inr ⟨b, o, rfl, fun i hi => ?_⟩
    obtain ⟨a', cap', h4, h5⟩ := hc i hi
    refine ⟨a', cap', ?_, sl_below h5 hb⟩
    rw [hb.cell (p := ⟨b, o + i, none⟩) (World.block_lt_of_cell? w _ h4)]
    exact h4

theorem sl2_cell {w : World} {a : Option Addr} {len : Nat} {ls : List (List Int)} (h : Sl2 w a len ls) (i : Nat) (hi : i < len) :
    ∃ b o a' cap', a = some ⟨b, o, none⟩ ∧ w.cell? ⟨b, o + i, none⟩ = some (.slice a' (ls.getD i []).length cap') ∧ Sl w a' (ls.getD i []).length (ls.getD i []) := by
  rcases h.2.2 with h0 | ⟨b, o, rfl, hc⟩
  · omega
  · obtain ⟨a', cap', h4, h5⟩ := hc i hi
    exact ⟨b, o, a', cap', rfl, h4, h5⟩

theorem ownsRow_of_block {w w' : World} {base : Nat} {e : TypeId} {size : Nat} {v : Value} {n : Nat} {xs : List Value} (h : w.ownsRow base e size v n xs) (hb : ∀ k, v.ownBlock = some k → w'.heap[k]? = w.heap[k]?) : w'.ownsRow base e size v n xs := by
  obtain ⟨h1, h2⟩ := h
  refine ⟨h1, ?_⟩
  rcases h2 with h2 | ⟨g, cap, cur, rfl, hg, hh, r⟩
  · exact Or.inl h2
  · exact Or.inr ⟨g, cap, cur, rfl, hg, by rw [hb g rfl]; exact hh, r⟩

/-- The block of a slice that is not empty. -/
def slB (a : Option Addr) (len : Nat) (x : Nat) : Prop := 0 < len ∧ ∃ ad, a = some ad ∧ ad.block = x
theorem sl_keep {w w' : World} {a : Option Addr} {len : Nat} {l : List Int} (h : Sl w a len l) (hb : ∀ x, slB a len x → w'.heap[x]? = w.heap[x]?) : Sl w' a len l := by
  obtain ⟨h1, h2, h3, h4⟩ := h
  refine ⟨h1, h2, h3, ?_⟩
  rcases h4 with h4 | ⟨b, o, rfl, hc⟩
  · exact Or.inl h4
  · refine Or.inr ⟨b, o, rfl, fun i hi => ?_⟩
    rw [World.cell?_of_block (w := w) (hb b ⟨by omega, _, rfl, rfl⟩)]
    exact hc i hi
theorem slB_lt {w : World} {a : Option Addr} {len : Nat} {l : List Int} (h : Sl w a len l) {x : Nat} (hx : slB a len x) : x < w.heap.size := by
  obtain ⟨h0, ad, rfl, rfl⟩ := hx
  obtain ⟨b, o, e, hc⟩ := sl_cell h 0 h0
  cases e
  exact World.block_lt_of_cell? w _ hc

end Go.Proofs.Ytebbjmcjgjecmaa

/- The contract of auto.Check. -/
namespace Go.Proofs.Ytebbjmcjgjecmaa
open Go.RowKit

theorem errV_no {c : Int} (h : c ≠ 0) : errV c = .iface 44 (.int .i64 c) := by unfold errV; rw [if_neg h]
theorem errV_yes {c : Int} (h : c = 0) : errV c = .nilIface := by unfold errV; rw [if_pos h]

set_option maxHeartbeats 1000000 in
set_option maxRecDepth 4000 in
theorem nexts_u (a : Option Addr) (len cap : Nat) (r : List Int) (m n : Nat) (w : World) (hs : Sl w a len r) :
    Calls Try.prog 46 #[.slice a len cap, .int .i64 m, .int .i64 n] w fun e w' => e = .returned (errV (rowC m n r)) ∧ w' = w := by
  have hm := hs.2.1
  unfold maxLen at hm
  have hL := hs.1
  by_cases hlen : len = m
  · have HB := hide (fun k => @rowC_bad m n r (hL.trans hlen) k)
    have HG := hide (@rowC_good m n r (hL.trans hlen))
    subst hlen
    have HS := hide hs
    clear hs hL
    generalize hR : rowC len n r = R at HB HG ⊢
    clear hR
    have hne : ((len : Int) != (len : Int)) = false := by simp
    go_enter Try.func46, Try.ntmps46
    go_wp2
    go_loop [16] (fun i => ∃ k : Nat, k ≤ len ∧ i = .int .i64 k ∧ ∀ j, j < k → 0 ≤ r.getD j 0 ∧ r.getD j 0 < (n : Int)) (fun i => len - (intOf i).toNat)
    case atStart => exact ⟨0, by omega, rfl, by omega⟩
    case round =>
      obtain ⟨k, hk, rfl, hd⟩ := hrel
      have HD := hide hd
      clear hd
      by_cases hlt : k < len
      · have hlti : (k : Int) < (len : Int) := by omega
        obtain ⟨bb, o, rfl, hck⟩ := sl_cell HS.out k hlt
        have HB' := hide (HB.out k hlt)
        have HD' : Hid (0 ≤ r.getD k 0 ∧ r.getD k 0 < (n : Int) → ∀ j, j < k + 1 → 0 ≤ r.getD j 0 ∧ r.getD j 0 < (n : Int)) := by
          intro h j hj
          by_cases e : j = k
          · subst e; exact h
          · exact HD.out j (by omega)
        generalize r.getD k 0 = x at hck HB' HD'
        by_cases hx : 0 ≤ x ∧ x < (n : Int)
        · have HD2 := hide (HD'.out hx)
          obtain ⟨hx1, hx2⟩ := hx
          go_wp2
          go_round
          case rel => exact ⟨k + 1, by omega, by go_num, HD2.out⟩
          case measure => simp [intOf]; omega
        · have HB2 := hide (HB'.out hx)
          have hx' : x < 0 ∨ (¬ x < 0 ∧ (n : Int) ≤ x) := by omega
          clear hx
          rcases hx' with hx | ⟨hx1, hx2⟩
          all_goals
            go_wp2
            go_ret
            exact ⟨by rw [HB2.out]; simp [errV], rfl⟩
      · have hlti : ¬ ((k : Int) < (len : Int)) := by omega
        have HG2 := hide (HG.out fun j hj => HD.out j (by omega))
        go_wp2
        go_ret
        exact ⟨by rw [HG2.out]; simp [errV], rfl⟩
  · have hR := @rowC_long m n r (by omega)
    have hne : ((len : Int) != (m : Int)) = true := by simp; omega
    rw [hR]
    go_enter Try.func46, Try.ntmps46
    go_wp2
    go_ret
    exact ⟨by simp [errV], rfl⟩

set_option maxHeartbeats 4000000 in
set_option maxRecDepth 4000 in
theorem check_w (M b t : Int) (a a' : Option Addr) (len cap len' cap' : Nat) (N : List (List Int)) (w : World) (hs : Sl2 w a len N) (hm' : len' ≤ maxLen) :
    Calls Try.prog 35 #[.agg #[.int .i64 b, .int .i64 t, .slice a len cap, .slice a' len' cap'], .int .i64 M] w fun e w' => e = .returned (errV (autoM M b t N len')) ∧ Below w.heap.size w w' := by
  have hL := hs.1
  have hm := hs.2.1
  unfold maxLen at hm hm'
  have HMU := hide (fun W => many_u b t W)
  by_cases hM : codeM b t = 0
  · have hlo := pw_pos (kindsI b) (kinds_bd2 b (codeM_zero hM).2.1).1 t.toNat
    have hhi := (codeM_zero hM).2.2.2.2.1
    have hmu := (codeM_zero hM).2.2.2.2.2
    rw [← hmu] at hlo hhi
    obtain ⟨m, hmm⟩ : ∃ m : Nat, manyU b t = m := ⟨(manyU b t).toNat, by omega⟩
    have HA : Hid (autoM M b t N len' = if len = 0 then 4 else if M < (len : Int) then 3 else if len' = len then rowsC m len N else 2) := by
      show _ = _
      unfold autoM
      rw [if_pos hM, hL, hmm, Int.toNat_natCast]
    rw [hmm, errV_yes hM] at HMU
    clear hM hlo hhi hmu hmm
    generalize autoM M b t N len' = R at HA ⊢
    by_cases h0 : len = 0
    · rw [if_pos h0] at HA
      subst h0
      go_enter Try.func35, Try.ntmps35
      go_wp2_with (go_at_call 9; refine (HMU.out _).mono ?_; rintro e w' ⟨rfl, rfl⟩)
      go_ret
      exact ⟨by rw [HA.out]; simp [errV], (Below.refl _ _).alloc (Nat.le_refl _) _⟩
    · rw [if_neg h0] at HA
      have h0' : ((len : Int) == 0) = false := by simp; omega
      by_cases h80 : M < (len : Int)
      · rw [if_pos h80] at HA
        go_enter Try.func35, Try.ntmps35
        go_wp2_with (go_at_call 9; refine (HMU.out _).mono ?_; rintro e w' ⟨rfl, rfl⟩)
        go_ret
        exact ⟨by rw [HA.out]; simp [errV], (Below.refl _ _).alloc (Nat.le_refl _) _⟩
      · rw [if_neg h80] at HA
        by_cases hE : len' = len
        · rw [if_pos hE] at HA
          subst hE
          have hee : ((len' : Int) != (len' : Int)) = false := by simp
          have HS := hide (sl2_below hs ((Below.refl _ _).alloc (Nat.le_refl _) (.cells #[.int .i64 b, .int .i64 t, .slice a len' cap, .slice a' len' cap'] 25)))
          have HB : Hid (Below w.heap.size w (w.alloc (.cells #[.int .i64 b, .int .i64 t, .slice a len' cap, .slice a' len' cap'] 25))) := (Below.refl _ _).alloc (Nat.le_refl _) _
          have HNX := hide (fun W a1 l1 c1 r h => nexts_u a1 l1 c1 r m len' W h)
          have HAT := hide (fun k => @rowsC_at m len' N k)
          have HALL := hide (@rowsC_all m len' N)
          rw [hL] at HALL
          have hN : N.length = len' := hL
          clear hs hL
          go_enter Try.func35, Try.ntmps35
          go_wp2_with (go_at_call 9; refine (HMU.out _).mono ?_; rintro e w' ⟨rfl, rfl⟩)
          go_loop [43] (fun i => ∃ k : Nat, k ≤ len' ∧ i = .int .i64 k ∧ ∀ j, j < k → rowC m len' (N.getD j []) = 0) (fun i => len' - (intOf i).toNat)
          case atStart => exact ⟨0, by omega, rfl, by omega⟩
          case round =>
            obtain ⟨k, hk, rfl, hd⟩ := hrel
            have HD := hide hd
            clear hd
            by_cases hlt : k < len'
            · have hlti : (k : Int) < (len' : Int) := by omega
              obtain ⟨bb, o, a1, c1, rfl, hck, hsl⟩ := sl2_cell HS.out k hlt
              have HNX' := hide (HNX.out _ a1 _ c1 _ hsl)
              have HAT' := hide (HAT.out k (by omega) HD.out)
              have HD' : Hid (rowC m len' (N.getD k []) = 0 → ∀ j, j < k + 1 → rowC m len' (N.getD j []) = 0) := by
                intro h j hj
                by_cases e : j = k
                · subst e; exact h
                · exact HD.out j (by omega)
              clear hsl
              generalize rowC m len' (N.getD k []) = C at HNX' HAT' HD'
              generalize (N.getD k []).length = rl at hck HNX'
              by_cases hC : C = 0
              · have HD2 := hide (HD'.out hC)
                rw [errV_yes hC] at HNX'
                clear HAT' HD' hC
                go_wp2_with (go_at_call 46; refine HNX'.out.mono ?_; rintro e w' ⟨rfl, rfl⟩)
                go_round
                case rel => exact ⟨k + 1, by omega, by go_num, HD2.out⟩
                case measure => simp [intOf]; omega
              · have HR := hide (HAT'.out hC)
                rw [HR.out] at HA
                rw [errV_no hC] at HNX'
                clear HAT' HD' HR
                go_wp2_with (go_at_call 46; refine HNX'.out.mono ?_; rintro e w' ⟨rfl, rfl⟩)
                go_ret
                exact ⟨by rw [HA.out, errV_no hC]; simp, HB.out⟩
            · have hlti : ¬ ((k : Int) < (len' : Int)) := by omega
              have HR := hide (HALL.out fun j hj => HD.out j (by omega))
              rw [HR.out] at HA
              go_wp2
              go_ret
              exact ⟨by rw [HA.out]; simp [errV], HB.out⟩
        · rw [if_neg hE] at HA
          have hee : ((len' : Int) != (len : Int)) = true := by simp; omega
          go_enter Try.func35, Try.ntmps35
          go_wp2_with (go_at_call 9; refine (HMU.out _).mono ?_; rintro e w' ⟨rfl, rfl⟩)
          go_ret
          exact ⟨by rw [HA.out]; simp [errV], (Below.refl _ _).alloc (Nat.le_refl _) _⟩
  · have HA : Hid (autoM M b t N len' = codeM b t) := by show _ = _; unfold autoM; rw [if_neg hM]
    rw [HA.out]
    rw [errV_no hM] at HMU ⊢
    generalize codeM b t = c at HMU ⊢
    go_enter Try.func35, Try.ntmps35
    go_wp2_with (go_at_call 9; refine (HMU.out _).mono ?_; rintro e w' ⟨rfl, rfl⟩)
    go_ret
    exact ⟨by simp, (Below.refl _ _).alloc (Nat.le_refl _) _⟩

set_option maxHeartbeats 1000000 in
set_option maxRecDepth 4000 in
theorem check_u (b t : Int) (a a' : Option Addr) (len cap len' cap' : Nat) (N : List (List Int)) (w : World) (hs : Sl2 w a len N) (hm' : len' ≤ maxLen) :
    Calls Try.prog 25 #[.agg #[.int .i64 b, .int .i64 t, .slice a len cap, .slice a' len' cap']] w fun e w' => e = .returned (errV (autoC b t N len')) ∧ Below w.heap.size w w' := by
  have hB := (Below.refl w.heap.size w).alloc (Nat.le_refl _) (.cells #[.int .i64 b, .int .i64 t, .slice a len cap, .slice a' len' cap'] 25)
  have HCK := hide (check_w 80 b t a a' len cap len' cap' N _ (sl2_below hs hB) hm')
  rw [autoM_80] at HCK
  have HB := hide hB
  clear hs hB
  generalize autoC b t N len' = c at HCK ⊢
  go_enter Try.func25, Try.ntmps25
  go_wp2_with fail
  refine HCK.out.mono ?_
  rintro e w2 ⟨rfl, hb2⟩
  have HB2 := hide (below_step HB.out hb2)
  clear hb2
  go_wp2
  go_ret
  exact ⟨rfl, HB2.out⟩
end Go.Proofs.Ytebbjmcjgjecmaa

/- The contracts of auto.Run and auto.Takes. -/
namespace Go.Proofs.Ytebbjmcjgjecmaa
open Go.RowKit

/-- The slice reads as these truths. -/
def SlB (w : World) (a : Option Addr) (len : Nat) (E : List Bool) : Prop :=
  E.length = len ∧ len ≤ maxLen ∧ (len = 0 ∨ ∃ b o, a = some ⟨b, o, none⟩ ∧ ∀ i, i < len → w.cell? ⟨b, o + i, none⟩ = some (.bool (E.getD i false)))
theorem slB_below {w W : World} {a : Option Addr} {len : Nat} {E : List Bool} (h : SlB w a len E) (hb : Below w.heap.size w W) : SlB W a len E := by
  obtain ⟨h1, h2, h3⟩ := h
  refine ⟨h1, h2, ?_⟩
  rcases h3 with h3 | ⟨b, o, rfl, hc⟩
  · exact Or.inl h3
  · refine Or.inr ⟨b, o, rfl, fun i hi => ?_⟩
    have := hc i hi
    rw [hb.cell (p := ⟨b, o + i, none⟩) (World.block_lt_of_cell? w _ this)]
    exact this
theorem slB_cell {w : World} {a : Option Addr} {len : Nat} {E : List Bool} (h : SlB w a len E) (i : Nat) (hi : i < len) : ∃ b o, a = some ⟨b, o, none⟩ ∧ w.cell? ⟨b, o + i, none⟩ = some (.bool (E.getD i false)) := by
  rcases h.2.2 with h0 | ⟨b, o, rfl, hc⟩
  · omega
  · exact ⟨b, o, rfl, hc i hi⟩

/-- An automaton's box. -/
theorem box4 {w w' : World} {v0 v1 v2 v3 : Value} {T : TypeId} (hb : Below (w.alloc (.cells #[v0, v1, v2, v3] T)).heap.size (w.alloc (.cells #[v0, v1, v2, v3] T)) w') :
    w'.cell? ⟨w.heap.size, 0, none⟩ = some v0 ∧ w'.cell? ⟨w.heap.size, 1, none⟩ = some v1 ∧ w'.cell? ⟨w.heap.size, 2, none⟩ = some v2 ∧ w'.cell? ⟨w.heap.size, 3, none⟩ = some v3 := by
  have key : ∀ i, w'.cell? ⟨w.heap.size, i, none⟩ = #[v0, v1, v2, v3][i]? := fun i => by
    rw [hb.cell (p := ⟨w.heap.size, i, none⟩) (by simp)]
    exact cell_of_row _ _ i _ T (0, 0) (heap_alloc_last w _)
  exact ⟨key 0, key 1, key 2, key 3⟩

/-- An automaton in its box, and what its slices read as. -/
def AutoAt (W : World) (B : Nat) (b t : Int) (a : Option Addr) (len cap : Nat) (a' : Option Addr) (len' cap' : Nat) (N : List (List Int)) (E : List Bool) : Prop :=
  (W.cell? ⟨B, 0, none⟩ = some (.int .i64 b) ∧ W.cell? ⟨B, 1, none⟩ = some (.int .i64 t) ∧ W.cell? ⟨B, 2, none⟩ = some (.slice a len cap) ∧ W.cell? ⟨B, 3, none⟩ = some (.slice a' len' cap')) ∧ Sl2 W a len N ∧ SlB W a' len' E
theorem autoAt_below {W W' : World} {B : Nat} {b t : Int} {a : Option Addr} {len cap : Nat} {a' : Option Addr} {len' cap' : Nat} {N : List (List Int)} {E : List Bool} (h : AutoAt W B b t a len cap a' len' cap' N E) (hb : Below W.heap.size W W') : AutoAt W' B b t a len cap a' len' cap' N E := by
  obtain ⟨⟨h0, h1, h2, h3⟩, h4, h5⟩ := h
  have hlt := World.block_lt_of_cell? W _ h0
  exact ⟨⟨(hb.cell (p := ⟨B, 0, none⟩) hlt).trans h0, (hb.cell (p := ⟨B, 1, none⟩) hlt).trans h1, (hb.cell (p := ⟨B, 2, none⟩) hlt).trans h2, (hb.cell (p := ⟨B, 3, none⟩) hlt).trans h3⟩, sl2_below h4 hb, slB_below h5 hb⟩
theorem autoAt_new {w : World} {b t : Int} {a : Option Addr} {len cap : Nat} {a' : Option Addr} {len' cap' : Nat} {N : List (List Int)} {E : List Bool} {T : TypeId} (h : Sl2 w a len N) (h' : SlB w a' len' E) :
    AutoAt (w.alloc (.cells #[.int .i64 b, .int .i64 t, .slice a len cap, .slice a' len' cap'] T)) w.heap.size b t a len cap a' len' cap' N E :=
  ⟨box4 (Below.refl _ _), sl2_below h ((Below.refl _ _).alloc (Nat.le_refl _) _), slB_below h' ((Below.refl _ _).alloc (Nat.le_refl _) _)⟩

end Go.Proofs.Ytebbjmcjgjecmaa

/- The reference's likes: contract. -/
namespace Go.Proofs.Ytebbjmcjgjecmaa
open Go.RowKit

theorem nxt_cell {m n : Nat} {N : List (List Int)} (hG : GoodN m n N) {s j : Nat} (hs : s < n) (hj : j < m) : nxt N s j < n ∧ (N.getD s []).getD j 0 = ((nxt N s j : Nat) : Int) := by
  have := (hG.2.2.2.2.2 s hs).2 j hj
  unfold nxt; omega

end Go.Proofs.Ytebbjmcjgjecmaa

/- Rounds of classes: mathematics of the reference's Shrunk. -/
namespace Go.Proofs.Ytebbjmcjgjecmaa
open Go.RowKit

/-- The classes behind k rounds, state by state. -/
def CAt (N : List (List Int)) (E : List Bool) (m n k : Nat) (C : List Int) : Prop := C.length = n ∧ ∀ s ∈ metL N, C.getD s.toNat 0 = ((clsL (simB N E m k) (repsL (simB N E m k) (metL N)) s : Nat) : Int)
theorem cAt_iff {m n : Nat} {N : List (List Int)} (E : List Bool) {k : Nat} {C : List Int} (hC : CAt N E m n k C) {s t : Int} (hs : s ∈ metL N) (ht : t ∈ metL N) : C.getD s.toNat 0 = C.getD t.toNat 0 ↔ simB N E m k s.toNat t.toNat = true := by
  rw [hC.2 s hs, hC.2 t ht, ← cls_iff (simB_eqv N E m k) hs ht]
  omega
theorem cls_step {R : Nat → Nat → Bool} (hR : EqvB R) {mt : List Int} {p : Nat} (hp : p < mt.length) :
    clsL R (repsL R mt) (mt.getD p 0) = clsL R (repsL R (mt.take p)) (mt.getD p 0) ∧ repsL R (mt.take (p + 1)) = if clsL R (repsL R (mt.take p)) (mt.getD p 0) < (repsL R (mt.take p)).length then repsL R (mt.take p) else repsL R (mt.take p) ++ [mt.getD p 0] := by
  have htake : mt.take (p + 1) = mt.take p ++ [mt.getD p 0] := by rw [List.take_succ_eq_append_getElem hp, getD_at _ p hp]
  by_cases h : ∃ r ∈ repsL R (mt.take p), R (mt.getD p 0).toNat r.toNat = true
  · have hl := cls_lt h
    have hpre := reps_prefix (R := R) (List.take_prefix p mt)
    refine ⟨cls_eq hR (Nat.lt_of_lt_of_le hl hpre.length_le) (by rw [pre_getD hpre _ hl]; exact cls_R hl), ?_⟩
    rw [if_pos hl, htake, repsL_snoc]
    unfold repAdd
    rw [if_pos (List.any_eq_true.2 h)]
  · have he : clsL R (repsL R (mt.take p)) (mt.getD p 0) = (repsL R (mt.take p)).length := by
      unfold clsL
      rw [List.findIdx_eq_length]
      intro r hr
      cases e : R (mt.getD p 0).toNat r.toNat with
      | false => rfl
      | true => exact absurd ⟨r, hr, e⟩ h
    have e1 : repsL R (mt.take (p + 1)) = repsL R (mt.take p) ++ [mt.getD p 0] := by
      rw [htake, repsL_snoc]
      unfold repAdd
      rw [if_neg (fun e => h (List.any_eq_true.1 e))]
    refine ⟨?_, by rw [if_neg (by omega), e1]⟩
    have hpre := reps_prefix (R := R) (List.take_prefix (p + 1) mt)
    rw [e1] at hpre
    have hlt : (repsL R (mt.take p)).length < (repsL R mt).length := by have := hpre.length_le; simp at this; omega
    have hg := pre_getD hpre (repsL R (mt.take p)).length (by simp)
    have e2 : (repsL R (mt.take p) ++ [mt.getD p 0]).getD (repsL R (mt.take p)).length 0 = mt.getD p 0 := by simp [List.getD]
    rw [e2] at hg
    rw [he]
    exact cls_eq hR hlt (by rw [hg]; exact hR.refl _)

/-- What is written behind p of them. -/
def freshF (R : Nat → Nat → Bool) (mt : List Int) (p q : Nat) : Int := if (q : Int) ∈ mt.take p then ((clsL R (repsL R mt) (q : Int) : Nat) : Int) else 0
theorem freshF_zero (R : Nat → Nat → Bool) (mt : List Int) (q : Nat) : freshF R mt 0 q = 0 := by simp [freshF]
theorem freshF_step {R : Nat → Nat → Bool} {mt : List Int} {p : Nat} (hp : p < mt.length) (h0 : 0 ≤ mt.getD p 0) (q : Nat) : freshF R mt (p + 1) q = if q = (mt.getD p 0).toNat then ((clsL R (repsL R mt) (mt.getD p 0) : Nat) : Int) else freshF R mt p q := by
  have htake : mt.take (p + 1) = mt.take p ++ [mt.getD p 0] := by rw [List.take_succ_eq_append_getElem hp, getD_at _ p hp]
  unfold freshF
  rw [htake]
  by_cases e : q = (mt.getD p 0).toNat
  · have e' : (q : Int) = mt.getD p 0 := by omega
    rw [if_pos e, e', if_pos (by simp)]
  · have e' : ¬ (q : Int) = mt.getD p 0 := by omega
    rw [if_neg e]
    have : ((q : Int) ∈ mt.take p ++ [mt.getD p 0]) ↔ (q : Int) ∈ mt.take p := by simp only [List.mem_append, List.mem_singleton]; exact ⟨fun h => h.resolve_right e', .inl⟩
    simp only [this]
theorem cAt_fresh {m n : Nat} {N : List (List Int)} (hG : GoodN m n N) (E : List Bool) (k : Nat) : CAt N E m n k ((List.range n).map (freshF (simB N E m k) (metL N) (metL N).length)) := by
  refine ⟨by simp, fun s hs => ?_⟩
  have hn := met_lt hG hs
  have h0 := ((met_ok hG).2 s hs).1
  have e : ((List.range n).map (freshF (simB N E m k) (metL N) (metL N).length)).getD s.toNat 0 = freshF (simB N E m k) (metL N) (metL N).length s.toNat := by simp [List.getD, hn]
  have es : ((s.toNat : Nat) : Int) = s := by omega
  rw [e]
  unfold freshF
  rw [List.take_length, es, if_pos hs]

theorem simB_le {N : List (List Int)} {E : List Bool} {m j k : Nat} (h : j ≤ k) {s t : Nat} (hs : simB N E m k s t = true) : simB N E m j s t = true := by
  obtain ⟨i, rfl⟩ : ∃ i, k = j + i := ⟨k - j, by omega⟩
  clear h
  induction i with
  | zero => exact hs
  | succ i ih => exact ih (simB_fine hs)
/-- No round has more classes than there are in the end. -/
theorem reps_bound {m n : Nat} {N : List (List Int)} (hG : GoodN m n N) (E : List Bool) (k : Nat) : (repsL (simB N E m k) (metL N)).length ≤ leastK N E m := by
  unfold leastK leastR
  rw [hG.1]
  by_cases h : k ≤ n
  · exact reps_le (R' := simB N E m n) (simB_eqv N E m k) (fun s t hs => simB_le h hs) _
  · have e : repsL (simB N E m k) (metL N) = repsL (simB N E m n) (metL N) := by
      refine reps_congr _ fun s hs t ht => ?_
      rw [Bool.eq_iff_iff]
      refine ⟨fun hh => simB_le (by omega) hh, fun hh => ?_⟩
      exact lang_sim k ((sim_all hG E (met_lt hG hs) (met_lt hG ht)).1 hh)
    rw [e]
    exact Nat.le_refl _
/-- Where a round makes no more of them, they are the least automaton's. -/
theorem round_stab {m n : Nat} {N : List (List Int)} (hG : GoodN m n N) (E : List Bool) {k : Nat} (hl : (repsL (simB N E m k) (metL N)).length = (repsL (simB N E m (k + 1)) (metL N)).length) :
    Stab N E m (simB N E m (k + 1)) ∧ quoN (simB N E m (k + 1)) (metL N) N = leastN N E m ∧ quoE (simB N E m (k + 1)) (metL N) E = leastE N E m ∧ (repsL (simB N E m (k + 1)) (metL N)).length = leastK N E m := by
  have hsame := reps_same (simB_eqv N E m k) (simB_eqv N E m (k + 1)) (fun s t => simB_fine) (metL N) hl
  have hst : Stab N E m (simB N E m (k + 1)) := by
    refine ⟨simB_eqv _ _ _ _, fun s _ t _ h => (simB_succ.1 h).1, fun s hs t ht h j hj => ?_⟩
    have h1 := (simB_succ.1 h).2.2 j hj
    have h2 := hsame _ (met_nxt hG hs j hj).1 _ (met_nxt hG ht j hj).1
    rw [Int.toNat_natCast, Int.toNat_natCast] at h2
    rw [← h2]; exact h1
  have hu := least_unique hG hst (fun s _ t _ h => lang_sim (k + 1) h)
  refine ⟨hst, hu.1, hu.2, ?_⟩
  have := congrArg List.length hu.1
  rwa [quoN_length, leastN_len] at this
/-- Else there are more. -/
theorem round_more {m n : Nat} {N : List (List Int)} (hG : GoodN m n N) (E : List Bool) {k : Nat} (hl : (repsL (simB N E m k) (metL N)).length ≠ (repsL (simB N E m (k + 1)) (metL N)).length) : (repsL (simB N E m k) (metL N)).length < (repsL (simB N E m (k + 1)) (metL N)).length := by
  have := reps_le (R' := simB N E m (k + 1)) (simB_eqv N E m k) (fun s t => simB_fine (N := N) (E := E) (m := m)) (metL N)
  have := hG.1
  omega
end Go.Proofs.Ytebbjmcjgjecmaa

/- The contract of letter.apart: the digits of each track of a word. -/
namespace Go.Proofs.Ytebbjmcjgjecmaa
open Go.RowKit

theorem infoS : (Try.prog.info? 31).map (fun i => (i.zero, i.size, i.bytes)) = some (some (.slice none 0 0), 1, 24) := by kernel_rfl
theorem make_rows (n : Nat) (hn : n ≤ 1000000000000) (w : World) : (Instr.makeSlice 22 (.int .i64 (n : Int)) (.int .i64 (n : Int))).run Try.prog w = .ok (.slice (some ⟨w.heap.size, 0, none⟩) n n) (w.alloc (.cells (madeCells #[.slice none 0 0] n) 31)) :=
  run_make_row' 22 31 (.slice none 0 0) 24 Try.underlying22 infoS rfl .i64 .i64 n (by omega) (by omega) w

end Go.Proofs.Ytebbjmcjgjecmaa

/- letter.apart, whatever is handed in; letter.Right and letter.Nums by it. -/
namespace Go.Proofs.Ytebbjmcjgjecmaa
open Go.RowKit

theorem errV_ne {c : Int} (h : c ≠ 0) : errV c = .iface 44 (.int .i64 c) := by unfold errV; rw [if_neg h]
theorem errV_zero : errV 0 = .nilIface := rfl

end Go.Proofs.Ytebbjmcjgjecmaa

/- The states that are met, as a call keeps them; the reference's Met: contract. -/
namespace Go.Proofs.Ytebbjmcjgjecmaa
open Go.RowKit

theorem infoB : (Try.prog.info? 4).map (fun i => (i.zero, i.size, i.bytes)) = some (some (.bool false), 1, 1) := by kernel_rfl
theorem make_bools (n : Nat) (hn : n ≤ 1000000000000) (w : World) : (Instr.makeSlice 23 (.int .i64 (n : Int)) (.int .i64 (n : Int))).run Try.prog w = .ok (.slice (some ⟨w.heap.size, 0, none⟩) n n) (w.alloc (.cells (madeCells #[.bool false] n) 4)) :=
  run_make_row' 23 4 (.bool false) 1 Try.underlying23 infoB rfl .i64 .i64 n (by omega) (by omega) w

/-- Which were seen, block by block. -/
theorem seen_set {W : World} {S n : Nat} {sn : List Int} (h : W.rowIs S 4 n fun p => .bool (decide ((p : Int) ∈ sn))) (x : Nat) : (W.setCell ⟨S, x, none⟩ (.bool true)).rowIs S 4 n fun p => .bool (decide ((p : Int) ∈ sn ++ [(x : Int)])) := by
  refine (h.set x (.bool true)).congr fun p hp => ?_
  by_cases e : p = x
  · subst e; simp
  · rw [if_neg e]
    have : ¬ ((p : Int) = (x : Int)) := by omega
    simp [this]

def MetAt (w : World) (n : Nat) (sn o : List Int) (v : Value) (W : World) : Prop :=
  (W.rowIs w.heap.size 4 n fun p => .bool (decide ((p : Int) ∈ sn))) ∧ W.ownsRow w.heap.size 3 1 v o.length (o.map (Value.int .i64)) ∧ Below w.heap.size w W

theorem metAt_start {w : World} {n : Nat} : MetAt w n [0] [0] (.slice (some ⟨w.heap.size + 1, 0, none⟩) 1 1) ((w.alloc (.cells ((madeCells #[.bool false] n).setIfInBounds 0 (.bool true)) 4)).alloc (.cells #[.int .i64 0] 3)) := by
  refine ⟨World.rowIs.alloc ⟨_, heap_alloc_last w _, ?_, fun p hp => ?_⟩ _, ⟨by simp, Or.inr ⟨w.heap.size + 1, 1, #[.int .i64 0], rfl, by omega, ?_, by simp, by decide, by simp, by simp⟩⟩, ((Below.refl _ _).alloc (Nat.le_refl _) _).alloc (by simp) _⟩
  · obtain ⟨c, hb, hn, hc⟩ := World.rowIs_made w (.bool false) n 4
    rw [heap_alloc_last] at hb
    cases hb
    simpa using hn
  · obtain ⟨c, hb, hn, hc⟩ := (World.rowIs_made w (.bool false) n 4)
    rw [heap_alloc_last] at hb
    cases hb
    rw [Array.getElem?_setIfInBounds]
    by_cases e : p = 0
    · subst e; simp [hn, hp]
    · rw [if_neg (fun h => e h.symm), hc p hp]
      simp [e]
  · have := heap_alloc_last (w.alloc (.cells ((madeCells #[.bool false] n).setIfInBounds 0 (.bool true)) 4)) (.cells #[.int .i64 0] 3)
    simpa using this
theorem one_new_at (w : World) (x : Value) (t : TypeId) (H : Nat) (hH : w.heap.size = H) : ∀ j u, [x][j]? = some u → (w.alloc (.cells #[x] t)).cell? ((⟨H, 0, none⟩ : Addr).add j) = some u := by
  subst hH
  exact one_new w x t
theorem okO_wf {n : Nat} (hn : n ≤ 4000000) {o : List Int} (h : OkO n o) : ∀ x ∈ o, (Lit.int .i64 x).wf = true := fun x hx => Go.WalkArith.wf_i64 (by have := h.2 x hx; omega)
end Go.Proofs.Ytebbjmcjgjecmaa

/- An automaton that a call builds in a variable's box, row by row and end by end. -/
namespace Go.Proofs.Ytebbjmcjgjecmaa
open Go.RowKit

/-- The box at B (the first block behind wb): qn rows, each in a block of its own, and qe ends. -/
def OutAt (wb : World) (b t : Int) (rows : Nat → List Int) (es : Nat → Bool) (qn qe : Nat) (W : World) : Prop :=
  ∃ (vN vE : Value) (vals : List Value), W.heap[wb.heap.size]? = some (.cells #[.int .i64 b, .int .i64 t, vN, vE] 25 (0, 0)) ∧
    W.ownsRow (wb.heap.size + 1) 31 1 vN qn vals ∧ W.ownsRow (wb.heap.size + 1) 4 1 vE qe ((List.range qe).map fun j => Value.bool (es j)) ∧
    (∀ j, j < qn → ∃ a cap, vals[j]? = some (.slice a (rows j).length cap) ∧ SlN (wb.heap.size + 1) W a (rows j).length (rows j) ∧ ∀ x, slB a (rows j).length x → vN.ownBlock ≠ some x ∧ vE.ownBlock ≠ some x) ∧
    Below wb.heap.size wb W

theorem outAt_start (wb : World) (b t : Int) (rows : Nat → List Int) (es : Nat → Bool) : OutAt wb b t rows es 0 0 (wb.alloc (.cells #[.int .i64 b, .int .i64 t, .slice none 0 0, .slice none 0 0] 25)) :=
  ⟨.slice none 0 0, .slice none 0 0, [], heap_alloc_last wb _, World.ownsRow_nil _ _ _ _, World.ownsRow_nil _ _ _ _, fun j hj => by omega, (Below.refl _ _).alloc (Nat.le_refl _) _⟩
theorem outAt_below {wb : World} {b t : Int} {rows : Nat → List Int} {es : Nat → Bool} {qn qe : Nat} {W W2 : World} (h : OutAt wb b t rows es qn qe W) (hb : Below W.heap.size W W2) : OutAt wb b t rows es qn qe W2 := by
  obtain ⟨vN, vE, vals, h1, h2, h3, h4, h5⟩ := h
  have hlt := (Array.getElem?_eq_some_iff.1 h1).1
  refine ⟨vN, vE, vals, (hb.block _ hlt).trans h1, ownsRow_of_block h2 (fun x hx => hb.block _ (h2.lt x hx).2), ownsRow_of_block h3 (fun x hx => hb.block _ (h3.lt x hx).2), fun j hj => ?_, below_step h5 hb⟩
  obtain ⟨a, cap, e1, e2, e3⟩ := h4 j hj
  exact ⟨a, cap, e1, ⟨sl_below e2.1 hb, e2.2⟩, e3⟩

theorem t_sb : (31 : TypeId) ≠ 4 := by decide
theorem owns_apart {W : World} {base e e' : Nat} (hne : e ≠ e') {v v' : Value} {n n' : Nat} {xs xs' : List Value} (h : W.ownsRow base e 1 v n xs) (h' : W.ownsRow base e' 1 v' n' xs') {x : Nat} (hx : v.ownBlock = some x) (hx' : v'.ownBlock = some x) : False := by
  rcases h.2 with ⟨rfl, _⟩ | ⟨g, cap, cur, rfl, _, hg, _⟩
  · simp [Value.ownBlock] at hx
  · rcases h'.2 with ⟨rfl, _⟩ | ⟨g', cap', cur', rfl, _, hg', _⟩
    · simp [Value.ownBlock] at hx'
    · simp [Value.ownBlock] at hx hx'
      subst hx; subst hx'
      rw [hg] at hg'
      simp at hg'
      exact hne hg'.2
theorem set_box {W : World} {B : Nat} {v0 v1 v2 v3 : Value} {T : TypeId} (h : W.heap[B]? = some (.cells #[v0, v1, v2, v3] T (0, 0))) (v : Value) : (W.setCell ⟨B, 2, none⟩ v).heap[B]? = some (.cells #[v0, v1, v, v3] T (0, 0)) ∧ (W.setCell ⟨B, 3, none⟩ v).heap[B]? = some (.cells #[v0, v1, v2, v] T (0, 0)) := by
  constructor <;> simp [World.setCell, Array.getElem?_modify, h]

/-- One row more. -/
theorem outAt_N {wb : World} {b t : Int} {rows : Nat → List Int} {es : Nat → Bool} {q qe : Nat} {W W2 : World} {ar : Option Addr} {cr : Nat} (h : OutAt wb b t rows es q qe W) (hb : Below W.heap.size W W2) (hs : SlN W.heap.size W2 ar (rows q).length (rows q)) :
    ∃ (vN : Value) (vals : List Value), W2.cell? ⟨wb.heap.size, 2, none⟩ = some vN ∧ W2.ownsRow (wb.heap.size + 1) 31 1 vN q vals ∧ wb.heap.size + 1 ≤ W2.heap.size ∧
      ∀ (w3 : World) (o : Obj) (g' cap' : Nat), w3.ownsRow (wb.heap.size + 1) 31 1 (.slice (some ⟨g', 0, none⟩) (q + 1) cap') (q + 1) (vals ++ [.slice ar (rows q).length cr]) → (W2.alloc o).grownBy w3 vN.ownBlock → (vN.ownBlock = some g' ∨ g' = W2.heap.size + 1) →
        (w3.cell? ⟨wb.heap.size, 2, none⟩ = some vN ∧ w3.frozen? ⟨wb.heap.size, 2, none⟩ = false) ∧ OutAt wb b t rows es (q + 1) qe (w3.setCell ⟨wb.heap.size, 2, none⟩ (.slice (some ⟨g', 0, none⟩) (q + 1) cap')) := by
  have hl1 : wb.heap.size + 1 ≤ W.heap.size := by
    obtain ⟨_, _, _, h1, _⟩ := h
    exact (Array.getElem?_eq_some_iff.1 h1).1
  have hsz2 := hb.size
  have hOld := h
  obtain ⟨vN, vE, vals, h1, h2, h3, h4, h5⟩ := outAt_below h hb
  have hvl : vals.length = q := by have := h2.1; omega
  have hBlt := (Array.getElem?_eq_some_iff.1 h1).1
  -- the new row's block is none of what is held
  have hnew : ∀ x, slB ar (rows q).length x → vN.ownBlock ≠ some x ∧ vE.ownBlock ≠ some x := by
    obtain ⟨uN, uE, us, g1, g2, g3, _, _⟩ := hOld
    have e1 := (hb.block _ (Array.getElem?_eq_some_iff.1 g1).1).trans g1
    rw [h1] at e1
    simp at e1
    rw [e1.1, e1.2]
    rintro x ⟨_, ad, e, rfl⟩
    have hge := hs.2 ad e
    exact ⟨fun e' => by have := (g2.lt _ e').2; omega, fun e' => by have := (g3.lt _ e').2; omega⟩
  refine ⟨vN, vals, by simp [World.cell?, h1], h2, by omega, fun w3 o g' cap' hown hgrow hat => ?_⟩
  have hsz : (W2.alloc o).heap.size = W2.heap.size + 1 := by simp
  have hkeep : ∀ x, x < W2.heap.size → vN.ownBlock ≠ some x → w3.heap[x]? = W2.heap[x]? := fun x hx hne => by
    rw [hgrow.block x (by omega) (fun e => hne e.symm), Below.heap_alloc _ _ _ hx]
  have hNB : vN.ownBlock ≠ some wb.heap.size := fun e => by have := (h2.lt _ e).1; omega
  have hbox : w3.heap[wb.heap.size]? = some (.cells #[.int .i64 b, .int .i64 t, vN, vE] 25 (0, 0)) := (hkeep _ hBlt hNB).trans h1
  have hg'B : g' ≠ wb.heap.size := by
    rcases hat with e | e
    · intro e'; subst e'; exact hNB e
    · omega
  have hE3 : w3.ownsRow (wb.heap.size + 1) 4 1 vE qe ((List.range qe).map fun j => Value.bool (es j)) := ownsRow_of_block h3 (fun x hx => hkeep x (h3.lt x hx).2 (fun e => owns_apart t_sb h2 h3 e hx))
  have hEB : vE.ownBlock ≠ some wb.heap.size := fun e => by have := (h3.lt _ e).1; omega
  have row3 : ∀ {a' len' l'}, SlN (wb.heap.size + 1) W2 a' len' l' → (∀ x, slB a' len' x → vN.ownBlock ≠ some x ∧ vE.ownBlock ≠ some x) → SlN (wb.heap.size + 1) (w3.setCell ⟨wb.heap.size, 2, none⟩ (.slice (some ⟨g', 0, none⟩) (q + 1) cap')) a' len' l' ∧ ∀ x, slB a' len' x → Value.ownBlock (.slice (some ⟨g', 0, none⟩) (q + 1) cap') ≠ some x ∧ vE.ownBlock ≠ some x := by
    intro a' len' l' hs' hne
    refine ⟨⟨sl_keep hs'.1 fun x hx => ?_, hs'.2⟩, fun x hx => ⟨fun e => ?_, (hne x hx).2⟩⟩
    · have hlt := slB_lt hs'.1 hx
      have hxB : x ≠ wb.heap.size := by
        obtain ⟨_, ad, e, rfl⟩ := hx
        have := hs'.2 ad e
        omega
      rw [Below.heap_setCell _ _ _ _ hxB, hkeep x hlt (hne x hx).1]
    · have hlt := slB_lt hs'.1 hx
      have e' : g' = x := by simpa [Value.ownBlock] using e
      subst e'
      rcases hat with h | h
      · exact (hne _ hx).1 h
      · omega
  refine ⟨⟨by simp [World.cell?, hbox], by simp [World.frozen?, hbox]⟩, .slice (some ⟨g', 0, none⟩) (q + 1) cap', vE, vals ++ [.slice ar (rows q).length cr], (set_box hbox _).1, ownsRow_setCell_other hown (by simpa [Value.ownBlock] using hg'B) _, ownsRow_setCell_other hE3 hEB _, fun j hj => ?_, ?_⟩
  · by_cases e : j = q
    · subst e
      have := row3 (hs.mono hl1) hnew
      exact ⟨ar, cr, by rw [List.getElem?_append_right (by omega), hvl]; simp, this.1, this.2⟩
    · obtain ⟨a', c', e1, e2, e3⟩ := h4 j (by omega)
      have := row3 e2 e3
      exact ⟨a', c', by rw [List.getElem?_append_left (by omega)]; exact e1, this.1, this.2⟩
  · exact (Below.grown (h5.alloc h5.size o) hgrow (by have := h5.size; omega) (fun x hx => by have := (h2.lt x hx).1; omega)).setCell (Nat.le_refl _) _

/-- One end more. -/
theorem outAt_E {wb : World} {b t : Int} {rows : Nat → List Int} {es : Nat → Bool} {qn q : Nat} {W2 : World} (h : OutAt wb b t rows es qn q W2) :
    ∃ (vE : Value), W2.cell? ⟨wb.heap.size, 3, none⟩ = some vE ∧ W2.ownsRow (wb.heap.size + 1) 4 1 vE q ((List.range q).map fun j => Value.bool (es j)) ∧ wb.heap.size + 1 ≤ W2.heap.size ∧
      ∀ (w3 : World) (o : Obj) (g' cap' : Nat), w3.ownsRow (wb.heap.size + 1) 4 1 (.slice (some ⟨g', 0, none⟩) (q + 1) cap') (q + 1) (((List.range q).map fun j => Value.bool (es j)) ++ [.bool (es q)]) → (W2.alloc o).grownBy w3 vE.ownBlock → (vE.ownBlock = some g' ∨ g' = W2.heap.size + 1) →
        (w3.cell? ⟨wb.heap.size, 3, none⟩ = some vE ∧ w3.frozen? ⟨wb.heap.size, 3, none⟩ = false) ∧ OutAt wb b t rows es qn (q + 1) (w3.setCell ⟨wb.heap.size, 3, none⟩ (.slice (some ⟨g', 0, none⟩) (q + 1) cap')) := by
  obtain ⟨vN, vE, vals, h1, h2, h3, h4, h5⟩ := h
  have hBlt := (Array.getElem?_eq_some_iff.1 h1).1
  refine ⟨vE, by simp [World.cell?, h1], h3, by omega, fun w3 o g' cap' hown hgrow hat => ?_⟩
  have hsz : (W2.alloc o).heap.size = W2.heap.size + 1 := by simp
  have hkeep : ∀ x, x < W2.heap.size → vE.ownBlock ≠ some x → w3.heap[x]? = W2.heap[x]? := fun x hx hne => by
    rw [hgrow.block x (by omega) (fun e => hne e.symm), Below.heap_alloc _ _ _ hx]
  have hEB : vE.ownBlock ≠ some wb.heap.size := fun e => by have := (h3.lt _ e).1; omega
  have hNB : vN.ownBlock ≠ some wb.heap.size := fun e => by have := (h2.lt _ e).1; omega
  have hbox : w3.heap[wb.heap.size]? = some (.cells #[.int .i64 b, .int .i64 t, vN, vE] 25 (0, 0)) := (hkeep _ hBlt hEB).trans h1
  have hg'B : g' ≠ wb.heap.size := by
    rcases hat with e | e
    · intro e'; subst e'; exact hEB e
    · omega
  have hN3 : w3.ownsRow (wb.heap.size + 1) 31 1 vN qn vals := ownsRow_of_block h2 (fun x hx => hkeep x (h2.lt x hx).2 (fun e => owns_apart t_sb h2 h3 hx e))
  refine ⟨⟨by simp [World.cell?, hbox], by simp [World.frozen?, hbox]⟩, vN, .slice (some ⟨g', 0, none⟩) (q + 1) cap', vals, (set_box hbox _).2, ownsRow_setCell_other hN3 hNB _, ?_, fun j hj => ?_, ?_⟩
  · rw [List.range_succ, List.map_append]
    exact ownsRow_setCell_other hown (by simpa [Value.ownBlock] using hg'B) _
  · obtain ⟨a', c', e1, e2, e3⟩ := h4 j hj
    refine ⟨a', c', e1, ⟨sl_keep e2.1 fun x hx => ?_, e2.2⟩, fun x hx => ⟨(e3 x hx).1, fun e => ?_⟩⟩
    · have hlt := slB_lt e2.1 hx
      have hxB : x ≠ wb.heap.size := by
        obtain ⟨_, ad, e, rfl⟩ := hx
        have := e2.2 ad e
        omega
      rw [Below.heap_setCell _ _ _ _ hxB, hkeep x hlt (e3 x hx).2]
    · have hlt := slB_lt e2.1 hx
      have e' : g' = x := by simpa [Value.ownBlock] using e
      subst e'
      rcases hat with h | h
      · exact (e3 _ hx).2 h
      · omega
  · exact (Below.grown (h5.alloc h5.size o) hgrow (by have := h5.size; omega) (fun x hx => by have := (h3.lt x hx).1; omega)).setCell (Nat.le_refl _) _

/-- What it is in the end, wherever what lies behind the box lies on. -/
theorem outAt_end {wb : World} {b t : Int} {rows : Nat → List Int} {es : Nat → Bool} {k : Nat} {W : World} (h : OutAt wb b t rows es k k W) (hk : k ≤ maxLen) (N : List (List Int)) (hN : N.length = k) (hr : ∀ j, j < k → N.getD j [] = rows j) (E : List Bool) (hE : E.length = k) (he : ∀ j, j < k → E.getD j false = es j) :
    ∃ a c a' c', W.heap[wb.heap.size]? = some (.cells #[.int .i64 b, .int .i64 t, .slice a k c, .slice a' k c'] 25 (0, 0)) ∧ Below wb.heap.size wb W ∧ ∀ W' : World, (∀ x, wb.heap.size < x → x < W.heap.size → W'.heap[x]? = W.heap[x]?) → Sl2 W' a k N ∧ SlB W' a' k E := by
  obtain ⟨vN, vE, vals, h1, h2, h3, h4, h5⟩ := h
  have hNv : ∃ a c, vN = .slice a k c ∧ ∀ W' : World, (∀ x, wb.heap.size < x → x < W.heap.size → W'.heap[x]? = W.heap[x]?) → Sl2 W' a k N := by
    obtain ⟨h0, h1⟩ := h2
    rcases h1 with ⟨rfl, rfl⟩ | ⟨g, cap, cur, rfl, hg, hh, hc, hcm, hcs, ht⟩
    · exact ⟨none, 0, rfl, fun _ _ => ⟨hN, hk, Or.inl rfl⟩⟩
    · refine ⟨_, cap, rfl, fun W' hW' => ⟨hN, hk, Or.inr ⟨g, 0, rfl, fun i hi => ?_⟩⟩⟩
      obtain ⟨a', cap', e1, e2, _⟩ := h4 i hi
      rw [hr i hi]
      refine ⟨a', cap', ?_, sl_keep e2.1 fun x hx => hW' x ?_ (slB_lt e2.1 hx)⟩
      · rw [cell_of_row W' g (0 + i) cur 31 (0, 0) ((hW' g (by omega) (Array.getElem?_eq_some_iff.1 hh).1).trans hh), Nat.zero_add]
        have h3 : (cur.toList.take (k * 1))[i]? = vals[i]? := by rw [ht]
        rw [List.getElem?_take, if_pos (by omega), Array.getElem?_toList] at h3
        rw [h3, e1]
      · obtain ⟨_, ad, e, rfl⟩ := hx
        have := e2.2 ad e
        omega
  have hEv : ∃ a c, vE = .slice a k c ∧ ∀ W' : World, (∀ x, wb.heap.size < x → x < W.heap.size → W'.heap[x]? = W.heap[x]?) → SlB W' a k E := by
    obtain ⟨h0, h1⟩ := h3
    rcases h1 with ⟨rfl, rfl⟩ | ⟨g, cap, cur, rfl, hg, hh, hc, hcm, hcs, ht⟩
    · exact ⟨none, 0, rfl, fun _ _ => ⟨hE, hk, Or.inl rfl⟩⟩
    · refine ⟨_, cap, rfl, fun W' hW' => ⟨hE, hk, Or.inr ⟨g, 0, rfl, fun i hi => ?_⟩⟩⟩
      rw [cell_of_row W' g (0 + i) cur 4 (0, 0) ((hW' g (by omega) (Array.getElem?_eq_some_iff.1 hh).1).trans hh), Nat.zero_add]
      have h3 : (cur.toList.take (k * 1))[i]? = ((List.range k).map fun j => Value.bool (es j))[i]? := by rw [ht]
      rw [List.getElem?_take, if_pos (by omega), Array.getElem?_toList] at h3
      rw [h3, he i hi]
      simp [hi]
  obtain ⟨a, c, rfl, hs⟩ := hNv
  obtain ⟨a', c', rfl, hs'⟩ := hEv
  exact ⟨a, c, a', c', h1, h5, fun W' hW' => ⟨hs W' hW', hs' W' hW'⟩⟩
/-- An automaton in new memory: what reads it looks at no block that was there in w. -/
def AutoNew (w : World) (a : Option Addr) (k : Nat) (N : List (List Int)) (a' : Option Addr) (E : List Bool) (W : World) : Prop := ∀ W' : World, (∀ x, w.heap.size ≤ x → x < W.heap.size → W'.heap[x]? = W.heap[x]?) → Sl2 W' a k N ∧ SlB W' a' k E
theorem AutoNew.here {w : World} {a : Option Addr} {k : Nat} {N : List (List Int)} {a' : Option Addr} {E : List Bool} {W : World} (h : AutoNew w a k N a' E W) : Sl2 W a k N ∧ SlB W a' k E := h W (fun _ _ _ => rfl)
theorem AutoNew.below {w : World} {a : Option Addr} {k : Nat} {N : List (List Int)} {a' : Option Addr} {E : List Bool} {W W2 : World} (h : AutoNew w a k N a' E W) (hb : Below W.heap.size W W2) : AutoNew w a k N a' E W2 := fun W' hW' => h W' fun x h1 h2 => (hW' x h1 (Nat.lt_of_lt_of_le h2 hb.size)).trans (hb.block x h2)
theorem set_all {W : World} {B : Nat} {u0 u1 u2 u3 v0 v1 v2 v3 : Value} {T : TypeId} (h : W.heap[B]? = some (.cells #[u0, u1, u2, u3] T (0, 0))) :
    ((((W.setCell ⟨B, 0, none⟩ v0).setCell ⟨B, 1, none⟩ v1).setCell ⟨B, 2, none⟩ v2).setCell ⟨B, 3, none⟩ v3).heap[B]? = some (.cells #[v0, v1, v2, v3] T (0, 0)) := by
  simp [World.setCell, Array.getElem?_modify, h]
/-- A box of four cells that is written anew. -/
theorem box_set {W : World} {B : Nat} {u0 u1 u2 u3 v0 v1 v2 v3 : Value} {T : TypeId} (h : W.heap[B]? = some (.cells #[u0, u1, u2, u3] T (0, 0))) {W' : World} (e : W' = (((W.setCell ⟨B, 0, none⟩ v0).setCell ⟨B, 1, none⟩ v1).setCell ⟨B, 2, none⟩ v2).setCell ⟨B, 3, none⟩ v3) :
    (W'.heap[B]? = some (.cells #[v0, v1, v2, v3] T (0, 0)) ∧ W'.heap.size = W.heap.size ∧ ∀ x, x ≠ B → W'.heap[x]? = W.heap[x]?) ∧ ∀ (w : World) (k : Nat), Below k w W → k ≤ B → Below k w W' := by
  subst e
  refine ⟨⟨set_all h, by simp [World.setCell], fun x hx => ?_⟩, fun w k hb hk => (((hb.setCell hk _).setCell hk _).setCell hk _).setCell hk _⟩
  rw [Below.heap_setCell _ _ _ _ hx, Below.heap_setCell _ _ _ _ hx, Below.heap_setCell _ _ _ _ hx, Below.heap_setCell _ _ _ _ hx]
theorem box_set0 {W : World} {B : Nat} {u0 u1 u2 u3 : Value} {T : TypeId} (h : W.heap[B]? = some (.cells #[u0, u1, u2, u3] T (0, 0))) {W' : World} (e : W' = (((W.setCell ⟨B, 0, none⟩ (.int .i64 0)).setCell ⟨B, 1, none⟩ (.int .i64 0)).setCell ⟨B, 2, none⟩ (.slice none 0 0)).setCell ⟨B, 3, none⟩ (.slice none 0 0)) :
    (W'.heap[B]? = some (.cells #[.int .i64 0, .int .i64 0, .slice none 0 0, .slice none 0 0] T (0, 0)) ∧ W'.heap.size = W.heap.size ∧ ∀ x, x ≠ B → W'.heap[x]? = W.heap[x]?) ∧ ∀ (w : World) (k : Nat), Below k w W → k ≤ B → Below k w W' := box_set h e
theorem box_cells {W : World} {B : Nat} {v0 v1 v2 v3 : Value} {T : TypeId} (h : W.heap[B]? = some (.cells #[v0, v1, v2, v3] T (0, 0))) :
    (W.cell? ⟨B, 0, none⟩ = some v0 ∧ W.cell? ⟨B, 1, none⟩ = some v1 ∧ W.cell? ⟨B, 2, none⟩ = some v2 ∧ W.cell? ⟨B, 3, none⟩ = some v3) ∧ ∀ i, W.frozen? ⟨B, i, none⟩ = false := by
  refine ⟨⟨?_, ?_, ?_, ?_⟩, fun i => ?_⟩ <;> simp [World.cell?, World.frozen?, h]
end Go.Proofs.Ytebbjmcjgjecmaa

/- An automaton that a call builds in a variable's box, row by row, its ends being another one's. -/
namespace Go.Proofs.Ytebbjmcjgjecmaa
open Go.RowKit

/-- The box at the first block behind wb: q rows, each in a block of its own. -/
def NxAt (wb : World) (b t : Int) (rows : Nat → List Int) (vE : Value) (q : Nat) (W : World) : Prop :=
  ∃ (vN : Value) (vals : List Value), W.heap[wb.heap.size]? = some (.cells #[.int .i64 b, .int .i64 t, vN, vE] 25 (0, 0)) ∧
    W.ownsRow (wb.heap.size + 1) 31 1 vN q vals ∧
    (∀ j, j < q → ∃ a cap, vals[j]? = some (.slice a (rows j).length cap) ∧ SlN (wb.heap.size + 1) W a (rows j).length (rows j) ∧ ∀ x, slB a (rows j).length x → vN.ownBlock ≠ some x) ∧
    Below wb.heap.size wb W

theorem nxAt_start (wb : World) (b t : Int) (rows : Nat → List Int) (vE : Value) : NxAt wb b t rows vE 0 (wb.alloc (.cells #[.int .i64 b, .int .i64 t, .slice none 0 0, vE] 25)) :=
  ⟨.slice none 0 0, [], heap_alloc_last wb _, World.ownsRow_nil _ _ _ _, fun j hj => by omega, (Below.refl _ _).alloc (Nat.le_refl _) _⟩
theorem nxAt_below {wb : World} {b t : Int} {rows : Nat → List Int} {vE : Value} {q : Nat} {W W2 : World} (h : NxAt wb b t rows vE q W) (hb : Below W.heap.size W W2) : NxAt wb b t rows vE q W2 := by
  obtain ⟨vN, vals, h1, h2, h4, h5⟩ := h
  have hlt := (Array.getElem?_eq_some_iff.1 h1).1
  refine ⟨vN, vals, (hb.block _ hlt).trans h1, ownsRow_of_block h2 (fun x hx => hb.block _ (h2.lt x hx).2), fun j hj => ?_, below_step h5 hb⟩
  obtain ⟨a, cap, e1, e2, e3⟩ := h4 j hj
  exact ⟨a, cap, e1, ⟨sl_below e2.1 hb, e2.2⟩, e3⟩
/-- One row more. -/
theorem nxAt_N {wb : World} {b t : Int} {rows : Nat → List Int} {vE : Value} {q : Nat} {W W2 : World} {ar : Option Addr} {cr : Nat} (h : NxAt wb b t rows vE q W) (hb : Below W.heap.size W W2) (hs : SlN W.heap.size W2 ar (rows q).length (rows q)) :
    ∃ (vN : Value) (vals : List Value), W2.cell? ⟨wb.heap.size, 2, none⟩ = some vN ∧ W2.ownsRow (wb.heap.size + 1) 31 1 vN q vals ∧ wb.heap.size + 1 ≤ W2.heap.size ∧
      ∀ (w3 : World) (o : Obj) (g' cap' : Nat), w3.ownsRow (wb.heap.size + 1) 31 1 (.slice (some ⟨g', 0, none⟩) (q + 1) cap') (q + 1) (vals ++ [.slice ar (rows q).length cr]) → (W2.alloc o).grownBy w3 vN.ownBlock → (vN.ownBlock = some g' ∨ g' = W2.heap.size + 1) →
        (w3.cell? ⟨wb.heap.size, 2, none⟩ = some vN ∧ w3.frozen? ⟨wb.heap.size, 2, none⟩ = false) ∧ NxAt wb b t rows vE (q + 1) (w3.setCell ⟨wb.heap.size, 2, none⟩ (.slice (some ⟨g', 0, none⟩) (q + 1) cap')) := by
  have hl1 : wb.heap.size + 1 ≤ W.heap.size := by
    obtain ⟨_, _, h1, _⟩ := h
    exact (Array.getElem?_eq_some_iff.1 h1).1
  have hsz2 := hb.size
  have hOld := h
  obtain ⟨vN, vals, h1, h2, h4, h5⟩ := nxAt_below h hb
  have hvl : vals.length = q := by have := h2.1; omega
  have hBlt := (Array.getElem?_eq_some_iff.1 h1).1
  have hnew : ∀ x, slB ar (rows q).length x → vN.ownBlock ≠ some x := by
    obtain ⟨uN, us, g1, g2, _, _⟩ := hOld
    have e1 := (hb.block _ (Array.getElem?_eq_some_iff.1 g1).1).trans g1
    rw [h1] at e1
    simp at e1
    rw [e1]
    rintro x ⟨_, ad, e, rfl⟩
    have hge := hs.2 ad e
    exact fun e' => by have := (g2.lt _ e').2; omega
  refine ⟨vN, vals, by simp [World.cell?, h1], h2, by omega, fun w3 o g' cap' hown hgrow hat => ?_⟩
  have hsz : (W2.alloc o).heap.size = W2.heap.size + 1 := by simp
  have hkeep : ∀ x, x < W2.heap.size → vN.ownBlock ≠ some x → w3.heap[x]? = W2.heap[x]? := fun x hx hne => by
    rw [hgrow.block x (by omega) (fun e => hne e.symm), Below.heap_alloc _ _ _ hx]
  have hNB : vN.ownBlock ≠ some wb.heap.size := fun e => by have := (h2.lt _ e).1; omega
  have hbox : w3.heap[wb.heap.size]? = some (.cells #[.int .i64 b, .int .i64 t, vN, vE] 25 (0, 0)) := (hkeep _ hBlt hNB).trans h1
  have hg'B : g' ≠ wb.heap.size := by
    rcases hat with e | e
    · intro e'; subst e'; exact hNB e
    · omega
  have row3 : ∀ {a' len' l'}, SlN (wb.heap.size + 1) W2 a' len' l' → (∀ x, slB a' len' x → vN.ownBlock ≠ some x) → SlN (wb.heap.size + 1) (w3.setCell ⟨wb.heap.size, 2, none⟩ (.slice (some ⟨g', 0, none⟩) (q + 1) cap')) a' len' l' ∧ ∀ x, slB a' len' x → Value.ownBlock (.slice (some ⟨g', 0, none⟩) (q + 1) cap') ≠ some x := by
    intro a' len' l' hs' hne
    refine ⟨⟨sl_keep hs'.1 fun x hx => ?_, hs'.2⟩, fun x hx e => ?_⟩
    · have hlt := slB_lt hs'.1 hx
      have hxB : x ≠ wb.heap.size := by
        obtain ⟨_, ad, e, rfl⟩ := hx
        have := hs'.2 ad e
        omega
      rw [Below.heap_setCell _ _ _ _ hxB, hkeep x hlt (hne x hx)]
    · have hlt := slB_lt hs'.1 hx
      have e' : g' = x := by simpa [Value.ownBlock] using e
      subst e'
      rcases hat with h | h
      · exact hne _ hx h
      · omega
  refine ⟨⟨by simp [World.cell?, hbox], by simp [World.frozen?, hbox]⟩, .slice (some ⟨g', 0, none⟩) (q + 1) cap', vals ++ [.slice ar (rows q).length cr], (set_box hbox _).1, ownsRow_setCell_other hown (by simpa [Value.ownBlock] using hg'B) _, fun j hj => ?_, ?_⟩
  · by_cases e : j = q
    · subst e
      have := row3 (hs.mono hl1) hnew
      exact ⟨ar, cr, by rw [List.getElem?_append_right (by omega), hvl]; simp, this.1, this.2⟩
    · obtain ⟨a', c', e1, e2, e3⟩ := h4 j (by omega)
      have := row3 e2 e3
      exact ⟨a', c', by rw [List.getElem?_append_left (by omega)]; exact e1, this.1, this.2⟩
  · exact (Below.grown (h5.alloc h5.size o) hgrow (by have := h5.size; omega) (fun x hx => by have := (h2.lt x hx).1; omega)).setCell (Nat.le_refl _) _

/-- What it is in the end. -/
theorem nxAt_end {wb : World} {b t : Int} {rows : Nat → List Int} {vE : Value} {k : Nat} {W : World} (h : NxAt wb b t rows vE k W) (hk : k ≤ maxLen) (N : List (List Int)) (hN : N.length = k) (hr : ∀ j, j < k → N.getD j [] = rows j) :
    ∃ a c, W.heap[wb.heap.size]? = some (.cells #[.int .i64 b, .int .i64 t, .slice a k c, vE] 25 (0, 0)) ∧ Below wb.heap.size wb W ∧ Sl2 W a k N := by
  obtain ⟨vN, vals, h1, h2, h4, h5⟩ := h
  obtain ⟨g0, g1⟩ := h2
  rcases g1 with ⟨rfl, rfl⟩ | ⟨g, cap, cur, rfl, hg, hh, hc, hcm, hcs, ht⟩
  · exact ⟨none, 0, h1, h5, hN, hk, Or.inl rfl⟩
  · refine ⟨_, cap, h1, h5, hN, hk, Or.inr ⟨g, 0, rfl, fun i hi => ?_⟩⟩
    obtain ⟨a', cap', e1, e2, _⟩ := h4 i hi
    rw [hr i hi]
    refine ⟨a', cap', ?_, e2.1⟩
    rw [cell_of_row W g (0 + i) cur 31 (0, 0) hh, Nat.zero_add]
    have h3 : (cur.toList.take (k * 1))[i]? = vals[i]? := by rw [ht]
    rw [List.getElem?_take, if_pos (by omega), Array.getElem?_toList] at h3
    rw [h3, e1]
end Go.Proofs.Ytebbjmcjgjecmaa
