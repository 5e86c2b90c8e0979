/- 9 texts in one. -/
import Derived.Deep.AppendLies
import Derived.OneCell
import Derived.Test.YtlgjadnkokmjoaaLs
import Derived.Test.YtlgjadnkokmjoaaZRu
/- Slices of slices of numbers: as they are read, and as a call builds them. -/
namespace Go.Proofs.Ytlgjadnkokmjoaa
open Go.RowKit

/-- The slice reads as rows of numbers. -/
def Sl2 (w : World) (a : Option Addr) (len : Nat) (ls : List (List Int)) : Prop :=
  ls.length = len ∧ len ≤ maxLen ∧
  (len = 0 ∨ ∃ b o, a = some ⟨b, o, none⟩ ∧ ∀ i, i < len → ∃ a' cap', w.cell? ⟨b, o + i, none⟩ = some (.slice a' (ls.getD i []).length cap') ∧ Sl w a' (ls.getD i []).length (ls.getD i []))

theorem sl2_below {w W : World} {a : Option Addr} {len : Nat} {ls : List (List Int)} (h : Sl2 w a len ls) (hb : Below w.heap.size w W) : Sl2 W a len ls := by
  obtain ⟨h1, h2, h3⟩ := h
  refine ⟨h1, h2, ?_⟩
  rcases h3 with h3 | ⟨b, o, rfl, hc⟩
  · exact Or.inl h3
  · refine Or.inr ⟨b, o, rfl, fun i hi => ?_⟩
    obtain ⟨a', cap', h4, h5⟩ := hc i hi
    refine ⟨a', cap', ?_, sl_below h5 hb⟩
    rw [hb.cell (p := ⟨b, o + i, none⟩) (World.block_lt_of_cell? w _ h4)]
    exact h4

theorem sl2_cell {w : World} {a : Option Addr} {len : Nat} {ls : List (List Int)} (h : Sl2 w a len ls) (i : Nat) (hi : i < len) :
    ∃ b o a' cap', a = some ⟨b, o, none⟩ ∧ w.cell? ⟨b, o + i, none⟩ = some (.slice a' (ls.getD i []).length cap') ∧ Sl w a' (ls.getD i []).length (ls.getD i []) := by
  rcases h.2.2 with h0 | ⟨b, o, rfl, hc⟩
  · omega
  · obtain ⟨a', cap', h4, h5⟩ := hc i hi
    exact ⟨b, o, a', cap', rfl, h4, h5⟩

theorem ownsRow_of_block {w w' : World} {base : Nat} {e : TypeId} {size : Nat} {v : Value} {n : Nat} {xs : List Value} (h : w.ownsRow base e size v n xs) (hb : ∀ k, v.ownBlock = some k → w'.heap[k]? = w.heap[k]?) : w'.ownsRow base e size v n xs := by
  obtain ⟨h1, h2⟩ := h
  refine ⟨h1, ?_⟩
  rcases h2 with h2 | ⟨g, cap, cur, rfl, hg, hh, r⟩
  · exact Or.inl h2
  · exact Or.inr ⟨g, cap, cur, rfl, hg, by rw [hb g rfl]; exact hh, r⟩

/-- The block of a slice that is not empty. -/
def slB (a : Option Addr) (len : Nat) (x : Nat) : Prop := 0 < len ∧ ∃ ad, a = some ad ∧ ad.block = x
theorem sl_keep {w w' : World} {a : Option Addr} {len : Nat} {l : List Int} (h : Sl w a len l) (hb : ∀ x, slB a len x → w'.heap[x]? = w.heap[x]?) : Sl w' a len l := by
  obtain ⟨h1, h2, h3, h4⟩ := h
  refine ⟨h1, h2, h3, ?_⟩
  rcases h4 with h4 | ⟨b, o, rfl, hc⟩
  · exact Or.inl h4
  · refine Or.inr ⟨b, o, rfl, fun i hi => ?_⟩
    rw [World.cell?_of_block (w := w) (hb b ⟨by omega, _, rfl, rfl⟩)]
    exact hc i hi
end Go.Proofs.Ytlgjadnkokmjoaa

/- Slices of slices of slices of numbers: as they are read. -/
namespace Go.Proofs.Ytlgjadnkokmjoaa
open Go.RowKit

/-- The slice reads as squares of numbers. -/
def Sl3 (w : World) (a : Option Addr) (len : Nat) (L : List (List (List Int))) : Prop :=
  L.length = len ∧ len ≤ maxLen ∧
  (len = 0 ∨ ∃ b o, a = some ⟨b, o, none⟩ ∧ ∀ i, i < len → ∃ a' cap', w.cell? ⟨b, o + i, none⟩ = some (.slice a' (L.getD i []).length cap') ∧ Sl2 w a' (L.getD i []).length (L.getD i []))
theorem sl3_below {w W : World} {a : Option Addr} {len : Nat} {L : List (List (List Int))} (h : Sl3 w a len L) (hb : Below w.heap.size w W) : Sl3 W a len L := by
  obtain ⟨h1, h2, h3⟩ := h
  refine ⟨h1, h2, ?_⟩
  rcases h3 with h3 | ⟨b, o, rfl, hc⟩
  · exact Or.inl h3
  · refine Or.inr ⟨b, o, rfl, fun i hi => ?_⟩
    obtain ⟨a', cap', h4, h5⟩ := hc i hi
    refine ⟨a', cap', ?_, sl2_below h5 hb⟩
    rw [hb.cell (p := ⟨b, o + i, none⟩) (World.block_lt_of_cell? w _ h4)]
    exact h4
theorem sl3_cell {w : World} {a : Option Addr} {len : Nat} {L : List (List (List Int))} (h : Sl3 w a len L) (i : Nat) (hi : i < len) :
    ∃ b o a' cap', a = some ⟨b, o, none⟩ ∧ w.cell? ⟨b, o + i, none⟩ = some (.slice a' (L.getD i []).length cap') ∧ Sl2 w a' (L.getD i []).length (L.getD i []) := by
  rcases h.2.2 with h0 | ⟨b, o, rfl, hc⟩
  · omega
  · obtain ⟨a', cap', h4, h5⟩ := hc i hi
    exact ⟨b, o, a', cap', rfl, h4, h5⟩
/-- What counts by matrices, in its box. -/
theorem box5R {w w' : World} {v0 v1 v2 v3 v4 : Value} {T : TypeId} (hb : Below (w.alloc (.cells #[v0, v1, v2, v3, v4] T)).heap.size (w.alloc (.cells #[v0, v1, v2, v3, v4] T)) w') :
    w'.cell? ⟨w.heap.size, 0, none⟩ = some v0 ∧ w'.cell? ⟨w.heap.size, 1, none⟩ = some v1 ∧ w'.cell? ⟨w.heap.size, 2, none⟩ = some v2 ∧ w'.cell? ⟨w.heap.size, 3, none⟩ = some v3 ∧ w'.cell? ⟨w.heap.size, 4, none⟩ = some v4 := by
  have key : ∀ i, w'.cell? ⟨w.heap.size, i, none⟩ = #[v0, v1, v2, v3, v4][i]? := fun i => by
    rw [hb.cell (p := ⟨w.heap.size, i, none⟩) (by simp)]
    exact cell_of_row _ _ i _ T (0, 0) (heap_alloc_last w _)
  exact ⟨key 0, key 1, key 2, key 3, key 4⟩
theorem box5R_cells {W : World} {B : Nat} {v0 v1 v2 v3 v4 : Value} {T : TypeId} (h : W.heap[B]? = some (.cells #[v0, v1, v2, v3, v4] T (0, 0))) : (W.cell? ⟨B, 0, none⟩ = some v0 ∧ W.cell? ⟨B, 1, none⟩ = some v1 ∧ W.cell? ⟨B, 2, none⟩ = some v2 ∧ W.cell? ⟨B, 3, none⟩ = some v3 ∧ W.cell? ⟨B, 4, none⟩ = some v4) ∧ ∀ i, W.frozen? ⟨B, i, none⟩ = false := by
  refine ⟨⟨?_, ?_, ?_, ?_, ?_⟩, fun i => ?_⟩ <;> simp [World.cell?, World.frozen?, h]
theorem box5R_set {W : World} {B : Nat} {u0 u1 u2 u3 u4 v0 v1 v2 v3 v4 : Value} {T : TypeId} (h : W.heap[B]? = some (.cells #[u0, u1, u2, u3, u4] T (0, 0))) {W' : World} (e : W' = ((((W.setCell ⟨B, 0, none⟩ v0).setCell ⟨B, 1, none⟩ v1).setCell ⟨B, 2, none⟩ v2).setCell ⟨B, 3, none⟩ v3).setCell ⟨B, 4, none⟩ v4) :
    (W'.heap[B]? = some (.cells #[v0, v1, v2, v3, v4] T (0, 0)) ∧ W'.heap.size = W.heap.size ∧ ∀ x, x ≠ B → W'.heap[x]? = W.heap[x]?) ∧ ∀ (w : World) (k : Nat), Below k w W → k ≤ B → Below k w W' := by
  subst e
  refine ⟨⟨by simp [World.setCell, Array.getElem?_modify, h], by simp [World.setCell], fun x hx => ?_⟩, fun w k hb hk => ((((hb.setCell hk _).setCell hk _).setCell hk _).setCell hk _).setCell hk _⟩
  rw [Below.heap_setCell _ _ _ _ hx, Below.heap_setCell _ _ _ _ hx, Below.heap_setCell _ _ _ _ hx, Below.heap_setCell _ _ _ _ hx, Below.heap_setCell _ _ _ _ hx]
end Go.Proofs.Ytlgjadnkokmjoaa

/- The contract of auto.Check. -/
namespace Go.Proofs.Ytlgjadnkokmjoaa
open Go.RowKit

theorem errV_no {c : Int} (h : c ≠ 0) : errV c = .iface 52 (.int .i64 c) := by unfold errV; rw [if_neg h]
theorem errV_yes {c : Int} (h : c = 0) : errV c = .nilIface := by unfold errV; rw [if_pos h]

set_option maxHeartbeats 1000000 in
set_option maxRecDepth 4000 in
theorem nexts_u (a : Option Addr) (len cap : Nat) (r : List Int) (m n : Nat) (w : World) (hs : Sl w a len r) :
    Calls Try.prog 37 #[.slice a len cap, .int .i64 m, .int .i64 n] w fun e w' => e = .returned (errV (rowC m n r)) ∧ w' = w := by
  have hm := hs.2.1
  unfold maxLen at hm
  have hL := hs.1
  by_cases hlen : len = m
  · have HB := hide (fun k => @rowC_bad m n r (hL.trans hlen) k)
    have HG := hide (@rowC_good m n r (hL.trans hlen))
    subst hlen
    have HS := hide hs
    clear hs hL
    generalize hR : rowC len n r = R at HB HG ⊢
    clear hR
    have hne : ((len : Int) != (len : Int)) = false := by simp
    go_enter Try.func37, Try.ntmps37
    go_wp2
    go_loop [16] (fun i => ∃ k : Nat, k ≤ len ∧ i = .int .i64 k ∧ ∀ j, j < k → 0 ≤ r.getD j 0 ∧ r.getD j 0 < (n : Int)) (fun i => len - (intOf i).toNat)
    case atStart => exact ⟨0, by omega, rfl, by omega⟩
    case round =>
      obtain ⟨k, hk, rfl, hd⟩ := hrel
      have HD := hide hd
      clear hd
      by_cases hlt : k < len
      · have hlti : (k : Int) < (len : Int) := by omega
        obtain ⟨bb, o, rfl, hck⟩ := sl_cell HS.out k hlt
        have HB' := hide (HB.out k hlt)
        have HD' : Hid (0 ≤ r.getD k 0 ∧ r.getD k 0 < (n : Int) → ∀ j, j < k + 1 → 0 ≤ r.getD j 0 ∧ r.getD j 0 < (n : Int)) := by
          intro h j hj
          by_cases e : j = k
          · subst e; exact h
          · exact HD.out j (by omega)
        generalize r.getD k 0 = x at hck HB' HD'
        by_cases hx : 0 ≤ x ∧ x < (n : Int)
        · have HD2 := hide (HD'.out hx)
          obtain ⟨hx1, hx2⟩ := hx
          go_wp2
          go_round
          case rel => exact ⟨k + 1, by omega, by go_num, HD2.out⟩
          case measure => simp [intOf]; omega
        · have HB2 := hide (HB'.out hx)
          have hx' : x < 0 ∨ (¬ x < 0 ∧ (n : Int) ≤ x) := by omega
          clear hx
          rcases hx' with hx | ⟨hx1, hx2⟩
          all_goals
            go_wp2
            go_ret
            exact ⟨by rw [HB2.out]; simp [errV], rfl⟩
      · have hlti : ¬ ((k : Int) < (len : Int)) := by omega
        have HG2 := hide (HG.out fun j hj => HD.out j (by omega))
        go_wp2
        go_ret
        exact ⟨by rw [HG2.out]; simp [errV], rfl⟩
  · have hR := @rowC_long m n r (by omega)
    have hne : ((len : Int) != (m : Int)) = true := by simp; omega
    rw [hR]
    go_enter Try.func37, Try.ntmps37
    go_wp2
    go_ret
    exact ⟨by simp [errV], rfl⟩

set_option maxHeartbeats 4000000 in
set_option maxRecDepth 4000 in
theorem check_w (M b t : Int) (a a' : Option Addr) (len cap len' cap' : Nat) (N : List (List Int)) (w : World) (hs : Sl2 w a len N) (hm' : len' ≤ maxLen) :
    Calls Try.prog 26 #[.agg #[.int .i64 b, .int .i64 t, .slice a len cap, .slice a' len' cap'], .int .i64 M] w fun e w' => e = .returned (errV (autoM M b t N len')) ∧ Below w.heap.size w w' := by
  have hL := hs.1
  have hm := hs.2.1
  unfold maxLen at hm hm'
  have HMU := hide (fun W => many_u b t W)
  by_cases hM : codeM b t = 0
  · have hlo := pw_pos (kindsI b) (kinds_bd2 b (codeM_zero hM).2.1).1 t.toNat
    have hhi := (codeM_zero hM).2.2.2.2.1
    have hmu := (codeM_zero hM).2.2.2.2.2
    rw [← hmu] at hlo hhi
    obtain ⟨m, hmm⟩ : ∃ m : Nat, manyU b t = m := ⟨(manyU b t).toNat, by omega⟩
    have HA : Hid (autoM M b t N len' = if len = 0 then 4 else if M < (len : Int) then 3 else if len' = len then rowsC m len N else 2) := by
      show _ = _
      unfold autoM
      rw [if_pos hM, hL, hmm, Int.toNat_natCast]
    rw [hmm, errV_yes hM] at HMU
    clear hM hlo hhi hmu hmm
    generalize autoM M b t N len' = R at HA ⊢
    by_cases h0 : len = 0
    · rw [if_pos h0] at HA
      subst h0
      go_enter Try.func26, Try.ntmps26
      go_wp2_with (go_at_call 27; refine (HMU.out _).mono ?_; rintro e w' ⟨rfl, rfl⟩)
      go_ret
      exact ⟨by rw [HA.out]; simp [errV], (Below.refl _ _).alloc (Nat.le_refl _) _⟩
    · rw [if_neg h0] at HA
      have h0' : ((len : Int) == 0) = false := by simp; omega
      by_cases h80 : M < (len : Int)
      · rw [if_pos h80] at HA
        go_enter Try.func26, Try.ntmps26
        go_wp2_with (go_at_call 27; refine (HMU.out _).mono ?_; rintro e w' ⟨rfl, rfl⟩)
        go_ret
        exact ⟨by rw [HA.out]; simp [errV], (Below.refl _ _).alloc (Nat.le_refl _) _⟩
      · rw [if_neg h80] at HA
        by_cases hE : len' = len
        · rw [if_pos hE] at HA
          subst hE
          have hee : ((len' : Int) != (len' : Int)) = false := by simp
          have HS := hide (sl2_below hs ((Below.refl _ _).alloc (Nat.le_refl _) (.cells #[.int .i64 b, .int .i64 t, .slice a len' cap, .slice a' len' cap'] 25)))
          have HB : Hid (Below w.heap.size w (w.alloc (.cells #[.int .i64 b, .int .i64 t, .slice a len' cap, .slice a' len' cap'] 25))) := (Below.refl _ _).alloc (Nat.le_refl _) _
          have HNX := hide (fun W a1 l1 c1 r h => nexts_u a1 l1 c1 r m len' W h)
          have HAT := hide (fun k => @rowsC_at m len' N k)
          have HALL := hide (@rowsC_all m len' N)
          rw [hL] at HALL
          have hN : N.length = len' := hL
          clear hs hL
          go_enter Try.func26, Try.ntmps26
          go_wp2_with (go_at_call 27; refine (HMU.out _).mono ?_; rintro e w' ⟨rfl, rfl⟩)
          go_loop [43] (fun i => ∃ k : Nat, k ≤ len' ∧ i = .int .i64 k ∧ ∀ j, j < k → rowC m len' (N.getD j []) = 0) (fun i => len' - (intOf i).toNat)
          case atStart => exact ⟨0, by omega, rfl, by omega⟩
          case round =>
            obtain ⟨k, hk, rfl, hd⟩ := hrel
            have HD := hide hd
            clear hd
            by_cases hlt : k < len'
            · have hlti : (k : Int) < (len' : Int) := by omega
              obtain ⟨bb, o, a1, c1, rfl, hck, hsl⟩ := sl2_cell HS.out k hlt
              have HNX' := hide (HNX.out _ a1 _ c1 _ hsl)
              have HAT' := hide (HAT.out k (by omega) HD.out)
              have HD' : Hid (rowC m len' (N.getD k []) = 0 → ∀ j, j < k + 1 → rowC m len' (N.getD j []) = 0) := by
                intro h j hj
                by_cases e : j = k
                · subst e; exact h
                · exact HD.out j (by omega)
              clear hsl
              generalize rowC m len' (N.getD k []) = C at HNX' HAT' HD'
              generalize (N.getD k []).length = rl at hck HNX'
              by_cases hC : C = 0
              · have HD2 := hide (HD'.out hC)
                rw [errV_yes hC] at HNX'
                clear HAT' HD' hC
                go_wp2_with (go_at_call 37; refine HNX'.out.mono ?_; rintro e w' ⟨rfl, rfl⟩)
                go_round
                case rel => exact ⟨k + 1, by omega, by go_num, HD2.out⟩
                case measure => simp [intOf]; omega
              · have HR := hide (HAT'.out hC)
                rw [HR.out] at HA
                rw [errV_no hC] at HNX'
                clear HAT' HD' HR
                go_wp2_with (go_at_call 37; refine HNX'.out.mono ?_; rintro e w' ⟨rfl, rfl⟩)
                go_ret
                exact ⟨by rw [HA.out, errV_no hC]; simp, HB.out⟩
            · have hlti : ¬ ((k : Int) < (len' : Int)) := by omega
              have HR := hide (HALL.out fun j hj => HD.out j (by omega))
              rw [HR.out] at HA
              go_wp2
              go_ret
              exact ⟨by rw [HA.out]; simp [errV], HB.out⟩
        · rw [if_neg hE] at HA
          have hee : ((len' : Int) != (len : Int)) = true := by simp; omega
          go_enter Try.func26, Try.ntmps26
          go_wp2_with (go_at_call 27; refine (HMU.out _).mono ?_; rintro e w' ⟨rfl, rfl⟩)
          go_ret
          exact ⟨by rw [HA.out]; simp [errV], (Below.refl _ _).alloc (Nat.le_refl _) _⟩
  · have HA : Hid (autoM M b t N len' = codeM b t) := by show _ = _; unfold autoM; rw [if_neg hM]
    rw [HA.out]
    rw [errV_no hM] at HMU ⊢
    generalize codeM b t = c at HMU ⊢
    go_enter Try.func26, Try.ntmps26
    go_wp2_with (go_at_call 27; refine (HMU.out _).mono ?_; rintro e w' ⟨rfl, rfl⟩)
    go_ret
    exact ⟨by simp, (Below.refl _ _).alloc (Nat.le_refl _) _⟩

set_option maxHeartbeats 1000000 in
set_option maxRecDepth 4000 in
theorem check_u (b t : Int) (a a' : Option Addr) (len cap len' cap' : Nat) (N : List (List Int)) (w : World) (hs : Sl2 w a len N) (hm' : len' ≤ maxLen) :
    Calls Try.prog 11 #[.agg #[.int .i64 b, .int .i64 t, .slice a len cap, .slice a' len' cap']] w fun e w' => e = .returned (errV (autoC b t N len')) ∧ Below w.heap.size w w' := by
  have hB := (Below.refl w.heap.size w).alloc (Nat.le_refl _) (.cells #[.int .i64 b, .int .i64 t, .slice a len cap, .slice a' len' cap'] 25)
  have HCK := hide (check_w 80 b t a a' len cap len' cap' N _ (sl2_below hs hB) hm')
  rw [autoM_80] at HCK
  have HB := hide hB
  clear hs hB
  generalize autoC b t N len' = c at HCK ⊢
  go_enter Try.func11, Try.ntmps11
  go_wp2_with fail
  refine HCK.out.mono ?_
  rintro e w2 ⟨rfl, hb2⟩
  have HB2 := hide (below_step HB.out hb2)
  clear hb2
  go_wp2
  go_ret
  exact ⟨rfl, HB2.out⟩
end Go.Proofs.Ytlgjadnkokmjoaa

/- The contracts of auto.Run and auto.Takes. -/
namespace Go.Proofs.Ytlgjadnkokmjoaa
open Go.RowKit

/-- The slice reads as these truths. -/
def SlB (w : World) (a : Option Addr) (len : Nat) (E : List Bool) : Prop :=
  E.length = len ∧ len ≤ maxLen ∧ (len = 0 ∨ ∃ b o, a = some ⟨b, o, none⟩ ∧ ∀ i, i < len → w.cell? ⟨b, o + i, none⟩ = some (.bool (E.getD i false)))
theorem slB_below {w W : World} {a : Option Addr} {len : Nat} {E : List Bool} (h : SlB w a len E) (hb : Below w.heap.size w W) : SlB W a len E := by
  obtain ⟨h1, h2, h3⟩ := h
  refine ⟨h1, h2, ?_⟩
  rcases h3 with h3 | ⟨b, o, rfl, hc⟩
  · exact Or.inl h3
  · refine Or.inr ⟨b, o, rfl, fun i hi => ?_⟩
    have := hc i hi
    rw [hb.cell (p := ⟨b, o + i, none⟩) (World.block_lt_of_cell? w _ this)]
    exact this
theorem slB_cell {w : World} {a : Option Addr} {len : Nat} {E : List Bool} (h : SlB w a len E) (i : Nat) (hi : i < len) : ∃ b o, a = some ⟨b, o, none⟩ ∧ w.cell? ⟨b, o + i, none⟩ = some (.bool (E.getD i false)) := by
  rcases h.2.2 with h0 | ⟨b, o, rfl, hc⟩
  · omega
  · exact ⟨b, o, rfl, hc i hi⟩

/-- An automaton's box. -/
theorem box4 {w w' : World} {v0 v1 v2 v3 : Value} {T : TypeId} (hb : Below (w.alloc (.cells #[v0, v1, v2, v3] T)).heap.size (w.alloc (.cells #[v0, v1, v2, v3] T)) w') :
    w'.cell? ⟨w.heap.size, 0, none⟩ = some v0 ∧ w'.cell? ⟨w.heap.size, 1, none⟩ = some v1 ∧ w'.cell? ⟨w.heap.size, 2, none⟩ = some v2 ∧ w'.cell? ⟨w.heap.size, 3, none⟩ = some v3 := by
  have key : ∀ i, w'.cell? ⟨w.heap.size, i, none⟩ = #[v0, v1, v2, v3][i]? := fun i => by
    rw [hb.cell (p := ⟨w.heap.size, i, none⟩) (by simp)]
    exact cell_of_row _ _ i _ T (0, 0) (heap_alloc_last w _)
  exact ⟨key 0, key 1, key 2, key 3⟩

end Go.Proofs.Ytlgjadnkokmjoaa

/- count.plus, one, the closures, added: contracts. -/

namespace Go.Proofs.Ytlgjadnkokmjoaa
open Go.RowKit

theorem div_over {s a b : Int} (hs0 : 0 ≤ s) (hs : s ≤ 1152921504606846977) (ha : 1 ≤ a) (hb : 1 ≤ b) : (1152921504606846976 - s).tdiv a < b ↔ 1152921504606846976 < s + a * b := by
  rcases Int.lt_or_le 1152921504606846976 s with h | h
  · obtain rfl : s = 1152921504606846977 := by omega
    have h1 : (1152921504606846976 - 1152921504606846977 : Int).tdiv a ≤ 0 := by
      rw [show (1152921504606846976 - 1152921504606846977 : Int) = -1 by decide, Int.neg_tdiv]
      have := Int.tdiv_nonneg (a := 1) (b := a) (by decide) (by omega)
      omega
    have h2 : 0 ≤ a * b := Int.mul_nonneg (by omega) (by omega)
    exact ⟨fun _ => by omega, fun _ => by omega⟩
  · rw [Int.tdiv_eq_ediv_of_nonneg (by omega)]
    have h1 := Int.ediv_lt_iff_lt_mul (a := 1152921504606846976 - s) (b := b) (c := a) (by omega)
    rw [Int.mul_comm a b]
    generalize b * a = p at h1 ⊢
    omega
def retI (v : Int) (w : World) (e : Ending) (w' : World) : Prop := e = .returned (.int .i64 v) ∧ w' = w
set_option maxHeartbeats 2000000 in
set_option maxRecDepth 4000 in
theorem plus_any (s a b : Int) (w : World) (hs : 0 ≤ s ∧ s ≤ 1152921504606846977) (ha : 0 ≤ a ∧ a ≤ 1152921504606846977) (hb : 0 ≤ b ∧ b ≤ 1152921504606846977) :
    Calls Try.prog 36 #[.int .i64 s, .int .i64 a, .int .i64 b] w (retI (capI (s + a * b)) w) := by
  by_cases ha0 : a = 0
  · subst ha0
    have hv : capI (s + 0 * b) = s := by unfold capI; split <;> omega
    rw [hv]
    go_enter Try.func36, Try.ntmps36
    go_wp2
    go_ret
    exact ⟨rfl, rfl⟩
  by_cases hb0 : b = 0
  · subst hb0
    have hv : capI (s + a * 0) = s := by unfold capI; split <;> omega
    rw [hv]
    have h0 : (a == 0) = false := by simp; omega
    go_enter Try.func36, Try.ntmps36
    go_wp2
    go_ret
    exact ⟨rfl, rfl⟩
  have h0 : (a == 0) = false := by simp; omega
  have h1 : (b == 0) = false := by simp; omega
  have hD := div_over hs.1 hs.2 (show 1 ≤ a by omega) (show 1 ≤ b by omega)
  have hq : -1 ≤ (1152921504606846976 - s).tdiv a ∧ (1152921504606846976 - s).tdiv a ≤ 1152921504606846976 := by
    rcases Int.lt_or_le 1152921504606846976 s with h | h
    · obtain rfl : s = 1152921504606846977 := by omega
      rw [show (1152921504606846976 - 1152921504606846977 : Int) = -1 by decide, Int.neg_tdiv]
      have h2 := Int.tdiv_le_self (a := 1) a (by decide)
      have h3 := Int.tdiv_nonneg (a := 1) (b := a) (by decide) (by omega)
      omega
    · have h2 := Int.tdiv_le_self (a := 1152921504606846976 - s) a (by omega)
      have h3 := Int.tdiv_nonneg (a := 1152921504606846976 - s) (b := a) (by omega) (by omega)
      omega
  have hp : 0 ≤ a * b := Int.mul_nonneg ha.1 hb.1
  have hw0 : IntKind.i64.wrap (1152921504606846976 - s) = 1152921504606846976 - s := by rw [IntKind.wrap_i64]; omega
  generalize hqe : (1152921504606846976 - s).tdiv a = q at hD hq
  have hwq : IntKind.i64.wrap q = q := by rw [IntKind.wrap_i64]; omega
  by_cases hlt : 1152921504606846976 < s + a * b
  · have hql : q < b := hD.2 hlt
    have hv : capI (s + a * b) = 1152921504606846977 := if_neg (by omega)
    rw [hv]
    clear hD hlt hv hp hq hb0
    go_enter Try.func36, Try.ntmps36
    go_wp2
    go_ret
    exact ⟨rfl, rfl⟩
  · have hql : ¬ q < b := fun h => hlt (hD.1 h)
    have hv : capI (s + a * b) = s + a * b := if_pos (by omega)
    rw [hv]
    have hw1 : IntKind.i64.wrap (a * b) = a * b := by rw [IntKind.wrap_i64]; omega
    have hw2 : IntKind.i64.wrap (s + a * b) = s + a * b := by rw [IntKind.wrap_i64]; omega
    clear hD hlt hv hp hq hb0
    go_enter Try.func36, Try.ntmps36
    go_wp2
    go_ret
    exact ⟨rfl, rfl⟩
set_option maxHeartbeats 1000000 in
theorem cone_any (q : Bool) (w : World) : Calls Try.prog 15 #[.bool q] w (retI (if q then 1 else 0) w) := by
  cases q <;>
  · go_enter Try.func15, Try.ntmps15
    go_wp2
    go_ret
    exact ⟨rfl, rfl⟩
set_option maxHeartbeats 1000000 in
theorem thr1_any (a : Option Addr) (n c : Nat) (l : List Int) (t B : Nat) (w : World) (hs : Sl w a n l) (ht : t < n) (hB : w.cell? ⟨B, 0, none⟩ = some (.int .i64 (t : Int))) :
    Calls Try.prog 35 #[.slice a n c, .pointer (some ⟨B, 0, none⟩)] w (retI (l.getD t 0) w) := by
  obtain ⟨b1, o1, rfl, hc⟩ := sl_cell hs t ht
  have hti : (t : Int) < (n : Int) := by omega
  clear hs
  generalize l.getD t 0 = v at hc ⊢
  go_enter Try.func35, Try.ntmps35
  go_wp2
  go_ret
  exact ⟨rfl, rfl⟩
set_option maxHeartbeats 1000000 in
theorem evl1_any (x : Int) (w : World) : Calls Try.prog 21 #[.int .i64 x] w (retI x w) := by
  go_enter Try.func21, Try.ntmps21
  go_wp2
  go_ret
  exact ⟨rfl, rfl⟩
set_option maxHeartbeats 4000000 in
set_option maxRecDepth 4000 in
theorem addedB_any (f : FuncId) (cs : Array Value) (vs : Nat → Value) (c : Nat → Int) (ar : Option Addr) (n cr : Nat) (row : List Int) (th : Option Addr) (m ct : Nat) (w : World)
    (hen : ∀ (args : Array Value) (W : World), (callFunc f args).run Try.prog W = .ok (.enter f args) W)
    (hs : Sl w ar n row) (hth : ∀ i, i < n → ∃ b o, th = some ⟨b, o, none⟩ ∧ w.cell? ⟨b, o + i, none⟩ = some (vs i)) (hm : n ≤ m)
    (hF : ∀ i, i < n → Calls Try.prog f (#[vs i] ++ cs) w (retI (c i) w))
    (hrb : ∀ i, i < n → 0 ≤ row.getD i 0 ∧ row.getD i 0 ≤ 1152921504606846977) (hcb : ∀ i, i < n → 0 ≤ c i ∧ c i ≤ 1152921504606846977) :
    Calls Try.prog 25 #[.slice ar n cr, .slice th m ct, .func (.func f) #[] cs] w (retI (capI (csum (fun i => row.getD i 0 * c i) n)) w) := by
  have hnm := hs.2.1
  unfold maxLen at hnm
  rw [← ccap_eq fun i hi => Int.mul_nonneg (hrb i hi).1 (hcb i hi).1]
  have HCC : Hid (∀ i, i ≤ n → 0 ≤ ccap (fun i => row.getD i 0 * c i) i ∧ ccap (fun i => row.getD i 0 * c i) i ≤ 1152921504606846977) := fun i hi => by
    rw [ccap_eq fun j hj => Int.mul_nonneg (hrb j (by omega)).1 (hcb j (by omega)).1]
    exact capI_bd (csum_nn fun j hj => Int.mul_nonneg (hrb j (by omega)).1 (hcb j (by omega)).1)
  have HST : Hid (∀ i, ccap (fun i => row.getD i 0 * c i) (i + 1) = capI (ccap (fun i => row.getD i 0 * c i) i + row.getD i 0 * c i)) := fun i => rfl
  have HS := hide hs
  have HTH := hide hth
  have HEN := hide hen
  have H1 := hide hF
  have HRB := hide hrb
  have HCB := hide hcb
  have HZ : Hid (ccap (fun i => row.getD i 0 * c i) 0 = 0) := rfl
  unfold retI at H1
  clear hs hth hen hF hrb hcb
  generalize ccap (fun i => row.getD i 0 * c i) = S at HCC HST HZ ⊢
  go_enter Try.func25, Try.ntmps25
  go_wp2
  go_loop [7, 12] (fun u i => ∃ k : Nat, k ≤ n ∧ i = .int .i64 k ∧ u = .int .i64 (S k)) (fun _ i => n - (intOf i).toNat)
  case atStart => exact ⟨0, by omega, rfl, by rw [HZ.out]⟩
  case round =>
    obtain ⟨k, hk, rfl, rfl⟩ := hrel
    by_cases hlt : k < n
    · have hlti : (k : Int) < (n : Int) := by omega
      have hkm : (k : Int) < (m : Int) := by omega
      obtain ⟨b1, o1, rfl, hc1⟩ := sl_cell HS.out k hlt
      obtain ⟨b2, o2, rfl, hc2⟩ := HTH.out k hlt
      have HC1 := hide (H1.out k hlt)
      have HC2 := hide (plus_any (S k) (row.getD k 0) (c k) w (HCC.out k hk) (HRB.out k hlt) (HCB.out k hlt))
      unfold retI at HC2
      rw [← HST.out] at HC2
      have HNX := hide (HCC.out (k + 1) hlt)
      generalize row.getD k 0 = x at hc1 HC2
      generalize vs k = v at hc2 HC1
      generalize c k = y at HC1 HC2
      generalize hsk : S k = sk at HC2
      have he := HEN.out
      go_wp2_with fail
      refine HC1.out.mono ?_
      rintro e w' ⟨rfl, hw⟩
      rw [hw]
      clear hw w'
      go_wp2_with (go_at_call 36; refine HC2.out.mono ?_; rintro e w' ⟨rfl, hw⟩; rw [hw]; clear hw w')
      clear he
      go_round
      case rel => exact ⟨k + 1, by omega, by go_num, rfl⟩
      case measure => simp [intOf]; omega
    · have hlti : ¬ (k : Int) < (n : Int) := by omega
      obtain rfl : k = n := by omega
      go_wp2
      go_ret
      exact ⟨rfl, rfl⟩
set_option maxHeartbeats 4000000 in
set_option maxRecDepth 4000 in
theorem addedI_any (f : FuncId) (cs : Array Value) (vs : Nat → Value) (c : Nat → Int) (ar : Option Addr) (n cr : Nat) (row : List Int) (th : Option Addr) (m ct : Nat) (w : World)
    (hen : ∀ (args : Array Value) (W : World), (callFunc f args).run Try.prog W = .ok (.enter f args) W)
    (hs : Sl w ar n row) (hth : ∀ i, i < n → ∃ b o, th = some ⟨b, o, none⟩ ∧ w.cell? ⟨b, o + i, none⟩ = some (vs i)) (hm : n ≤ m)
    (hF : ∀ i, i < n → Calls Try.prog f (#[vs i] ++ cs) w (retI (c i) w))
    (hrb : ∀ i, i < n → 0 ≤ row.getD i 0 ∧ row.getD i 0 ≤ 1152921504606846977) (hcb : ∀ i, i < n → 0 ≤ c i ∧ c i ≤ 1152921504606846977) :
    Calls Try.prog 20 #[.slice ar n cr, .slice th m ct, .func (.func f) #[] cs] w (retI (capI (csum (fun i => row.getD i 0 * c i) n)) w) := by
  have hnm := hs.2.1
  unfold maxLen at hnm
  rw [← ccap_eq fun i hi => Int.mul_nonneg (hrb i hi).1 (hcb i hi).1]
  have HCC : Hid (∀ i, i ≤ n → 0 ≤ ccap (fun i => row.getD i 0 * c i) i ∧ ccap (fun i => row.getD i 0 * c i) i ≤ 1152921504606846977) := fun i hi => by
    rw [ccap_eq fun j hj => Int.mul_nonneg (hrb j (by omega)).1 (hcb j (by omega)).1]
    exact capI_bd (csum_nn fun j hj => Int.mul_nonneg (hrb j (by omega)).1 (hcb j (by omega)).1)
  have HST : Hid (∀ i, ccap (fun i => row.getD i 0 * c i) (i + 1) = capI (ccap (fun i => row.getD i 0 * c i) i + row.getD i 0 * c i)) := fun i => rfl
  have HS := hide hs
  have HTH := hide hth
  have HEN := hide hen
  have H1 := hide hF
  have HRB := hide hrb
  have HCB := hide hcb
  have HZ : Hid (ccap (fun i => row.getD i 0 * c i) 0 = 0) := rfl
  unfold retI at H1
  clear hs hth hen hF hrb hcb
  generalize ccap (fun i => row.getD i 0 * c i) = S at HCC HST HZ ⊢
  go_enter Try.func20, Try.ntmps20
  go_wp2
  go_loop [7, 12] (fun u i => ∃ k : Nat, k ≤ n ∧ i = .int .i64 k ∧ u = .int .i64 (S k)) (fun _ i => n - (intOf i).toNat)
  case atStart => exact ⟨0, by omega, rfl, by rw [HZ.out]⟩
  case round =>
    obtain ⟨k, hk, rfl, rfl⟩ := hrel
    by_cases hlt : k < n
    · have hlti : (k : Int) < (n : Int) := by omega
      have hkm : (k : Int) < (m : Int) := by omega
      obtain ⟨b1, o1, rfl, hc1⟩ := sl_cell HS.out k hlt
      obtain ⟨b2, o2, rfl, hc2⟩ := HTH.out k hlt
      have HC1 := hide (H1.out k hlt)
      have HC2 := hide (plus_any (S k) (row.getD k 0) (c k) w (HCC.out k hk) (HRB.out k hlt) (HCB.out k hlt))
      unfold retI at HC2
      rw [← HST.out] at HC2
      have HNX := hide (HCC.out (k + 1) hlt)
      generalize row.getD k 0 = x at hc1 HC2
      generalize vs k = v at hc2 HC1
      generalize c k = y at HC1 HC2
      generalize hsk : S k = sk at HC2
      have he := HEN.out
      go_wp2_with fail
      refine HC1.out.mono ?_
      rintro e w' ⟨rfl, hw⟩
      rw [hw]
      clear hw w'
      go_wp2_with (go_at_call 36; refine HC2.out.mono ?_; rintro e w' ⟨rfl, hw⟩; rw [hw]; clear hw w')
      clear he
      go_round
      case rel => exact ⟨k + 1, by omega, by go_num, rfl⟩
      case measure => simp [intOf]; omega
    · have hlti : ¬ (k : Int) < (n : Int) := by omega
      obtain rfl : k = n := by omega
      go_wp2
      go_ret
      exact ⟨rfl, rfl⟩
set_option maxHeartbeats 4000000 in
set_option maxRecDepth 4000 in
theorem addedL_any (f : FuncId) (cs : Array Value) (vs : Nat → Value) (c : Nat → Int) (ar : Option Addr) (n cr : Nat) (row : List Int) (th : Option Addr) (m ct : Nat) (w : World)
    (hen : ∀ (args : Array Value) (W : World), (callFunc f args).run Try.prog W = .ok (.enter f args) W)
    (hs : Sl w ar n row) (hth : ∀ i, i < n → ∃ b o, th = some ⟨b, o, none⟩ ∧ w.cell? ⟨b, o + i, none⟩ = some (vs i)) (hm : n ≤ m)
    (hF : ∀ i, i < n → Calls Try.prog f (#[vs i] ++ cs) w (retI (c i) w))
    (hrb : ∀ i, i < n → 0 ≤ row.getD i 0 ∧ row.getD i 0 ≤ 1152921504606846977) (hcb : ∀ i, i < n → 0 ≤ c i ∧ c i ≤ 1152921504606846977) :
    Calls Try.prog 34 #[.slice ar n cr, .slice th m ct, .func (.func f) #[] cs] w (retI (capI (csum (fun i => row.getD i 0 * c i) n)) w) := by
  have hnm := hs.2.1
  unfold maxLen at hnm
  rw [← ccap_eq fun i hi => Int.mul_nonneg (hrb i hi).1 (hcb i hi).1]
  have HCC : Hid (∀ i, i ≤ n → 0 ≤ ccap (fun i => row.getD i 0 * c i) i ∧ ccap (fun i => row.getD i 0 * c i) i ≤ 1152921504606846977) := fun i hi => by
    rw [ccap_eq fun j hj => Int.mul_nonneg (hrb j (by omega)).1 (hcb j (by omega)).1]
    exact capI_bd (csum_nn fun j hj => Int.mul_nonneg (hrb j (by omega)).1 (hcb j (by omega)).1)
  have HST : Hid (∀ i, ccap (fun i => row.getD i 0 * c i) (i + 1) = capI (ccap (fun i => row.getD i 0 * c i) i + row.getD i 0 * c i)) := fun i => rfl
  have HS := hide hs
  have HTH := hide hth
  have HEN := hide hen
  have H1 := hide hF
  have HRB := hide hrb
  have HCB := hide hcb
  have HZ : Hid (ccap (fun i => row.getD i 0 * c i) 0 = 0) := rfl
  unfold retI at H1
  clear hs hth hen hF hrb hcb
  generalize ccap (fun i => row.getD i 0 * c i) = S at HCC HST HZ ⊢
  go_enter Try.func34, Try.ntmps34
  go_wp2
  go_loop [7, 12] (fun u i => ∃ k : Nat, k ≤ n ∧ i = .int .i64 k ∧ u = .int .i64 (S k)) (fun _ i => n - (intOf i).toNat)
  case atStart => exact ⟨0, by omega, rfl, by rw [HZ.out]⟩
  case round =>
    obtain ⟨k, hk, rfl, rfl⟩ := hrel
    by_cases hlt : k < n
    · have hlti : (k : Int) < (n : Int) := by omega
      have hkm : (k : Int) < (m : Int) := by omega
      obtain ⟨b1, o1, rfl, hc1⟩ := sl_cell HS.out k hlt
      obtain ⟨b2, o2, rfl, hc2⟩ := HTH.out k hlt
      have HC1 := hide (H1.out k hlt)
      have HC2 := hide (plus_any (S k) (row.getD k 0) (c k) w (HCC.out k hk) (HRB.out k hlt) (HCB.out k hlt))
      unfold retI at HC2
      rw [← HST.out] at HC2
      have HNX := hide (HCC.out (k + 1) hlt)
      generalize row.getD k 0 = x at hc1 HC2
      generalize vs k = v at hc2 HC1
      generalize c k = y at HC1 HC2
      generalize hsk : S k = sk at HC2
      have he := HEN.out
      go_wp2_with fail
      refine HC1.out.mono ?_
      rintro e w' ⟨rfl, hw⟩
      rw [hw]
      clear hw w'
      go_wp2_with (go_at_call 36; refine HC2.out.mono ?_; rintro e w' ⟨rfl, hw⟩; rw [hw]; clear hw w')
      clear he
      go_round
      case rel => exact ⟨k + 1, by omega, by go_num, rfl⟩
      case measure => simp [intOf]; omega
    · have hlti : ¬ (k : Int) < (n : Int) := by omega
      obtain rfl : k = n := by omega
      go_wp2
      go_ret
      exact ⟨rfl, rfl⟩
end Go.Proofs.Ytlgjadnkokmjoaa

/- The contract of letter.apart: the digits of each track of a word. -/
namespace Go.Proofs.Ytlgjadnkokmjoaa
open Go.RowKit

theorem infoS : (Try.prog.info? 26).map (fun i => (i.zero, i.size, i.bytes)) = some (some (.slice none 0 0), 1, 24) := by kernel_rfl
theorem make_rows (n : Nat) (hn : n ≤ 1000000000000) (w : World) : (Instr.makeSlice 22 (.int .i64 (n : Int)) (.int .i64 (n : Int))).run Try.prog w = .ok (.slice (some ⟨w.heap.size, 0, none⟩) n n) (w.alloc (.cells (madeCells #[.slice none 0 0] n) 26)) :=
  run_make_row' 22 26 (.slice none 0 0) 24 Try.underlying22 infoS rfl .i64 .i64 n (by omega) (by omega) w

end Go.Proofs.Ytlgjadnkokmjoaa

/- letter.apart, whatever is handed in; letter.Right and letter.Nums by it. -/
namespace Go.Proofs.Ytlgjadnkokmjoaa
open Go.RowKit

theorem errV_ne {c : Int} (h : c ≠ 0) : errV c = .iface 52 (.int .i64 c) := by unfold errV; rw [if_neg h]
theorem errV_zero : errV 0 = .nilIface := rfl

end Go.Proofs.Ytlgjadnkokmjoaa

/- An automaton that a call builds in a variable's box, row by row and end by end. -/
namespace Go.Proofs.Ytlgjadnkokmjoaa
open Go.RowKit

theorem box_cells {W : World} {B : Nat} {v0 v1 v2 v3 : Value} {T : TypeId} (h : W.heap[B]? = some (.cells #[v0, v1, v2, v3] T (0, 0))) :
    (W.cell? ⟨B, 0, none⟩ = some v0 ∧ W.cell? ⟨B, 1, none⟩ = some v1 ∧ W.cell? ⟨B, 2, none⟩ = some v2 ∧ W.cell? ⟨B, 3, none⟩ = some v3) ∧ ∀ i, W.frozen? ⟨B, i, none⟩ = false := by
  refine ⟨⟨?_, ?_, ?_, ?_⟩, fun i => ?_⟩ <;> simp [World.cell?, World.frozen?, h]
end Go.Proofs.Ytlgjadnkokmjoaa

/- The laws' automaton of multiples of three: contract. -/
namespace Go.Proofs.Ytlgjadnkokmjoaa
open Go.RowKit

theorem six_boxes (w : World) (o0 o1 o2 o3 o4 o5 : Obj) (W : World) (h : (((((w.alloc o0).alloc o1).alloc o2).alloc o3).alloc o4).alloc o5 = W) :
    W.heap.size = w.heap.size + 6 ∧ Below w.heap.size w W ∧ W.heap[w.heap.size]? = some o0 ∧ W.heap[w.heap.size + 1]? = some o1 ∧ W.heap[w.heap.size + 2]? = some o2 ∧ W.heap[w.heap.size + 3]? = some o3 ∧ W.heap[w.heap.size + 4]? = some o4 ∧ W.heap[w.heap.size + 5]? = some o5 := by
  subst h
  have e : ∀ (w : World) (o : Obj), (w.alloc o).heap.size = w.heap.size + 1 := fun w o => by simp
  have l : ∀ (w : World) (o : Obj), (w.alloc o).heap[w.heap.size]? = some o := fun w o => heap_alloc_last w o
  have p : ∀ (w : World) (o : Obj) (x : Nat) (v : Obj), w.heap[x]? = some v → (w.alloc o).heap[x]? = some v := fun w o x v h => (Below.heap_alloc _ _ _ (Array.getElem?_eq_some_iff.1 h).1).trans h
  refine ⟨by simp, ((((((Below.refl _ w).alloc (Nat.le_refl _) _).alloc (by simp) _).alloc (by simp; omega) _).alloc (by simp; omega) _).alloc (by simp; omega) _).alloc (by simp; omega) _, ?_, ?_, ?_, ?_, ?_, ?_⟩
  · exact p _ _ _ _ (p _ _ _ _ (p _ _ _ _ (p _ _ _ _ (p _ _ _ _ (l w o0)))))
  · exact p _ _ _ _ (p _ _ _ _ (p _ _ _ _ (p _ _ _ _ (by simpa [e] using l (w.alloc o0) o1))))
  · exact p _ _ _ _ (p _ _ _ _ (p _ _ _ _ (by simpa [e] using l ((w.alloc o0).alloc o1) o2)))
  · exact p _ _ _ _ (p _ _ _ _ (by simpa [e] using l (((w.alloc o0).alloc o1).alloc o2) o3))
  · exact p _ _ _ _ (by simpa [e] using l ((((w.alloc o0).alloc o1).alloc o2).alloc o3) o4)
  · simpa [e] using l (((((w.alloc o0).alloc o1).alloc o2).alloc o3).alloc o4) o5
def thrN : List (List Int) := [[0, 1], [2, 0], [1, 2]]
def thrE : List Bool := [true, false, false]
def ThrU (w : World) (e : Ending) (w' : World) : Prop := ∃ a c a' c', e = .returned (.agg #[.int .i64 2, .int .i64 1, .slice a 3 c, .slice a' 3 c']) ∧ Sl2 w' a 3 thrN ∧ SlB w' a' 3 thrE ∧ Below w.heap.size w w'
theorem thr_world (w : World) (T T2 T3 : TypeId) (o : Obj) (W : World) (h : (((((w.alloc o).alloc (.cells #[.int .i64 0, .int .i64 1] T)).alloc (.cells #[.int .i64 2, .int .i64 0] T)).alloc (.cells #[.int .i64 1, .int .i64 2] T)).alloc (.cells #[.slice (some ⟨w.heap.size + 1, 0, none⟩) 2 2, .slice (some ⟨w.heap.size + 2, 0, none⟩) 2 2, .slice (some ⟨w.heap.size + 3, 0, none⟩) 2 2] T2)).alloc (.cells #[.bool true, .bool false, .bool false] T3) = W) :
    Sl2 W (some ⟨w.heap.size + 4, 0, none⟩) 3 thrN ∧ SlB W (some ⟨w.heap.size + 5, 0, none⟩) 3 thrE ∧ Below w.heap.size w W := by
  obtain ⟨-, hB, -, g1, g2, g3, g4, g5⟩ := six_boxes w _ _ _ _ _ _ W h
  have c1 : ∀ i, W.cell? ⟨w.heap.size + 1, i, none⟩ = #[Value.int .i64 0, .int .i64 1][i]? := fun i => by simp [World.cell?, g1]
  have c2 : ∀ i, W.cell? ⟨w.heap.size + 2, i, none⟩ = #[Value.int .i64 2, .int .i64 0][i]? := fun i => by simp [World.cell?, g2]
  have c3 : ∀ i, W.cell? ⟨w.heap.size + 3, i, none⟩ = #[Value.int .i64 1, .int .i64 2][i]? := fun i => by simp [World.cell?, g3]
  have c4 : ∀ i, W.cell? ⟨w.heap.size + 4, i, none⟩ = #[Value.slice (some ⟨w.heap.size + 1, 0, none⟩) 2 2, .slice (some ⟨w.heap.size + 2, 0, none⟩) 2 2, .slice (some ⟨w.heap.size + 3, 0, none⟩) 2 2][i]? := fun i => by simp [World.cell?, g4]
  have c5 : ∀ i, W.cell? ⟨w.heap.size + 5, i, none⟩ = #[Value.bool true, .bool false, .bool false][i]? := fun i => by simp [World.cell?, g5]
  have two : ∀ i, i < 2 → i = 0 ∨ i = 1 := by omega
  have three : ∀ i, i < 3 → i = 0 ∨ i = 1 ∨ i = 2 := by omega
  have s1 : Sl W (some ⟨w.heap.size + 1, 0, none⟩) 2 [0, 1] := ⟨rfl, by decide, by decide, Or.inr ⟨_, 0, rfl, fun i hi => by rcases two i hi with rfl | rfl <;> exact c1 _⟩⟩
  have s2 : Sl W (some ⟨w.heap.size + 2, 0, none⟩) 2 [2, 0] := ⟨rfl, by decide, by decide, Or.inr ⟨_, 0, rfl, fun i hi => by rcases two i hi with rfl | rfl <;> exact c2 _⟩⟩
  have s3 : Sl W (some ⟨w.heap.size + 3, 0, none⟩) 2 [1, 2] := ⟨rfl, by decide, by decide, Or.inr ⟨_, 0, rfl, fun i hi => by rcases two i hi with rfl | rfl <;> exact c3 _⟩⟩
  refine ⟨⟨rfl, by decide, Or.inr ⟨_, 0, rfl, fun i hi => ?_⟩⟩, ⟨rfl, by decide, Or.inr ⟨_, 0, rfl, fun i hi => by rcases three i hi with rfl | rfl | rfl <;> exact c5 _⟩⟩, hB⟩
  rcases three i hi with rfl | rfl | rfl
  · exact ⟨_, 2, c4 0, s1⟩
  · exact ⟨_, 2, c4 1, s2⟩
  · exact ⟨_, 2, c4 2, s3⟩
set_option maxHeartbeats 1000000 in
set_option maxRecDepth 4000 in
theorem threes_any (w : World) : Calls Try.prog 5 #[] w (ThrU w) := by
  go_enter Try.func5, Try.ntmps5
  go_wp2
  exact bodyPost_ret (v := .agg #[.int .i64 2, .int .i64 1, .slice (some ⟨w.heap.size + 4, 0, none⟩) 3 3, .slice (some ⟨w.heap.size + 5, 0, none⟩) 3 3]) (by simp [results, Try.results5, go_sem]) rfl ⟨_, 3, _, 3, rfl, thr_world w 3 26 4 _ _ rfl⟩
end Go.Proofs.Ytlgjadnkokmjoaa
