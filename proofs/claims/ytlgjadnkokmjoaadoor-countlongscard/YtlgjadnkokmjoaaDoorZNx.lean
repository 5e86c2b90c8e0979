/- 8 texts in one. -/
import Derived.Deep.AppendLies
import Derived.OneCell
import Derived.Test.YtlgjadnkokmjoaaDoorLs
import Derived.Test.YtlgjadnkokmjoaaDoorZRu
/- Slices of slices of numbers: as they are read, and as a call builds them. -/
namespace Go.Proofs.YtlgjadnkokmjoaaDoor
open Go.RowKit

/-- The slice reads as rows of numbers. -/
def Sl2 (w : World) (a : Option Addr) (len : Nat) (ls : List (List Int)) : Prop :=
  ls.length = len ∧ len ≤ maxLen ∧
  (len = 0 ∨ ∃ b o, a = some ⟨b, o, none⟩ ∧ ∀ i, i < len → ∃ a' cap', w.cell? ⟨b, o + i, none⟩ = some (.slice a' (ls.getD i []).length cap') ∧ Sl w a' (ls.getD i []).length (ls.getD i []))

theorem sl2_below {w W : World} {a : Option Addr} {len : Nat} {ls : List (List Int)} (h : Sl2 w a len ls) (hb : Below w.heap.size w W) : Sl2 W a len ls := by
  obtain ⟨h1, h2, h3⟩ := h
  refine ⟨h1, h2, ?_⟩
  rcases h3 with h3 | ⟨b, o, rfl, hc⟩
  · exact Or.inl h3
  · refine Or.inr ⟨b, o, rfl, fun i hi => ?_⟩
    obtain ⟨a', cap', h4, h5⟩ := hc i hi
    refine ⟨a', cap', ?_, sl_below h5 hb⟩
    rw [hb.cell (p := ⟨b, o + i, none⟩) (World.block_lt_of_cell? w _ h4)]
    exact h4

theorem sl2_cell {w : World} {a : Option Addr} {len : Nat} {ls : List (List Int)} (h : Sl2 w a len ls) (i : Nat) (hi : i < len) :
    ∃ b o a' cap', a = some ⟨b, o, none⟩ ∧ w.cell? ⟨b, o + i, none⟩ = some (.slice a' (ls.getD i []).length cap') ∧ Sl w a' (ls.getD i []).length (ls.getD i []) := by
  rcases h.2.2 with h0 | ⟨b, o, rfl, hc⟩
  · omega
  · obtain ⟨a', cap', h4, h5⟩ := hc i hi
    exact ⟨b, o, a', cap', rfl, h4, h5⟩

theorem ownsRow_of_block {w w' : World} {base : Nat} {e : TypeId} {size : Nat} {v : Value} {n : Nat} {xs : List Value} (h : w.ownsRow base e size v n xs) (hb : ∀ k, v.ownBlock = some k → w'.heap[k]? = w.heap[k]?) : w'.ownsRow base e size v n xs := by
  obtain ⟨h1, h2⟩ := h
  refine ⟨h1, ?_⟩
  rcases h2 with h2 | ⟨g, cap, cur, rfl, hg, hh, r⟩
  · exact Or.inl h2
  · exact Or.inr ⟨g, cap, cur, rfl, hg, by rw [hb g rfl]; exact hh, r⟩

/-- The block of a slice that is not empty. -/
def slB (a : Option Addr) (len : Nat) (x : Nat) : Prop := 0 < len ∧ ∃ ad, a = some ad ∧ ad.block = x
theorem sl_keep {w w' : World} {a : Option Addr} {len : Nat} {l : List Int} (h : Sl w a len l) (hb : ∀ x, slB a len x → w'.heap[x]? = w.heap[x]?) : Sl w' a len l := by
  obtain ⟨h1, h2, h3, h4⟩ := h
  refine ⟨h1, h2, h3, ?_⟩
  rcases h4 with h4 | ⟨b, o, rfl, hc⟩
  · exact Or.inl h4
  · refine Or.inr ⟨b, o, rfl, fun i hi => ?_⟩
    rw [World.cell?_of_block (w := w) (hb b ⟨by omega, _, rfl, rfl⟩)]
    exact hc i hi
theorem slB_lt {w : World} {a : Option Addr} {len : Nat} {l : List Int} (h : Sl w a len l) {x : Nat} (hx : slB a len x) : x < w.heap.size := by
  obtain ⟨h0, ad, rfl, rfl⟩ := hx
  obtain ⟨b, o, e, hc⟩ := sl_cell h 0 h0
  cases e
  exact World.block_lt_of_cell? w _ hc

end Go.Proofs.YtlgjadnkokmjoaaDoor

/- Slices of slices of slices of numbers: as they are read. -/
namespace Go.Proofs.YtlgjadnkokmjoaaDoor
open Go.RowKit

/-- The slice reads as squares of numbers. -/
def Sl3 (w : World) (a : Option Addr) (len : Nat) (L : List (List (List Int))) : Prop :=
  L.length = len ∧ len ≤ maxLen ∧
  (len = 0 ∨ ∃ b o, a = some ⟨b, o, none⟩ ∧ ∀ i, i < len → ∃ a' cap', w.cell? ⟨b, o + i, none⟩ = some (.slice a' (L.getD i []).length cap') ∧ Sl2 w a' (L.getD i []).length (L.getD i []))
theorem sl3_below {w W : World} {a : Option Addr} {len : Nat} {L : List (List (List Int))} (h : Sl3 w a len L) (hb : Below w.heap.size w W) : Sl3 W a len L := by
  obtain ⟨h1, h2, h3⟩ := h
  refine ⟨h1, h2, ?_⟩
  rcases h3 with h3 | ⟨b, o, rfl, hc⟩
  · exact Or.inl h3
  · refine Or.inr ⟨b, o, rfl, fun i hi => ?_⟩
    obtain ⟨a', cap', h4, h5⟩ := hc i hi
    refine ⟨a', cap', ?_, sl2_below h5 hb⟩
    rw [hb.cell (p := ⟨b, o + i, none⟩) (World.block_lt_of_cell? w _ h4)]
    exact h4
theorem sl3_cell {w : World} {a : Option Addr} {len : Nat} {L : List (List (List Int))} (h : Sl3 w a len L) (i : Nat) (hi : i < len) :
    ∃ b o a' cap', a = some ⟨b, o, none⟩ ∧ w.cell? ⟨b, o + i, none⟩ = some (.slice a' (L.getD i []).length cap') ∧ Sl2 w a' (L.getD i []).length (L.getD i []) := by
  rcases h.2.2 with h0 | ⟨b, o, rfl, hc⟩
  · omega
  · obtain ⟨a', cap', h4, h5⟩ := hc i hi
    exact ⟨b, o, a', cap', rfl, h4, h5⟩
/-- What counts by matrices, in its box. -/
theorem box5R {w w' : World} {v0 v1 v2 v3 v4 : Value} {T : TypeId} (hb : Below (w.alloc (.cells #[v0, v1, v2, v3, v4] T)).heap.size (w.alloc (.cells #[v0, v1, v2, v3, v4] T)) w') :
    w'.cell? ⟨w.heap.size, 0, none⟩ = some v0 ∧ w'.cell? ⟨w.heap.size, 1, none⟩ = some v1 ∧ w'.cell? ⟨w.heap.size, 2, none⟩ = some v2 ∧ w'.cell? ⟨w.heap.size, 3, none⟩ = some v3 ∧ w'.cell? ⟨w.heap.size, 4, none⟩ = some v4 := by
  have key : ∀ i, w'.cell? ⟨w.heap.size, i, none⟩ = #[v0, v1, v2, v3, v4][i]? := fun i => by
    rw [hb.cell (p := ⟨w.heap.size, i, none⟩) (by simp)]
    exact cell_of_row _ _ i _ T (0, 0) (heap_alloc_last w _)
  exact ⟨key 0, key 1, key 2, key 3, key 4⟩
theorem box5R_cells {W : World} {B : Nat} {v0 v1 v2 v3 v4 : Value} {T : TypeId} (h : W.heap[B]? = some (.cells #[v0, v1, v2, v3, v4] T (0, 0))) : (W.cell? ⟨B, 0, none⟩ = some v0 ∧ W.cell? ⟨B, 1, none⟩ = some v1 ∧ W.cell? ⟨B, 2, none⟩ = some v2 ∧ W.cell? ⟨B, 3, none⟩ = some v3 ∧ W.cell? ⟨B, 4, none⟩ = some v4) ∧ ∀ i, W.frozen? ⟨B, i, none⟩ = false := by
  refine ⟨⟨?_, ?_, ?_, ?_, ?_⟩, fun i => ?_⟩ <;> simp [World.cell?, World.frozen?, h]
theorem box5R_set {W : World} {B : Nat} {u0 u1 u2 u3 u4 v0 v1 v2 v3 v4 : Value} {T : TypeId} (h : W.heap[B]? = some (.cells #[u0, u1, u2, u3, u4] T (0, 0))) {W' : World} (e : W' = ((((W.setCell ⟨B, 0, none⟩ v0).setCell ⟨B, 1, none⟩ v1).setCell ⟨B, 2, none⟩ v2).setCell ⟨B, 3, none⟩ v3).setCell ⟨B, 4, none⟩ v4) :
    (W'.heap[B]? = some (.cells #[v0, v1, v2, v3, v4] T (0, 0)) ∧ W'.heap.size = W.heap.size ∧ ∀ x, x ≠ B → W'.heap[x]? = W.heap[x]?) ∧ ∀ (w : World) (k : Nat), Below k w W → k ≤ B → Below k w W' := by
  subst e
  refine ⟨⟨by simp [World.setCell, Array.getElem?_modify, h], by simp [World.setCell], fun x hx => ?_⟩, fun w k hb hk => ((((hb.setCell hk _).setCell hk _).setCell hk _).setCell hk _).setCell hk _⟩
  rw [Below.heap_setCell _ _ _ _ hx, Below.heap_setCell _ _ _ _ hx, Below.heap_setCell _ _ _ _ hx, Below.heap_setCell _ _ _ _ hx, Below.heap_setCell _ _ _ _ hx]
end Go.Proofs.YtlgjadnkokmjoaaDoor

/- The contract of auto.Check. -/
namespace Go.Proofs.YtlgjadnkokmjoaaDoor
open Go.RowKit

theorem errV_no {c : Int} (h : c ≠ 0) : errV c = .iface 26 (.int .i64 c) := by unfold errV; rw [if_neg h]
theorem errV_yes {c : Int} (h : c = 0) : errV c = .nilIface := by unfold errV; rw [if_pos h]

set_option maxHeartbeats 1000000 in
set_option maxRecDepth 4000 in
theorem nexts_u (a : Option Addr) (len cap : Nat) (r : List Int) (m n : Nat) (w : World) (hs : Sl w a len r) :
    Calls Tryd.prog 68 #[.slice a len cap, .int .i64 m, .int .i64 n] w fun e w' => e = .returned (errV (rowC m n r)) ∧ w' = w := by
  have hm := hs.2.1
  unfold maxLen at hm
  have hL := hs.1
  by_cases hlen : len = m
  · have HB := hide (fun k => @rowC_bad m n r (hL.trans hlen) k)
    have HG := hide (@rowC_good m n r (hL.trans hlen))
    subst hlen
    have HS := hide hs
    clear hs hL
    generalize hR : rowC len n r = R at HB HG ⊢
    clear hR
    have hne : ((len : Int) != (len : Int)) = false := by simp
    go_enter Tryd.func68, Tryd.ntmps68
    go_wp2
    go_loop [16] (fun i => ∃ k : Nat, k ≤ len ∧ i = .int .i64 k ∧ ∀ j, j < k → 0 ≤ r.getD j 0 ∧ r.getD j 0 < (n : Int)) (fun i => len - (intOf i).toNat)
    case atStart => exact ⟨0, by omega, rfl, by omega⟩
    case round =>
      obtain ⟨k, hk, rfl, hd⟩ := hrel
      have HD := hide hd
      clear hd
      by_cases hlt : k < len
      · have hlti : (k : Int) < (len : Int) := by omega
        obtain ⟨bb, o, rfl, hck⟩ := sl_cell HS.out k hlt
        have HB' := hide (HB.out k hlt)
        have HD' : Hid (0 ≤ r.getD k 0 ∧ r.getD k 0 < (n : Int) → ∀ j, j < k + 1 → 0 ≤ r.getD j 0 ∧ r.getD j 0 < (n : Int)) := by
          intro h j hj
          by_cases e : j = k
          · subst e; exact h
          · exact HD.out j (by omega)
        generalize r.getD k 0 = x at hck HB' HD'
        by_cases hx : 0 ≤ x ∧ x < (n : Int)
        · have HD2 := hide (HD'.out hx)
          obtain ⟨hx1, hx2⟩ := hx
          go_wp2
          go_round
          case rel => exact ⟨k + 1, by omega, by go_num, HD2.out⟩
          case measure => simp [intOf]; omega
        · have HB2 := hide (HB'.out hx)
          have hx' : x < 0 ∨ (¬ x < 0 ∧ (n : Int) ≤ x) := by omega
          clear hx
          rcases hx' with hx | ⟨hx1, hx2⟩
          all_goals
            go_wp2
            go_ret
            exact ⟨by rw [HB2.out]; simp [errV], rfl⟩
      · have hlti : ¬ ((k : Int) < (len : Int)) := by omega
        have HG2 := hide (HG.out fun j hj => HD.out j (by omega))
        go_wp2
        go_ret
        exact ⟨by rw [HG2.out]; simp [errV], rfl⟩
  · have hR := @rowC_long m n r (by omega)
    have hne : ((len : Int) != (m : Int)) = true := by simp; omega
    rw [hR]
    go_enter Tryd.func68, Tryd.ntmps68
    go_wp2
    go_ret
    exact ⟨by simp [errV], rfl⟩

set_option maxHeartbeats 4000000 in
set_option maxRecDepth 4000 in
theorem check_w (M b t : Int) (a a' : Option Addr) (len cap len' cap' : Nat) (N : List (List Int)) (w : World) (hs : Sl2 w a len N) (hm' : len' ≤ maxLen) :
    Calls Tryd.prog 48 #[.agg #[.int .i64 b, .int .i64 t, .slice a len cap, .slice a' len' cap'], .int .i64 M] w fun e w' => e = .returned (errV (autoM M b t N len')) ∧ Below w.heap.size w w' := by
  have hL := hs.1
  have hm := hs.2.1
  unfold maxLen at hm hm'
  have HMU := hide (fun W => many_u b t W)
  by_cases hM : codeM b t = 0
  · have hlo := pw_pos (kindsI b) (kinds_bd2 b (codeM_zero hM).2.1).1 t.toNat
    have hhi := (codeM_zero hM).2.2.2.2.1
    have hmu := (codeM_zero hM).2.2.2.2.2
    rw [← hmu] at hlo hhi
    obtain ⟨m, hmm⟩ : ∃ m : Nat, manyU b t = m := ⟨(manyU b t).toNat, by omega⟩
    have HA : Hid (autoM M b t N len' = if len = 0 then 4 else if M < (len : Int) then 3 else if len' = len then rowsC m len N else 2) := by
      show _ = _
      unfold autoM
      rw [if_pos hM, hL, hmm, Int.toNat_natCast]
    rw [hmm, errV_yes hM] at HMU
    clear hM hlo hhi hmu hmm
    generalize autoM M b t N len' = R at HA ⊢
    by_cases h0 : len = 0
    · rw [if_pos h0] at HA
      subst h0
      go_enter Tryd.func48, Tryd.ntmps48
      go_wp2_with (go_at_call 37; refine (HMU.out _).mono ?_; rintro e w' ⟨rfl, rfl⟩)
      go_ret
      exact ⟨by rw [HA.out]; simp [errV], (Below.refl _ _).alloc (Nat.le_refl _) _⟩
    · rw [if_neg h0] at HA
      have h0' : ((len : Int) == 0) = false := by simp; omega
      by_cases h80 : M < (len : Int)
      · rw [if_pos h80] at HA
        go_enter Tryd.func48, Tryd.ntmps48
        go_wp2_with (go_at_call 37; refine (HMU.out _).mono ?_; rintro e w' ⟨rfl, rfl⟩)
        go_ret
        exact ⟨by rw [HA.out]; simp [errV], (Below.refl _ _).alloc (Nat.le_refl _) _⟩
      · rw [if_neg h80] at HA
        by_cases hE : len' = len
        · rw [if_pos hE] at HA
          subst hE
          have hee : ((len' : Int) != (len' : Int)) = false := by simp
          have HS := hide (sl2_below hs ((Below.refl _ _).alloc (Nat.le_refl _) (.cells #[.int .i64 b, .int .i64 t, .slice a len' cap, .slice a' len' cap'] 25)))
          have HB : Hid (Below w.heap.size w (w.alloc (.cells #[.int .i64 b, .int .i64 t, .slice a len' cap, .slice a' len' cap'] 25))) := (Below.refl _ _).alloc (Nat.le_refl _) _
          have HNX := hide (fun W a1 l1 c1 r h => nexts_u a1 l1 c1 r m len' W h)
          have HAT := hide (fun k => @rowsC_at m len' N k)
          have HALL := hide (@rowsC_all m len' N)
          rw [hL] at HALL
          have hN : N.length = len' := hL
          clear hs hL
          go_enter Tryd.func48, Tryd.ntmps48
          go_wp2_with (go_at_call 37; refine (HMU.out _).mono ?_; rintro e w' ⟨rfl, rfl⟩)
          go_loop [43] (fun i => ∃ k : Nat, k ≤ len' ∧ i = .int .i64 k ∧ ∀ j, j < k → rowC m len' (N.getD j []) = 0) (fun i => len' - (intOf i).toNat)
          case atStart => exact ⟨0, by omega, rfl, by omega⟩
          case round =>
            obtain ⟨k, hk, rfl, hd⟩ := hrel
            have HD := hide hd
            clear hd
            by_cases hlt : k < len'
            · have hlti : (k : Int) < (len' : Int) := by omega
              obtain ⟨bb, o, a1, c1, rfl, hck, hsl⟩ := sl2_cell HS.out k hlt
              have HNX' := hide (HNX.out _ a1 _ c1 _ hsl)
              have HAT' := hide (HAT.out k (by omega) HD.out)
              have HD' : Hid (rowC m len' (N.getD k []) = 0 → ∀ j, j < k + 1 → rowC m len' (N.getD j []) = 0) := by
                intro h j hj
                by_cases e : j = k
                · subst e; exact h
                · exact HD.out j (by omega)
              clear hsl
              generalize rowC m len' (N.getD k []) = C at HNX' HAT' HD'
              generalize (N.getD k []).length = rl at hck HNX'
              by_cases hC : C = 0
              · have HD2 := hide (HD'.out hC)
                rw [errV_yes hC] at HNX'
                clear HAT' HD' hC
                go_wp2_with (go_at_call 68; refine HNX'.out.mono ?_; rintro e w' ⟨rfl, rfl⟩)
                go_round
                case rel => exact ⟨k + 1, by omega, by go_num, HD2.out⟩
                case measure => simp [intOf]; omega
              · have HR := hide (HAT'.out hC)
                rw [HR.out] at HA
                rw [errV_no hC] at HNX'
                clear HAT' HD' HR
                go_wp2_with (go_at_call 68; refine HNX'.out.mono ?_; rintro e w' ⟨rfl, rfl⟩)
                go_ret
                exact ⟨by rw [HA.out, errV_no hC]; simp, HB.out⟩
            · have hlti : ¬ ((k : Int) < (len' : Int)) := by omega
              have HR := hide (HALL.out fun j hj => HD.out j (by omega))
              rw [HR.out] at HA
              go_wp2
              go_ret
              exact ⟨by rw [HA.out]; simp [errV], HB.out⟩
        · rw [if_neg hE] at HA
          have hee : ((len' : Int) != (len : Int)) = true := by simp; omega
          go_enter Tryd.func48, Tryd.ntmps48
          go_wp2_with (go_at_call 37; refine (HMU.out _).mono ?_; rintro e w' ⟨rfl, rfl⟩)
          go_ret
          exact ⟨by rw [HA.out]; simp [errV], (Below.refl _ _).alloc (Nat.le_refl _) _⟩
  · have HA : Hid (autoM M b t N len' = codeM b t) := by show _ = _; unfold autoM; rw [if_neg hM]
    rw [HA.out]
    rw [errV_no hM] at HMU ⊢
    generalize codeM b t = c at HMU ⊢
    go_enter Tryd.func48, Tryd.ntmps48
    go_wp2_with (go_at_call 37; refine (HMU.out _).mono ?_; rintro e w' ⟨rfl, rfl⟩)
    go_ret
    exact ⟨by simp, (Below.refl _ _).alloc (Nat.le_refl _) _⟩

set_option maxHeartbeats 1000000 in
set_option maxRecDepth 4000 in
theorem check_u (b t : Int) (a a' : Option Addr) (len cap len' cap' : Nat) (N : List (List Int)) (w : World) (hs : Sl2 w a len N) (hm' : len' ≤ maxLen) :
    Calls Tryd.prog 20 #[.agg #[.int .i64 b, .int .i64 t, .slice a len cap, .slice a' len' cap']] w fun e w' => e = .returned (errV (autoC b t N len')) ∧ Below w.heap.size w w' := by
  have hB := (Below.refl w.heap.size w).alloc (Nat.le_refl _) (.cells #[.int .i64 b, .int .i64 t, .slice a len cap, .slice a' len' cap'] 25)
  have HCK := hide (check_w 80 b t a a' len cap len' cap' N _ (sl2_below hs hB) hm')
  rw [autoM_80] at HCK
  have HB := hide hB
  clear hs hB
  generalize autoC b t N len' = c at HCK ⊢
  go_enter Tryd.func20, Tryd.ntmps20
  go_wp2_with fail
  refine HCK.out.mono ?_
  rintro e w2 ⟨rfl, hb2⟩
  have HB2 := hide (below_step HB.out hb2)
  clear hb2
  go_wp2
  go_ret
  exact ⟨rfl, HB2.out⟩
end Go.Proofs.YtlgjadnkokmjoaaDoor

/- The contracts of auto.Run and auto.Takes. -/
namespace Go.Proofs.YtlgjadnkokmjoaaDoor
open Go.RowKit

/-- The slice reads as these truths. -/
def SlB (w : World) (a : Option Addr) (len : Nat) (E : List Bool) : Prop :=
  E.length = len ∧ len ≤ maxLen ∧ (len = 0 ∨ ∃ b o, a = some ⟨b, o, none⟩ ∧ ∀ i, i < len → w.cell? ⟨b, o + i, none⟩ = some (.bool (E.getD i false)))
theorem slB_below {w W : World} {a : Option Addr} {len : Nat} {E : List Bool} (h : SlB w a len E) (hb : Below w.heap.size w W) : SlB W a len E := by
  obtain ⟨h1, h2, h3⟩ := h
  refine ⟨h1, h2, ?_⟩
  rcases h3 with h3 | ⟨b, o, rfl, hc⟩
  · exact Or.inl h3
  · refine Or.inr ⟨b, o, rfl, fun i hi => ?_⟩
    have := hc i hi
    rw [hb.cell (p := ⟨b, o + i, none⟩) (World.block_lt_of_cell? w _ this)]
    exact this
theorem slB_cell {w : World} {a : Option Addr} {len : Nat} {E : List Bool} (h : SlB w a len E) (i : Nat) (hi : i < len) : ∃ b o, a = some ⟨b, o, none⟩ ∧ w.cell? ⟨b, o + i, none⟩ = some (.bool (E.getD i false)) := by
  rcases h.2.2 with h0 | ⟨b, o, rfl, hc⟩
  · omega
  · exact ⟨b, o, rfl, hc i hi⟩

/-- An automaton's box. -/
theorem box4 {w w' : World} {v0 v1 v2 v3 : Value} {T : TypeId} (hb : Below (w.alloc (.cells #[v0, v1, v2, v3] T)).heap.size (w.alloc (.cells #[v0, v1, v2, v3] T)) w') :
    w'.cell? ⟨w.heap.size, 0, none⟩ = some v0 ∧ w'.cell? ⟨w.heap.size, 1, none⟩ = some v1 ∧ w'.cell? ⟨w.heap.size, 2, none⟩ = some v2 ∧ w'.cell? ⟨w.heap.size, 3, none⟩ = some v3 := by
  have key : ∀ i, w'.cell? ⟨w.heap.size, i, none⟩ = #[v0, v1, v2, v3][i]? := fun i => by
    rw [hb.cell (p := ⟨w.heap.size, i, none⟩) (by simp)]
    exact cell_of_row _ _ i _ T (0, 0) (heap_alloc_last w _)
  exact ⟨key 0, key 1, key 2, key 3⟩

end Go.Proofs.YtlgjadnkokmjoaaDoor

/- count.plus, one, the closures, added: contracts. -/

namespace Go.Proofs.YtlgjadnkokmjoaaDoor
open Go.RowKit

theorem div_over {s a b : Int} (hs0 : 0 ≤ s) (hs : s ≤ 1152921504606846977) (ha : 1 ≤ a) (hb : 1 ≤ b) : (1152921504606846976 - s).tdiv a < b ↔ 1152921504606846976 < s + a * b := by
  rcases Int.lt_or_le 1152921504606846976 s with h | h
  · obtain rfl : s = 1152921504606846977 := by omega
    have h1 : (1152921504606846976 - 1152921504606846977 : Int).tdiv a ≤ 0 := by
      rw [show (1152921504606846976 - 1152921504606846977 : Int) = -1 by decide, Int.neg_tdiv]
      have := Int.tdiv_nonneg (a := 1) (b := a) (by decide) (by omega)
      omega
    have h2 : 0 ≤ a * b := Int.mul_nonneg (by omega) (by omega)
    exact ⟨fun _ => by omega, fun _ => by omega⟩
  · rw [Int.tdiv_eq_ediv_of_nonneg (by omega)]
    have h1 := Int.ediv_lt_iff_lt_mul (a := 1152921504606846976 - s) (b := b) (c := a) (by omega)
    rw [Int.mul_comm a b]
    generalize b * a = p at h1 ⊢
    omega
def retI (v : Int) (w : World) (e : Ending) (w' : World) : Prop := e = .returned (.int .i64 v) ∧ w' = w
set_option maxHeartbeats 2000000 in
set_option maxRecDepth 4000 in
theorem plus_any (s a b : Int) (w : World) (hs : 0 ≤ s ∧ s ≤ 1152921504606846977) (ha : 0 ≤ a ∧ a ≤ 1152921504606846977) (hb : 0 ≤ b ∧ b ≤ 1152921504606846977) :
    Calls Tryd.prog 51 #[.int .i64 s, .int .i64 a, .int .i64 b] w (retI (capI (s + a * b)) w) := by
  by_cases ha0 : a = 0
  · subst ha0
    have hv : capI (s + 0 * b) = s := by unfold capI; split <;> omega
    rw [hv]
    go_enter Tryd.func51, Tryd.ntmps51
    go_wp2
    go_ret
    exact ⟨rfl, rfl⟩
  by_cases hb0 : b = 0
  · subst hb0
    have hv : capI (s + a * 0) = s := by unfold capI; split <;> omega
    rw [hv]
    have h0 : (a == 0) = false := by simp; omega
    go_enter Tryd.func51, Tryd.ntmps51
    go_wp2
    go_ret
    exact ⟨rfl, rfl⟩
  have h0 : (a == 0) = false := by simp; omega
  have h1 : (b == 0) = false := by simp; omega
  have hD := div_over hs.1 hs.2 (show 1 ≤ a by omega) (show 1 ≤ b by omega)
  have hq : -1 ≤ (1152921504606846976 - s).tdiv a ∧ (1152921504606846976 - s).tdiv a ≤ 1152921504606846976 := by
    rcases Int.lt_or_le 1152921504606846976 s with h | h
    · obtain rfl : s = 1152921504606846977 := by omega
      rw [show (1152921504606846976 - 1152921504606846977 : Int) = -1 by decide, Int.neg_tdiv]
      have h2 := Int.tdiv_le_self (a := 1) a (by decide)
      have h3 := Int.tdiv_nonneg (a := 1) (b := a) (by decide) (by omega)
      omega
    · have h2 := Int.tdiv_le_self (a := 1152921504606846976 - s) a (by omega)
      have h3 := Int.tdiv_nonneg (a := 1152921504606846976 - s) (b := a) (by omega) (by omega)
      omega
  have hp : 0 ≤ a * b := Int.mul_nonneg ha.1 hb.1
  have hw0 : IntKind.i64.wrap (1152921504606846976 - s) = 1152921504606846976 - s := by rw [IntKind.wrap_i64]; omega
  generalize hqe : (1152921504606846976 - s).tdiv a = q at hD hq
  have hwq : IntKind.i64.wrap q = q := by rw [IntKind.wrap_i64]; omega
  by_cases hlt : 1152921504606846976 < s + a * b
  · have hql : q < b := hD.2 hlt
    have hv : capI (s + a * b) = 1152921504606846977 := if_neg (by omega)
    rw [hv]
    clear hD hlt hv hp hq hb0
    go_enter Tryd.func51, Tryd.ntmps51
    go_wp2
    go_ret
    exact ⟨rfl, rfl⟩
  · have hql : ¬ q < b := fun h => hlt (hD.1 h)
    have hv : capI (s + a * b) = s + a * b := if_pos (by omega)
    rw [hv]
    have hw1 : IntKind.i64.wrap (a * b) = a * b := by rw [IntKind.wrap_i64]; omega
    have hw2 : IntKind.i64.wrap (s + a * b) = s + a * b := by rw [IntKind.wrap_i64]; omega
    clear hD hlt hv hp hq hb0
    go_enter Tryd.func51, Tryd.ntmps51
    go_wp2
    go_ret
    exact ⟨rfl, rfl⟩
set_option maxHeartbeats 1000000 in
theorem cone_any (q : Bool) (w : World) : Calls Tryd.prog 26 #[.bool q] w (retI (if q then 1 else 0) w) := by
  cases q <;>
  · go_enter Tryd.func26, Tryd.ntmps26
    go_wp2
    go_ret
    exact ⟨rfl, rfl⟩
set_option maxHeartbeats 1000000 in
theorem thr1_any (a : Option Addr) (n c : Nat) (l : List Int) (t B : Nat) (w : World) (hs : Sl w a n l) (ht : t < n) (hB : w.cell? ⟨B, 0, none⟩ = some (.int .i64 (t : Int))) :
    Calls Tryd.prog 50 #[.slice a n c, .pointer (some ⟨B, 0, none⟩)] w (retI (l.getD t 0) w) := by
  obtain ⟨b1, o1, rfl, hc⟩ := sl_cell hs t ht
  have hti : (t : Int) < (n : Int) := by omega
  clear hs
  generalize l.getD t 0 = v at hc ⊢
  go_enter Tryd.func50, Tryd.ntmps50
  go_wp2
  go_ret
  exact ⟨rfl, rfl⟩
set_option maxHeartbeats 4000000 in
set_option maxRecDepth 4000 in
theorem addedB_any (f : FuncId) (cs : Array Value) (vs : Nat → Value) (c : Nat → Int) (ar : Option Addr) (n cr : Nat) (row : List Int) (th : Option Addr) (m ct : Nat) (w : World)
    (hen : ∀ (args : Array Value) (W : World), (callFunc f args).run Tryd.prog W = .ok (.enter f args) W)
    (hs : Sl w ar n row) (hth : ∀ i, i < n → ∃ b o, th = some ⟨b, o, none⟩ ∧ w.cell? ⟨b, o + i, none⟩ = some (vs i)) (hm : n ≤ m)
    (hF : ∀ i, i < n → Calls Tryd.prog f (#[vs i] ++ cs) w (retI (c i) w))
    (hrb : ∀ i, i < n → 0 ≤ row.getD i 0 ∧ row.getD i 0 ≤ 1152921504606846977) (hcb : ∀ i, i < n → 0 ≤ c i ∧ c i ≤ 1152921504606846977) :
    Calls Tryd.prog 25 #[.slice ar n cr, .slice th m ct, .func (.func f) #[] cs] w (retI (capI (csum (fun i => row.getD i 0 * c i) n)) w) := by
  have hnm := hs.2.1
  unfold maxLen at hnm
  rw [← ccap_eq fun i hi => Int.mul_nonneg (hrb i hi).1 (hcb i hi).1]
  have HCC : Hid (∀ i, i ≤ n → 0 ≤ ccap (fun i => row.getD i 0 * c i) i ∧ ccap (fun i => row.getD i 0 * c i) i ≤ 1152921504606846977) := fun i hi => by
    rw [ccap_eq fun j hj => Int.mul_nonneg (hrb j (by omega)).1 (hcb j (by omega)).1]
    exact capI_bd (csum_nn fun j hj => Int.mul_nonneg (hrb j (by omega)).1 (hcb j (by omega)).1)
  have HST : Hid (∀ i, ccap (fun i => row.getD i 0 * c i) (i + 1) = capI (ccap (fun i => row.getD i 0 * c i) i + row.getD i 0 * c i)) := fun i => rfl
  have HS := hide hs
  have HTH := hide hth
  have HEN := hide hen
  have H1 := hide hF
  have HRB := hide hrb
  have HCB := hide hcb
  have HZ : Hid (ccap (fun i => row.getD i 0 * c i) 0 = 0) := rfl
  unfold retI at H1
  clear hs hth hen hF hrb hcb
  generalize ccap (fun i => row.getD i 0 * c i) = S at HCC HST HZ ⊢
  go_enter Tryd.func25, Tryd.ntmps25
  go_wp2
  go_loop [7, 12] (fun u i => ∃ k : Nat, k ≤ n ∧ i = .int .i64 k ∧ u = .int .i64 (S k)) (fun _ i => n - (intOf i).toNat)
  case atStart => exact ⟨0, by omega, rfl, by rw [HZ.out]⟩
  case round =>
    obtain ⟨k, hk, rfl, rfl⟩ := hrel
    by_cases hlt : k < n
    · have hlti : (k : Int) < (n : Int) := by omega
      have hkm : (k : Int) < (m : Int) := by omega
      obtain ⟨b1, o1, rfl, hc1⟩ := sl_cell HS.out k hlt
      obtain ⟨b2, o2, rfl, hc2⟩ := HTH.out k hlt
      have HC1 := hide (H1.out k hlt)
      have HC2 := hide (plus_any (S k) (row.getD k 0) (c k) w (HCC.out k hk) (HRB.out k hlt) (HCB.out k hlt))
      unfold retI at HC2
      rw [← HST.out] at HC2
      have HNX := hide (HCC.out (k + 1) hlt)
      generalize row.getD k 0 = x at hc1 HC2
      generalize vs k = v at hc2 HC1
      generalize c k = y at HC1 HC2
      generalize hsk : S k = sk at HC2
      have he := HEN.out
      go_wp2_with fail
      refine HC1.out.mono ?_
      rintro e w' ⟨rfl, hw⟩
      rw [hw]
      clear hw w'
      go_wp2_with (go_at_call 51; refine HC2.out.mono ?_; rintro e w' ⟨rfl, hw⟩; rw [hw]; clear hw w')
      clear he
      go_round
      case rel => exact ⟨k + 1, by omega, by go_num, rfl⟩
      case measure => simp [intOf]; omega
    · have hlti : ¬ (k : Int) < (n : Int) := by omega
      obtain rfl : k = n := by omega
      go_wp2
      go_ret
      exact ⟨rfl, rfl⟩
set_option maxHeartbeats 4000000 in
set_option maxRecDepth 4000 in
theorem addedL_any (f : FuncId) (cs : Array Value) (vs : Nat → Value) (c : Nat → Int) (ar : Option Addr) (n cr : Nat) (row : List Int) (th : Option Addr) (m ct : Nat) (w : World)
    (hen : ∀ (args : Array Value) (W : World), (callFunc f args).run Tryd.prog W = .ok (.enter f args) W)
    (hs : Sl w ar n row) (hth : ∀ i, i < n → ∃ b o, th = some ⟨b, o, none⟩ ∧ w.cell? ⟨b, o + i, none⟩ = some (vs i)) (hm : n ≤ m)
    (hF : ∀ i, i < n → Calls Tryd.prog f (#[vs i] ++ cs) w (retI (c i) w))
    (hrb : ∀ i, i < n → 0 ≤ row.getD i 0 ∧ row.getD i 0 ≤ 1152921504606846977) (hcb : ∀ i, i < n → 0 ≤ c i ∧ c i ≤ 1152921504606846977) :
    Calls Tryd.prog 49 #[.slice ar n cr, .slice th m ct, .func (.func f) #[] cs] w (retI (capI (csum (fun i => row.getD i 0 * c i) n)) w) := by
  have hnm := hs.2.1
  unfold maxLen at hnm
  rw [← ccap_eq fun i hi => Int.mul_nonneg (hrb i hi).1 (hcb i hi).1]
  have HCC : Hid (∀ i, i ≤ n → 0 ≤ ccap (fun i => row.getD i 0 * c i) i ∧ ccap (fun i => row.getD i 0 * c i) i ≤ 1152921504606846977) := fun i hi => by
    rw [ccap_eq fun j hj => Int.mul_nonneg (hrb j (by omega)).1 (hcb j (by omega)).1]
    exact capI_bd (csum_nn fun j hj => Int.mul_nonneg (hrb j (by omega)).1 (hcb j (by omega)).1)
  have HST : Hid (∀ i, ccap (fun i => row.getD i 0 * c i) (i + 1) = capI (ccap (fun i => row.getD i 0 * c i) i + row.getD i 0 * c i)) := fun i => rfl
  have HS := hide hs
  have HTH := hide hth
  have HEN := hide hen
  have H1 := hide hF
  have HRB := hide hrb
  have HCB := hide hcb
  have HZ : Hid (ccap (fun i => row.getD i 0 * c i) 0 = 0) := rfl
  unfold retI at H1
  clear hs hth hen hF hrb hcb
  generalize ccap (fun i => row.getD i 0 * c i) = S at HCC HST HZ ⊢
  go_enter Tryd.func49, Tryd.ntmps49
  go_wp2
  go_loop [7, 12] (fun u i => ∃ k : Nat, k ≤ n ∧ i = .int .i64 k ∧ u = .int .i64 (S k)) (fun _ i => n - (intOf i).toNat)
  case atStart => exact ⟨0, by omega, rfl, by rw [HZ.out]⟩
  case round =>
    obtain ⟨k, hk, rfl, rfl⟩ := hrel
    by_cases hlt : k < n
    · have hlti : (k : Int) < (n : Int) := by omega
      have hkm : (k : Int) < (m : Int) := by omega
      obtain ⟨b1, o1, rfl, hc1⟩ := sl_cell HS.out k hlt
      obtain ⟨b2, o2, rfl, hc2⟩ := HTH.out k hlt
      have HC1 := hide (H1.out k hlt)
      have HC2 := hide (plus_any (S k) (row.getD k 0) (c k) w (HCC.out k hk) (HRB.out k hlt) (HCB.out k hlt))
      unfold retI at HC2
      rw [← HST.out] at HC2
      have HNX := hide (HCC.out (k + 1) hlt)
      generalize row.getD k 0 = x at hc1 HC2
      generalize vs k = v at hc2 HC1
      generalize c k = y at HC1 HC2
      generalize hsk : S k = sk at HC2
      have he := HEN.out
      go_wp2_with fail
      refine HC1.out.mono ?_
      rintro e w' ⟨rfl, hw⟩
      rw [hw]
      clear hw w'
      go_wp2_with (go_at_call 51; refine HC2.out.mono ?_; rintro e w' ⟨rfl, hw⟩; rw [hw]; clear hw w')
      clear he
      go_round
      case rel => exact ⟨k + 1, by omega, by go_num, rfl⟩
      case measure => simp [intOf]; omega
    · have hlti : ¬ (k : Int) < (n : Int) := by omega
      obtain rfl : k = n := by omega
      go_wp2
      go_ret
      exact ⟨rfl, rfl⟩
end Go.Proofs.YtlgjadnkokmjoaaDoor

/- The contract of letter.apart: the digits of each track of a word. -/
namespace Go.Proofs.YtlgjadnkokmjoaaDoor
open Go.RowKit

theorem infoS : (Tryd.prog.info? 35).map (fun i => (i.zero, i.size, i.bytes)) = some (some (.slice none 0 0), 1, 24) := by kernel_rfl
theorem make_rows (n : Nat) (hn : n ≤ 1000000000000) (w : World) : (Instr.makeSlice 22 (.int .i64 (n : Int)) (.int .i64 (n : Int))).run Tryd.prog w = .ok (.slice (some ⟨w.heap.size, 0, none⟩) n n) (w.alloc (.cells (madeCells #[.slice none 0 0] n) 35)) :=
  run_make_row' 22 35 (.slice none 0 0) 24 Tryd.underlying22 infoS rfl .i64 .i64 n (by omega) (by omega) w

end Go.Proofs.YtlgjadnkokmjoaaDoor

/- letter.apart, whatever is handed in; letter.Right and letter.Nums by it. -/
namespace Go.Proofs.YtlgjadnkokmjoaaDoor
open Go.RowKit

theorem errV_ne {c : Int} (h : c ≠ 0) : errV c = .iface 26 (.int .i64 c) := by unfold errV; rw [if_neg h]
theorem errV_zero : errV 0 = .nilIface := rfl

end Go.Proofs.YtlgjadnkokmjoaaDoor

/- An automaton that a call builds in a variable's box, row by row and end by end. -/
namespace Go.Proofs.YtlgjadnkokmjoaaDoor
open Go.RowKit

theorem box_cells {W : World} {B : Nat} {v0 v1 v2 v3 : Value} {T : TypeId} (h : W.heap[B]? = some (.cells #[v0, v1, v2, v3] T (0, 0))) :
    (W.cell? ⟨B, 0, none⟩ = some v0 ∧ W.cell? ⟨B, 1, none⟩ = some v1 ∧ W.cell? ⟨B, 2, none⟩ = some v2 ∧ W.cell? ⟨B, 3, none⟩ = some v3) ∧ ∀ i, W.frozen? ⟨B, i, none⟩ = false := by
  refine ⟨⟨?_, ?_, ?_, ?_⟩, fun i => ?_⟩ <;> simp [World.cell?, World.frozen?, h]
end Go.Proofs.YtlgjadnkokmjoaaDoor
