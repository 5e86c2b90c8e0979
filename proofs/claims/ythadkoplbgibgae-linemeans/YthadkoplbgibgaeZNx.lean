/- 10 texts in one. -/
import Derived.Deep.AppendLies
import Derived.OneCell
import Derived.Test.YthadkoplbgibgaeLs
import Derived.Test.YthadkoplbgibgaeZG
/- Slices of slices of numbers: as they are read, and as a call builds them. -/
namespace Go.Proofs.Ythadkoplbgibgae
open Go.RowKit

/-- The slice reads as rows of numbers. -/
def Sl2 (w : World) (a : Option Addr) (len : Nat) (ls : List (List Int)) : Prop :=
  ls.length = len ∧ len ≤ maxLen ∧
  (len = 0 ∨ ∃ b o, a = some ⟨b, o, none⟩ ∧ ∀ i, i < len → ∃ a' cap', w.cell? ⟨b, o + i, none⟩ = some (.slice a' (ls.getD i []).length cap') ∧ Sl w a' (ls.getD i []).length (ls.getD i []))

theorem sl2_below {w W : World} {a : Option Addr} {len : Nat} {ls : List (List Int)} (h : Sl2 w a len ls) (hb : Below w.heap.size w W) : Sl2 W a len ls := by
  obtain ⟨h1, h2, h3⟩ := h
  refine ⟨h1, h2, ?_⟩
  rcases h3 with h3 | ⟨b, o, rfl, hc⟩
  · exact Or.inl h3
  · refine Or.inr ⟨b, o, rfl, fun i hi => ?_⟩
    obtain ⟨a', cap', h4, h5⟩ := hc i hi
    refine ⟨a', cap', ?_, sl_below h5 hb⟩
    rw [hb.cell (p := ⟨b, o + i, none⟩) (World.block_lt_of_cell? w _ h4)]
    exact h4

theorem sl2_cell {w : World} {a : Option Addr} {len : Nat} {ls : List (List Int)} (h : Sl2 w a len ls) (i : Nat) (hi : i < len) :
    ∃ b o a' cap', a = some ⟨b, o, none⟩ ∧ w.cell? ⟨b, o + i, none⟩ = some (.slice a' (ls.getD i []).length cap') ∧ Sl w a' (ls.getD i []).length (ls.getD i []) := by
  rcases h.2.2 with h0 | ⟨b, o, rfl, hc⟩
  · omega
  · obtain ⟨a', cap', h4, h5⟩ := hc i hi
    exact ⟨b, o, a', cap', rfl, h4, h5⟩

theorem ownsRow_of_block {w w' : World} {base : Nat} {e : TypeId} {size : Nat} {v : Value} {n : Nat} {xs : List Value} (h : w.ownsRow base e size v n xs) (hb : ∀ k, v.ownBlock = some k → w'.heap[k]? = w.heap[k]?) : w'.ownsRow base e size v n xs := by
  obtain ⟨h1, h2⟩ := h
  refine ⟨h1, ?_⟩
  rcases h2 with h2 | ⟨g, cap, cur, rfl, hg, hh, r⟩
  · exact Or.inl h2
  · exact Or.inr ⟨g, cap, cur, rfl, hg, by rw [hb g rfl]; exact hh, r⟩

/-- The block of a slice that is not empty. -/
def slB (a : Option Addr) (len : Nat) (x : Nat) : Prop := 0 < len ∧ ∃ ad, a = some ad ∧ ad.block = x
theorem sl_keep {w w' : World} {a : Option Addr} {len : Nat} {l : List Int} (h : Sl w a len l) (hb : ∀ x, slB a len x → w'.heap[x]? = w.heap[x]?) : Sl w' a len l := by
  obtain ⟨h1, h2, h3, h4⟩ := h
  refine ⟨h1, h2, h3, ?_⟩
  rcases h4 with h4 | ⟨b, o, rfl, hc⟩
  · exact Or.inl h4
  · refine Or.inr ⟨b, o, rfl, fun i hi => ?_⟩
    rw [World.cell?_of_block (w := w) (hb b ⟨by omega, _, rfl, rfl⟩)]
    exact hc i hi
theorem slB_lt {w : World} {a : Option Addr} {len : Nat} {l : List Int} (h : Sl w a len l) {x : Nat} (hx : slB a len x) : x < w.heap.size := by
  obtain ⟨h0, ad, rfl, rfl⟩ := hx
  obtain ⟨b, o, e, hc⟩ := sl_cell h 0 h0
  cases e
  exact World.block_lt_of_cell? w _ hc

/-- Rows that the call builds: block g holds t slices, each owning its numbers, none in another one's block, nor in one of ex. -/
def Own2 (base : Nat) (w : World) (g t : Nat) (ls : Nat → List Int) (ex : Nat → Prop) : Prop :=
  base ≤ g ∧ ∃ V : Nat → Value, w.rowIs g 26 t V ∧
    (∀ i, i < t → w.ownsRow base 3 1 (V i) (ls i).length ((ls i).map (Value.int .i64))) ∧
    (∀ i, i < t → (V i).ownBlock ≠ some g) ∧
    (∀ i j, i < t → j < t → i ≠ j → (V i).ownBlock = (V j).ownBlock → (V i).ownBlock = none) ∧
    (∀ x, ex x → x < w.heap.size ∧ x ≠ g ∧ ∀ i, i < t → (V i).ownBlock ≠ some x)

theorem own2_made (w : World) (t : Nat) : Own2 w.heap.size (w.alloc (.cells (madeCells #[.slice none 0 0] t) 26)) w.heap.size t (fun _ => []) (fun _ => False) :=
  ⟨Nat.le_refl _, fun _ => .slice none 0 0, World.rowIs_made w _ t _, fun _ _ => World.ownsRow_nil _ _ _ _, fun _ _ => by simp [Value.ownBlock], fun _ _ _ _ _ _ => rfl, fun _ h => h.elim⟩

theorem own2_congr {base : Nat} {w : World} {g t : Nat} {ls ls' : Nat → List Int} {ex : Nat → Prop} (h : Own2 base w g t ls ex) (e : ∀ i, i < t → ls i = ls' i) : Own2 base w g t ls' ex := by
  obtain ⟨hg, V, h1, h2, h3⟩ := h
  exact ⟨hg, V, h1, fun i hi => by rw [← e i hi]; exact h2 i hi, h3⟩

theorem own2_below {base : Nat} {w w' : World} {g t : Nat} {ls : Nat → List Int} {ex ex' : Nat → Prop} (h : Own2 base w g t ls ex) (hb : Below w.heap.size w w') (he : ∀ x, ex' x → w.heap.size ≤ x ∧ x < w'.heap.size) : Own2 base w' g t ls ex' := by
  obtain ⟨hg, V, h1, h2, h3, h4, h5⟩ := h
  refine ⟨hg, V, h1.of_block (hb.block _ h1.lt), fun i hi => ownsRow_of_block (h2 i hi) (fun k hk => hb.block _ ((h2 i hi).lt k hk).2), h3, h4, fun x hx => ⟨(he x hx).2, ?_, fun i hi e => ?_⟩⟩
  · have := h1.lt; have := he x hx; omega
  · have := (h2 i hi).lt x e; have := he x hx; omega

theorem own2_forget {base : Nat} {w : World} {g t : Nat} {ls : Nat → List Int} {ex : Nat → Prop} (h : Own2 base w g t ls ex) : Own2 base w g t ls (fun _ => False) := by
  obtain ⟨hg, V, h1, h2, h3, h4, h5⟩ := h
  exact ⟨hg, V, h1, h2, h3, h4, fun _ h => h.elim⟩

/-- What may be done with one of them: it is read, appended to, and stored. -/
theorem own2_push {base : Nat} {w : World} {g t : Nat} {ls : Nat → List Int} {ex : Nat → Prop} (h : Own2 base w g t ls ex) (i : Nat) (hi : i < t) :
    ∃ v, w.cell? ⟨g, i, none⟩ = some v ∧ w.ownsRow base 3 1 v (ls i).length ((ls i).map (Value.int .i64)) ∧ (∀ k, v.ownBlock = some k → base ≤ k) ∧
      ∀ (w1 w' : World) (o : Obj) (g' cap' : Nat) (x : Int), w1 = w.alloc o → w'.ownsRow base 3 1 (.slice (some ⟨g', 0, none⟩) ((ls i).length + 1) cap') ((ls i).length + 1) ((ls i).map (Value.int .i64) ++ [.int .i64 x]) →
        w1.grownBy w' v.ownBlock → (v.ownBlock = some g' ∨ g' = w1.heap.size) → g' < w'.heap.size →
        w'.cell? ⟨g, i, none⟩ = some v ∧ w'.frozen? ⟨g, i, none⟩ = false ∧
        Own2 base (w'.setCell ⟨g, i, none⟩ (.slice (some ⟨g', 0, none⟩) ((ls i).length + 1) cap')) g t (fun j => if j = i then ls i ++ [x] else ls j) ex ∧
        ∀ y, ex y → (w'.setCell ⟨g, i, none⟩ (.slice (some ⟨g', 0, none⟩) ((ls i).length + 1) cap')).heap[y]? = w.heap[y]? := by
  obtain ⟨hg, V, h1, h2, h3, h4, h5⟩ := h
  refine ⟨V i, h1.cell hi, h2 i hi, fun k hk => ((h2 i hi).lt k hk).1, ?_⟩
  intro w1 w' o g' cap' x hw1 hown hgrow hat hlt
  have hsz : w1.heap.size = w.heap.size + 1 := by rw [hw1]; simp
  have hblk : ∀ k, k < w.heap.size → (V i).ownBlock ≠ some k → w'.heap[k]? = w.heap[k]? := fun k hk hne => by
    rw [hgrow.block k (by omega) (fun e => hne e.symm), hw1, Below.heap_alloc _ _ _ hk]
  have hgg : w'.heap[g]? = w.heap[g]? := hblk g h1.lt (h3 i hi)
  have hg'g : g' ≠ g := by
    rcases hat with e | e
    · intro e'; subst e'; exact h3 i hi e
    · have := h1.lt; omega
  refine ⟨?_, ?_, ⟨hg, fun j => if j = i then .slice (some ⟨g', 0, none⟩) ((ls i).length + 1) cap' else V j, (h1.of_block hgg).set i _, fun j hj => ?_, fun j hj => ?_, fun j k hj hk hjk => ?_, fun y hy => ⟨?_, (h5 y hy).2.1, fun j hj => ?_⟩⟩, fun y hy => ?_⟩
  · rw [World.cell?_of_block (w := w) (a := ⟨g, i, none⟩) hgg]; exact h1.cell hi
  · rw [World.frozen?_of_block (w := w) (a := ⟨g, i, none⟩) hgg]; exact h1.frozen i
  · by_cases e : j = i
    · subst e
      simp only [if_pos]
      have : ((ls j ++ [x]).map (Value.int .i64)) = (ls j).map (Value.int .i64) ++ [.int .i64 x] := by simp
      rw [this, List.length_append, List.length_singleton]
      exact ownsRow_setCell_other hown (by simpa [Value.ownBlock] using hg'g) _
    · simp only [if_neg e]
      refine ownsRow_setCell_other (ownsRow_of_block (h2 j hj) fun k hk => hblk k ((h2 j hj).lt k hk).2 fun e' => ?_) (h3 j hj) _
      have := h4 j i hj hi e (by rw [hk, e'])
      rw [hk] at this; cases this
  · by_cases e : j = i
    · simp only [if_pos e]; simpa [Value.ownBlock] using hg'g
    · simp only [if_neg e]; exact h3 j hj
  · have key : ∀ m, m < t → m ≠ i → (V m).ownBlock ≠ some g' := fun m hm hmi e' => by
      rcases hat with e | e
      · have := h4 m i hm hi hmi (by rw [e, e']); rw [e'] at this; cases this
      · have := (h2 m hm).lt g' e'; omega
    by_cases e : j = i
    · by_cases e2 : k = i
      · omega
      · simp only [if_pos e, if_neg e2]
        intro h; exact absurd h.symm (by simpa [Value.ownBlock] using key k hk e2)
    · by_cases e2 : k = i
      · simp only [if_neg e, if_pos e2]
        intro h; exact absurd h (by simpa [Value.ownBlock] using key j hj e)
      · simp only [if_neg e, if_neg e2]
        exact h4 j k hj hk hjk
  · have := (h5 y hy).1; have := hgrow.size; simp [World.setCell]; omega
  · by_cases e : j = i
    · simp only [if_pos e]
      rcases hat with e' | e'
      · intro h; exact (h5 y hy).2.2 i hi (by rw [e']; simpa [Value.ownBlock] using h)
      · have := (h5 y hy).1
        simp [Value.ownBlock]; omega
    · simp only [if_neg e]; exact (h5 y hy).2.2 j hj
  · rw [Below.heap_setCell _ _ _ _ (by exact (h5 y hy).2.1)]
    exact hblk y (h5 y hy).1 ((h5 y hy).2.2 i hi)

theorem own2_end {base : Nat} {w : World} {g t : Nat} {ls : Nat → List Int} {ex : Nat → Prop} (h : Own2 base w g t ls ex) (ht : t ≤ maxLen) (hm : ∀ i, i < t → (ls i).length ≤ maxLen) (hwf : ∀ i, i < t → ∀ x ∈ ls i, (Lit.int .i64 x).wf = true) :
    Sl2 w (some ⟨g, 0, none⟩) t ((List.range t).map ls) := by
  obtain ⟨hg, V, h1, h2, h3⟩ := h
  refine ⟨by simp, ht, Or.inr ⟨g, 0, rfl, fun i hi => ?_⟩⟩
  have hget : ((List.range t).map ls).getD i [] = ls i := by simp [List.getD, hi]
  rw [hget, Nat.zero_add, h1.cell hi]
  obtain ⟨a, cap, hv, hs⟩ := sl_of_owns rfl (hm i hi) (hwf i hi) (h2 i hi)
  exact ⟨a, cap, by rw [hv], hs.1⟩
end Go.Proofs.Ythadkoplbgibgae

/- The contract of auto.Check. -/
namespace Go.Proofs.Ythadkoplbgibgae
open Go.RowKit

theorem errV_no {c : Int} (h : c ≠ 0) : errV c = .iface 61 (.int .i64 c) := by unfold errV; rw [if_neg h]
theorem errV_yes {c : Int} (h : c = 0) : errV c = .nilIface := by unfold errV; rw [if_pos h]

set_option maxHeartbeats 1000000 in
set_option maxRecDepth 4000 in
theorem nexts_u (a : Option Addr) (len cap : Nat) (r : List Int) (m n : Nat) (w : World) (hs : Sl w a len r) :
    Calls Try.prog 94 #[.slice a len cap, .int .i64 m, .int .i64 n] w fun e w' => e = .returned (errV (rowC m n r)) ∧ w' = w := by
  have hm := hs.2.1
  unfold maxLen at hm
  have hL := hs.1
  by_cases hlen : len = m
  · have HB := hide (fun k => @rowC_bad m n r (hL.trans hlen) k)
    have HG := hide (@rowC_good m n r (hL.trans hlen))
    subst hlen
    have HS := hide hs
    clear hs hL
    generalize hR : rowC len n r = R at HB HG ⊢
    clear hR
    have hne : ((len : Int) != (len : Int)) = false := by simp
    go_enter Try.func94, Try.ntmps94
    go_wp2
    go_loop [16] (fun i => ∃ k : Nat, k ≤ len ∧ i = .int .i64 k ∧ ∀ j, j < k → 0 ≤ r.getD j 0 ∧ r.getD j 0 < (n : Int)) (fun i => len - (intOf i).toNat)
    case atStart => exact ⟨0, by omega, rfl, by omega⟩
    case round =>
      obtain ⟨k, hk, rfl, hd⟩ := hrel
      have HD := hide hd
      clear hd
      by_cases hlt : k < len
      · have hlti : (k : Int) < (len : Int) := by omega
        obtain ⟨bb, o, rfl, hck⟩ := sl_cell HS.out k hlt
        have HB' := hide (HB.out k hlt)
        have HD' : Hid (0 ≤ r.getD k 0 ∧ r.getD k 0 < (n : Int) → ∀ j, j < k + 1 → 0 ≤ r.getD j 0 ∧ r.getD j 0 < (n : Int)) := by
          intro h j hj
          by_cases e : j = k
          · subst e; exact h
          · exact HD.out j (by omega)
        generalize r.getD k 0 = x at hck HB' HD'
        by_cases hx : 0 ≤ x ∧ x < (n : Int)
        · have HD2 := hide (HD'.out hx)
          obtain ⟨hx1, hx2⟩ := hx
          go_wp2
          go_round
          case rel => exact ⟨k + 1, by omega, by go_num, HD2.out⟩
          case measure => simp [intOf]; omega
        · have HB2 := hide (HB'.out hx)
          have hx' : x < 0 ∨ (¬ x < 0 ∧ (n : Int) ≤ x) := by omega
          clear hx
          rcases hx' with hx | ⟨hx1, hx2⟩
          all_goals
            go_wp2
            go_ret
            exact ⟨by rw [HB2.out]; simp [errV], rfl⟩
      · have hlti : ¬ ((k : Int) < (len : Int)) := by omega
        have HG2 := hide (HG.out fun j hj => HD.out j (by omega))
        go_wp2
        go_ret
        exact ⟨by rw [HG2.out]; simp [errV], rfl⟩
  · have hR := @rowC_long m n r (by omega)
    have hne : ((len : Int) != (m : Int)) = true := by simp; omega
    rw [hR]
    go_enter Try.func94, Try.ntmps94
    go_wp2
    go_ret
    exact ⟨by simp [errV], rfl⟩

set_option maxHeartbeats 4000000 in
set_option maxRecDepth 4000 in
theorem check_w (M b t : Int) (a a' : Option Addr) (len cap len' cap' : Nat) (N : List (List Int)) (w : World) (hs : Sl2 w a len N) (hm' : len' ≤ maxLen) :
    Calls Try.prog 83 #[.agg #[.int .i64 b, .int .i64 t, .slice a len cap, .slice a' len' cap'], .int .i64 M] w fun e w' => e = .returned (errV (autoM M b t N len')) ∧ Below w.heap.size w w' := by
  have hL := hs.1
  have hm := hs.2.1
  unfold maxLen at hm hm'
  have HMU := hide (fun W => many_u b t W)
  by_cases hM : codeM b t = 0
  · have hlo := pw_pos (kindsI b) (kinds_bd2 b (codeM_zero hM).2.1).1 t.toNat
    have hhi := (codeM_zero hM).2.2.2.2.1
    have hmu := (codeM_zero hM).2.2.2.2.2
    rw [← hmu] at hlo hhi
    obtain ⟨m, hmm⟩ : ∃ m : Nat, manyU b t = m := ⟨(manyU b t).toNat, by omega⟩
    have HA : Hid (autoM M b t N len' = if len = 0 then 4 else if M < (len : Int) then 3 else if len' = len then rowsC m len N else 2) := by
      show _ = _
      unfold autoM
      rw [if_pos hM, hL, hmm, Int.toNat_natCast]
    rw [hmm, errV_yes hM] at HMU
    clear hM hlo hhi hmu hmm
    generalize autoM M b t N len' = R at HA ⊢
    by_cases h0 : len = 0
    · rw [if_pos h0] at HA
      subst h0
      go_enter Try.func83, Try.ntmps83
      go_wp2_with (go_at_call 29; refine (HMU.out _).mono ?_; rintro e w' ⟨rfl, rfl⟩)
      go_ret
      exact ⟨by rw [HA.out]; simp [errV], (Below.refl _ _).alloc (Nat.le_refl _) _⟩
    · rw [if_neg h0] at HA
      have h0' : ((len : Int) == 0) = false := by simp; omega
      by_cases h80 : M < (len : Int)
      · rw [if_pos h80] at HA
        go_enter Try.func83, Try.ntmps83
        go_wp2_with (go_at_call 29; refine (HMU.out _).mono ?_; rintro e w' ⟨rfl, rfl⟩)
        go_ret
        exact ⟨by rw [HA.out]; simp [errV], (Below.refl _ _).alloc (Nat.le_refl _) _⟩
      · rw [if_neg h80] at HA
        by_cases hE : len' = len
        · rw [if_pos hE] at HA
          subst hE
          have hee : ((len' : Int) != (len' : Int)) = false := by simp
          have HS := hide (sl2_below hs ((Below.refl _ _).alloc (Nat.le_refl _) (.cells #[.int .i64 b, .int .i64 t, .slice a len' cap, .slice a' len' cap'] 25)))
          have HB : Hid (Below w.heap.size w (w.alloc (.cells #[.int .i64 b, .int .i64 t, .slice a len' cap, .slice a' len' cap'] 25))) := (Below.refl _ _).alloc (Nat.le_refl _) _
          have HNX := hide (fun W a1 l1 c1 r h => nexts_u a1 l1 c1 r m len' W h)
          have HAT := hide (fun k => @rowsC_at m len' N k)
          have HALL := hide (@rowsC_all m len' N)
          rw [hL] at HALL
          have hN : N.length = len' := hL
          clear hs hL
          go_enter Try.func83, Try.ntmps83
          go_wp2_with (go_at_call 29; refine (HMU.out _).mono ?_; rintro e w' ⟨rfl, rfl⟩)
          go_loop [43] (fun i => ∃ k : Nat, k ≤ len' ∧ i = .int .i64 k ∧ ∀ j, j < k → rowC m len' (N.getD j []) = 0) (fun i => len' - (intOf i).toNat)
          case atStart => exact ⟨0, by omega, rfl, by omega⟩
          case round =>
            obtain ⟨k, hk, rfl, hd⟩ := hrel
            have HD := hide hd
            clear hd
            by_cases hlt : k < len'
            · have hlti : (k : Int) < (len' : Int) := by omega
              obtain ⟨bb, o, a1, c1, rfl, hck, hsl⟩ := sl2_cell HS.out k hlt
              have HNX' := hide (HNX.out _ a1 _ c1 _ hsl)
              have HAT' := hide (HAT.out k (by omega) HD.out)
              have HD' : Hid (rowC m len' (N.getD k []) = 0 → ∀ j, j < k + 1 → rowC m len' (N.getD j []) = 0) := by
                intro h j hj
                by_cases e : j = k
                · subst e; exact h
                · exact HD.out j (by omega)
              clear hsl
              generalize rowC m len' (N.getD k []) = C at HNX' HAT' HD'
              generalize (N.getD k []).length = rl at hck HNX'
              by_cases hC : C = 0
              · have HD2 := hide (HD'.out hC)
                rw [errV_yes hC] at HNX'
                clear HAT' HD' hC
                go_wp2_with (go_at_call 94; refine HNX'.out.mono ?_; rintro e w' ⟨rfl, rfl⟩)
                go_round
                case rel => exact ⟨k + 1, by omega, by go_num, HD2.out⟩
                case measure => simp [intOf]; omega
              · have HR := hide (HAT'.out hC)
                rw [HR.out] at HA
                rw [errV_no hC] at HNX'
                clear HAT' HD' HR
                go_wp2_with (go_at_call 94; refine HNX'.out.mono ?_; rintro e w' ⟨rfl, rfl⟩)
                go_ret
                exact ⟨by rw [HA.out, errV_no hC]; simp, HB.out⟩
            · have hlti : ¬ ((k : Int) < (len' : Int)) := by omega
              have HR := hide (HALL.out fun j hj => HD.out j (by omega))
              rw [HR.out] at HA
              go_wp2
              go_ret
              exact ⟨by rw [HA.out]; simp [errV], HB.out⟩
        · rw [if_neg hE] at HA
          have hee : ((len' : Int) != (len : Int)) = true := by simp; omega
          go_enter Try.func83, Try.ntmps83
          go_wp2_with (go_at_call 29; refine (HMU.out _).mono ?_; rintro e w' ⟨rfl, rfl⟩)
          go_ret
          exact ⟨by rw [HA.out]; simp [errV], (Below.refl _ _).alloc (Nat.le_refl _) _⟩
  · have HA : Hid (autoM M b t N len' = codeM b t) := by show _ = _; unfold autoM; rw [if_neg hM]
    rw [HA.out]
    rw [errV_no hM] at HMU ⊢
    generalize codeM b t = c at HMU ⊢
    go_enter Try.func83, Try.ntmps83
    go_wp2_with (go_at_call 29; refine (HMU.out _).mono ?_; rintro e w' ⟨rfl, rfl⟩)
    go_ret
    exact ⟨by simp, (Below.refl _ _).alloc (Nat.le_refl _) _⟩

set_option maxHeartbeats 1000000 in
set_option maxRecDepth 4000 in
theorem check_u (b t : Int) (a a' : Option Addr) (len cap len' cap' : Nat) (N : List (List Int)) (w : World) (hs : Sl2 w a len N) (hm' : len' ≤ maxLen) :
    Calls Try.prog 60 #[.agg #[.int .i64 b, .int .i64 t, .slice a len cap, .slice a' len' cap']] w fun e w' => e = .returned (errV (autoC b t N len')) ∧ Below w.heap.size w w' := by
  have hB := (Below.refl w.heap.size w).alloc (Nat.le_refl _) (.cells #[.int .i64 b, .int .i64 t, .slice a len cap, .slice a' len' cap'] 25)
  have HCK := hide (check_w 80 b t a a' len cap len' cap' N _ (sl2_below hs hB) hm')
  rw [autoM_80] at HCK
  have HB := hide hB
  clear hs hB
  generalize autoC b t N len' = c at HCK ⊢
  go_enter Try.func60, Try.ntmps60
  go_wp2_with fail
  refine HCK.out.mono ?_
  rintro e w2 ⟨rfl, hb2⟩
  have HB2 := hide (below_step HB.out hb2)
  clear hb2
  go_wp2
  go_ret
  exact ⟨rfl, HB2.out⟩
end Go.Proofs.Ythadkoplbgibgae

/- The contracts of auto.Run and auto.Takes. -/
namespace Go.Proofs.Ythadkoplbgibgae
open Go.RowKit

/-- The slice reads as these truths. -/
def SlB (w : World) (a : Option Addr) (len : Nat) (E : List Bool) : Prop :=
  E.length = len ∧ len ≤ maxLen ∧ (len = 0 ∨ ∃ b o, a = some ⟨b, o, none⟩ ∧ ∀ i, i < len → w.cell? ⟨b, o + i, none⟩ = some (.bool (E.getD i false)))
theorem slB_below {w W : World} {a : Option Addr} {len : Nat} {E : List Bool} (h : SlB w a len E) (hb : Below w.heap.size w W) : SlB W a len E := by
  obtain ⟨h1, h2, h3⟩ := h
  refine ⟨h1, h2, ?_⟩
  rcases h3 with h3 | ⟨b, o, rfl, hc⟩
  · exact Or.inl h3
  · refine Or.inr ⟨b, o, rfl, fun i hi => ?_⟩
    have := hc i hi
    rw [hb.cell (p := ⟨b, o + i, none⟩) (World.block_lt_of_cell? w _ this)]
    exact this
theorem slB_cell {w : World} {a : Option Addr} {len : Nat} {E : List Bool} (h : SlB w a len E) (i : Nat) (hi : i < len) : ∃ b o, a = some ⟨b, o, none⟩ ∧ w.cell? ⟨b, o + i, none⟩ = some (.bool (E.getD i false)) := by
  rcases h.2.2 with h0 | ⟨b, o, rfl, hc⟩
  · omega
  · exact ⟨b, o, rfl, hc i hi⟩

/-- An automaton's box. -/
theorem box4 {w w' : World} {v0 v1 v2 v3 : Value} {T : TypeId} (hb : Below (w.alloc (.cells #[v0, v1, v2, v3] T)).heap.size (w.alloc (.cells #[v0, v1, v2, v3] T)) w') :
    w'.cell? ⟨w.heap.size, 0, none⟩ = some v0 ∧ w'.cell? ⟨w.heap.size, 1, none⟩ = some v1 ∧ w'.cell? ⟨w.heap.size, 2, none⟩ = some v2 ∧ w'.cell? ⟨w.heap.size, 3, none⟩ = some v3 := by
  have key : ∀ i, w'.cell? ⟨w.heap.size, i, none⟩ = #[v0, v1, v2, v3][i]? := fun i => by
    rw [hb.cell (p := ⟨w.heap.size, i, none⟩) (by simp)]
    exact cell_of_row _ _ i _ T (0, 0) (heap_alloc_last w _)
  exact ⟨key 0, key 1, key 2, key 3⟩

/-- An automaton in its box, and what its slices read as. -/
def AutoAt (W : World) (B : Nat) (b t : Int) (a : Option Addr) (len cap : Nat) (a' : Option Addr) (len' cap' : Nat) (N : List (List Int)) (E : List Bool) : Prop :=
  (W.cell? ⟨B, 0, none⟩ = some (.int .i64 b) ∧ W.cell? ⟨B, 1, none⟩ = some (.int .i64 t) ∧ W.cell? ⟨B, 2, none⟩ = some (.slice a len cap) ∧ W.cell? ⟨B, 3, none⟩ = some (.slice a' len' cap')) ∧ Sl2 W a len N ∧ SlB W a' len' E
theorem autoAt_below {W W' : World} {B : Nat} {b t : Int} {a : Option Addr} {len cap : Nat} {a' : Option Addr} {len' cap' : Nat} {N : List (List Int)} {E : List Bool} (h : AutoAt W B b t a len cap a' len' cap' N E) (hb : Below W.heap.size W W') : AutoAt W' B b t a len cap a' len' cap' N E := by
  obtain ⟨⟨h0, h1, h2, h3⟩, h4, h5⟩ := h
  have hlt := World.block_lt_of_cell? W _ h0
  exact ⟨⟨(hb.cell (p := ⟨B, 0, none⟩) hlt).trans h0, (hb.cell (p := ⟨B, 1, none⟩) hlt).trans h1, (hb.cell (p := ⟨B, 2, none⟩) hlt).trans h2, (hb.cell (p := ⟨B, 3, none⟩) hlt).trans h3⟩, sl2_below h4 hb, slB_below h5 hb⟩
theorem autoAt_new {w : World} {b t : Int} {a : Option Addr} {len cap : Nat} {a' : Option Addr} {len' cap' : Nat} {N : List (List Int)} {E : List Bool} {T : TypeId} (h : Sl2 w a len N) (h' : SlB w a' len' E) :
    AutoAt (w.alloc (.cells #[.int .i64 b, .int .i64 t, .slice a len cap, .slice a' len' cap'] T)) w.heap.size b t a len cap a' len' cap' N E :=
  ⟨box4 (Below.refl _ _), sl2_below h ((Below.refl _ _).alloc (Nat.le_refl _) _), slB_below h' ((Below.refl _ _).alloc (Nat.le_refl _) _)⟩

def runC (b t : Int) (N : List (List Int)) (e : Nat) (l : List Int) : Int := if autoC b t N e = 0 then wordC (manyU b t).toNat l else autoC b t N e
def runS (b t : Int) (N : List (List Int)) (e : Nat) (l : List Int) : Nat := if runC b t N e l = 0 then runL N l else 0
def takesB (b t : Int) (N : List (List Int)) (E : List Bool) (l : List Int) : Bool := if runC b t N E.length l = 0 then E.getD (runL N l) false else false

set_option maxHeartbeats 4000000 in
set_option maxRecDepth 4000 in
theorem run_u (b t : Int) (a a' : Option Addr) (len cap len' cap' : Nat) (N : List (List Int)) (aw : Option Addr) (lw cw : Nat) (l : List Int) (w : World) (hs : Sl2 w a len N) (hm' : len' ≤ maxLen) (hw : Sl w aw lw l) :
    Calls Try.prog 25 #[.agg #[.int .i64 b, .int .i64 t, .slice a len cap, .slice a' len' cap'], .slice aw lw cw] w fun e w' => e = .returned (.tuple #[.int .i64 (runS b t N len' l), errV (runC b t N len' l)]) ∧ Below w.heap.size w w' := by
  have hL := hs.1
  have hLw := hw.1
  have hmw := hw.2.1
  unfold maxLen at hmw
  have HB1 : Hid (Below w.heap.size w (w.alloc (.cells #[.int .i64 b, .int .i64 t, .slice a len cap, .slice a' len' cap'] 25))) := (Below.refl _ _).alloc (Nat.le_refl _) _
  have HCK := hide (check_u b t a a' len cap len' cap' N _ (sl2_below hs HB1.out) hm')
  have HS := hide hs
  have HW := hide hw
  clear hs hw
  by_cases hA : autoC b t N len' = 0
  · obtain ⟨hM, hE, hG, hmu⟩ := autoC_zero hA
    rw [hL] at hG hE
    have hC : runC b t N len' l = wordC (manyU b t).toNat l := by unfold runC; rw [if_pos hA]
    have hS : runS b t N len' l = if wordC (manyU b t).toNat l = 0 then runL N l else 0 := by unfold runS; rw [hC]
    rw [hC, hS]
    rw [errV_yes hA] at HCK
    clear hC hS hA hM hmu hE
    generalize (manyU b t).toNat = m at hG ⊢
    have HG := hide hG
    by_cases hlong : 400 < lw
    · rw [@wordC_long m l (by omega), if_neg (by decide)]
      have hlong' : (400 : Int) < (lw : Int) := by omega
      go_enter Try.func25, Try.ntmps25
      go_wp2_with fail
      refine HCK.out.mono ?_
      rintro e w2 ⟨rfl, hb2⟩
      have HB2 := hide (below_step HB1.out hb2)
      clear hb2
      go_wp2
      go_ret2
      exact ⟨by simp [errV], HB2.out⟩
    · have hlong' : ¬ (400 : Int) < (lw : Int) := by omega
      have HBAD := hide (fun k => @wordC_bad m l (by omega) k)
      have HGOOD := hide (@wordC_good m l (by omega))
      have HLT := hide (fun k => @runL_lt m len N hG l k)
      have HTS := hide (fun k => @runL_take_succ N l k)
      have HST := hide (fun s => @goodN_step m len N hG s)
      have HROW : Hid (∀ s, s < len → (N.getD s []).length = m) := fun s h => (hG.2.2.2.2.2 s h).1
      have hm36 := hG.2.2.2.1
      have hn80 := hG.2.2.1
      have HEND : Hid (runL N (l.take lw) = runL N l) := by show _ = _; rw [List.take_of_length_le (by omega)]
      rw [hLw] at HBAD HGOOD HLT HTS
      clear hG
      generalize hRL : runL N l = RL at HEND ⊢
      clear hRL
      generalize wordC m l = c at HBAD HGOOD ⊢
      have HR0 : Hid (c = 0 → Value.tuple #[.int .i64 ((if c = 0 then RL else 0 : Nat) : Int), errV c] = .tuple #[.int .i64 RL, .nilIface]) := fun h => by rw [if_pos h, errV_yes h]
      have HR1 : Hid (c = 1 → Value.tuple #[.int .i64 ((if c = 0 then RL else 0 : Nat) : Int), errV c] = .tuple #[.int .i64 0, .iface 61 (.int .i64 1)]) := fun h => by subst h; rfl
      generalize Value.tuple #[.int .i64 ((if c = 0 then RL else 0 : Nat) : Int), errV c] = R at HR0 HR1 ⊢
      go_enter Try.func25, Try.ntmps25
      go_wp2_with fail
      refine HCK.out.mono ?_
      rintro e w2 ⟨rfl, hb2⟩
      have HB2 := hide (below_step HB1.out hb2)
      have hbox := box4 hb2
      have hbx := hbox.2.2.1
      have HS2 := hide (sl2_below HS.out HB2.out)
      have HW2 := hide (sl_below HW.out HB2.out)
      clear hb2 hbox HCK HB1 HS HW
      go_wp2
      go_loop [7, 21] (fun s i => ∃ k : Nat, k ≤ lw ∧ i = .int .i64 k ∧ s = .int .i64 (runL N (l.take k) : Nat) ∧ ∀ j, j < k → 0 ≤ l.getD j 0 ∧ l.getD j 0 < (m : Int)) (fun _ i => lw - (intOf i).toNat)
      case atStart => exact ⟨0, by omega, rfl, by simp [runL], by omega⟩
      case round =>
        obtain ⟨k, hk, rfl, rfl, hd⟩ := hrel
        have HD := hide hd
        clear hd
        by_cases hlt : k < lw
        · have hlti : (k : Int) < (lw : Int) := by omega
          have hsl := HLT.out k (by omega) HD.out
          have HTS' := hide (HTS.out k hlt)
          obtain ⟨bw, ow, rfl, hcw⟩ := sl_cell HW2.out k hlt
          have HD' : Hid (0 ≤ l.getD k 0 ∧ l.getD k 0 < (m : Int) → ∀ j, j < k + 1 → 0 ≤ l.getD j 0 ∧ l.getD j 0 < (m : Int)) := by
            intro h j hj
            by_cases e : j = k
            · subst e; exact h
            · exact HD.out j (by omega)
          have HB' := hide (HBAD.out k hlt)
          generalize runL N (l.take k) = s at hsl HTS' ⊢
          generalize l.getD k 0 = x at hcw HD' HB' HTS'
          obtain ⟨bn, on, a1, c1, rfl, hcn, hsl1⟩ := sl2_cell HS2.out s hsl
          rw [HROW.out s hsl] at hcn hsl1
          have hsli : (s : Int) < (len : Int) := by omega
          by_cases hx : 0 ≤ x ∧ x < (m : Int)
          · have HD2 := hide (HD'.out hx)
            have HST' := hide (HST.out s hsl x hx)
            obtain ⟨y, rfl⟩ : ∃ y : Nat, x = y := ⟨x.toNat, by omega⟩
            have hy : y < m := by omega
            have hyi : (y : Int) < (m : Int) := by omega
            obtain ⟨b1, o1, rfl, hc1⟩ := sl_cell hsl1 y hy
            rw [Int.toNat_natCast] at HST'
            rw [← HST'.out.2] at hc1
            clear hsl1 HB' HD' hx
            generalize stepL N s (y : Int) = s' at hc1 HTS'
            go_wp2
            go_round
            case rel => exact ⟨k + 1, by omega, by go_num, by rw [HTS'.out], HD2.out⟩
            case measure => simp [intOf]; omega
          · have HB2' := hide (HB'.out hx)
            have hx' : x < 0 ∨ (¬ x < 0 ∧ (m : Int) ≤ x) := by omega
            clear hx hsl1
            rcases hx' with hx | ⟨hx1, hx2⟩
            all_goals
              go_wp2
              go_ret2
              exact ⟨by rw [HR1.out HB2'.out]; simp, HB2.out⟩
        · have hlti : ¬ ((k : Int) < (lw : Int)) := by omega
          obtain rfl : k = lw := by omega
          have HC := hide (HGOOD.out HD.out)
          rw [HEND.out]
          go_wp2
          go_ret2
          exact ⟨by rw [HR0.out HC.out]; simp, HB2.out⟩
  · have hC : runC b t N len' l = autoC b t N len' := by unfold runC; rw [if_neg hA]
    have hS : runS b t N len' l = 0 := by unfold runS; rw [hC, if_neg hA]
    rw [hC, hS]
    rw [errV_no hA] at HCK ⊢
    clear hC hS
    generalize autoC b t N len' = c at HCK ⊢
    go_enter Try.func25, Try.ntmps25
    go_wp2_with fail
    refine HCK.out.mono ?_
    rintro e w2 ⟨rfl, hb2⟩
    have HB2 := hide (below_step HB1.out hb2)
    clear hb2
    go_wp2
    go_ret2
    exact ⟨by simp, HB2.out⟩

set_option maxHeartbeats 4000000 in
set_option maxRecDepth 4000 in
theorem takes_u (b t : Int) (a a' : Option Addr) (len cap len' cap' : Nat) (N : List (List Int)) (E : List Bool) (aw : Option Addr) (lw cw : Nat) (l : List Int) (w : World) (hs : Sl2 w a len N) (he : SlB w a' len' E) (hw : Sl w aw lw l) :
    Calls Try.prog 8 #[.agg #[.int .i64 b, .int .i64 t, .slice a len cap, .slice a' len' cap'], .slice aw lw cw] w fun e w' => e = .returned (.tuple #[.bool (takesB b t N E l), errV (runC b t N len' l)]) ∧ Below w.heap.size w w' := by
  have hLE := he.1
  have HB1 : Hid (Below w.heap.size w (w.alloc (.cells #[.int .i64 b, .int .i64 t, .slice a len cap, .slice a' len' cap'] 25))) := (Below.refl _ _).alloc (Nat.le_refl _) _
  have HRU := hide (run_u b t a a' len cap len' cap' N aw lw cw l _ (sl2_below hs HB1.out) he.2.1 (sl_below hw HB1.out))
  have HE := hide (slB_below he HB1.out)
  by_cases hC : runC b t N len' l = 0
  · have hS : runS b t N len' l = runL N l := by unfold runS; rw [if_pos hC]
    have hT : takesB b t N E l = E.getD (runL N l) false := by unfold takesB; rw [hLE, if_pos hC]
    have hlt : runL N l < len' := by
      have hA : autoC b t N len' = 0 := by
        apply Classical.byContradiction
        intro h
        unfold runC at hC
        rw [if_neg h] at hC
        exact h hC
      unfold runC at hC
      rw [if_pos hA] at hC
      obtain ⟨_, hE, hG, _⟩ := autoC_zero hA
      rw [hE]
      have := runL_lt hG l l.length (Nat.le_refl _) (wordC_zero hC).2
      rwa [List.take_of_length_le (Nat.le_refl _)] at this
    rw [hT, hC]
    rw [hS, hC] at HRU
    clear hs he hw hC hS hT
    generalize runL N l = s at hlt HRU ⊢
    have hlti : (s : Int) < (len' : Int) := by omega
    rw [errV_yes rfl] at HRU ⊢
    obtain ⟨x, hx⟩ : ∃ x, E.getD s false = x := ⟨_, rfl⟩
    rw [hx]
    have HX := hide hx
    clear hx
    go_enter Try.func8, Try.ntmps8
    go_wp2_with fail
    refine HRU.out.mono ?_
    rintro e w2 ⟨rfl, hb2⟩
    have HB2 := hide (below_step HB1.out hb2)
    have hbx := (box4 hb2).2.2.2
    obtain ⟨be, oe, rfl, hce⟩ := slB_cell (slB_below HE.out hb2) s hlt
    clear hb2 HRU HE HB1
    rw [HX.out] at hce
    go_wp2
    go_ret2
    exact ⟨by simp, HB2.out⟩
  · have hT : takesB b t N E l = false := by unfold takesB; rw [hLE, if_neg hC]
    rw [hT]
    rw [errV_no hC] at HRU ⊢
    clear hs he hw hC hT HE
    generalize runS b t N len' l = s at HRU
    generalize runC b t N len' l = c at HRU ⊢
    go_enter Try.func8, Try.ntmps8
    go_wp2_with fail
    refine HRU.out.mono ?_
    rintro e w2 ⟨rfl, hb2⟩
    have HB2 := hide (below_step HB1.out hb2)
    clear hb2
    go_wp2
    go_ret2
    exact ⟨by simp, HB2.out⟩
end Go.Proofs.Ythadkoplbgibgae

/- The reference's likes: contract. -/
namespace Go.Proofs.Ythadkoplbgibgae
open Go.RowKit

theorem nxt_cell {m n : Nat} {N : List (List Int)} (hG : GoodN m n N) {s j : Nat} (hs : s < n) (hj : j < m) : nxt N s j < n ∧ (N.getD s []).getD j 0 = ((nxt N s j : Nat) : Int) := by
  have := (hG.2.2.2.2.2 s hs).2 j hj
  unfold nxt; omega

end Go.Proofs.Ythadkoplbgibgae

/- Rounds of classes: mathematics of the reference's Shrunk. -/
namespace Go.Proofs.Ythadkoplbgibgae
open Go.RowKit

/-- The classes behind k rounds, state by state. -/
def CAt (N : List (List Int)) (E : List Bool) (m n k : Nat) (C : List Int) : Prop := C.length = n ∧ ∀ s ∈ metL N, C.getD s.toNat 0 = ((clsL (simB N E m k) (repsL (simB N E m k) (metL N)) s : Nat) : Int)
theorem cAt_iff {m n : Nat} {N : List (List Int)} (E : List Bool) {k : Nat} {C : List Int} (hC : CAt N E m n k C) {s t : Int} (hs : s ∈ metL N) (ht : t ∈ metL N) : C.getD s.toNat 0 = C.getD t.toNat 0 ↔ simB N E m k s.toNat t.toNat = true := by
  rw [hC.2 s hs, hC.2 t ht, ← cls_iff (simB_eqv N E m k) hs ht]
  omega
theorem cls_step {R : Nat → Nat → Bool} (hR : EqvB R) {mt : List Int} {p : Nat} (hp : p < mt.length) :
    clsL R (repsL R mt) (mt.getD p 0) = clsL R (repsL R (mt.take p)) (mt.getD p 0) ∧ repsL R (mt.take (p + 1)) = if clsL R (repsL R (mt.take p)) (mt.getD p 0) < (repsL R (mt.take p)).length then repsL R (mt.take p) else repsL R (mt.take p) ++ [mt.getD p 0] := by
  have htake : mt.take (p + 1) = mt.take p ++ [mt.getD p 0] := by rw [List.take_succ_eq_append_getElem hp, getD_at _ p hp]
  by_cases h : ∃ r ∈ repsL R (mt.take p), R (mt.getD p 0).toNat r.toNat = true
  · have hl := cls_lt h
    have hpre := reps_prefix (R := R) (List.take_prefix p mt)
    refine ⟨cls_eq hR (Nat.lt_of_lt_of_le hl hpre.length_le) (by rw [pre_getD hpre _ hl]; exact cls_R hl), ?_⟩
    rw [if_pos hl, htake, repsL_snoc]
    unfold repAdd
    rw [if_pos (List.any_eq_true.2 h)]
  · have he : clsL R (repsL R (mt.take p)) (mt.getD p 0) = (repsL R (mt.take p)).length := by
      unfold clsL
      rw [List.findIdx_eq_length]
      intro r hr
      cases e : R (mt.getD p 0).toNat r.toNat with
      | false => rfl
      | true => exact absurd ⟨r, hr, e⟩ h
    have e1 : repsL R (mt.take (p + 1)) = repsL R (mt.take p) ++ [mt.getD p 0] := by
      rw [htake, repsL_snoc]
      unfold repAdd
      rw [if_neg (fun e => h (List.any_eq_true.1 e))]
    refine ⟨?_, by rw [if_neg (by omega), e1]⟩
    have hpre := reps_prefix (R := R) (List.take_prefix (p + 1) mt)
    rw [e1] at hpre
    have hlt : (repsL R (mt.take p)).length < (repsL R mt).length := by have := hpre.length_le; simp at this; omega
    have hg := pre_getD hpre (repsL R (mt.take p)).length (by simp)
    have e2 : (repsL R (mt.take p) ++ [mt.getD p 0]).getD (repsL R (mt.take p)).length 0 = mt.getD p 0 := by simp [List.getD]
    rw [e2] at hg
    rw [he]
    exact cls_eq hR hlt (by rw [hg]; exact hR.refl _)

/-- What is written behind p of them. -/
def freshF (R : Nat → Nat → Bool) (mt : List Int) (p q : Nat) : Int := if (q : Int) ∈ mt.take p then ((clsL R (repsL R mt) (q : Int) : Nat) : Int) else 0
theorem freshF_zero (R : Nat → Nat → Bool) (mt : List Int) (q : Nat) : freshF R mt 0 q = 0 := by simp [freshF]
theorem freshF_step {R : Nat → Nat → Bool} {mt : List Int} {p : Nat} (hp : p < mt.length) (h0 : 0 ≤ mt.getD p 0) (q : Nat) : freshF R mt (p + 1) q = if q = (mt.getD p 0).toNat then ((clsL R (repsL R mt) (mt.getD p 0) : Nat) : Int) else freshF R mt p q := by
  have htake : mt.take (p + 1) = mt.take p ++ [mt.getD p 0] := by rw [List.take_succ_eq_append_getElem hp, getD_at _ p hp]
  unfold freshF
  rw [htake]
  by_cases e : q = (mt.getD p 0).toNat
  · have e' : (q : Int) = mt.getD p 0 := by omega
    rw [if_pos e, e', if_pos (by simp)]
  · have e' : ¬ (q : Int) = mt.getD p 0 := by omega
    rw [if_neg e]
    have : ((q : Int) ∈ mt.take p ++ [mt.getD p 0]) ↔ (q : Int) ∈ mt.take p := by simp only [List.mem_append, List.mem_singleton]; exact ⟨fun h => h.resolve_right e', .inl⟩
    simp only [this]
theorem cAt_fresh {m n : Nat} {N : List (List Int)} (hG : GoodN m n N) (E : List Bool) (k : Nat) : CAt N E m n k ((List.range n).map (freshF (simB N E m k) (metL N) (metL N).length)) := by
  refine ⟨by simp, fun s hs => ?_⟩
  have hn := met_lt hG hs
  have h0 := ((met_ok hG).2 s hs).1
  have e : ((List.range n).map (freshF (simB N E m k) (metL N) (metL N).length)).getD s.toNat 0 = freshF (simB N E m k) (metL N) (metL N).length s.toNat := by simp [List.getD, hn]
  have es : ((s.toNat : Nat) : Int) = s := by omega
  rw [e]
  unfold freshF
  rw [List.take_length, es, if_pos hs]

theorem simB_le {N : List (List Int)} {E : List Bool} {m j k : Nat} (h : j ≤ k) {s t : Nat} (hs : simB N E m k s t = true) : simB N E m j s t = true := by
  obtain ⟨i, rfl⟩ : ∃ i, k = j + i := ⟨k - j, by omega⟩
  clear h
  induction i with
  | zero => exact hs
  | succ i ih => exact ih (simB_fine hs)
/-- No round has more classes than there are in the end. -/
theorem reps_bound {m n : Nat} {N : List (List Int)} (hG : GoodN m n N) (E : List Bool) (k : Nat) : (repsL (simB N E m k) (metL N)).length ≤ leastK N E m := by
  unfold leastK leastR
  rw [hG.1]
  by_cases h : k ≤ n
  · exact reps_le (R' := simB N E m n) (simB_eqv N E m k) (fun s t hs => simB_le h hs) _
  · have e : repsL (simB N E m k) (metL N) = repsL (simB N E m n) (metL N) := by
      refine reps_congr _ fun s hs t ht => ?_
      rw [Bool.eq_iff_iff]
      refine ⟨fun hh => simB_le (by omega) hh, fun hh => ?_⟩
      exact lang_sim k ((sim_all hG E (met_lt hG hs) (met_lt hG ht)).1 hh)
    rw [e]
    exact Nat.le_refl _
/-- Where a round makes no more of them, they are the least automaton's. -/
theorem round_stab {m n : Nat} {N : List (List Int)} (hG : GoodN m n N) (E : List Bool) {k : Nat} (hl : (repsL (simB N E m k) (metL N)).length = (repsL (simB N E m (k + 1)) (metL N)).length) :
    Stab N E m (simB N E m (k + 1)) ∧ quoN (simB N E m (k + 1)) (metL N) N = leastN N E m ∧ quoE (simB N E m (k + 1)) (metL N) E = leastE N E m ∧ (repsL (simB N E m (k + 1)) (metL N)).length = leastK N E m := by
  have hsame := reps_same (simB_eqv N E m k) (simB_eqv N E m (k + 1)) (fun s t => simB_fine) (metL N) hl
  have hst : Stab N E m (simB N E m (k + 1)) := by
    refine ⟨simB_eqv _ _ _ _, fun s _ t _ h => (simB_succ.1 h).1, fun s hs t ht h j hj => ?_⟩
    have h1 := (simB_succ.1 h).2.2 j hj
    have h2 := hsame _ (met_nxt hG hs j hj).1 _ (met_nxt hG ht j hj).1
    rw [Int.toNat_natCast, Int.toNat_natCast] at h2
    rw [← h2]; exact h1
  have hu := least_unique hG hst (fun s _ t _ h => lang_sim (k + 1) h)
  refine ⟨hst, hu.1, hu.2, ?_⟩
  have := congrArg List.length hu.1
  rwa [quoN_length, leastN_len] at this
/-- Else there are more. -/
theorem round_more {m n : Nat} {N : List (List Int)} (hG : GoodN m n N) (E : List Bool) {k : Nat} (hl : (repsL (simB N E m k) (metL N)).length ≠ (repsL (simB N E m (k + 1)) (metL N)).length) : (repsL (simB N E m k) (metL N)).length < (repsL (simB N E m (k + 1)) (metL N)).length := by
  have := reps_le (R' := simB N E m (k + 1)) (simB_eqv N E m k) (fun s t => simB_fine (N := N) (E := E) (m := m)) (metL N)
  have := hG.1
  omega
end Go.Proofs.Ythadkoplbgibgae

/- The contract of letter.apart: the digits of each track of a word. -/
namespace Go.Proofs.Ythadkoplbgibgae
open Go.RowKit

theorem infoS : (Try.prog.info? 26).map (fun i => (i.zero, i.size, i.bytes)) = some (some (.slice none 0 0), 1, 24) := by kernel_rfl
theorem make_rows (n : Nat) (hn : n ≤ 1000000000000) (w : World) : (Instr.makeSlice 22 (.int .i64 (n : Int)) (.int .i64 (n : Int))).run Try.prog w = .ok (.slice (some ⟨w.heap.size, 0, none⟩) n n) (w.alloc (.cells (madeCells #[.slice none 0 0] n) 26)) :=
  run_make_row' 22 26 (.slice none 0 0) 24 Try.underlying22 infoS rfl .i64 .i64 n (by omega) (by omega) w

/-- The rows of all tracks. -/
def tracksL (b : Int) (t : Nat) (w : List Int) : List (List Int) := (List.range t).map (trackL b t w)

def ApGives (w : World) (ls : List (List Int)) (er : Value) (e : Ending) (w' : World) : Prop := ∃ a cap, e = .returned (.tuple #[.slice a ls.length cap, er]) ∧ Sl2 w' a ls.length ls ∧ Below w.heap.size w w'

theorem trackL_wf (b : Int) (h2 : b ≤ 6) (t : Nat) (w : List Int) (i : Nat) : ∀ x ∈ trackL b t w i, (Lit.int .i64 x).wf = true := by
  intro x hx
  simp only [trackL, List.mem_map] at hx
  obtain ⟨l, _, rfl⟩ := hx
  have := dOf_bd b h2 t l i
  have := kinds_bd2 b h2
  exact Go.WalkArith.wf_i64 (by omega)
theorem trackL_take_succ (b : Int) (t : Nat) (l : List Int) (k i : Nat) (h : k < l.length) : trackL b t (l.take (k + 1)) i = trackL b t (l.take k) i ++ [dOf b t (l.getD k 0) i] := by
  unfold trackL
  rw [List.take_succ_eq_append_getElem h, List.map_append]
  simp [List.getD, h]

/-- The outer loop, behind k letters. -/
def ApAt (b : Int) (n : Nat) (l : List Int) (w : World) (k : Nat) (wr : World) : Prop :=
  Own2 w.heap.size wr w.heap.size n (fun i => trackL b n (l.take k) i) (fun _ => False) ∧ Below w.heap.size w wr
/-- The inner loop, behind k letters and j tracks. -/
def ApIn (b : Int) (n : Nat) (l : List Int) (w : World) (k : Nat) (a : Option Addr) (j : Nat) (wr : World) : Prop :=
  Own2 w.heap.size wr w.heap.size n (fun i => if i < j then trackL b n (l.take (k + 1)) i else trackL b n (l.take k) i) (slB a n) ∧ Sl wr a n (splitL b n (l.getD k 0)) ∧ Below w.heap.size w wr

theorem apIn_start {b : Int} {n : Nat} {l : List Int} {w : World} {k : Nat} {a : Option Addr} {wo wr : World} (h : ApAt b n l w k wo) (hs : SlN wo.heap.size wr a n (splitL b n (l.getD k 0))) (hb : Below wo.heap.size wo wr) : ApIn b n l w k a 0 wr := by
  refine ⟨own2_congr (own2_below h.1 hb fun x hx => ⟨?_, slB_lt hs.1 hx⟩) (fun i _ => by simp), hs.1, below_step h.2 hb⟩
  obtain ⟨_, ad, e, rfl⟩ := hx
  exact hs.2 ad e

theorem apIn_end {b : Int} {n : Nat} {l : List Int} {w : World} {k : Nat} {a : Option Addr} {wr : World} (h : ApIn b n l w k a n wr) : ApAt b n l w (k + 1) wr :=
  ⟨own2_congr (own2_forget h.1) (fun i hi => by rw [if_pos hi]), h.2.2⟩

theorem apIn_step {b : Int} {n : Nat} {l : List Int} {w : World} {k : Nat} {a : Option Addr} {j : Nat} {wr : World} (hk : k < l.length) (hj : j < n) (h : ApIn b n l w k a j wr) :
    ∃ v m, wr.cell? ⟨w.heap.size, j, none⟩ = some v ∧ wr.ownsRow w.heap.size 3 1 v m ((trackL b n (l.take k) j).map (Value.int .i64)) ∧ m ≤ k ∧
      ∀ (w' : World) (o : Obj) (g' cap' : Nat), w'.ownsRow w.heap.size 3 1 (.slice (some ⟨g', 0, none⟩) (m + 1) cap') (m + 1) ((trackL b n (l.take k) j).map (Value.int .i64) ++ [.int .i64 (dOf b n (l.getD k 0) j)]) →
        (wr.alloc o).grownBy w' v.ownBlock → (v.ownBlock = some g' ∨ g' = (wr.alloc o).heap.size) → g' < w'.heap.size →
        w'.cell? ⟨w.heap.size, j, none⟩ = some v ∧ w'.frozen? ⟨w.heap.size, j, none⟩ = false ∧
        ApIn b n l w k a (j + 1) (w'.setCell ⟨w.heap.size, j, none⟩ (.slice (some ⟨g', 0, none⟩) (m + 1) cap')) := by
  obtain ⟨v, h1, h2, h3, h4⟩ := own2_push h.1 j hj
  simp only [Nat.lt_irrefl, if_false] at h2 h4
  refine ⟨v, (trackL b n (l.take k) j).length, h1, h2, by rw [trackL_length]; simp; omega, fun w' o g' cap' hown hgrow hat hlt => ?_⟩
  obtain ⟨c1, c2, c3, c4⟩ := h4 _ w' o g' cap' _ rfl hown hgrow hat hlt
  refine ⟨c1, c2, own2_congr c3 (fun i hi => ?_), sl_keep h.2.1 c4, ?_⟩
  · by_cases e : i = j
    · subst e
      rw [if_pos rfl, if_pos (by omega), trackL_take_succ _ _ _ _ _ hk]
    · simp only [if_neg e]
      by_cases e2 : i < j
      · rw [if_pos e2, if_pos (by omega)]
      · rw [if_neg e2, if_neg (by omega)]
  · exact (Below.grown (h.2.2.alloc h.2.2.size o) hgrow (by have := h.2.2.size; simp; omega) h3).setCell (Nat.le_refl _) _

theorem ap_end {b : Int} {n : Nat} {l : List Int} {w wr : World} (h2 : b ≤ 6) (hn : n ≤ 5) (hl : l.length ≤ 60) (h : ApAt b n l w l.length wr) : ApGives w (tracksL b n l) .nilIface (.returned (.tuple #[.slice (some ⟨w.heap.size, 0, none⟩) n n, .nilIface])) wr := by
  have hL : (tracksL b n l).length = n := by simp [tracksL]
  refine ⟨some ⟨w.heap.size, 0, none⟩, n, by rw [hL], ?_, h.2⟩
  rw [hL]
  have := own2_end h.1 (by unfold maxLen; omega) (fun i _ => by rw [trackL_length]; unfold maxLen; simp; omega) (fun i _ => trackL_wf b h2 n _ i)
  rw [List.take_of_length_le (Nat.le_refl _)] at this
  exact this

def ApPost (b : Int) (n : Nat) (l : List Int) (w : World) (e : Ending) (w' : World) : Prop := ApGives w (if letB b n l = true then tracksL b n l else []) (if letB b n l = true then .nilIface else .iface 61 (.int .i64 1)) e w'

set_option maxHeartbeats 2000000 in
set_option maxRecDepth 4000 in
theorem apart_ok (b : Int) (n : Nat) (a : Option Addr) (len cap : Nat) (l : List Int) (w : World) (hM : codeM b n = 0) (hlen : len ≤ 60) (hs : Sl w a len l) :
    Calls Try.prog 52 #[.int .i64 b, .int .i64 n, .slice a len cap] w (ApPost b n l w) := by
  obtain ⟨i0, hi, hz0, hz1, hz2⟩ := info_parts info3
  obtain ⟨h1, h2, hn0, hn5, hpw, hmany⟩ := codeM_zero hM
  have hn : n ≤ 5 := by omega
  have hlen' : ¬ (60 : Int) < (len : Int) := by omega
  have HL := hide hs.1
  have HS := hide hs
  clear hs
  have HMC : Hid (Calls Try.prog 29 #[.int .i64 b, .int .i64 n] w fun e w' => e = .returned (.tuple #[.int .i64 (manyU b n), .nilIface]) ∧ w' = w) := by
    have := many_u b n w
    rw [hM] at this
    show Calls _ _ _ _ _
    simpa [errV] using this
  have hmk := make_rows n (by omega)
  have HE := hide (fun wr => @ap_end b n l w wr h2 hn (by rw [HL.out]; omega))
  have HSP := hide (fun x W => split_any b n x W h1 h2 hn)
  have H0 : Hid (ApAt b n l w 0 (w.alloc (.cells (madeCells #[.slice none 0 0] n) 26))) :=
    ⟨own2_congr (own2_made w n) (fun i _ => by simp [trackL]), (Below.refl _ _).alloc (Nat.le_refl _) _⟩
  have hmb : manyU b n ≤ 36 := by rw [hmany]; exact hpw
  have HLT := hide (letB_take_succ b n l)
  have HLN := hide (letB_not b n l)
  have HG1 : Hid (letB b n l = true → ∀ e w', ApGives w (tracksL b n l) .nilIface e w' → ApPost b n l w e w') := by
    intro h e w' hg; unfold ApPost; rw [if_pos h, if_pos h]; exact hg
  have HG2 : Hid (letB b n l = false → ∀ w', Below w.heap.size w w' → ApPost b n l w (.returned (.tuple #[.slice none 0 0, .iface 61 (.int .i64 1)])) w') := by
    intro h w' hb
    unfold ApPost
    rw [if_neg (by simp [h]), if_neg (by simp [h])]
    exact ⟨none, 0, rfl, ⟨rfl, by decide, Or.inl rfl⟩, hb⟩
  generalize manyU b n = M at HMC hmany hmb HLT HLN
  clear hM hpw hmany
  go_enter Try.func52, Try.ntmps52
  go_wp2_with (go_at_call 29; refine HMC.out.mono ?_; rintro e w' ⟨rfl, hw⟩; rw [hw]; clear hw w')
  generalize w.alloc (.cells (madeCells #[.slice none 0 0] n) 26) = W at H0 ⊢
  clear HMC
  go_loopw [32] (fun i wx => ∃ k : Nat, k ≤ len ∧ i = .int .i64 k ∧ letB b n (l.take k) = true ∧ ApAt b n l w k wx) (fun i _ => len - (intOf i).toNat)
  case atStart => exact ⟨0, by omega, rfl, rfl, H0.out⟩
  case round =>
    obtain ⟨k, hk, rfl, hlb, hat⟩ := hrel
    have HLB := hide hlb
    have HA := hide hat
    clear hlb hat
    by_cases hlt : k < len
    · have hlti : (k : Int) < (len : Int) := by omega
      obtain ⟨bb, o, rfl, hck⟩ := sl_cell (sl_below HS.out HA.out.2) k hlt
      have HLT' := hide (HLT.out k (by rw [HL.out]; exact hlt))
      have HLN' := hide (HLN.out k (by rw [HL.out]; exact hlt))
      have HST := hide (fun a' wr' => @apIn_start b n l w k a' wr wr' HA.out)
      have HIS := hide (fun a' j wr' => @apIn_step b n l w k a' j wr' (by rw [HL.out]; exact hlt))
      have HIE := hide (fun a' wr' => @apIn_end b n l w k a' wr')
      have HSI : Hid (∀ a' j wr', ApIn b n l w k a' j wr' → Sl wr' a' n (splitL b n (l.getD k 0))) := fun _ _ _ h => h.2.1
      have HIB : Hid (∀ a' j wr', ApIn b n l w k a' j wr' → w.heap.size ≤ wr'.heap.size) := fun _ _ _ h => h.2.2.size
      have HSG := hide (splitL_get b n (l.getD k 0))
      generalize ApIn b n l w k = IN at HST HIS HIE HSI HIB
      generalize l.getD k 0 = x at hck HLT' HLN' HST HIS HSI HSG
      by_cases hx : 0 ≤ x ∧ x < M
      · obtain ⟨hx1, hx2⟩ := hx
        have hxm : decide (M ≤ x) = false := by simp; omega
        obtain ⟨wo, hwo⟩ : ∃ wo : World, wo = wr := ⟨_, rfl⟩
        rw [← hwo] at hck HA HST ⊢
        clear hwo wr
        go_wp2_with fail
        refine (HSP.out x wo hx1 (by omega)).mono ?_
        rintro e w1 ⟨a1, cap1, rfl, hs1, hb1⟩
        rw [splitL_length] at hs1 ⊢
        have HI0 := hide (HST.out a1 w1 hs1 hb1)
        clear hs1 hb1
        go_wp2
        go_loopw [49] (fun i wx => ∃ j : Nat, j ≤ n ∧ i = .int .i64 j ∧ IN a1 j wx) (fun i _ => n - (intOf i).toNat)
        case atStart => exact ⟨0, by omega, rfl, HI0.out⟩
        case round =>
          obtain ⟨j, hj, rfl, hin⟩ := hrel
          have HIN := hide hin
          clear hin
          by_cases hjt : j < n
          · have hjti : (j : Int) < (n : Int) := by omega
            obtain ⟨bs, os, rfl, hcs⟩ := sl_cell (HSI.out _ _ _ HIN.out) j hjt
            rw [HSG.out j hjt] at hcs
            obtain ⟨v, m, hcv, hown, hmk', hnext⟩ := HIS.out _ _ _ hjt HIN.out
            have HOWN := hide hown
            have HNX := hide hnext
            have HSZ := hide (HIB.out _ _ _ HIN.out)
            clear hown hnext
            generalize dOf b n x j = y at hcs HNX
            have HL1 : Hid ((trackL b n (l.take k) j).map (Value.int .i64) = (trackL b n (l.take k) j).map (Value.int .i64)) := rfl
            generalize (trackL b n (l.take k) j).map (Value.int .i64) = xs at HOWN HNX
            go_wp2_with (at_builtin; refine wpList_append_lies _ rfl _ _ 26 rfl w.heap.size 3 i0 (.int .i64 0) 1 8 Try.underlying26 hi hz0 hz1 hz2 rfl (by decide) v m xs rfl (HOWN.out.alloc _) ⟨wr.heap.size, 0, none⟩ 1 1 [.int .i64 y] rfl rfl (one_new _ _ _) (fun u hu => by simp at hu; subst hu; rfl) (by omega) (by unfold maxLen; omega) (by omega) (by have := HSZ.out; simp; omega) _ rfl ?_; intro g' cap' w3 hown3 hgrow3 hat3 hlt3; obtain ⟨hc3, hf3, hin3⟩ := HNX.out w3 _ g' cap' hown3 hgrow3 hat3 hlt3; have HIN3 := hide hin3; clear hin3 hown3 hgrow3 hat3)
            go_roundw
            case rel => exact ⟨j + 1, by omega, by go_num, HIN3.out⟩
            case measure => simp [intOf]; omega
          · have hjti : ¬ ((j : Int) < (n : Int)) := by omega
            obtain rfl : j = n := by omega
            have HEN := hide (HIE.out _ _ HIN.out)
            go_wp2
            go_roundw
            case rel => exact ⟨k + 1, by omega, by go_num, by rw [HLT'.out, HLB.out]; simp [hx1, hx2], HEN.out⟩
            case measure => simp [intOf]; omega
      · have HF := hide (HLN'.out hx)
        have hx' : x < 0 ∨ (0 ≤ x ∧ M ≤ x) := by omega
        clear hx
        rcases hx' with hx | ⟨hx1, hx2⟩
        all_goals
          go_wp2
          go_ret2
          exact HG2.out HF.out _ HA.out.2
    · have hlti : ¬ ((k : Int) < (len : Int)) := by omega
      obtain rfl : k = len := by omega
      go_wp2
      go_ret2
      rw [List.take_of_length_le (by rw [HL.out]; omega)] at HLB
      exact HG1.out HLB.out _ _ (HE.out wr (by rw [HL.out]; exact HA.out))
end Go.Proofs.Ythadkoplbgibgae

/- letter.apart, whatever is handed in; letter.Right and letter.Nums by it. -/
namespace Go.Proofs.Ythadkoplbgibgae
open Go.RowKit

theorem errV_ne {c : Int} (h : c ≠ 0) : errV c = .iface 61 (.int .i64 c) := by unfold errV; rw [if_neg h]
theorem errV_zero : errV 0 = .nilIface := rfl

def ApU (b t : Int) (l : List Int) (w : World) (e : Ending) (w' : World) : Prop := ApGives w (if codeW b t l = 0 then tracksL b t.toNat l else []) (errV (codeW b t l)) e w'

set_option maxHeartbeats 1000000 in
set_option maxRecDepth 4000 in
theorem apart_many (b t : Int) (a : Option Addr) (len cap : Nat) (w : World) (hM : codeM b t ≠ 0) :
    Calls Try.prog 52 #[.int .i64 b, .int .i64 t, .slice a len cap] w fun e w' => e = .returned (.tuple #[.slice none 0 0, errV (codeM b t)]) ∧ w' = w := by
  have HMC := hide (many_u b t w)
  rw [errV_ne hM] at HMC ⊢
  generalize codeM b t = c at HMC ⊢
  generalize manyU b t = M at HMC
  clear hM
  go_enter Try.func52, Try.ntmps52
  go_wp2_with (go_at_call 29; refine HMC.out.mono ?_; rintro e w' ⟨rfl, hw⟩; rw [hw]; clear hw w')
  go_ret2
  exact ⟨by simp, rfl⟩

set_option maxHeartbeats 1000000 in
set_option maxRecDepth 4000 in
theorem apart_full (b t : Int) (a : Option Addr) (len cap : Nat) (w : World) (hM : codeM b t = 0) (hlen : 60 < len) (hm : len ≤ maxLen) :
    Calls Try.prog 52 #[.int .i64 b, .int .i64 t, .slice a len cap] w fun e w' => e = .returned (.tuple #[.slice none 0 0, .iface 61 (.int .i64 3)]) ∧ w' = w := by
  unfold maxLen at hm
  have hlen' : (60 : Int) < (len : Int) := by omega
  have HMC := hide (many_u b t w)
  rw [hM, errV_zero] at HMC
  generalize manyU b t = M at HMC
  clear hM
  go_enter Try.func52, Try.ntmps52
  go_wp2_with (go_at_call 29; refine HMC.out.mono ?_; rintro e w' ⟨rfl, hw⟩; rw [hw]; clear hw w')
  go_ret2
  exact ⟨by simp, rfl⟩

theorem apGives_none (w w' : World) (er : Value) (hb : Below w.heap.size w w') : ApGives w [] er (.returned (.tuple #[.slice none 0 0, er])) w' := ⟨none, 0, rfl, ⟨rfl, by decide, Or.inl rfl⟩, hb⟩

theorem apart_u (b t : Int) (a : Option Addr) (len cap : Nat) (l : List Int) (w : World) (hs : Sl w a len l) :
    Calls Try.prog 52 #[.int .i64 b, .int .i64 t, .slice a len cap] w (ApU b t l w) := by
  have hL := hs.1
  by_cases hM : codeM b t = 0
  · obtain ⟨h1, h2, h3, h4, _, _⟩ := codeM_zero hM
    obtain ⟨n, rfl⟩ : ∃ n : Nat, t = n := ⟨t.toNat, by omega⟩
    by_cases hl : len ≤ 60
    · refine (apart_ok b n a len cap l w hM hl hs).mono fun e w' h => ?_
      unfold ApPost at h
      unfold ApU
      cases hb : letB b n l with
      | true =>
        have hc : codeW b n l = 0 := by unfold codeW; rw [if_pos hM, if_pos (by omega), if_pos hb]
        rw [if_pos hb, if_pos hb] at h
        rw [hc, if_pos rfl, errV_zero, Int.toNat_natCast]
        exact h
      | false =>
        have hc : codeW b n l = 1 := by unfold codeW; rw [if_pos hM, if_pos (by omega), if_neg (by simp [hb])]
        rw [if_neg (by simp [hb]), if_neg (by simp [hb])] at h
        rw [hc, if_neg (by decide)]
        exact h
    · refine (apart_full b n a len cap w hM (by omega) hs.2.1).mono ?_
      rintro e w' ⟨rfl, rfl⟩
      have hc : codeW b n l = 3 := by unfold codeW; rw [if_pos hM, if_neg (by omega)]
      unfold ApU
      rw [hc, if_neg (by decide)]
      exact apGives_none _ _ _ (Below.refl _ _)
  · refine (apart_many b t a len cap w hM).mono ?_
    rintro e w' ⟨rfl, rfl⟩
    have hc : codeW b t l = codeM b t := by unfold codeW; rw [if_neg hM]
    unfold ApU
    rw [hc, if_neg hM]
    exact apGives_none _ _ _ (Below.refl _ _)

/-- Are the digits of all tracks right? -/
def rightW (b t : Int) (l : List Int) : Bool := (tracksL b t.toNat l).all (rightB b)

theorem tracksL_get (b : Int) (n : Nat) (l : List Int) (i : Nat) (h : i < n) : (tracksL b n l).getD i [] = trackL b n l i := by simp [tracksL, List.getD, h]
theorem tracksL_length (b : Int) (n : Nat) (l : List Int) : (tracksL b n l).length = n := by simp [tracksL]
theorem rightW_not {b : Int} {n : Nat} {l : List Int} {i : Nat} (h : i < n) (hr : rightB b (trackL b n l i) = false) : rightW b n l = false := by
  cases hd : rightW b n l with
  | false => rfl
  | true =>
    unfold rightW at hd
    rw [List.all_eq_true, Int.toNat_natCast] at hd
    have := hd (trackL b n l i) (by simp only [tracksL, List.mem_map, List.mem_range]; exact ⟨i, h, rfl⟩)
    rw [hr] at this; cases this
theorem rightW_yes {b : Int} {n : Nat} {l : List Int} (h : ∀ i, i < n → rightB b (trackL b n l i) = true) : rightW b n l = true := by
  unfold rightW
  rw [List.all_eq_true, Int.toNat_natCast]
  intro d hd
  simp only [tracksL, List.mem_map, List.mem_range] at hd
  obtain ⟨i, hi, rfl⟩ := hd
  exact h i hi

theorem codeD_track (b : Int) (h1 : 1 ≤ b) (h2 : b ≤ 6) (n : Nat) (l : List Int) (hl : l.length ≤ 60) (i : Nat) : codeD b (trackL b n l i) = 0 := by
  unfold codeD
  rw [if_pos ⟨h1, h2⟩, trackL_length, if_pos hl, if_pos (trackL_digB b h2 n l i)]

set_option maxHeartbeats 1000000 in
set_option maxRecDepth 4000 in
theorem wright_err (b t : Int) (a : Option Addr) (len cap : Nat) (l : List Int) (w : World) (hs : Sl w a len l) (hc : codeW b t l ≠ 0) :
    Calls Try.prog 22 #[.int .i64 b, .int .i64 t, .slice a len cap] w fun e w' => e = .returned (.tuple #[.bool false, errV (codeW b t l)]) ∧ Below w.heap.size w w' := by
  have HA := hide (apart_u b t a len cap l w hs)
  unfold ApU at HA
  rw [if_neg hc, errV_ne hc] at HA
  rw [errV_ne hc]
  generalize codeW b t l = c at HA ⊢
  clear hs hc
  go_enter Try.func22, Try.ntmps22
  go_wp2_with fail
  refine HA.out.mono ?_
  rintro e w1 ⟨a1, cap1, rfl, hs1, hb1⟩
  have HB1 := hide hb1
  clear hs1 hb1 HA
  go_wp2
  go_ret2
  exact ⟨by simp, HB1.out⟩

set_option maxHeartbeats 1000000 in
set_option maxRecDepth 4000 in
theorem wright_ok (b : Int) (n : Nat) (a : Option Addr) (len cap : Nat) (l : List Int) (w : World) (hs : Sl w a len l) (hc : codeW b n l = 0) :
    Calls Try.prog 22 #[.int .i64 b, .int .i64 n, .slice a len cap] w fun e w' => e = .returned (.tuple #[.bool (rightW b n l), .nilIface]) ∧ Below w.heap.size w w' := by
  have HA := hide (apart_u b n a len cap l w hs)
  unfold ApU at HA
  rw [if_pos hc, hc, errV_zero, Int.toNat_natCast] at HA
  obtain ⟨hM, hl, hlet⟩ := codeW_zero hc
  obtain ⟨h1, h2, h3, h4, _, _⟩ := codeM_zero hM
  have HCD := hide (codeD_track b h1 h2 n l hl)
  have HTG := hide (tracksL_get b n l)
  have HRN := hide (fun i => @rightW_not b n l i)
  have HRY := hide (@rightW_yes b n l)
  have hn : n ≤ 5 := by omega
  generalize rightW b n l = R at HRN HRY ⊢
  clear hs hc hM hlet hl
  go_enter Try.func22, Try.ntmps22
  go_wp2_with fail
  refine HA.out.mono ?_
  rintro e w1 ⟨a1, cap1, rfl, hs1, hb1⟩
  rw [tracksL_length] at hs1 ⊢
  have HB1 := hide hb1
  have HS1 := hide hs1
  clear hs1 hb1 HA
  go_wp2
  go_loop [26] (fun i => ∃ k : Nat, k ≤ n ∧ i = .int .i64 k ∧ ∀ j, j < k → rightB b (trackL b n l j) = true) (fun i => n - (intOf i).toNat)
  case atStart => exact ⟨0, by omega, rfl, by omega⟩
  case round =>
    obtain ⟨k, hk, rfl, hd⟩ := hrel
    have HD := hide hd
    clear hd
    by_cases hlt : k < n
    · have hlti : (k : Int) < (n : Int) := by omega
      obtain ⟨bb, o, a2, cap2, rfl, hck, hs2⟩ := sl2_cell HS1.out k hlt
      rw [HTG.out k hlt] at hck hs2
      have HR := hide (right_u b a2 _ cap2 _ w1 hs2)
      rw [HCD.out k, errV_zero] at HR
      have HRN' := hide (HRN.out k hlt)
      have HX : Hid (rightB b (trackL b n l k) = true → ∀ j, j < k + 1 → rightB b (trackL b n l j) = true) := by
        intro h j hj
        by_cases e : j = k
        · subst e; exact h
        · exact HD.out j (by omega)
      clear hs2
      generalize (trackL b n l k).length = m at hck HR
      generalize rightB b (trackL b n l k) = r at HR HRN' HX
      go_wp2_with fail
      refine HR.out.mono ?_
      rintro e w2 ⟨rfl, hw⟩
      rw [hw]
      clear hw w2 HR
      cases r with
      | true =>
        replace HX := hide (HX.out rfl)
        go_wp2
        go_round
        case rel => exact ⟨k + 1, by omega, by go_num, HX.out⟩
        case measure => simp [intOf]; omega
      | false =>
        replace HRN' := hide (HRN'.out rfl)
        clear HX
        go_wp2
        go_ret2
        exact ⟨by rw [HRN'.out]; simp, HB1.out⟩
    · have hlti : ¬ ((k : Int) < (n : Int)) := by omega
      obtain rfl : k = n := by omega
      have HR := hide (HRY.out HD.out)
      go_wp2
      go_ret2
      exact ⟨by rw [HR.out]; simp, HB1.out⟩

theorem wright_u (b t : Int) (a : Option Addr) (len cap : Nat) (l : List Int) (w : World) (hs : Sl w a len l) :
    Calls Try.prog 22 #[.int .i64 b, .int .i64 t, .slice a len cap] w fun e w' => e = .returned (.tuple #[.bool (decide (codeW b t l = 0) && rightW b t l), errV (codeW b t l)]) ∧ Below w.heap.size w w' := by
  by_cases hc : codeW b t l = 0
  · obtain ⟨h1, h2, h3, h4, _, _⟩ := codeM_zero (codeW_zero hc).1
    obtain ⟨n, rfl⟩ : ∃ n : Nat, t = n := ⟨t.toNat, by omega⟩
    have := wright_ok b n a len cap l w hs hc
    simpa [hc, errV_zero] using this
  · have := wright_err b t a len cap l w hs hc
    simpa [hc] using this
end Go.Proofs.Ythadkoplbgibgae

/- The contract of letter.Nums. -/
namespace Go.Proofs.Ythadkoplbgibgae
open Go.RowKit

def numC (b : Int) (n : Nat) (l : List Int) : List Int := (List.range n).map fun i => codeV b (trackL b n l i)
def numsL (b : Int) (n : Nat) (l : List Int) : List Int := (List.range n).map fun i => valU b (trackL b n l i)
def codeNm (b t : Int) (l : List Int) : Int := if codeW b t l = 0 then firstC (numC b t.toNat l) else codeW b t l
theorem numC_length (b : Int) (n : Nat) (l : List Int) : (numC b n l).length = n := by simp [numC]
theorem numC_get (b : Int) (n : Nat) (l : List Int) (i : Nat) (h : i < n) : (numC b n l).getD i 0 = codeV b (trackL b n l i) := by simp [numC, List.getD, h]
theorem numsL_length (b : Int) (n : Nat) (l : List Int) : (numsL b n l).length = n := by simp [numsL]
theorem numsL_get (b : Int) (n : Nat) (l : List Int) (i : Nat) (h : i < n) : (numsL b n l).getD i 0 = valU b (trackL b n l i) := by simp [numsL, List.getD, h]

theorem val_nn (b : Int) (h1 : 1 ≤ b) (h2 : b ≤ 6) (l : List Int) (hd : digB b l = true) : 0 ≤ val b l := by
  have := valTo_bd b h1 h2 l (fun j hj => digB_get h2 hd j hj) l.length (Nat.le_refl _)
  rw [valTo_all] at this
  exact this.1
theorem valU_bd (b : Int) (l : List Int) : 0 ≤ valU b l ∧ valU b l ≤ 1099511627776 := by
  unfold valU
  split
  · rename_i h
    have h' := h
    unfold codeV at h
    split at h
    · rename_i hd
      split at h
      · rename_i hv
        refine ⟨?_, hv⟩
        unfold codeD at hd
        split at hd
        · rename_i hb
          split at hd
          · split at hd
            · rename_i hdig
              exact val_nn b hb.1 hb.2 l hdig
            · cases hd
          · cases hd
        · cases hd
      · cases h
    · contradiction
  · omega

/-- The loop of Nums, behind k tracks. -/
def NmAt (b : Int) (n : Nat) (l : List Int) (w : World) (k : Nat) (wr : World) : Prop :=
  wr.rowIs w.heap.size 3 n (fun p => .int .i64 (if p < k then valU b (trackL b n l p) else 0)) ∧ Below w.heap.size w wr

theorem nmAt_step {b : Int} {n : Nat} {l : List Int} {w wr w2 : World} {k : Nat} (h : NmAt b n l w k wr) (hk : k < n) (hb : Below wr.heap.size wr w2) :
    w2.cell? ⟨w.heap.size, k, none⟩ = some (.int .i64 0) ∧ w2.frozen? ⟨w.heap.size, k, none⟩ = false ∧ Below w.heap.size w w2 ∧ ∀ x, x = valU b (trackL b n l k) → NmAt b n l w (k + 1) (w2.setCell ⟨w.heap.size, k, none⟩ (.int .i64 x)) := by
  have h1 := h.1.of_block (hb.block _ h.1.lt)
  refine ⟨?_, h1.frozen k, below_step h.2 hb, fun x hx => ⟨(h1.set k _).congr fun p hp => ?_, (below_step h.2 hb).setCell (Nat.le_refl _) _⟩⟩
  · rw [h1.cell hk, if_neg (by omega)]
  · by_cases e : p = k
    · subst e; rw [if_pos rfl, if_pos (by omega), hx]
    · rw [if_neg e]
      by_cases e2 : p < k
      · rw [if_pos e2, if_pos (by omega)]
      · rw [if_neg e2, if_neg (by omega)]

theorem nmAt_end {b : Int} {n : Nat} {l : List Int} {w0 w wr : World} (hn : n ≤ 5) (hb : Below w0.heap.size w0 w) (h : NmAt b n l w n wr) : OfU w0 (numsL b n l) .nilIface (.returned (.tuple #[.slice (some ⟨w.heap.size, 0, none⟩) n n, .nilIface])) wr := by
  refine ⟨some ⟨w.heap.size, 0, none⟩, n, by rw [numsL_length], ⟨?_, fun ad e => by cases e; exact hb.size⟩, below_step hb h.2⟩
  rw [numsL_length]
  refine sl_of_rowIs (numsL_length _ _ _) (by unfold maxLen; omega) (fun x hx => ?_) (h.1.congr fun i hi => ?_)
  · simp only [numsL, List.mem_map, List.mem_range] at hx
    obtain ⟨i, _, rfl⟩ := hx
    have := valU_bd b (trackL b n l i)
    exact Go.WalkArith.wf_i64 (by omega)
  · rw [if_pos hi, numsL_get _ _ _ _ hi]

theorem ofU_none (w w' : World) (er : Value) (hb : Below w.heap.size w w') : OfU w [] er (.returned (.tuple #[.slice none 0 0, er])) w' := ⟨none, 0, rfl, ⟨sl_nil _, fun _ h => by cases h⟩, hb⟩

set_option maxHeartbeats 1000000 in
set_option maxRecDepth 4000 in
theorem nums_err (b t : Int) (a : Option Addr) (len cap : Nat) (l : List Int) (w : World) (hs : Sl w a len l) (hc : codeW b t l ≠ 0) :
    Calls Try.prog 21 #[.int .i64 b, .int .i64 t, .slice a len cap] w (OfU w [] (errV (codeW b t l))) := by
  have HA := hide (apart_u b t a len cap l w hs)
  unfold ApU at HA
  rw [if_neg hc, errV_ne hc] at HA
  rw [errV_ne hc]
  generalize codeW b t l = c at HA ⊢
  clear hs hc
  go_enter Try.func21, Try.ntmps21
  go_wp2_with fail
  refine HA.out.mono ?_
  rintro e w1 ⟨a1, cap1, rfl, hs1, hb1⟩
  have HB1 := hide hb1
  clear hs1 hb1 HA
  go_wp2
  go_ret2
  exact ofU_none _ _ _ HB1.out

/-- What Nums gives of a word without fault. -/
def NmU (b : Int) (n : Nat) (l : List Int) (w : World) (e : Ending) (w' : World) : Prop := OfU w (if firstC (numC b n l) = 0 then numsL b n l else []) (errV (firstC (numC b n l))) e w'

set_option maxHeartbeats 1000000 in
set_option maxRecDepth 4000 in
theorem nums_ok (b : Int) (n : Nat) (a : Option Addr) (len cap : Nat) (l : List Int) (w : World) (hs : Sl w a len l) (hc : codeW b n l = 0) :
    Calls Try.prog 21 #[.int .i64 b, .int .i64 n, .slice a len cap] w (NmU b n l w) := by
  have HA := hide (apart_u b n a len cap l w hs)
  unfold ApU at HA
  rw [if_pos hc, hc, errV_zero, Int.toNat_natCast] at HA
  obtain ⟨hM, hl, hlet⟩ := codeW_zero hc
  obtain ⟨h1, h2, h3, h4, _, _⟩ := codeM_zero hM
  have hn : n ≤ 5 := by omega
  have HTG := hide (tracksL_get b n l)
  have HCG := hide (numC_get b n l)
  have HG1 : Hid ((∀ j, j < n → codeV b (trackL b n l j) = 0) → ∀ e w', OfU w (numsL b n l) .nilIface e w' → NmU b n l w e w') := by
    intro h e w' hg
    have : firstC (numC b n l) = 0 := firstC_all _ fun j hj => by rw [numC_length] at hj; rw [numC_get _ _ _ _ hj]; exact h j hj
    unfold NmU
    rw [this, if_pos rfl, errV_zero]
    exact hg
  have HG2 : Hid (∀ k, k < n → (∀ j, j < k → codeV b (trackL b n l j) = 0) → codeV b (trackL b n l k) ≠ 0 → ∀ w', Below w.heap.size w w' → NmU b n l w (.returned (.tuple #[.slice none 0 0, errV (codeV b (trackL b n l k))])) w') := by
    intro k hk h hck w' hb
    have : firstC (numC b n l) = codeV b (trackL b n l k) := by
      rw [firstC_pre (numC b n l) k (fun j hj => by rw [numC_get _ _ _ _ (by omega)]; exact h j hj) (by rw [numC_length]; exact hk) (by rw [numC_get _ _ _ _ hk]; exact hck), numC_get _ _ _ _ hk]
    unfold NmU
    rw [this, if_neg hck]
    exact ofU_none _ _ _ hb
  have hmk := make_ints n (by omega)
  clear hs hc hM hlet hl
  go_enter Try.func21, Try.ntmps21
  go_wp2_with fail
  refine HA.out.mono ?_
  rintro e w1 ⟨a1, cap1, rfl, hs1, hb1⟩
  rw [tracksL_length] at hs1 ⊢
  have HB1 := hide hb1
  have HS1 := hide hs1
  have HEND := hide (fun wr => @nmAt_end b n l w w1 wr hn hb1)
  have H0 : Hid (NmAt b n l w1 0 (w1.alloc (.cells (madeCells #[.int .i64 0] n) 3))) := by
    refine ⟨(World.rowIs_made w1 (.int .i64 0) n 3).congr fun p hp => ?_, (Below.refl _ _).alloc (Nat.le_refl _) _⟩
    rw [if_neg (by omega)]
  clear hs1 hb1 HA
  go_wp2
  generalize w1.alloc (.cells (madeCells #[.int .i64 0] n) 3) = W at H0 ⊢
  go_loopw [9, 27] (fun s i wx => ∃ k : Nat, k ≤ n ∧ i = .int .i64 k ∧ s = .nilIface ∧ (∀ j, j < k → codeV b (trackL b n l j) = 0) ∧ NmAt b n l w1 k wx) (fun _ i _ => n - (intOf i).toNat)
  case atStart => exact ⟨0, by omega, rfl, rfl, by omega, H0.out⟩
  case round =>
    obtain ⟨k, hk, rfl, rfl, hd, hat⟩ := hrel
    have HD := hide hd
    have HAT := hide hat
    clear hd hat
    by_cases hlt : k < n
    · have hlti : (k : Int) < (n : Int) := by omega
      obtain ⟨bb, o, a2, cap2, rfl, hck, hs2⟩ := sl2_cell (sl2_below HS1.out HAT.out.2) k hlt
      rw [HTG.out k hlt] at hck hs2
      have HV := hide (value_u b a2 _ cap2 _ wr hs2)
      have HSTEP := hide (fun w2 => @nmAt_step b n l w1 wr w2 k HAT.out hlt)
      have HG2' := hide (HG2.out k hlt HD.out)
      have HX : Hid (codeV b (trackL b n l k) = 0 → ∀ j, j < k + 1 → codeV b (trackL b n l j) = 0) := by
        intro h j hj
        by_cases e : j = k
        · subst e; exact h
        · exact HD.out j (by omega)
      clear hs2
      generalize (trackL b n l k).length = m at hck HV
      generalize codeV b (trackL b n l k) = c at HV HG2' HX
      generalize hv : valU b (trackL b n l k) = v at HV
      have HVV := hide hv
      clear hv
      go_wp2_with fail
      refine HV.out.mono ?_
      rintro e w2 ⟨rfl, hb2⟩
      obtain ⟨hc2, hf2, hb3, hn2⟩ := HSTEP.out w2 hb2
      have HN2 := hide (hn2 v HVV.out.symm)
      have HB3 := hide (below_step HB1.out hb3)
      clear hn2 hb2 hb3 HV HSTEP
      by_cases hc : c = 0
      · replace HX := hide (HX.out hc)
        subst hc
        rw [errV_zero]
        go_wp2
        go_roundw
        case rel => exact ⟨k + 1, by omega, by go_num, rfl, HX.out, HN2.out⟩
        case measure => simp [intOf]; omega
      · replace HG2' := hide (HG2'.out hc)
        rw [errV_ne hc] at HG2' ⊢
        clear hc HX
        have HB4 := hide (HB3.out.setCell (p := ⟨w1.heap.size, k, none⟩) HB1.out.size (.int .i64 v))
        go_wp2
        go_ret2
        exact HG2'.out _ HB4.out
    · have hlti : ¬ ((k : Int) < (n : Int)) := by omega
      obtain rfl : k = n := by omega
      go_wp2
      go_ret2
      exact HG1.out HD.out _ _ (HEND.out wr HAT.out)

def NumsU (b t : Int) (l : List Int) (w : World) (e : Ending) (w' : World) : Prop := OfU w (if codeNm b t l = 0 then numsL b t.toNat l else []) (errV (codeNm b t l)) e w'
theorem nums_u (b t : Int) (a : Option Addr) (len cap : Nat) (l : List Int) (w : World) (hs : Sl w a len l) :
    Calls Try.prog 21 #[.int .i64 b, .int .i64 t, .slice a len cap] w (NumsU b t l w) := by
  unfold NumsU codeNm
  by_cases hc : codeW b t l = 0
  · obtain ⟨h1, h2, h3, h4, _, _⟩ := codeM_zero (codeW_zero hc).1
    obtain ⟨n, rfl⟩ : ∃ n : Nat, t = n := ⟨t.toNat, by omega⟩
    have := nums_ok b n a len cap l w hs hc
    rw [if_pos hc, Int.toNat_natCast]
    exact this
  · have := nums_err b t a len cap l w hs hc
    rw [if_neg hc, if_neg hc]
    exact this
end Go.Proofs.Ythadkoplbgibgae

/- The states that are met, as a call keeps them; the reference's Met: contract. -/
namespace Go.Proofs.Ythadkoplbgibgae
open Go.RowKit

theorem infoB : (Try.prog.info? 4).map (fun i => (i.zero, i.size, i.bytes)) = some (some (.bool false), 1, 1) := by kernel_rfl
theorem make_bools (n : Nat) (hn : n ≤ 1000000000000) (w : World) : (Instr.makeSlice 23 (.int .i64 (n : Int)) (.int .i64 (n : Int))).run Try.prog w = .ok (.slice (some ⟨w.heap.size, 0, none⟩) n n) (w.alloc (.cells (madeCells #[.bool false] n) 4)) :=
  run_make_row' 23 4 (.bool false) 1 Try.underlying23 infoB rfl .i64 .i64 n (by omega) (by omega) w

/-- Which were seen, block by block. -/
theorem seen_set {W : World} {S n : Nat} {sn : List Int} (h : W.rowIs S 4 n fun p => .bool (decide ((p : Int) ∈ sn))) (x : Nat) : (W.setCell ⟨S, x, none⟩ (.bool true)).rowIs S 4 n fun p => .bool (decide ((p : Int) ∈ sn ++ [(x : Int)])) := by
  refine (h.set x (.bool true)).congr fun p hp => ?_
  by_cases e : p = x
  · subst e; simp
  · rw [if_neg e]
    have : ¬ ((p : Int) = (x : Int)) := by omega
    simp [this]

def MetAt (w : World) (n : Nat) (sn o : List Int) (v : Value) (W : World) : Prop :=
  (W.rowIs w.heap.size 4 n fun p => .bool (decide ((p : Int) ∈ sn))) ∧ W.ownsRow w.heap.size 3 1 v o.length (o.map (Value.int .i64)) ∧ Below w.heap.size w W

theorem metAt_start {w : World} {n : Nat} : MetAt w n [0] [0] (.slice (some ⟨w.heap.size + 1, 0, none⟩) 1 1) ((w.alloc (.cells ((madeCells #[.bool false] n).setIfInBounds 0 (.bool true)) 4)).alloc (.cells #[.int .i64 0] 3)) := by
  refine ⟨World.rowIs.alloc ⟨_, heap_alloc_last w _, ?_, fun p hp => ?_⟩ _, ⟨by simp, Or.inr ⟨w.heap.size + 1, 1, #[.int .i64 0], rfl, by omega, ?_, by simp, by decide, by simp, by simp⟩⟩, ((Below.refl _ _).alloc (Nat.le_refl _) _).alloc (by simp) _⟩
  · obtain ⟨c, hb, hn, hc⟩ := World.rowIs_made w (.bool false) n 4
    rw [heap_alloc_last] at hb
    cases hb
    simpa using hn
  · obtain ⟨c, hb, hn, hc⟩ := (World.rowIs_made w (.bool false) n 4)
    rw [heap_alloc_last] at hb
    cases hb
    rw [Array.getElem?_setIfInBounds]
    by_cases e : p = 0
    · subst e; simp [hn, hp]
    · rw [if_neg (fun h => e h.symm), hc p hp]
      simp [e]
  · have := heap_alloc_last (w.alloc (.cells ((madeCells #[.bool false] n).setIfInBounds 0 (.bool true)) 4)) (.cells #[.int .i64 0] 3)
    simpa using this
theorem one_new_at (w : World) (x : Value) (t : TypeId) (H : Nat) (hH : w.heap.size = H) : ∀ j u, [x][j]? = some u → (w.alloc (.cells #[x] t)).cell? ((⟨H, 0, none⟩ : Addr).add j) = some u := by
  subst hH
  exact one_new w x t
theorem okO_wf {n : Nat} (hn : n ≤ 4000000) {o : List Int} (h : OkO n o) : ∀ x ∈ o, (Lit.int .i64 x).wf = true := fun x hx => Go.WalkArith.wf_i64 (by have := h.2 x hx; omega)
end Go.Proofs.Ythadkoplbgibgae

/- An automaton that a call builds in a variable's box, row by row and end by end. -/
namespace Go.Proofs.Ythadkoplbgibgae
open Go.RowKit

/-- The box at B (the first block behind wb): qn rows, each in a block of its own, and qe ends. -/
def OutAt (wb : World) (b t : Int) (rows : Nat → List Int) (es : Nat → Bool) (qn qe : Nat) (W : World) : Prop :=
  ∃ (vN vE : Value) (vals : List Value), W.heap[wb.heap.size]? = some (.cells #[.int .i64 b, .int .i64 t, vN, vE] 25 (0, 0)) ∧
    W.ownsRow (wb.heap.size + 1) 26 1 vN qn vals ∧ W.ownsRow (wb.heap.size + 1) 4 1 vE qe ((List.range qe).map fun j => Value.bool (es j)) ∧
    (∀ j, j < qn → ∃ a cap, vals[j]? = some (.slice a (rows j).length cap) ∧ SlN (wb.heap.size + 1) W a (rows j).length (rows j) ∧ ∀ x, slB a (rows j).length x → vN.ownBlock ≠ some x ∧ vE.ownBlock ≠ some x) ∧
    Below wb.heap.size wb W

theorem outAt_start (wb : World) (b t : Int) (rows : Nat → List Int) (es : Nat → Bool) : OutAt wb b t rows es 0 0 (wb.alloc (.cells #[.int .i64 b, .int .i64 t, .slice none 0 0, .slice none 0 0] 25)) :=
  ⟨.slice none 0 0, .slice none 0 0, [], heap_alloc_last wb _, World.ownsRow_nil _ _ _ _, World.ownsRow_nil _ _ _ _, fun j hj => by omega, (Below.refl _ _).alloc (Nat.le_refl _) _⟩
theorem outAt_below {wb : World} {b t : Int} {rows : Nat → List Int} {es : Nat → Bool} {qn qe : Nat} {W W2 : World} (h : OutAt wb b t rows es qn qe W) (hb : Below W.heap.size W W2) : OutAt wb b t rows es qn qe W2 := by
  obtain ⟨vN, vE, vals, h1, h2, h3, h4, h5⟩ := h
  have hlt := (Array.getElem?_eq_some_iff.1 h1).1
  refine ⟨vN, vE, vals, (hb.block _ hlt).trans h1, ownsRow_of_block h2 (fun x hx => hb.block _ (h2.lt x hx).2), ownsRow_of_block h3 (fun x hx => hb.block _ (h3.lt x hx).2), fun j hj => ?_, below_step h5 hb⟩
  obtain ⟨a, cap, e1, e2, e3⟩ := h4 j hj
  exact ⟨a, cap, e1, ⟨sl_below e2.1 hb, e2.2⟩, e3⟩

theorem t_sb : (26 : TypeId) ≠ 4 := by decide
theorem owns_apart {W : World} {base e e' : Nat} (hne : e ≠ e') {v v' : Value} {n n' : Nat} {xs xs' : List Value} (h : W.ownsRow base e 1 v n xs) (h' : W.ownsRow base e' 1 v' n' xs') {x : Nat} (hx : v.ownBlock = some x) (hx' : v'.ownBlock = some x) : False := by
  rcases h.2 with ⟨rfl, _⟩ | ⟨g, cap, cur, rfl, _, hg, _⟩
  · simp [Value.ownBlock] at hx
  · rcases h'.2 with ⟨rfl, _⟩ | ⟨g', cap', cur', rfl, _, hg', _⟩
    · simp [Value.ownBlock] at hx'
    · simp [Value.ownBlock] at hx hx'
      subst hx; subst hx'
      rw [hg] at hg'
      simp at hg'
      exact hne hg'.2
theorem set_box {W : World} {B : Nat} {v0 v1 v2 v3 : Value} {T : TypeId} (h : W.heap[B]? = some (.cells #[v0, v1, v2, v3] T (0, 0))) (v : Value) : (W.setCell ⟨B, 2, none⟩ v).heap[B]? = some (.cells #[v0, v1, v, v3] T (0, 0)) ∧ (W.setCell ⟨B, 3, none⟩ v).heap[B]? = some (.cells #[v0, v1, v2, v] T (0, 0)) := by
  constructor <;> simp [World.setCell, Array.getElem?_modify, h]

/-- One row more. -/
theorem outAt_N {wb : World} {b t : Int} {rows : Nat → List Int} {es : Nat → Bool} {q qe : Nat} {W W2 : World} {ar : Option Addr} {cr : Nat} (h : OutAt wb b t rows es q qe W) (hb : Below W.heap.size W W2) (hs : SlN W.heap.size W2 ar (rows q).length (rows q)) :
    ∃ (vN : Value) (vals : List Value), W2.cell? ⟨wb.heap.size, 2, none⟩ = some vN ∧ W2.ownsRow (wb.heap.size + 1) 26 1 vN q vals ∧ wb.heap.size + 1 ≤ W2.heap.size ∧
      ∀ (w3 : World) (o : Obj) (g' cap' : Nat), w3.ownsRow (wb.heap.size + 1) 26 1 (.slice (some ⟨g', 0, none⟩) (q + 1) cap') (q + 1) (vals ++ [.slice ar (rows q).length cr]) → (W2.alloc o).grownBy w3 vN.ownBlock → (vN.ownBlock = some g' ∨ g' = W2.heap.size + 1) →
        (w3.cell? ⟨wb.heap.size, 2, none⟩ = some vN ∧ w3.frozen? ⟨wb.heap.size, 2, none⟩ = false) ∧ OutAt wb b t rows es (q + 1) qe (w3.setCell ⟨wb.heap.size, 2, none⟩ (.slice (some ⟨g', 0, none⟩) (q + 1) cap')) := by
  have hl1 : wb.heap.size + 1 ≤ W.heap.size := by
    obtain ⟨_, _, _, h1, _⟩ := h
    exact (Array.getElem?_eq_some_iff.1 h1).1
  have hsz2 := hb.size
  have hOld := h
  obtain ⟨vN, vE, vals, h1, h2, h3, h4, h5⟩ := outAt_below h hb
  have hvl : vals.length = q := by have := h2.1; omega
  have hBlt := (Array.getElem?_eq_some_iff.1 h1).1
  -- the new row's block is none of what is held
  have hnew : ∀ x, slB ar (rows q).length x → vN.ownBlock ≠ some x ∧ vE.ownBlock ≠ some x := by
    obtain ⟨uN, uE, us, g1, g2, g3, _, _⟩ := hOld
    have e1 := (hb.block _ (Array.getElem?_eq_some_iff.1 g1).1).trans g1
    rw [h1] at e1
    simp at e1
    rw [e1.1, e1.2]
    rintro x ⟨_, ad, e, rfl⟩
    have hge := hs.2 ad e
    exact ⟨fun e' => by have := (g2.lt _ e').2; omega, fun e' => by have := (g3.lt _ e').2; omega⟩
  refine ⟨vN, vals, by simp [World.cell?, h1], h2, by omega, fun w3 o g' cap' hown hgrow hat => ?_⟩
  have hsz : (W2.alloc o).heap.size = W2.heap.size + 1 := by simp
  have hkeep : ∀ x, x < W2.heap.size → vN.ownBlock ≠ some x → w3.heap[x]? = W2.heap[x]? := fun x hx hne => by
    rw [hgrow.block x (by omega) (fun e => hne e.symm), Below.heap_alloc _ _ _ hx]
  have hNB : vN.ownBlock ≠ some wb.heap.size := fun e => by have := (h2.lt _ e).1; omega
  have hbox : w3.heap[wb.heap.size]? = some (.cells #[.int .i64 b, .int .i64 t, vN, vE] 25 (0, 0)) := (hkeep _ hBlt hNB).trans h1
  have hg'B : g' ≠ wb.heap.size := by
    rcases hat with e | e
    · intro e'; subst e'; exact hNB e
    · omega
  have hE3 : w3.ownsRow (wb.heap.size + 1) 4 1 vE qe ((List.range qe).map fun j => Value.bool (es j)) := ownsRow_of_block h3 (fun x hx => hkeep x (h3.lt x hx).2 (fun e => owns_apart t_sb h2 h3 e hx))
  have hEB : vE.ownBlock ≠ some wb.heap.size := fun e => by have := (h3.lt _ e).1; omega
  have row3 : ∀ {a' len' l'}, SlN (wb.heap.size + 1) W2 a' len' l' → (∀ x, slB a' len' x → vN.ownBlock ≠ some x ∧ vE.ownBlock ≠ some x) → SlN (wb.heap.size + 1) (w3.setCell ⟨wb.heap.size, 2, none⟩ (.slice (some ⟨g', 0, none⟩) (q + 1) cap')) a' len' l' ∧ ∀ x, slB a' len' x → Value.ownBlock (.slice (some ⟨g', 0, none⟩) (q + 1) cap') ≠ some x ∧ vE.ownBlock ≠ some x := by
    intro a' len' l' hs' hne
    refine ⟨⟨sl_keep hs'.1 fun x hx => ?_, hs'.2⟩, fun x hx => ⟨fun e => ?_, (hne x hx).2⟩⟩
    · have hlt := slB_lt hs'.1 hx
      have hxB : x ≠ wb.heap.size := by
        obtain ⟨_, ad, e, rfl⟩ := hx
        have := hs'.2 ad e
        omega
      rw [Below.heap_setCell _ _ _ _ hxB, hkeep x hlt (hne x hx).1]
    · have hlt := slB_lt hs'.1 hx
      have e' : g' = x := by simpa [Value.ownBlock] using e
      subst e'
      rcases hat with h | h
      · exact (hne _ hx).1 h
      · omega
  refine ⟨⟨by simp [World.cell?, hbox], by simp [World.frozen?, hbox]⟩, .slice (some ⟨g', 0, none⟩) (q + 1) cap', vE, vals ++ [.slice ar (rows q).length cr], (set_box hbox _).1, ownsRow_setCell_other hown (by simpa [Value.ownBlock] using hg'B) _, ownsRow_setCell_other hE3 hEB _, fun j hj => ?_, ?_⟩
  · by_cases e : j = q
    · subst e
      have := row3 (hs.mono hl1) hnew
      exact ⟨ar, cr, by rw [List.getElem?_append_right (by omega), hvl]; simp, this.1, this.2⟩
    · obtain ⟨a', c', e1, e2, e3⟩ := h4 j (by omega)
      have := row3 e2 e3
      exact ⟨a', c', by rw [List.getElem?_append_left (by omega)]; exact e1, this.1, this.2⟩
  · exact (Below.grown (h5.alloc h5.size o) hgrow (by have := h5.size; omega) (fun x hx => by have := (h2.lt x hx).1; omega)).setCell (Nat.le_refl _) _

/-- One end more. -/
theorem outAt_E {wb : World} {b t : Int} {rows : Nat → List Int} {es : Nat → Bool} {qn q : Nat} {W2 : World} (h : OutAt wb b t rows es qn q W2) :
    ∃ (vE : Value), W2.cell? ⟨wb.heap.size, 3, none⟩ = some vE ∧ W2.ownsRow (wb.heap.size + 1) 4 1 vE q ((List.range q).map fun j => Value.bool (es j)) ∧ wb.heap.size + 1 ≤ W2.heap.size ∧
      ∀ (w3 : World) (o : Obj) (g' cap' : Nat), w3.ownsRow (wb.heap.size + 1) 4 1 (.slice (some ⟨g', 0, none⟩) (q + 1) cap') (q + 1) (((List.range q).map fun j => Value.bool (es j)) ++ [.bool (es q)]) → (W2.alloc o).grownBy w3 vE.ownBlock → (vE.ownBlock = some g' ∨ g' = W2.heap.size + 1) →
        (w3.cell? ⟨wb.heap.size, 3, none⟩ = some vE ∧ w3.frozen? ⟨wb.heap.size, 3, none⟩ = false) ∧ OutAt wb b t rows es qn (q + 1) (w3.setCell ⟨wb.heap.size, 3, none⟩ (.slice (some ⟨g', 0, none⟩) (q + 1) cap')) := by
  obtain ⟨vN, vE, vals, h1, h2, h3, h4, h5⟩ := h
  have hBlt := (Array.getElem?_eq_some_iff.1 h1).1
  refine ⟨vE, by simp [World.cell?, h1], h3, by omega, fun w3 o g' cap' hown hgrow hat => ?_⟩
  have hsz : (W2.alloc o).heap.size = W2.heap.size + 1 := by simp
  have hkeep : ∀ x, x < W2.heap.size → vE.ownBlock ≠ some x → w3.heap[x]? = W2.heap[x]? := fun x hx hne => by
    rw [hgrow.block x (by omega) (fun e => hne e.symm), Below.heap_alloc _ _ _ hx]
  have hEB : vE.ownBlock ≠ some wb.heap.size := fun e => by have := (h3.lt _ e).1; omega
  have hNB : vN.ownBlock ≠ some wb.heap.size := fun e => by have := (h2.lt _ e).1; omega
  have hbox : w3.heap[wb.heap.size]? = some (.cells #[.int .i64 b, .int .i64 t, vN, vE] 25 (0, 0)) := (hkeep _ hBlt hEB).trans h1
  have hg'B : g' ≠ wb.heap.size := by
    rcases hat with e | e
    · intro e'; subst e'; exact hEB e
    · omega
  have hN3 : w3.ownsRow (wb.heap.size + 1) 26 1 vN qn vals := ownsRow_of_block h2 (fun x hx => hkeep x (h2.lt x hx).2 (fun e => owns_apart t_sb h2 h3 hx e))
  refine ⟨⟨by simp [World.cell?, hbox], by simp [World.frozen?, hbox]⟩, vN, .slice (some ⟨g', 0, none⟩) (q + 1) cap', vals, (set_box hbox _).2, ownsRow_setCell_other hN3 hNB _, ?_, fun j hj => ?_, ?_⟩
  · rw [List.range_succ, List.map_append]
    exact ownsRow_setCell_other hown (by simpa [Value.ownBlock] using hg'B) _
  · obtain ⟨a', c', e1, e2, e3⟩ := h4 j hj
    refine ⟨a', c', e1, ⟨sl_keep e2.1 fun x hx => ?_, e2.2⟩, fun x hx => ⟨(e3 x hx).1, fun e => ?_⟩⟩
    · have hlt := slB_lt e2.1 hx
      have hxB : x ≠ wb.heap.size := by
        obtain ⟨_, ad, e, rfl⟩ := hx
        have := e2.2 ad e
        omega
      rw [Below.heap_setCell _ _ _ _ hxB, hkeep x hlt (e3 x hx).2]
    · have hlt := slB_lt e2.1 hx
      have e' : g' = x := by simpa [Value.ownBlock] using e
      subst e'
      rcases hat with h | h
      · exact (e3 _ hx).2 h
      · omega
  · exact (Below.grown (h5.alloc h5.size o) hgrow (by have := h5.size; omega) (fun x hx => by have := (h3.lt x hx).1; omega)).setCell (Nat.le_refl _) _

/-- What it is in the end, wherever what lies behind the box lies on. -/
theorem outAt_end {wb : World} {b t : Int} {rows : Nat → List Int} {es : Nat → Bool} {k : Nat} {W : World} (h : OutAt wb b t rows es k k W) (hk : k ≤ maxLen) (N : List (List Int)) (hN : N.length = k) (hr : ∀ j, j < k → N.getD j [] = rows j) (E : List Bool) (hE : E.length = k) (he : ∀ j, j < k → E.getD j false = es j) :
    ∃ a c a' c', W.heap[wb.heap.size]? = some (.cells #[.int .i64 b, .int .i64 t, .slice a k c, .slice a' k c'] 25 (0, 0)) ∧ Below wb.heap.size wb W ∧ ∀ W' : World, (∀ x, wb.heap.size < x → x < W.heap.size → W'.heap[x]? = W.heap[x]?) → Sl2 W' a k N ∧ SlB W' a' k E := by
  obtain ⟨vN, vE, vals, h1, h2, h3, h4, h5⟩ := h
  have hNv : ∃ a c, vN = .slice a k c ∧ ∀ W' : World, (∀ x, wb.heap.size < x → x < W.heap.size → W'.heap[x]? = W.heap[x]?) → Sl2 W' a k N := by
    obtain ⟨h0, h1⟩ := h2
    rcases h1 with ⟨rfl, rfl⟩ | ⟨g, cap, cur, rfl, hg, hh, hc, hcm, hcs, ht⟩
    · exact ⟨none, 0, rfl, fun _ _ => ⟨hN, hk, Or.inl rfl⟩⟩
    · refine ⟨_, cap, rfl, fun W' hW' => ⟨hN, hk, Or.inr ⟨g, 0, rfl, fun i hi => ?_⟩⟩⟩
      obtain ⟨a', cap', e1, e2, _⟩ := h4 i hi
      rw [hr i hi]
      refine ⟨a', cap', ?_, sl_keep e2.1 fun x hx => hW' x ?_ (slB_lt e2.1 hx)⟩
      · rw [cell_of_row W' g (0 + i) cur 26 (0, 0) ((hW' g (by omega) (Array.getElem?_eq_some_iff.1 hh).1).trans hh), Nat.zero_add]
        have h3 : (cur.toList.take (k * 1))[i]? = vals[i]? := by rw [ht]
        rw [List.getElem?_take, if_pos (by omega), Array.getElem?_toList] at h3
        rw [h3, e1]
      · obtain ⟨_, ad, e, rfl⟩ := hx
        have := e2.2 ad e
        omega
  have hEv : ∃ a c, vE = .slice a k c ∧ ∀ W' : World, (∀ x, wb.heap.size < x → x < W.heap.size → W'.heap[x]? = W.heap[x]?) → SlB W' a k E := by
    obtain ⟨h0, h1⟩ := h3
    rcases h1 with ⟨rfl, rfl⟩ | ⟨g, cap, cur, rfl, hg, hh, hc, hcm, hcs, ht⟩
    · exact ⟨none, 0, rfl, fun _ _ => ⟨hE, hk, Or.inl rfl⟩⟩
    · refine ⟨_, cap, rfl, fun W' hW' => ⟨hE, hk, Or.inr ⟨g, 0, rfl, fun i hi => ?_⟩⟩⟩
      rw [cell_of_row W' g (0 + i) cur 4 (0, 0) ((hW' g (by omega) (Array.getElem?_eq_some_iff.1 hh).1).trans hh), Nat.zero_add]
      have h3 : (cur.toList.take (k * 1))[i]? = ((List.range k).map fun j => Value.bool (es j))[i]? := by rw [ht]
      rw [List.getElem?_take, if_pos (by omega), Array.getElem?_toList] at h3
      rw [h3, he i hi]
      simp [hi]
  obtain ⟨a, c, rfl, hs⟩ := hNv
  obtain ⟨a', c', rfl, hs'⟩ := hEv
  exact ⟨a, c, a', c', h1, h5, fun W' hW' => ⟨hs W' hW', hs' W' hW'⟩⟩
/-- An automaton in new memory: what reads it looks at no block that was there in w. -/
def AutoNew (w : World) (a : Option Addr) (k : Nat) (N : List (List Int)) (a' : Option Addr) (E : List Bool) (W : World) : Prop := ∀ W' : World, (∀ x, w.heap.size ≤ x → x < W.heap.size → W'.heap[x]? = W.heap[x]?) → Sl2 W' a k N ∧ SlB W' a' k E
theorem AutoNew.here {w : World} {a : Option Addr} {k : Nat} {N : List (List Int)} {a' : Option Addr} {E : List Bool} {W : World} (h : AutoNew w a k N a' E W) : Sl2 W a k N ∧ SlB W a' k E := h W (fun _ _ _ => rfl)
theorem AutoNew.below {w : World} {a : Option Addr} {k : Nat} {N : List (List Int)} {a' : Option Addr} {E : List Bool} {W W2 : World} (h : AutoNew w a k N a' E W) (hb : Below W.heap.size W W2) : AutoNew w a k N a' E W2 := fun W' hW' => h W' fun x h1 h2 => (hW' x h1 (Nat.lt_of_lt_of_le h2 hb.size)).trans (hb.block x h2)
theorem set_all {W : World} {B : Nat} {u0 u1 u2 u3 v0 v1 v2 v3 : Value} {T : TypeId} (h : W.heap[B]? = some (.cells #[u0, u1, u2, u3] T (0, 0))) :
    ((((W.setCell ⟨B, 0, none⟩ v0).setCell ⟨B, 1, none⟩ v1).setCell ⟨B, 2, none⟩ v2).setCell ⟨B, 3, none⟩ v3).heap[B]? = some (.cells #[v0, v1, v2, v3] T (0, 0)) := by
  simp [World.setCell, Array.getElem?_modify, h]
/-- A box of four cells that is written anew. -/
theorem box_set {W : World} {B : Nat} {u0 u1 u2 u3 v0 v1 v2 v3 : Value} {T : TypeId} (h : W.heap[B]? = some (.cells #[u0, u1, u2, u3] T (0, 0))) {W' : World} (e : W' = (((W.setCell ⟨B, 0, none⟩ v0).setCell ⟨B, 1, none⟩ v1).setCell ⟨B, 2, none⟩ v2).setCell ⟨B, 3, none⟩ v3) :
    (W'.heap[B]? = some (.cells #[v0, v1, v2, v3] T (0, 0)) ∧ W'.heap.size = W.heap.size ∧ ∀ x, x ≠ B → W'.heap[x]? = W.heap[x]?) ∧ ∀ (w : World) (k : Nat), Below k w W → k ≤ B → Below k w W' := by
  subst e
  refine ⟨⟨set_all h, by simp [World.setCell], fun x hx => ?_⟩, fun w k hb hk => (((hb.setCell hk _).setCell hk _).setCell hk _).setCell hk _⟩
  rw [Below.heap_setCell _ _ _ _ hx, Below.heap_setCell _ _ _ _ hx, Below.heap_setCell _ _ _ _ hx, Below.heap_setCell _ _ _ _ hx]
theorem box_cells {W : World} {B : Nat} {v0 v1 v2 v3 : Value} {T : TypeId} (h : W.heap[B]? = some (.cells #[v0, v1, v2, v3] T (0, 0))) :
    (W.cell? ⟨B, 0, none⟩ = some v0 ∧ W.cell? ⟨B, 1, none⟩ = some v1 ∧ W.cell? ⟨B, 2, none⟩ = some v2 ∧ W.cell? ⟨B, 3, none⟩ = some v3) ∧ ∀ i, W.frozen? ⟨B, i, none⟩ = false := by
  refine ⟨⟨?_, ?_, ?_, ?_⟩, fun i => ?_⟩ <;> simp [World.cell?, World.frozen?, h]
end Go.Proofs.Ythadkoplbgibgae
