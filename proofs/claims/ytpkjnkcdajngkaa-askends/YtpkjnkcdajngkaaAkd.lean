/- ask.alive: contract. -/
import Derived.Test.YtpkjnkcdajngkaaAkc
import Derived.ScopeJumps
namespace Go.Proofs.Ytpkjnkcdajngkaa
open Go.RowKit

/-- What holds at each jump holds at the first one too: one walk of what follows the label. -/
theorem wp_scope_once {P : Program} {a : Act} {w : World} {Q : Exit → Act → World → Prop} {c rest : Code} (l : Nat) (J : Act → World → Prop) (μ : Act → World → Nat) (hf : findLabel c l = some (Code.seq .skip rest))
    (first : (∀ a w, J a w → rest.wp P (Exit.jump l J Q) a w) → c.wp P (Exit.jump l J Q) a w)
    (pass : ∀ a w, J a w → rest.wp P (Exit.jump l (fun a' w' => J a' w' ∧ μ a' w' < μ a w) Q) a w) : (Code.scope c).wp P Q a w :=
  wp_scope_jumps l J μ hf (first fun a w h => Go.wp_mono (pass a w h) fun e a' w' q => by
    cases e with
    | goto l' => exact ⟨q.1, q.2.1⟩
    | _ => exact q) fun a w h => Go.wp_seq (Go.wp_skip (pass a w h))
theorem infoSb : (Try.prog.info? 23).map (fun i => (i.zero, i.size, i.bytes)) = some (some (.slice none 0 0), 1, 24) := by kernel_rfl
def lenV : Value → Nat | .slice _ n _ => n | _ => 0
/-- Rows gathered so far: those that are alive with fewer than K letters. -/
def AlvAt (w : World) (n : Nat) (N : List (List Int)) (E : List Bool) (K : Nat) (v : Value) (W : World) : Prop :=
  ∃ vals : List Value, W.ownsRow w.heap.size 23 1 v K vals ∧ (∀ j, j < K → ∃ a cap, vals[j]? = some (.slice a n cap) ∧ SlB W a n (alvR N E j) ∧ ∀ ad, a = some ad → v.ownBlock ≠ some ad.block) ∧ Below w.heap.size w W
theorem slB_at {W : World} {a : Option Addr} {n : Nat} {E : List Bool} (h : SlB W a n E) (hn : 0 < n) : ∃ b o, a = some ⟨b, o, none⟩ ∧ b < W.heap.size := by
  obtain ⟨b, o, e, h⟩ := slB_cell h 0 hn
  exact ⟨b, o, e, by simpa using World.block_lt_of_cell? W _ h⟩
theorem slB_block {w W : World} {b o n : Nat} {E : List Bool} (h : SlB w (some ⟨b, o, none⟩) n E) (hb : W.heap[b]? = w.heap[b]?) : SlB W (some ⟨b, o, none⟩) n E := by
  obtain ⟨h1, h2, h3⟩ := h
  refine ⟨h1, h2, ?_⟩
  rcases h3 with h3 | ⟨b', o', e, hc⟩
  · exact Or.inl h3
  · cases e
    refine Or.inr ⟨b, o, rfl, fun i hi => ?_⟩
    rw [← hc i hi]
    unfold World.cell?
    rw [hb]
theorem alvAt_below {w : World} {n : Nat} {N : List (List Int)} {E : List Bool} {K : Nat} {v : Value} {W W2 : World} (h : AlvAt w n N E K v W) (hb : Below W.heap.size W W2) : AlvAt w n N E K v W2 := by
  obtain ⟨vals, h1, h2, h3⟩ := h
  refine ⟨vals, ownsRow_of_block h1 (fun x hx => hb.block _ (h1.lt x hx).2), fun j hj => ?_, h3.trans (hb.mono h3.size)⟩
  obtain ⟨a, cap, e1, e2, e3⟩ := h2 j hj
  exact ⟨a, cap, e1, slB_below e2 hb, e3⟩
theorem alvAt_push {w : World} {n : Nat} {N : List (List Int)} {E : List Bool} {K : Nat} {v : Value} {W : World} (hn : 0 < n) (h : AlvAt w n N E K v W) {a : Option Addr} {cap : Nat} (hs : SlB W a n (alvR N E K)) (hv : ∀ ad, a = some ad → v.ownBlock ≠ some ad.block) :
    ∃ vals : List Value, W.ownsRow w.heap.size 23 1 v K vals ∧
      ∀ (w3 : World) (o : Obj) (g' cap' : Nat), w3.ownsRow w.heap.size 23 1 (.slice (some ⟨g', 0, none⟩) (K + 1) cap') (K + 1) (vals ++ [.slice a n cap]) → (W.alloc o).grownBy w3 v.ownBlock → (v.ownBlock = some g' ∨ g' = (W.alloc o).heap.size) →
        AlvAt w n N E (K + 1) (.slice (some ⟨g', 0, none⟩) (K + 1) cap') w3 ∧ SlB w3 a n (alvR N E K) := by
  obtain ⟨vals, h1, h2, h3⟩ := h
  have hvl : vals.length = K := by have := h1.1; omega
  refine ⟨vals, h1, fun w3 o g' cap' hown hgrow hat => ?_⟩
  have hsz : (W.alloc o).heap.size = W.heap.size + 1 := by simp
  have keep : ∀ {a' E'}, SlB W a' n E' → (∀ ad, a' = some ad → v.ownBlock ≠ some ad.block) → SlB w3 a' n E' ∧ ∀ ad, a' = some ad → Value.ownBlock (.slice (some ⟨g', 0, none⟩) (K + 1) cap') ≠ some ad.block := fun {a' E'} hs' hne => by
    obtain ⟨b, o', rfl, hlt⟩ := slB_at hs' hn
    have hne' := hne _ rfl
    refine ⟨slB_block hs' ?_, ?_⟩
    · rw [hgrow.block b (by omega) (fun e => hne' e.symm), Below.heap_alloc _ _ _ hlt]
    · rintro ad ⟨⟩ e
      have e' : g' = b := by simpa [Value.ownBlock] using e
      subst e'
      rcases hat with h | h
      · exact hne' h
      · omega
  refine ⟨⟨vals ++ [.slice a n cap], hown, fun j hj => ?_, Below.grown (h3.alloc h3.size o) hgrow (by have := h3.size; omega) (fun x hx => (h1.lt x hx).1)⟩, (keep hs hv).1⟩
  by_cases e : j = K
  · subst e
    exact ⟨a, cap, by rw [List.getElem?_append_right (by omega), hvl]; simp, (keep hs hv).1, (keep hs hv).2⟩
  · obtain ⟨a', cap', e1, e2, e3⟩ := h2 j (by omega)
    exact ⟨a', cap', by rw [List.getElem?_append_left (by omega)]; exact e1, (keep e2 e3).1, (keep e2 e3).2⟩
theorem slB_row {W : World} {S n : Nat} {E : List Bool} (hl : E.length = n) (hm : n ≤ maxLen) (h : W.rowIs S 4 n fun s => .bool (E.getD s false)) : SlB W (some ⟨S, 0, none⟩) n E :=
  ⟨hl, hm, Or.inr ⟨S, 0, rfl, fun i hi => by rw [Nat.zero_add]; exact h.cell hi⟩⟩
theorem AlvAt.bel {w : World} {n : Nat} {N : List (List Int)} {E : List Bool} {K : Nat} {v : Value} {W : World} (h : AlvAt w n N E K v W) : Below w.heap.size w W := by obtain ⟨_, _, _, h⟩ := h; exact h
/-- Rows of truths, as they are read. -/
def SlR (W : World) (g K n : Nat) (R : Nat → List Bool) : Prop := ∀ i, i < K → ∃ a cap, W.cell? ⟨g, i, none⟩ = some (.slice a n cap) ∧ SlB W a n (R i)
theorem slR_below {w W : World} {g K n : Nat} {R : Nat → List Bool} (h : SlR w g K n R) (hb : Below w.heap.size w W) : SlR W g K n R := fun i hi => by
  obtain ⟨a, cap, e1, e2⟩ := h i hi
  exact ⟨a, cap, by rw [hb.cell (p := ⟨g, i, none⟩) (World.block_lt_of_cell? w _ e1)]; exact e1, slB_below e2 hb⟩
theorem alvAt_end {w : World} {n : Nat} {N : List (List Int)} {E : List Bool} {K g cap : Nat} {W : World} (h : AlvAt w n N E K (.slice (some ⟨g, 0, none⟩) K cap) W) : SlR W g K n (alvR N E) := by
  obtain ⟨vals, ⟨h0, h1⟩, h2, h3⟩ := h
  rcases h1 with ⟨h, -⟩ | ⟨g', cap', cur, h, hg, hh, hc, hcm, hcs, ht⟩
  · cases h
  · cases h
    intro i hi
    obtain ⟨a', c', e1, e2, -⟩ := h2 i hi
    refine ⟨a', c', ?_, e2⟩
    rw [cell_of_row W g i cur 23 (0, 0) hh]
    have h3 : (cur.toList.take (K * 1))[i]? = vals[i]? := by rw [ht]
    rw [List.getElem?_take, if_pos (by omega), Array.getElem?_toList] at h3
    rw [h3, e1]
/-- What alive hands back: rows for 0, 1, .. letters, not more than asked for; fewer only if none is alive with more. -/
def AlvR (w : World) (n : Nat) (N : List (List Int)) (E : List Bool) (most : Nat) (e : Ending) (w' : World) : Prop :=
  ∃ g K cap, e = .returned (.slice (some ⟨g, 0, none⟩) K cap) ∧ 1 ≤ K ∧ K ≤ most + 1 ∧ (K ≤ most → (alvR N E K).any id = false) ∧ SlR w' g K n (alvR N E) ∧ Below w.heap.size w w'
set_option maxHeartbeats 4000000 in
set_option maxRecDepth 4000 in
theorem alive_any (b t : Int) (a : Option Addr) (n cap : Nat) (a' : Option Addr) (cap' : Nat) (N : List (List Int)) (E : List Bool) (m most : Nat) (w : World) (hs : Sl2 w a n N) (hG : GoodN m n N) (he : SlB w a' n E) (hm : most ≤ 100000000) :
    Calls Try.prog 13 #[.agg #[.int .i64 b, .int .i64 t, .slice a n cap, .slice a' n cap'], .int .i64 (most : Int)] w (AlvR w n N E most) := by
  have hn1 := hG.2.1
  have HB0 : Hid (Below w.heap.size w (w.alloc (.cells #[.int .i64 b, .int .i64 t, .slice a n cap, .slice a' n cap'] 25))) := (Below.refl _ _).alloc (Nat.le_refl _) _
  have HBX := hide (fun W => @box4 w W (.int .i64 b) (.int .i64 t) (.slice a n cap) (.slice a' n cap') 25)
  have HS := hide (sl2_below hs HB0.out)
  have HE := hide (slB_below he HB0.out)
  generalize hw1 : w.alloc (.cells #[.int .i64 b, .int .i64 t, .slice a n cap, .slice a' n cap'] 25) = w1 at HB0 HBX HS HE
  have HAH := hide (fun (W : World) (ar : Option Addr) (cr K : Nat) (hB : Below w1.heap.size w1 W) (hr : SlB W ar n (alvR N E K)) => ahead_any b t a n cap a' n cap' N m ar cr (alvR N E K) W (sl2_below HS.out hB) hG hr)
  have HLEN : Hid (∀ K, (alvR N E K).length = n) := fun K => by rw [alvR_len N E (by rw [he.1, hG.1]), hG.1]
  have hn4 := hG.2.2.1
  have hsz1 : w1.heap.size = w.heap.size + 1 := by rw [← hw1]; simp
  have HSZ1 := hide hsz1
  have HAT0 : Hid (AlvAt w1 n N E 0 (.slice none 0 0) w1) := ⟨[], World.ownsRow_nil _ _ _ _, fun j hj => by omega, Below.refl _ _⟩
  have HE0 : Hid (SlB w1 a' n (alvR N E 0)) := HE.out
  clear hs he hG
  obtain ⟨j0, hj0, hy0, hy1, hy2⟩ := info_parts infoSb
  obtain ⟨hx0, hx1, hx2, hx3⟩ := HBX.out w1 (Below.refl _ _)
  go_enter Try.func13, Try.ntmps13
  go_wp2
  refine wp_scope_once 0 (fun x W => ∃ (K : Nat) (v : Value) (ar : Option Addr) (cr : Nat) (u7 u8 u9 u10 u11 u12 u13 u14 u15 u16 u17 u18 u19 u20 u21 u22 u23 : Value),
    x = { tmps := #[.agg #[.int .i64 b, .int .i64 t, .slice a n cap, .slice a' n cap'], .int .i64 (most : Int), .pointer (some ⟨w.heap.size, 0, none⟩), undef, .slice none 0 0, v, .slice ar n cr, u7, u8, u9, u10, u11, u12, u13, u14, u15, u16, u17, u18, u19, u20, u21, u22, u23, undef], defers := [] } ∧
    K ≤ most ∧ AlvAt w1 n N E K v W ∧ SlB W ar n (alvR N E K) ∧ ∀ ad, ar = some ad → v.ownBlock ≠ some ad.block) (fun x _ => most + 1 - lenV (x.tmps.getD 5 undef)) rfl ?_ ?_
  · intro H
    go_wp2
    rename_i hk
    refine Go.wp_label ?_
    exact hk _ _ (H _ _ ⟨0, _, _, _, _, _, _, _, _, _, _, _, _, _, _, _, _, _, _, _, _, rfl, Nat.zero_le _, HAT0.out, HE0.out, fun ad _ h => by simp [Value.ownBlock] at h⟩)
  · rintro x W ⟨K, v, ar, cr, u7, u8, u9, u10, u11, u12, u13, u14, u15, u16, u17, u18, u19, u20, u21, u22, u23, rfl, hK, hat, hsr, hne⟩
    obtain ⟨vals, hown, hpu⟩ := alvAt_push hn1 hat hsr hne (cap := cr)
    have HBW : Hid (Below w1.heap.size w1 W) := by obtain ⟨_, _, _, h⟩ := hat; exact h
    have HOWN := hide hown
    have HPU := hide hpu
    have hmu : lenV v = K := by
      obtain ⟨-, h | ⟨g, cp, cur, h, -⟩⟩ := hown
      · rw [h.1]; exact h.2.symm
      · rw [h]
        rfl
    have HMU := hide hmu
    clear hat hsr hne hown hpu hmu
    go_wp2_with (at_builtin; refine wpList_append_lies _ rfl _ _ 41 rfl w1.heap.size 23 j0 (.slice none 0 0) 1 24 Try.underlying41 hj0 hy0 hy1 hy2 rfl (by decide) v K vals rfl (HOWN.out.alloc _) ⟨W.heap.size, 0, none⟩ 1 1 [.slice ar n cr] rfl rfl (one_new _ _ _) (fun u hu => by simp at hu; subst hu; rfl) (by omega) (by unfold maxLen; omega) (by omega) (by have := HBW.out.size; simp; omega) _ rfl ?_; intro g' cap' w3 hown3 hgrow3 hat3 hlt3; have HN3 := hide (HPU.out w3 _ g' cap' hown3 hgrow3 hat3); clear hown3 hgrow3 hat3; obtain ⟨hc0, hc1, hc2, hc3⟩ := HBX.out w3 HN3.out.1.bel)
    refine (HAH.out w3 ar cr K HN3.out.1.bel HN3.out.2).mono ?_
    rintro e w4 ⟨rfl, hrow4, hb4⟩
    have HAT4 := hide (alvAt_below HN3.out.1 hb4)
    have hsr4 : SlB w4 (some ⟨w3.heap.size + 2, 0, none⟩) n (alvR N E (K + 1)) := slB_row (HLEN.out (K + 1)) (by unfold maxLen; omega) hrow4
    have HSR4 := hide hsr4
    have HNE4 : Hid (g' < w3.heap.size + 2) := by show _ < _; omega
    have HCN := hide (cntB_any (some ⟨w3.heap.size + 2, 0, none⟩) n n (alvR N E (K + 1)) w4 hsr4)
    unfold retB at HCN
    clear hrow4 hb4 hc0 hc1 hc2 hc3 hsr4 HN3 hlt3
    by_cases hlm : K + 1 ≤ most
    · have hlmi : ((K + 1 : Nat) : Int) ≤ (most : Int) := by omega
      cases hany : (alvR N E (K + 1)).any id with
      | true =>
        rw [hany] at HCN
        go_wp2_with (go_at_call 21; refine HCN.out.mono ?_; rintro e w' ⟨rfl, rfl⟩)
        go_step3
        refine ⟨rfl, ⟨K + 1, _, _, _, _, _, _, _, _, _, _, _, _, _, _, _, _, _, _, _, _, rfl, hlm, HAT4.out, HSR4.out, ?_⟩, ?_⟩
        · rintro ad ⟨⟩ e
          have e' : g' = w3.heap.size + 2 := by simpa [Value.ownBlock] using e
          have := HNE4.out
          omega
        · show most + 1 - (K + 1) < most + 1 - lenV v
          rw [HMU.out]
          omega
      | false =>
        rw [hany] at HCN
        go_wp2_with (go_at_call 21; refine HCN.out.mono ?_; rintro e w' ⟨rfl, rfl⟩)
        simp only [Exit.jump]
        go_ret
        exact ⟨g', K + 1, _, rfl, by omega, by omega, fun _ => hany, alvAt_end HAT4.out, HB0.out.trans (HAT4.out.bel.mono HB0.out.size)⟩
    · have hlmi : ¬ ((K + 1 : Nat) : Int) ≤ (most : Int) := by omega
      go_wp2
      simp only [Exit.jump]
      go_ret
      exact ⟨g', K + 1, _, rfl, by omega, by omega, fun h => by omega, alvAt_end HAT4.out, HB0.out.trans (HAT4.out.bel.mono HB0.out.size)⟩
end Go.Proofs.Ytpkjnkcdajngkaa
