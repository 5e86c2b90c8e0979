/- ask.Finite: contract. -/
import Derived.Test.YtpkjnkcdajngkaaAkh
import Derived.Test.YtpkjnkcdajngkaaAt
import Derived.Test.YtpkjnkcdajngkaaU
namespace Go.Proofs.Ytpkjnkcdajngkaa
open Go.RowKit

/-- Is a word taken that has so many letters behind its first one, which is not 0? -/
def fnhB (N : List (List Int)) (E : List Bool) (j : Nat) : Bool := ((N.getD 0 []).drop 1).any fun x => (alvR N E j).getD x.toNat false
/-- What Finite answers of n states. -/
def finB (N : List (List Int)) (E : List Bool) (n : Nat) : Bool := (List.range n).all fun j => !fnhB N E (n + j)
def FinR (b t : Int) (N : List (List Int)) (E : List Bool) (w : World) (e : Ending) (w' : World) : Prop :=
  e = .returned (.tuple #[.bool (if autoC b t N E.length = 0 then finB N E E.length else false), errV (autoC b t N E.length)]) ∧ Below w.heap.size w w'
set_option maxHeartbeats 4000000 in
set_option maxRecDepth 4000 in
theorem fin1_any (B6 B7 g K cK left n : Nat) (N : List (List Int)) (E : List Bool) (s : Nat) (W : World) (h6 : W.cell? ⟨B6, 0, none⟩ = some (.slice (some ⟨g, 0, none⟩) K cK)) (h7 : W.cell? ⟨B7, 0, none⟩ = some (.int .i64 (left : Int))) (hr : SlR W g K n (alvR N E)) (hl : left < K) (hs : s < n) :
    Calls Try.prog 16 #[.int .i64 (s : Int), .pointer (some ⟨B6, 0, none⟩), .pointer (some ⟨B7, 0, none⟩)] W (retB ((alvR N E left).getD s false) W) := by
  obtain ⟨ar, cr, e1, he⟩ := hr left hl
  obtain ⟨b1, o1, rfl, hc⟩ := slB_cell he s hs
  have hsi : (s : Int) < (n : Int) := by omega
  have hli : (left : Int) < (K : Int) := by omega
  clear he hr
  generalize (alvR N E left).getD s false = R at hc ⊢
  go_enter Try.func16, Try.ntmps16
  go_wp2
  go_ret
  exact ⟨rfl, rfl⟩
theorem fin_hit {N : List (List Int)} {E : List Bool} {n j : Nat} (h1 : n ≤ j) (h2 : j < 2 * n) (h : fnhB N E j = true) : finB N E n = false := by
  unfold finB
  rw [List.all_eq_false]
  exact ⟨j - n, List.mem_range.2 (by omega), by rw [show n + (j - n) = j by omega, h]; decide⟩
theorem fin_none {N : List (List Int)} {E : List Bool} {m n K : Nat} (hG : GoodN m n N) (hK : K ≤ 2 * n) (hd : K < 2 * n → (alvR N E K).any id = false) (hl : (alvR N E K).length = n) (h : ∀ j, n ≤ j → j < K → fnhB N E j = false) : finB N E n = true := by
  unfold finB
  rw [List.all_eq_true]
  intro j hj
  rw [List.mem_range] at hj
  by_cases hjk : n + j < K
  · rw [h _ (by omega) hjk]; rfl
  · have hdead : ∀ s, s < n → (alvR N E K).getD s false = false := fun s hs => by
      have h3 := List.any_eq_false.1 (hd (by omega))
      rw [getDb (by rw [hl]; exact hs)]
      cases hb : (alvR N E K)[s]'(by rw [hl]; exact hs) with
      | false => rfl
      | true => exact absurd hb (by simpa using h3 _ (List.getElem_mem (by rw [hl]; exact hs)))
    have : fnhB N E (n + j) = false := by
      unfold fnhB
      rw [List.any_eq_false]
      intro x hx
      obtain ⟨i, hi, e⟩ := List.getElem_of_mem (List.mem_of_mem_drop hx)
      obtain ⟨g1, g2⟩ := hG.2.2.2.2.2 0 hG.2.1
      have g3 := g2 i (by omega)
      rw [getD_at _ i hi, e] at g3
      have := alv_dead hG hdead (n + j - K) x.toNat (by omega)
      rw [show K + (n + j - K) = n + j by omega] at this
      rw [this]
      exact Bool.false_ne_true
    rw [this]; rfl
/-- The first row has room for itself. -/
def Cap0 (W : World) (a : Option Addr) : Prop := ∀ b o x l c, a = some ⟨b, o, none⟩ → W.cell? ⟨b, o, none⟩ = some (.slice x l c) → l ≤ c
theorem sl_tail {W : World} {b o k c : Nat} {l : List Int} (h : Sl W (some ⟨b, o, none⟩) (k + 1) l) (hc : k + 1 ≤ c) : Sl W (some ⟨b, if c = 1 then o else o + 1, none⟩) k (l.drop 1) := by
  obtain ⟨h1, h2, h3, h4⟩ := h
  refine ⟨by rw [List.length_drop]; omega, by omega, fun x hx => h3 x (List.mem_of_mem_drop hx), ?_⟩
  rcases h4 with h4 | ⟨b', o', e, h4⟩
  · omega
  · cases e
    by_cases hk : k = 0
    · exact Or.inl hk
    · rw [if_neg (by omega)]
      refine Or.inr ⟨b, o + 1, rfl, fun i hi => ?_⟩
      rw [show o + 1 + i = o + (i + 1) by omega, h4 (i + 1) (by omega)]
      simp [List.getD]
set_option maxHeartbeats 4000000 in
set_option maxRecDepth 4000 in
theorem finite_any (b t : Int) (a a' : Option Addr) (len cap len' cap' : Nat) (N : List (List Int)) (E : List Bool) (w : World) (hs : Sl2 w a len N) (he : SlB w a' len' E) (hcp : 0 < len → Cap0 w a) :
    Calls Try.prog 10 #[.agg #[.int .i64 b, .int .i64 t, .slice a len cap, .slice a' len' cap']] w (FinR b t N E w) := by
  have hEl := he.1
  have HB1 : Hid (Below w.heap.size w (w.alloc (.cells #[.int .i64 b, .int .i64 t, .slice a len cap, .slice a' len' cap'] 25))) := (Below.refl _ _).alloc (Nat.le_refl _) _
  have HBX := hide (fun W => @box4 w W (.int .i64 b) (.int .i64 t) (.slice a len cap) (.slice a' len' cap') 25)
  have HCK := hide (check_u b t a a' len cap len' cap' N _ (sl2_below hs HB1.out) he.2.1)
  obtain ⟨x0, x1, x2, x3⟩ := HBX.out _ (Below.refl _ _)
  generalize hw1 : w.alloc (.cells #[.int .i64 b, .int .i64 t, .slice a len cap, .slice a' len' cap'] 25) = w1 at HB1 HBX HCK x0 x1 x2 x3
  have HS := hide hs
  have HE := hide he
  have hNl := hs.1
  clear hs he
  by_cases hA : autoC b t N len' = 0
  · obtain ⟨hM, hE, hG, hmu⟩ := autoC_zero hA
    rw [errV_yes hA] at HCK
    have HFIN : Hid (∀ v w', v = finB N E len' → Below w.heap.size w w' → FinR b t N E w (.returned (.tuple #[.bool v, .nilIface])) w') := fun v w' h1 h2 => by
      unfold FinR
      rw [hEl, if_pos hA, errV_yes hA, h1]
      exact ⟨rfl, h2⟩
    generalize FinR b t N E w = R at HFIN ⊢
    rw [hNl] at hE hG
    subst hE
    have hn1 := hG.2.1
    have hn4 := hG.2.2.1
    obtain ⟨bn, on, ax, cx, rfl, hc0, hs0⟩ := sl2_cell HS.out 0 hn1
    have hlx : (N.getD 0 []).length = (manyU b t).toNat := (hG.2.2.2.2.2 0 hn1).1
    have hcx := hcp hn1 _ _ _ _ _ rfl hc0
    have HROW : Hid (∀ x ∈ (N.getD 0 []).drop 1, 0 ≤ x ∧ x < (len' : Int)) := fun x hx => by
      obtain ⟨i, hi, rfl⟩ := List.getElem_of_mem (List.mem_of_mem_drop hx)
      have := (hG.2.2.2.2.2 0 hn1).2 i (by omega)
      rwa [getD_at _ i hi] at this
    have hm1 := hG.2.2.2.2.1
    obtain ⟨k, hk⟩ : ∃ k, (N.getD 0 []).length = k + 1 := ⟨(N.getD 0 []).length - 1, by omega⟩
    have h0 : ∃ b1 o1, ax = some ⟨b1, o1, none⟩ := by obtain ⟨b1, o1, e, -⟩ := sl_cell hs0 0 (by omega); exact ⟨b1, o1, e⟩
    obtain ⟨b1, o1, rfl⟩ := h0
    rw [hk] at hc0 hs0 hcx
    have HC0 : Hid (∀ W, Below w1.heap.size w1 W → W.cell? ⟨bn, on, none⟩ = some (.slice (some ⟨b1, o1, none⟩) (k + 1) cx) ∧ Sl W (some ⟨b1, if cx = 1 then o1 else o1 + 1, none⟩) k ((N.getD 0 []).drop 1)) := fun W hW => by
      have hW' := HB1.out.trans (hW.mono HB1.out.size)
      exact ⟨(hW'.cell (p := ⟨bn, on, none⟩) (World.block_lt_of_cell? w _ hc0)).trans hc0, sl_tail (sl_below hs0 hW') hcx⟩
    have HRT := hide (fun wx => run_tail b1 o1 k cx wx)
    have hlen : ∀ K, (alvR N E K).length = len' := fun K => by rw [alvR_len N E (by rw [HE.out.1, hG.1]) K, hG.1]
    have HNO := hide (fun K h1 h2 h => @fin_none N E _ len' K hG h1 h2 (hlen K) h)
    have HAL := hide (fun (q : Nat) (W : World) (hq : q ≤ 100000000) (hb : Below w1.heap.size w1 W) => alive_any b t (some ⟨bn, on, none⟩) len' cap a' cap' N E (manyU b t).toNat q W (sl2_below (sl2_below HS.out HB1.out) hb) hG (slB_below (slB_below HE.out HB1.out) hb) hq)
    obtain ⟨q, hq⟩ : ∃ q : Nat, 2 * (len' : Int) - 1 = (q : Int) := ⟨2 * len' - 1, by omega⟩
    clear hNl hM hmu hEl hA hlx hk hs0 hc0 hcx hlen hG hcp
    go_enter Try.func10, Try.ntmps10
    go_wp2_with (go_at_call 11; refine HCK.out.mono ?_; rintro e w2 ⟨rfl, hb2⟩; have HB2 := hide hb2; obtain ⟨y0, y1, y2, y3⟩ := HBX.out w2 hb2; clear hb2)
    have HAQ := hide (HAL.out q w2 (by omega) HB2.out)
    unfold AlvR at HAQ
    refine HAQ.out.mono ?_
    rintro e w3 ⟨g, K, cK, rfl, hK1, hK2, hK3, hsr, hb3⟩
    have HB3 := hide (below_step HB2.out hb3)
    have HSR := hide hsr
    have hKq : K ≤ 2 * len' := by omega
    have hK4 : K < 2 * len' → (alvR N E K).any id = false := fun h => hK3 (by omega)
    have HNK := hide (HNO.out K hKq hK4)
    clear hm1 x0 x1 x2 x3 y0 y1 y2 y3 hb3 hsr hq hK2 hK3 hK4 HNO HAL HAQ hK1
    generalize hw4 : w3.alloc (.cells #[.slice (some ⟨g, 0, none⟩) K cK] 41) = w4
    have hs4 : w4.heap.size = w3.heap.size + 1 := by rw [← hw4]; simp
    have h64 : w4.heap[w3.heap.size]? = some (.cells #[.slice (some ⟨g, 0, none⟩) K cK] 41 (0, 0)) := by rw [← hw4]; exact heap_alloc_last _ _
    have hb34 : Below w3.heap.size w3 w4 := by rw [← hw4]; exact (Below.refl _ _).alloc (Nat.le_refl _) _
    have HB4 := hide (below_step HB3.out hb34)
    have HSR4 := hide (slR_below HSR.out hb34)
    have HS4 := hide hs4
    have H64 := hide h64
    clear hb34 hs4 h64
    go_wp2
    go_loopg [7] (len' + 1) (fun gh v wx => ∃ left B : Nat, gh = 2 * len' + 1 - left ∧ len' ≤ left ∧ v = .pointer (some ⟨B, 0, none⟩) ∧ w4.heap.size ≤ B ∧ wx.heap[B]? = some (.cells #[.int .i64 (left : Int)] 3 (0, 0)) ∧ Below w4.heap.size w4 wx ∧ ∀ j, len' ≤ j → j < left → fnhB N E j = false)
    case atStart => exact ⟨len', w4.heap.size, by omega, Nat.le_refl _, by rw [HS4.out], Nat.le_refl _, heap_alloc_last _ _, (Below.refl _ _).alloc (Nat.le_refl _) _, fun j h1 h2 => by omega⟩
    case round =>
      obtain ⟨left, B, rfl, hl1, rfl, hB, hbx, hbw, hno⟩ := hrel
      have HNOX := hide hno
      have HBW := hide hbw
      have HBR := hide (below_step HB4.out hbw)
      obtain ⟨cB, fB⟩ := one_cell hbx
      have c6 : wr.cell? ⟨w3.heap.size, 0, none⟩ = some (.slice (some ⟨g, 0, none⟩) K cK) := (one_cell ((hbw.block _ (by rw [HS4.out]; omega)).trans H64.out)).1
      obtain ⟨z0, z1, z2, z3⟩ := HBX.out wr HBR.out
      clear hno
      by_cases hlt : left < K
      · have hlti : (left : Int) < (K : Int) := by omega
        obtain ⟨d0, d1⟩ := HC0.out wr HBR.out
        have hrt := HRT.out
        have HCT : Hid (Calls Try.prog 15 #[.slice (some ⟨b1, if cx = 1 then o1 else o1 + 1, none⟩) k (cx - 1), .func (.func 16) #[] #[.pointer (some ⟨w3.heap.size, 0, none⟩), .pointer (some ⟨B, 0, none⟩)]] wr (retB (fnhB N E left) wr)) := cntF_any 16 #[.pointer (some ⟨w3.heap.size, 0, none⟩), .pointer (some ⟨B, 0, none⟩)] (fun s => (alvR N E left).getD s false) len' (some ⟨b1, if cx = 1 then o1 else o1 + 1, none⟩) k (cx - 1) ((N.getD 0 []).drop 1) wr (fun _ _ => rfl) (fun s hs => fin1_any w3.heap.size B g K cK left len' N E s wr c6 cB (slR_below HSR4.out hbw) hlt hs) d1 HROW.out
        unfold retB at HCT
        have HHIT := hide (fun h => @fin_hit N E len' left hl1 (by omega) h)
        clear hbx hbw d1
        generalize (if cx = 1 then o1 else o1 + 1) = o2 at HCT hrt
        cases hf : fnhB N E left with
        | true =>
          rw [hf] at HCT
          have HF := hide (HHIT.out hf)
          clear hf HHIT
          go_wp2_with (go_at_call 15; refine HCT.out.mono ?_; rintro e w' ⟨rfl, rfl⟩)
          exact HFIN.out _ _ HF.out.symm (below_step HB1.out HBR.out)
        | false =>
          rw [hf] at HCT
          have HF := hide hf
          clear hf HHIT
          go_wp2_with (go_at_call 15; refine HCT.out.mono ?_; rintro e w' ⟨rfl, rfl⟩)
          go_roundg (2 * len' + 1 - (left + 1))
          case rel => exact ⟨left + 1, _, rfl, by omega, rfl, HBW.out.size, by rw [show ((left + 1 : Nat) : Int) = (left : Int) + 1 by omega]; exact heap_alloc_last _ _, HBW.out.alloc HBW.out.size _, fun j h1 h2 => by
            by_cases e : j = left
            · subst e; exact HF.out
            · exact HNOX.out j h1 (by omega)⟩
          case measure => omega
      · have hlti : ¬ (left : Int) < (K : Int) := by omega
        have HF := hide (HNK.out fun j h1 h2 => HNOX.out j h1 (by omega))
        clear hbx hbw
        go_wp2
        exact HFIN.out _ _ HF.out.symm (below_step HB1.out HBR.out)
  · have hne : errV (autoC b t N len') = .iface 39 (.int .i64 (autoC b t N len')) := by unfold errV; rw [if_neg hA]
    have HFIN : Hid (∀ w', Below w.heap.size w w' → FinR b t N E w (.returned (.tuple #[.bool false, .iface 39 (.int .i64 (autoC b t N len'))])) w') := fun w' h2 => by
      unfold FinR
      rw [hEl, if_neg hA, hne]
      exact ⟨rfl, h2⟩
    rw [hne] at HCK
    generalize FinR b t N E w = R at HFIN ⊢
    go_enter Try.func10, Try.ntmps10
    go_wp2_with (go_at_call 11; refine HCK.out.mono ?_; rintro e w2 ⟨rfl, hb2⟩; have HB2 := hide (below_step HB1.out hb2); clear hb2)
    exact HFIN.out _ HB2.out
end Go.Proofs.Ytpkjnkcdajngkaa
