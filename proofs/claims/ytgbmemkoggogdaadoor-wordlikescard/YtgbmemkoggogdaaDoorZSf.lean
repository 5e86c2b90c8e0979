/- 4 texts in one. -/
import Derived.BigQuiet
import Derived.Shelf.Abstract
import Derived.Deep.RegionHeldLaw
import Derived.Test.YtgbmemkoggogdaaDoorZLp
import Derived.Test.YtgbmemkoggogdaaDoorZCf
import Derived.Test.YtgbmemkoggogdaaDoorSc
import Derived.Test.YtgbmemkoggogdaaDoorZSe
import Derived.Test.YtgbmemkoggogdaaDoorZKa
import Derived.Test.YtgbmemkoggogdaaDoorZPe
import Derived.Test.YtgbmemkoggogdaaDoorBy
import Derived.Test.YtgbmemkoggogdaaDoorCi
/- A struct in a box, one field of which is a row that grows; the closure of word.ofAllWords, and ofAllWords: contracts. -/
namespace Go.Proofs.YtgbmemkoggogdaaDoor
open Go.RowKit

/-- Block B holds mk v, and v is a row of its own, made behind it. -/
structure FldI (wb : World) (B f : Nat) (mk : Value → Obj) (ty : TypeId) (vals : List Value) (v : Value) (W : World) : Prop where
  box : W.heap[B]? = some (mk v)
  own : W.ownsRow (B + 1) ty 1 v vals.length vals
  bel : Below wb.heap.size wb W
  base : wb.heap.size ≤ B
  put : ∀ (W : World) (v v' : Value), W.heap[B]? = some (mk v) → (W.setCell ⟨B, f, none⟩ v').heap[B]? = some (mk v')
section
variable {wb W W' : World} {B f : Nat} {mk : Value → Obj} {ty : TypeId} {vals : List Value} {v : Value}
theorem fld_below (h : FldI wb B f mk ty vals v W) (hb : Below W.heap.size W W') : FldI wb B f mk ty vals v W' :=
  ⟨(hb.block B (Array.getElem?_eq_some_iff.1 h.box).1).trans h.box, ownsRow_of_block h.own (fun x hx => hb.block _ (h.own.lt x hx).2), below_step h.bel hb, h.base, h.put⟩
theorem fld_push {w3 : World} {o : Obj} {u v3 : Value} (h : FldI wb B f mk ty vals v W) (hown : w3.ownsRow (B + 1) ty 1 v3 (vals.length + 1) (vals ++ [u])) (hgrow : (W.alloc o).grownBy w3 v.ownBlock) : w3.heap[B]? = some (mk v) ∧ FldI wb B f mk ty (vals ++ [u]) v3 (w3.setCell ⟨B, f, none⟩ v3) := by
  have hl := (Array.getElem?_eq_some_iff.1 h.box).1
  have hne : v.ownBlock ≠ some B := fun e => by have := (h.own.lt B e).1; omega
  have h3 : w3.heap[B]? = some (mk v) := by
    rw [hgrow.block B (by rw [World.size_alloc]; omega) (fun e => hne e.symm), Below.heap_alloc _ _ _ hl]
    exact h.box
  have hbl : Below wb.heap.size wb w3 := Below.grown (h.bel.alloc h.bel.size o) hgrow (by have := h.bel.size; rw [World.size_alloc]; omega) (fun k hk => by have := (h.own.lt k hk).1; have := h.base; omega)
  refine ⟨h3, h.put w3 v v3 h3, ?_, hbl.setCell h.base _, h.base, h.put⟩
  rw [List.length_append, List.length_singleton]
  exact ownsRow_of_block hown (fun x hx => Below.heap_setCell _ _ _ _ (fun e => by have := (hown.lt x hx).1; have e' : x = B := e; omega))
end
theorem put3 (B : Nat) (x0 x1 : Value) (T : TypeId) : ∀ (W : World) (v v' : Value), W.heap[B]? = some (.cells #[x0, x1, v] T) → (W.setCell ⟨B, 2, none⟩ v').heap[B]? = some (.cells #[x0, x1, v'] T) := fun W v v' h => by
  simp [World.setCell, Array.getElem?_modify, h]
theorem put4 (B : Nat) (x0 x1 x2 : Value) (T : TypeId) : ∀ (W : World) (v v' : Value), W.heap[B]? = some (.cells #[x0, x1, x2, v] T) → (W.setCell ⟨B, 3, none⟩ v').heap[B]? = some (.cells #[x0, x1, x2, v'] T) := fun W v v' h => by
  simp [World.setCell, Array.getElem?_modify, h]
theorem slB_of_own {W : World} {base : Nat} {v : Value} {bs : List Bool} (h : W.ownsRow base 4 1 v bs.length (bs.map Value.bool)) (hm : bs.length ≤ maxLen) : ∃ a cap, v = .slice a bs.length cap ∧ SlB W a bs.length bs := by
  obtain ⟨h0, h1⟩ := h
  rcases h1 with ⟨rfl, hn⟩ | ⟨g, cap, cur, rfl, hg, hh, hc, hcm, hcs, ht⟩
  · exact ⟨none, 0, by rw [hn], rfl, hm, Or.inl hn⟩
  · refine ⟨_, cap, rfl, rfl, hm, Or.inr ⟨g, 0, rfl, fun i hi => ?_⟩⟩
    rw [cell_of_row W g (0 + i) cur 4 (0, 0) hh, Nat.zero_add]
    have h3 : (cur.toList.take (bs.length * 1))[i]? = (bs.map Value.bool)[i]? := by rw [ht]
    rw [List.getElem?_take, if_pos (by omega), Array.getElem?_toList] at h3
    rw [h3]
    simp [List.getD, hi]
set_option maxHeartbeats 4000000 in
set_option maxRecDepth 4000 in
theorem oawStep_any (b : Int) (a : Option Addr) (n cap : Nat) (ao : Option Addr) (no co : Nat) (N : List (List Int)) (k : Nat) (B s l : Nat) (w : World) (hx : w.heap[B]? = some (.cells #[.int .i64 b, .slice a n cap, .slice ao no co] 25)) (hs : Sl2 w a n N) (hG : GoodN k n N) (hA : spA s = -2 ∨ spA s = -1 ∨ (0 ≤ spA s ∧ spA s < (n : Int))) (hn : n ≤ 20) (hC : 0 ≤ spB s ∧ spB s < 64) (hl : l < k) :
    Calls Tryd.prog 60 #[spU s, .int .i64 (l : Int), .pointer (some ⟨B, 0, none⟩)] w fun e w' => e = .returned (spU (dW b N s l)) ∧ Below w.heap.size w w' := by
  have hB := below_two w (.cells #[.int .i64 (spA s), .int .i64 (spB s)] 81) (.cells #[.int .i64 0, .int .i64 0] 81)
  have h1 := heap_alloc2_fst w (.cells #[.int .i64 (spA s), .int .i64 (spB s)] 81) (.cells #[.int .i64 0, .int .i64 0] 81)
  have h2 := heap_alloc2_snd w (.cells #[.int .i64 (spA s), .int .i64 (spB s)] 81) (.cells #[.int .i64 0, .int .i64 0] 81)
  have hk36 := hG.2.2.2.1
  have HRES : Hid (spU (dW b N s l) = .agg #[.int .i64 (stpW b N (spA s) (spB s) (l : Int)).1, .int .i64 (stpW b N (spA s) (spB s) (l : Int)).2]) := by
    have hb : (-2 ≤ (stpW b N (spA s) (spB s) (l : Int)).1 ∧ (stpW b N (spA s) (spB s) (l : Int)).1 < 62) ∧ 0 ≤ (stpW b N (spA s) (spB s) (l : Int)).2 ∧ (stpW b N (spA s) (spB s) (l : Int)).2 < 64 := by
      unfold stpW
      split
      · exact ⟨⟨by decide, by decide⟩, by decide, by decide⟩
      · rename_i h
        split
        · simp only; omega
        · have hbn : (bgn (spA s)).toNat < n := by
            have := hG.2.1
            unfold bgn
            split <;> omega
          have := (hG.2.2.2.2.2 _ hbn).2 l hl
          simp only
          rw [Int.toNat_natCast]
          split <;> omega
    have := sp_back hb.1.1 hb.1.2 hb.2.1 hb.2.2
    show _ = _
    unfold spU dW
    rw [this.1, this.2.1]
  rw [HRES.out]
  have HST := hide (fun W h => wstep_any b a n cap ao no co N k (spA s) (spB s) l W h hG hA hl)
  have HS := hide (fun W (h : Below w.heap.size w W) => sl2_below hs h)
  have hx2 := (hB.block B (Array.getElem?_eq_some_iff.1 hx).1).trans hx
  unfold spU
  unfold outV at HST
  generalize (stpW b N (spA s) (spB s) (l : Int)).1 = y at HST ⊢
  generalize (stpW b N (spA s) (spB s) (l : Int)).2 = z at HST ⊢
  generalize spA s = A at h1 h2 hB hx2 HST ⊢
  generalize spB s = C at h1 h2 hB hx2 HST ⊢
  clear hs hG HRES hA hC hx
  obtain ⟨⟨p0, p1, p2⟩, -⟩ := box3_cells hx2
  obtain ⟨⟨q0, q1⟩, -⟩ := box2_cells h1
  have HB := hide hB
  have HR := hide h2
  clear hB h1 h2 hx2
  go_enter Tryd.func60, Tryd.ntmps60
  go_wp2_with fail
  generalize (w.alloc (.cells #[.int .i64 A, .int .i64 C] 81)).alloc (.cells #[.int .i64 0, .int .i64 0] 81) = w0 at p0 p1 p2 q0 q1 HB HR ⊢
  clear p0 p1 p2 q0 q1
  refine (HST.out w0 (HS.out w0 HB.out)).mono ?_
  rintro e w1 ⟨rfl, hb1⟩
  have hr := (hb1.block _ (Array.getElem?_eq_some_iff.1 HR.out).1).trans HR.out
  have HRR := hide hr
  have HB1 := hide (below_step HB.out hb1)
  obtain ⟨⟨r0, r1⟩, rf⟩ := box2_cells hr
  clear hr hb1
  go_wp2
  obtain ⟨⟨hset, -, -⟩, hbel⟩ := box2_set (v0 := .int .i64 y) (v1 := .int .i64 z) HRR.out rfl
  obtain ⟨⟨z0, z1⟩, -⟩ := box2_cells hset
  exact bodyPost_ret (v := .agg #[.int .i64 y, .int .i64 z]) (by simp [results, Tryd.results60, go_sem, z0, z1]) rfl ⟨rfl, hbel _ _ HB1.out (by omega)⟩
end Go.Proofs.YtgbmemkoggogdaaDoor

/- word.ofAllWords: contract. -/
namespace Go.Proofs.YtgbmemkoggogdaaDoor
open Go.RowKit

/-- What is handed back lies in new memory. -/
def OutNew (w : World) (n : Nat) (RN : List (List Int)) (RO : List Int) (aN aO : Option Addr) (w' : World) : Prop := ∀ W' : World, (∀ x, w.heap.size ≤ x → x < w'.heap.size → W'.heap[x]? = w'.heap[x]?) → Sl2 W' aN n RN ∧ Sl W' aO n RO
def OawR (w : World) (b : Int) (n : Nat) (RN : List (List Int)) (RO : List Int) (e : Ending) (w' : World) : Prop :=
  ∃ aN cN aO cO, e = .returned (.agg #[.int .i64 b, .slice aN n cN, .slice aO n cO]) ∧ OutNew w n RN RO aN aO w' ∧ Below w.heap.size w w'
theorem rdO_take {b : Int} {N : List (List Int)} {O : List Int} {i : Nat} (hi : i < (rdL b N).length) : (rdO b N O).take (i + 1) = (rdO b N O).take i ++ [sayS O ((rdL b N).getD i 0)] := by
  have h : (rdO b N O).getD i 0 = sayS O ((rdL b N).getD i 0) := by unfold rdO; exact map_at _ _ _ 0 _ hi
  rw [take_snocV (by rw [rdO_len]; exact hi), h]
theorem sayS_bd {b : Int} {N : List (List Int)} {O : List Int} (h : outC b N O = 0) {i s : Nat} (hs : s ∈ outG (dW b N) (kindsI b).toNat 64 i) : -1 ≤ sayS O s ∧ sayS O s ≤ 9 := by
  obtain ⟨-, -, -, -, hG, hO⟩ := outC_zero h
  unfold sayS
  rcases (rd_mem h hs).1 with ⟨e, -⟩ | ⟨e, -⟩ | ⟨e1, e2, -⟩
  · rw [if_pos e]; decide
  · rw [if_neg (by omega), e]
    have := hO 0 hG.2.1
    have e3 : (bgn (-1)).toNat = 0 := rfl
    rw [e3]
    omega
  · rw [if_neg (by omega)]
    unfold bgn
    rw [if_neg (by omega)]
    have := hO (spA s).toNat (by omega)
    omega
theorem slN_keep {base : Nat} {W W' : World} {a : Option Addr} {len : Nat} {l : List Int} (h : SlN base W a len l) (hk : ∀ x, base ≤ x → x < W.heap.size → W'.heap[x]? = W.heap[x]?) : Sl W' a len l := by
  obtain ⟨⟨h1, h2, h3, h4⟩, h5⟩ := h
  refine ⟨h1, h2, h3, ?_⟩
  rcases h4 with h4 | ⟨b, o, rfl, h4⟩
  · exact .inl h4
  · refine .inr ⟨b, o, rfl, fun i hi => ?_⟩
    rw [← h4 i hi]
    have hlt : b < W.heap.size := World.block_lt_of_cell? W _ (h4 i hi)
    simp only [World.cell?, hk b (h5 _ rfl) hlt]
set_option maxHeartbeats 8000000 in
set_option maxRecDepth 8000 in
theorem ofAllWords_any (b : Int) (a : Option Addr) (n cap : Nat) (ao : Option Addr) (no co : Nat) (N : List (List Int)) (O : List Int) (w : World) (hs : Sl2 w a n N) (ho : Sl w ao no O) (hC : outC b N O = 0) :
    Calls Tryd.prog 36 #[outV b a n cap ao no co] w (OawR w b (rdL b N).length (rdN b N) (rdO b N O)) := by
  obtain ⟨h1, h2, h20, hO, hG, hrange⟩ := outC_zero hC
  have hL := hs.1
  have hLo := ho.1
  obtain ⟨k1, k2, k3⟩ := kinds_nat h1 h2
  have hB0 := below_two w (.cells #[.int .i64 b, .slice a n cap, .slice ao no co] 25) (.cells #[.int .i64 0, .slice none 0 0, .slice none 0 0] 25)
  have HB0 := hide hB0
  have HX1 := hide (heap_alloc2_fst w (.cells #[.int .i64 b, .slice a n cap, .slice ao no co] 25) (.cells #[.int .i64 0, .slice none 0 0, .slice none 0 0] 25))
  have HX2 := hide (heap_alloc2_snd w (.cells #[.int .i64 b, .slice a n cap, .slice ao no co] 25) (.cells #[.int .i64 0, .slice none 0 0, .slice none 0 0] 25))
  generalize hwb : (w.alloc (.cells #[.int .i64 b, .slice a n cap, .slice ao no co] 25)).alloc (.cells #[.int .i64 0, .slice none 0 0, .slice none 0 0] 25) = wb at hB0 HB0 HX1 HX2
  have HSW := hide (fun W (h : Below wb.heap.size wb W) => sl2_below (sl2_below hs hB0) h)
  have HOW := hide (fun W (h : Below wb.heap.size wb W) => sl_below (sl_below ho hB0) h)
  have hsp : spU 64 = .agg #[.int .i64 (-1), .int .i64 0] := rfl
  have hM := meet_any 60 #[.pointer (some ⟨w.heap.size, 0, none⟩)] (kindsI b).toNat 64 (dW b N) wb (by decide) (by omega) (by omega) (enters_of Tryd.func60 (by kernel_rfl) rfl) (fun i x hx => rd_lt hC hx) (fun W s l i hW hsm hl => by
    have hm := (rd_mem hC hsm).1
    exact oawStep_any b a n cap ao no co N (kindsI b).toNat w.heap.size s l W ((hW.block _ (Array.getElem?_eq_some_iff.1 HX1.out).1).trans HX1.out) (HSW.out W hW) (by rw [hL] at hG; exact hG) (by omega) (by omega) (by omega) hl)
  rw [hsp, k3] at hM
  have eL : outG (dW b N) (kindsI b).toNat 64 spotM = rdL b N := rfl
  have eN : gN (dW b N) (kindsI b).toNat (rdL b N) = rdN b N := rfl
  rw [eL, eN] at hM
  unfold MeetR at hM
  have HM := hide hM
  have HK := hide (fun W => kinds_any b W h1 h2)
  have HBEG := hide (fun A W => wbegun_any A W)
  obtain ⟨hc, p0, hf42, -⟩ := rd_open hC
  have HLN : Hid ((rdN b N).length = (rdL b N).length) := rdN_len b N
  have HLO : Hid ((rdO b N O).length = (rdL b N).length) := rdO_len b N O
  have HTK := hide (fun i (hi : i < (rdL b N).length) => rdO_take (b := b) (N := N) (O := O) hi)
  have HMEM : Hid (∀ s, s ∈ rdL b N → (spA s = -2 ∨ spA s = -1 ∨ (0 ≤ spA s ∧ spA s < (n : Int))) ∧ -1 ≤ sayS O s ∧ sayS O s ≤ 9) := fun s hsm => by
    unfold rdL at hsm
    have := (rd_mem hC hsm).1
    exact ⟨by omega, sayS_bd hC hsm⟩
  have HSAY : Hid (∀ s, sayS O s = if spA s = -2 then -1 else O.getD (bgn (spA s)).toNat 0) := fun s => rfl
  have HNO : Hid (no = n) := by show _ = _; omega
  have HPOS : Hid (0 < n) := by have := hG.2.1; show 0 < n; omega
  clear hs ho hC hG hrange hO hL hLo h20 hB0 hM hsp eL eN hc p0 h1 h2
  generalize rdL b N = L at *
  generalize rdN b N = RN at *
  generalize rdO b N O = RO at *
  generalize sayS O = sy at *
  obtain ⟨⟨p0, p1, p2⟩, -⟩ := box3_cells HX1.out
  unfold outV
  go_enter Tryd.func36, Tryd.ntmps36
  go_wp2_with (go_at_call 16; refine (HK.out _).mono ?_; rintro e w' ⟨rfl, hw'⟩; rw [hw']; clear hw' w')
  clear hwb p0 p1 p2
  refine HM.out.mono ?_
  rintro e w2 ⟨g, cq, aN, cN, rfl, hnew, hb2⟩
  obtain ⟨hq, hsn⟩ := hnew w2 (fun _ _ _ => rfl)
  rw [HLN.out] at hsn ⊢
  have HNEW := hide hnew
  have HSZB : Hid (w.heap.size + 1 < wb.heap.size) := (Array.getElem?_eq_some_iff.1 HX2.out).1
  have HQ := hide hq
  have HSN := hide hsn
  have HB2 := hide hb2
  have HX1b := hide ((hb2.block _ (Array.getElem?_eq_some_iff.1 HX1.out).1).trans HX1.out)
  have HX2b := hide ((hb2.block _ (Array.getElem?_eq_some_iff.1 HX2.out).1).trans HX2.out)
  have HFLD : Hid (FldI w2 w2.heap.size 2 (fun v => .cells #[.int .i64 b, .slice aN L.length cN, v] 25) 3 [] (.slice none 0 0) (w2.alloc (.cells #[.int .i64 b, .slice aN L.length cN, .slice none 0 0] 25))) := ⟨heap_alloc_last _ _, World.ownsRow_nil _ _ _ _, (Below.refl _ _).alloc (Nat.le_refl _) _, Nat.le_refl _, put3 _ _ _ _⟩
  obtain ⟨⟨p0, p1, p2⟩, -⟩ := box3_cells HX1b.out
  clear hnew hb2 hq hsn HM HX1 HX2
  go_wp2
  clear p0 p1 p2
  generalize w2.alloc (.cells #[.int .i64 b, .slice aN L.length cN, .slice none 0 0] 25) = w3 at HFLD ⊢
  obtain ⟨l0, hl0, hv0, hv1, hv2⟩ := info_parts info3
  go_loopw [24] (fun iv wx => ∃ (i : Nat) (vO : Value), i ≤ L.length ∧ iv = .int .i64 i ∧ FldI w2 w2.heap.size 2 (fun v => .cells #[.int .i64 b, .slice aN L.length cN, v] 25) 3 ((RO.take i).map (Value.int .i64)) vO wx) (fun iv _ => L.length - (intOf iv).toNat)
  case atStart => exact ⟨0, .slice none 0 0, by omega, rfl, HFLD.out⟩
  case round =>
    obtain ⟨i, vO, hi, rfl, hfld⟩ := hrel
    have HFL := hide hfld
    have HTL : Hid (((RO.take i).map (Value.int .i64)).length = i) := by show _ = _; rw [List.length_map, List.length_take, HLO.out]; omega
    have HBR := hide hfld.bel
    clear hfld HFLD
    by_cases hlt : i < L.length
    · have hlti : (i : Int) < (L.length : Int) := by omega
      obtain ⟨c0, c1⟩ := queW_at (queW_kept HQ.out (HBR.out.block _ (queW_lt HQ.out))) i hlt
      have HMi := hide (HMEM.out _ (getN_mem hlt))
      have HTKi := hide (HTK.out i hlt)
      have HSYi := hide (HSAY.out (L.getD i 0))
      generalize L.getD i 0 = s at c0 c1 HMi HTKi HSYi
      have HWP := hide ((Below.refl wr.heap.size wr).alloc (Nat.le_refl _) (.cells #[.int .i64 (spA s), .int .i64 (spB s)] 81))
      have HT7 := hide (heap_alloc_last wr (.cells #[.int .i64 (spA s), .int .i64 (spB s)] 81))
      generalize spB s = C at c1 HWP HT7
      go_upto_region 6 with fail
      clear c0 c1
      obtain ⟨wp, hwp⟩ : ∃ wp, wr.alloc (.cells #[.int .i64 (spA s), .int .i64 C] 81) = wp := ⟨_, rfl⟩
      rw [hwp] at HWP HT7 ⊢
      clear hwp
      obtain ⟨X7, hX7⟩ : ∃ X, X = wr.heap.size := ⟨_, rfl⟩
      rw [← hX7] at HT7 ⊢
      clear hX7
      have HF1 := hide (fld_below HFL.out HWP.out)
      have HB2r := hide (below_step HBR.out HWP.out)
      obtain ⟨⟨t0, t1⟩, -⟩ := box2_cells HT7.out
      clear HWP HT7 HFL HBR
      by_cases hA2 : spA s = -2
      · have hsy : sy s = -1 := by rw [HSYi.out, if_pos hA2]
        have hA' : (spA s == -2) = true := by simp [hA2]
        rw [hsy] at HTKi
        have HOWN := hide HF1.out.own
        rw [HTL.out] at HOWN
        have HSZ : Hid (w2.heap.size + 1 ≤ wp.heap.size) := (Array.getElem?_eq_some_iff.1 HF1.out.box).1
        obtain ⟨⟨b0, b1, b2⟩, -⟩ := box3_cells HF1.out.box
        clear hA2 hsy HSYi HMi
        generalize spA s = A at t0 hA' ⊢
        go_wp2_with (at_builtin; refine wpList_append_own _ rfl _ _ 23 rfl (w2.heap.size + 1) 3 l0 (.int .i64 0) 1 8 Tryd.underlying23 hl0 hv0 hv1 hv2 rfl (by decide) vO i _ rfl (HOWN.out.alloc _) ⟨wp.heap.size, 0, none⟩ 1 1 [.int .i64 (-1)] rfl rfl (one_new _ _ _) (fun u hu => by simp at hu; subst hu; rfl) (by unfold maxLen; omega) (by omega) (by have := HSZ.out; simp; omega) ?_; intro v3 w5 hown hgrow hnil; obtain ⟨a3, c3, rfl⟩ := owns_sl hown; have hp := fld_push (u := .int .i64 (-1)) HF1.out (by rw [HTL.out]; exact hown) hgrow; have HFN := hide hp.2; obtain ⟨⟨e0, e1, e2⟩, ef⟩ := box3_cells hp.1; clear hown hgrow hnil hp)
        go_roundw
        case rel => exact ⟨i + 1, _, by omega, by go_num, by rw [HTKi.out, List.map_append]; exact HFN.out⟩
        case measure => simp [intOf]; omega
      · have hA' : (spA s == -2) = false := by simp [hA2]
        have HX1c := hide ((HB2r.out.block _ (Array.getElem?_eq_some_iff.1 HX1b.out).1).trans HX1b.out)
        obtain ⟨⟨p0, p1, p2⟩, -⟩ := box3_cells HX1c.out
        obtain ⟨j, hj, hbj⟩ : ∃ j : Nat, j < n ∧ bgn (spA s) = (j : Int) := by
          have h := HMi.out.1
          have := HPOS.out
          refine ⟨(bgn (spA s)).toNat, ?_, ?_⟩ <;> (unfold bgn; split <;> omega)
        have HSY2 := hide HSYi.out
        rw [if_neg hA2, hbj, Int.toNat_natCast] at HSY2
        have HBGs := hide (fun W => HBEG.out (spA s) W)
        rw [hbj] at HBGs
        obtain ⟨bo, oo, hao, hco⟩ := sl_cell (HOW.out wp (below_step HB2.out HB2r.out)) j (by rw [HNO.out]; exact hj)
        have hjn : (j : Int) < (no : Int) := by have := HNO.out; omega
        rw [← HSY2.out] at hco
        rw [hao] at p2
        clear hao
        have HSb := hide HMi.out.2
        clear hA2 HSYi HMi HSY2 hbj
        generalize sy s = z at hco HTKi HSb
        generalize spA s = A at t0 hA' HBGs ⊢
        go_wp2_with fail
        go_quiet (first | (go_at_call 62; refine Calls.quiet_of_same (HBGs.out _)))
        have HF2 := hide (fld_below HF1.out (below_drewN (Below.refl wp.heap.size wp) nq))
        generalize wp.drewN nq = wd at HF2 ⊢
        have HOWN := hide HF2.out.own
        rw [HTL.out] at HOWN
        have HSZ : Hid (w2.heap.size + 1 ≤ wd.heap.size) := (Array.getElem?_eq_some_iff.1 HF2.out.box).1
        obtain ⟨⟨b0, b1, b2⟩, -⟩ := box3_cells HF2.out.box
        clear t0 t1 p0 p1 p2 hco
        go_wp2_with (at_builtin; refine wpList_append_own _ rfl _ _ 23 rfl (w2.heap.size + 1) 3 l0 (.int .i64 0) 1 8 Tryd.underlying23 hl0 hv0 hv1 hv2 rfl (by decide) vO i _ rfl (HOWN.out.alloc _) ⟨wd.heap.size, 0, none⟩ 1 1 [.int .i64 z] rfl rfl (one_new _ _ _) (fun u hu => by simp at hu; subst hu; rfl) (by unfold maxLen; omega) (by omega) (by have := HSZ.out; simp; omega) ?_; intro v3 w5 hown hgrow hnil; obtain ⟨a3, c3, rfl⟩ := owns_sl hown; have hp := fld_push (u := .int .i64 z) HF2.out (by rw [HTL.out]; exact hown) hgrow; have HFN := hide hp.2; obtain ⟨⟨e0, e1, e2⟩, ef⟩ := box3_cells hp.1; clear hown hgrow hnil hp)
        go_roundw
        case rel => exact ⟨i + 1, _, by omega, by go_num, by rw [HTKi.out, List.map_append]; exact HFN.out⟩
        case measure => simp [intOf]; omega
    · have hlti : ¬ (i : Int) < (L.length : Int) := by omega
      obtain rfl : i = L.length := by omega
      have hfull : RO.take L.length = RO := List.take_of_length_le (by rw [HLO.out]; exact Nat.le_refl _)
      have hown := HFL.out.own
      rw [HTL.out, hfull] at hown
      have HWF : Hid (∀ y ∈ RO, (Lit.int .i64 y).wf = true) := fun y hy => by
        obtain ⟨j, hj, rfl⟩ := List.getElem_of_mem hy
        have hj' : j < L.length := by rw [HLO.out] at hj; exact hj
        have h1 := HTK.out j hj'
        have h2 : RO.getD j 0 = sy (L.getD j 0) := by
          rw [take_snocV hj] at h1
          have := List.append_cancel_left h1
          simpa using this
        have h3 := (HMEM.out _ (getN_mem hj')).2
        rw [getD_at _ j hj] at h2
        rw [h2]
        exact WalkArith.wf_i64 (by omega)
      obtain ⟨aO, cO, rfl, hso⟩ := sl_of_owns HLO.out (by unfold maxLen; omega) HWF.out hown
      have HSZW : Hid (w.heap.size + 1 < w2.heap.size) := (Array.getElem?_eq_some_iff.1 HX2b.out).1
      have HOF : Hid (∀ W' : World, (∀ x, w.heap.size + 2 ≤ x → x < wr.heap.size → W'.heap[x]? = wr.heap[x]?) → Sl2 W' aN L.length RN ∧ Sl W' aO L.length RO) := fun W' hW' => by
        have h1 := HSZW.out
        have h2 := HSZB.out
        have h3 := HBR.out.size
        have h := HNEW.out W' (fun x hx hxl => by
          rw [hW' x (by omega) (by omega)]
          exact HBR.out.block x hxl)
        rw [HLN.out] at h
        exact ⟨h.2, slN_keep hso (fun x hx hxl => hW' x (by omega) hxl)⟩
      obtain ⟨⟨b0, b1, b2⟩, -⟩ := box3_cells HFL.out.box
      have hr := (HBR.out.block _ (Array.getElem?_eq_some_iff.1 HX2b.out).1).trans HX2b.out
      obtain ⟨⟨r0, r1, r2⟩, rf⟩ := box3_cells hr
      have HR := hide hr
      have HBF := hide (below_step HB2.out HBR.out)
      clear hown hso hr hfull HFL
      go_wp2
      obtain ⟨hset, hbel⟩ := box3_set (v0 := .int .i64 b) (v1 := .slice aN L.length cN) (v2 := .slice aO L.length cO) HR.out rfl
      obtain ⟨⟨z0, z1, z2⟩, -⟩ := box3_cells hset
      have HWT := HSZW.out
      have hbF := hbel w w.heap.size (below_step HB0.out HBF.out) (by omega)
      have hk : ∀ x, x ≠ w.heap.size + 1 → (((wr.setCell ⟨w.heap.size + 1, 0, none⟩ (.int .i64 b)).setCell ⟨w.heap.size + 1, 1, none⟩ (.slice aN L.length cN)).setCell ⟨w.heap.size + 1, 2, none⟩ (.slice aO L.length cO)).heap[x]? = wr.heap[x]? := fun x hx => by
        rw [Below.heap_setCell _ _ _ _ hx, Below.heap_setCell _ _ _ _ hx, Below.heap_setCell _ _ _ _ hx]
      exact bodyPost_ret (v := .agg #[.int .i64 b, .slice aN L.length cN, .slice aO L.length cO]) (by simp [results, Tryd.results36, go_sem, z0, z1, z2]) rfl ⟨aN, cN, aO, cO, rfl, fun W' hW' => HOF.out W' (fun x hx hxl => by rw [hW' x (by omega) (by simpa [World.setCell] using hxl), hk x (by omega)]), hbF⟩
end Go.Proofs.YtgbmemkoggogdaaDoor

/- word.Is: contract. -/
namespace Go.Proofs.YtgbmemkoggogdaaDoor
open Go.RowKit

theorem take_at {α : Type} (l : List α) (i : Nat) (d : α) (h : i < l.length) : l.take (i + 1) = l.take i ++ [l.getD i d] := by
  rw [List.take_succ_eq_append_getElem h]
  congr 2
  simp [List.getD, h]
end Go.Proofs.YtgbmemkoggogdaaDoor

/- The closure of word.alike, whatever parts the letters: contract. -/
namespace Go.Proofs.YtgbmemkoggogdaaDoor
open Go.RowKit

theorem box1_cellW {W : World} {B : Nat} {v0 : Value} {T : TypeId} (h : W.heap[B]? = some (.cells #[v0] T (0, 0))) : W.cell? ⟨B, 0, none⟩ = some v0 := by simp [World.cell?, h]
theorem cell_two {W : World} {B : Nat} {p : Addr} {u v : Value} (h : p.block ≠ B) : ((W.setCell ⟨B, 0, none⟩ u).setCell ⟨B, 1, none⟩ v).drew.cell? p = W.cell? p := by
  have e : ((W.setCell ⟨B, 0, none⟩ u).setCell ⟨B, 1, none⟩ v).heap[p.block]? = W.heap[p.block]? := by rw [Below.heap_setCell _ _ _ _ h, Below.heap_setCell _ _ _ _ h]
  show ((W.setCell ⟨B, 0, none⟩ u).setCell ⟨B, 1, none⟩ v).cell? p = W.cell? p
  simp only [World.cell?, e]
abbrev fnV (f : FuncId) (cs : Array Value) : Value := .func (.func f) #[] cs
set_option maxHeartbeats 8000000 in
set_option maxRecDepth 4000 in
theorem likeStep_any (f : FuncId) (cs : Array Value) (u v : Nat → Nat) (b : Int) (a : Option Addr) (n cap : Nat) (ao : Option Addr) (no co : Nat) (b2 : Int) (a2 : Option Addr) (n2 cap2 : Nat) (ao2 : Option Addr) (no2 co2 : Nat) (R R2 : List (List Int)) (k B0 B1 B3 s l : Nat) (w : World)
    (hen : ∀ (args : Array Value) (W : World), (callFunc f args).run Tryd.prog W = .ok (.enter f args) W)
    (hF : ∀ (W : World), Below w.heap.size w W → Calls Tryd.prog f (#[.int .i64 (l : Int)] ++ cs) W (fun e W' => e = .returned (.tuple #[.int .i64 ((u l : Nat) : Int), .int .i64 ((v l : Nat) : Int)]) ∧ Below W.heap.size W W'))
    (hx0 : w.heap[B0]? = some (.cells #[fnV f cs] 54)) (hx1 : w.heap[B1]? = some (.cells #[.int .i64 b, .slice a n cap, .slice ao no co] 25)) (hx3 : w.heap[B3]? = some (.cells #[.int .i64 b2, .slice a2 n2 cap2, .slice ao2 no2 co2] 25))
    (hs : Sl2 w a n R) (hs2 : Sl2 w a2 n2 R2) (hG : GoodN k n R) (hG2 : GoodN k n2 R2) (hn : n ≤ 42) (hn2 : n2 ≤ 42) (hA : 0 ≤ spA s ∧ spA s < (n : Int)) (hB : 0 ≤ spB s ∧ spB s < (n2 : Int)) (hu : u l < k) (hv : v l < k) :
    Calls Tryd.prog 38 #[spU s, .int .i64 (l : Int), .pointer (some ⟨B0, 0, none⟩), .pointer (some ⟨B1, 0, none⟩), .pointer (some ⟨B3, 0, none⟩)] w fun e w' => e = .returned (spU (dUV u v R R2 s l)) ∧ Below w.heap.size w w' := by
  have hb0 := below_two w (.cells #[.int .i64 (spA s), .int .i64 (spB s)] 81) (.cells #[.int .i64 0, .int .i64 0] 81)
  have h1 := heap_alloc2_fst w (.cells #[.int .i64 (spA s), .int .i64 (spB s)] 81) (.cells #[.int .i64 0, .int .i64 0] 81)
  have h2 := heap_alloc2_snd w (.cells #[.int .i64 (spA s), .int .i64 (spB s)] 81) (.cells #[.int .i64 0, .int .i64 0] 81)
  obtain ⟨A, hAe⟩ : ∃ A : Nat, spA s = (A : Int) := ⟨(spA s).toNat, by omega⟩
  obtain ⟨C, hCe⟩ : ∃ C : Nat, spB s = (C : Int) := ⟨(spB s).toNat, by omega⟩
  have g1 := (hG.2.2.2.2.2 A (by omega)).2 (u l) hu
  have g2 := (hG2.2.2.2.2.2 C (by omega)).2 (v l) hv
  have hres : spU (dUV u v R R2 s l) = .agg #[.int .i64 ((R.getD A []).getD (u l) 0), .int .i64 ((R2.getD C []).getD (v l) 0)] := by
    have hsp := sp_back (a := (R.getD A []).getD (u l) 0) (c := (R2.getD C []).getD (v l) 0) (by omega) (by omega) (by omega) (by omega)
    unfold spU dUV
    rw [hAe, hCe, Int.toNat_natCast, Int.toNat_natCast, hsp.1, hsp.2.1]
  rw [hres]
  have hAn : A < n := by omega
  have hCn : C < n2 := by omega
  have hAni : (A : Int) < (n : Int) := by omega
  have hCni : (C : Int) < (n2 : Int) := by omega
  have r1 := (hG.2.2.2.2.2 A hAn).1
  have r2 := (hG2.2.2.2.2.2 C hCn).1
  unfold spU
  rw [hAe, hCe] at h1 h2 hb0 ⊢
  have HF := hide (hF _ hb0)
  have t0 : ((w.alloc (.cells #[.int .i64 (A : Int), .int .i64 (C : Int)] 81)).alloc (.cells #[.int .i64 0, .int .i64 0] 81)).cell? ⟨B0, 0, none⟩ = some (fnV f cs) := box1_cellW ((hb0.block _ (Array.getElem?_eq_some_iff.1 hx0).1).trans hx0)
  obtain ⟨bb, o, a1, cc1, rfl, hckw, hsl⟩ := sl2_cell hs A hAn
  rw [r1] at hckw hsl
  obtain ⟨b1, o1, rfl, hcxw⟩ := sl_cell hsl (u l) hu
  obtain ⟨bb2, o2, a3, cc3, rfl, hckw2, hsl2⟩ := sl2_cell hs2 C hCn
  rw [r2] at hckw2 hsl2
  obtain ⟨b3, o3, rfl, hcxw2⟩ := sl_cell hsl2 (v l) hv
  have L1 := (Array.getElem?_eq_some_iff.1 hx1).1
  have L3 := (Array.getElem?_eq_some_iff.1 hx3).1
  have L4 := World.block_lt_of_cell? w _ hckw
  have L5 := World.block_lt_of_cell? w _ hcxw
  have L6 := World.block_lt_of_cell? w _ hckw2
  have L7 := World.block_lt_of_cell? w _ hcxw2
  have HL : Hid (B1 ≠ w.heap.size + 1 ∧ B3 ≠ w.heap.size + 1 ∧ bb ≠ w.heap.size + 1 ∧ b1 ≠ w.heap.size + 1 ∧ bb2 ≠ w.heap.size + 1 ∧ b3 ≠ w.heap.size + 1 ∧ w.heap.size ≠ w.heap.size + 1) := by
    simp only at L4 L5 L6 L7
    refine ⟨?_, ?_, ?_, ?_, ?_, ?_, ?_⟩ <;> omega
  have HCS : Hid (∀ W, Below ((w.alloc (.cells #[.int .i64 (A : Int), .int .i64 (C : Int)] 81)).alloc (.cells #[.int .i64 0, .int .i64 0] 81)).heap.size ((w.alloc (.cells #[.int .i64 (A : Int), .int .i64 (C : Int)] 81)).alloc (.cells #[.int .i64 0, .int .i64 0] 81)) W → (W.cell? ⟨B1, 1, none⟩ = some (.slice (some ⟨bb, o, none⟩) n cap) ∧ W.cell? ⟨w.heap.size, 0, none⟩ = some (.int .i64 (A : Int)) ∧ W.cell? ⟨w.heap.size, 1, none⟩ = some (.int .i64 (C : Int)) ∧ W.cell? ⟨bb, o + A, none⟩ = some (.slice (some ⟨b1, o1, none⟩) k cc1) ∧ W.cell? ⟨b1, o1 + u l, none⟩ = some (.int .i64 ((R.getD A []).getD (u l) 0)) ∧ W.cell? ⟨B3, 1, none⟩ = some (.slice (some ⟨bb2, o2, none⟩) n2 cap2) ∧ W.cell? ⟨bb2, o2 + C, none⟩ = some (.slice (some ⟨b3, o3, none⟩) k cc3) ∧ W.cell? ⟨b3, o3 + v l, none⟩ = some (.int .i64 ((R2.getD C []).getD (v l) 0))) ∧ W.heap[w.heap.size + 1]? = some (.cells #[.int .i64 0, .int .i64 0] 81 (0, 0))) := fun W h => by
    have hbw := below_step hb0 h
    obtain ⟨⟨q0, q1⟩, -⟩ := box2_cells ((h.block _ (Array.getElem?_eq_some_iff.1 h1).1).trans h1)
    obtain ⟨⟨-, p1, -⟩, -⟩ := box3_cells ((hbw.block _ L1).trans hx1)
    obtain ⟨⟨-, u1, -⟩, -⟩ := box3_cells ((hbw.block _ L3).trans hx3)
    exact ⟨⟨p1, q0, q1, (hbw.cell L4).trans hckw, (hbw.cell L5).trans hcxw, u1, (hbw.cell L6).trans hckw2, (hbw.cell L7).trans hcxw2⟩, (h.block _ (Array.getElem?_eq_some_iff.1 h2).1).trans h2⟩
  have HB := hide hb0
  have hdi : ((u l : Nat) : Int) < (k : Int) := by omega
  have hmi : ((v l : Nat) : Int) < (k : Int) := by omega
  clear hs hs2 hG hG2 hsl hsl2 hres g1 g2 r1 r2 hb0 h1 h2 hA hB hx0 hx1 hx3 hAe hCe hu hv hF hckw hcxw hckw2 hcxw2 L1 L3 L4 L5 L6 L7
  generalize (R.getD A []).getD (u l) 0 = y at HCS ⊢
  generalize (R2.getD C []).getD (v l) 0 = z at HCS ⊢
  generalize u l = D at *
  generalize v l = E at *
  go_enter Tryd.func38, Tryd.ntmps38
  go_wp2_with fail
  generalize (w.alloc (.cells #[.int .i64 (A : Int), .int .i64 (C : Int)] 81)).alloc (.cells #[.int .i64 0, .int .i64 0] 81) = w0 at t0 HF HB HCS ⊢
  clear t0
  refine HF.out.mono ?_
  rintro e w1 ⟨rfl, hb1⟩
  obtain ⟨⟨p1, q0, q1, hck, hcx, u1, hck2, hcx2⟩, hz2⟩ := HCS.out w1 hb1
  obtain ⟨⟨z0, z1⟩, zf⟩ := box2_cells hz2
  have HR := hide hz2
  have HB1 := hide (below_step HB.out hb1)
  clear HF hb1 hz2 HCS
  have HKEEP : Hid (∀ x y' : Value, (fun W : World => W.cell? ⟨B1, 1, none⟩ = some (.slice (some ⟨bb, o, none⟩) n cap) ∧ W.cell? ⟨w.heap.size, 0, none⟩ = some (.int .i64 (A : Int)) ∧ W.cell? ⟨w.heap.size, 1, none⟩ = some (.int .i64 (C : Int)) ∧ W.cell? ⟨bb, o + A, none⟩ = some (.slice (some ⟨b1, o1, none⟩) k cc1) ∧ W.cell? ⟨b1, o1 + D, none⟩ = some (.int .i64 y) ∧ W.cell? ⟨B3, 1, none⟩ = some (.slice (some ⟨bb2, o2, none⟩) n2 cap2) ∧ W.cell? ⟨bb2, o2 + C, none⟩ = some (.slice (some ⟨b3, o3, none⟩) k cc3) ∧ W.cell? ⟨b3, o3 + E, none⟩ = some (.int .i64 z)) ((w1.setCell ⟨w.heap.size + 1, 0, none⟩ x).setCell ⟨w.heap.size + 1, 1, none⟩ y').drew) := fun x y' => by
    obtain ⟨n1, n3, n4, n5, n6, n7, n8⟩ := HL.out
    refine ⟨?_, ?_, ?_, ?_, ?_, ?_, ?_, ?_⟩
    · rw [cell_two n1]; exact p1
    · rw [cell_two n8]; exact q0
    · rw [cell_two n8]; exact q1
    · rw [cell_two n4]; exact hck
    · rw [cell_two n5]; exact hcx
    · rw [cell_two n3]; exact u1
    · rw [cell_two n6]; exact hck2
    · rw [cell_two n7]; exact hcx2
  go_upto_region 2 with fail
  go_region_held_law (fun W => W.cell? ⟨B1, 1, none⟩ = some (.slice (some ⟨bb, o, none⟩) n cap) ∧ W.cell? ⟨w.heap.size, 0, none⟩ = some (.int .i64 (A : Int)) ∧ W.cell? ⟨w.heap.size, 1, none⟩ = some (.int .i64 (C : Int)) ∧ W.cell? ⟨bb, o + A, none⟩ = some (.slice (some ⟨b1, o1, none⟩) k cc1) ∧ W.cell? ⟨b1, o1 + D, none⟩ = some (.int .i64 y) ∧ W.cell? ⟨B3, 1, none⟩ = some (.slice (some ⟨bb2, o2, none⟩) n2 cap2) ∧ W.cell? ⟨bb2, o2 + C, none⟩ = some (.slice (some ⟨b3, o3, none⟩) k cc3) ∧ W.cell? ⟨b3, o3 + E, none⟩ = some (.int .i64 z)) (first | exact HKEEP.out _ _ | go_keep) (first | fail)
  all_goals
    go_wp2
    obtain ⟨⟨hset, -, -⟩, hbel⟩ := box2_set (v0 := .int .i64 y) (v1 := .int .i64 z) HR.out rfl
    obtain ⟨⟨z0, z1⟩, -⟩ := box2_cells hset
    exact bodyPost_ret (v := .agg #[.int .i64 y, .int .i64 z]) (by simp [results, Tryd.results38, go_sem, z0, z1]) rfl ⟨rfl, (hbel _ _ HB1.out (by omega)).drew⟩
end Go.Proofs.YtgbmemkoggogdaaDoor
