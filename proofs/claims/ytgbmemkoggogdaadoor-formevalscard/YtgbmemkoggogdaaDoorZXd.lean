/- 4 texts in one. -/
import Derived.Deep.DeepCutAuto
import Derived.Test.YtgbmemkoggogdaaDoorLq
import Derived.Test.YtgbmemkoggogdaaDoorZEg
/- The reference's uses, freeIn, FreeOf: contracts. -/
namespace Go.Proofs.YtgbmemkoggogdaaDoor
open Go.RowKit

theorem box7_cells {W : World} {B : Nat} {v0 v1 v2 v3 v4 v5 v6 : Value} {T : TypeId} (h : W.heap[B]? = some (.cells #[v0, v1, v2, v3, v4, v5, v6] T (0, 0))) : (W.cell? ⟨B, 0, none⟩ = some v0 ∧ W.cell? ⟨B, 1, none⟩ = some v1 ∧ W.cell? ⟨B, 2, none⟩ = some v2 ∧ W.cell? ⟨B, 3, none⟩ = some v3 ∧ W.cell? ⟨B, 4, none⟩ = some v4 ∧ W.cell? ⟨B, 5, none⟩ = some v5 ∧ W.cell? ⟨B, 6, none⟩ = some v6) ∧ ∀ i, W.frozen? ⟨B, i, none⟩ = false := by
  refine ⟨⟨by simp [World.cell?, h], by simp [World.cell?, h], by simp [World.cell?, h], by simp [World.cell?, h], by simp [World.cell?, h], by simp [World.cell?, h], by simp [World.cell?, h]⟩, fun i => by simp [World.frozen?, h]⟩
theorem ne_dec (z : Int) : (z != 0) = decide (z ≠ 0) := by by_cases h : z = 0 <;> simp [h]
abbrev ndO (n : Nd) (a : Option Addr) (c : Nat) : Obj := .cells #[.int .i64 n.op, .int .i64 n.var, .int .i64 n.oth, .int .i64 n.wd, .int .i64 n.wd2, .int .i64 n.num, .slice a n.cf.length c] 65
set_option maxHeartbeats 4000000 in
set_option maxRecDepth 4000 in
theorem uses_any (n : Nd) (a : Option Addr) (c : Nat) (v : Nat) (w : World) (hs : Sl w a n.cf.length n.cf) : Calls Tryd.prog 70 #[ndV n a c, .int .i64 (v : Int)] w fun e w' => e = .returned (.bool (useB n (v : Int))) ∧ Below w.heap.size w w' := by
  have HB := hide ((Below.refl w.heap.size w).alloc (Nat.le_refl _) (ndO n a c))
  obtain ⟨⟨p0, p1, p2, p3, p4, p5, p6⟩, -⟩ := box7_cells (heap_alloc_last w (ndO n a c))
  have hsl := sl_below hs HB.out
  have hmx := hs.2.1
  unfold maxLen at hmx
  have HU : Hid (useB n (v : Int) = if n.op = 1 ∨ n.op = 2 then decide ((v : Int) < (n.cf.length : Int)) && decide (n.cf.getD v 0 ≠ 0) else (decide (n.op = 3 ∨ n.op = 4) && decide (n.var = (v : Int))) || (decide (n.op = 4) && decide (n.oth = (v : Int)))) := rfl
  unfold ndV
  generalize useB n (v : Int) = U at HU ⊢
  generalize hW : w.alloc (ndO n a c) = W at HB p0 p1 p2 p3 p4 p5 p6 hsl
  by_cases h12 : n.op = 1 ∨ n.op = 2
  · have hu := HU.out
    rw [if_pos h12] at hu
    have e1 : (n.op == 1) = true ∨ ((n.op == 1) = false ∧ (n.op == 2) = true) := by
      rcases h12 with h | h
      · exact .inl (by simp [h])
      · exact .inr ⟨by simp [h], by simp [h]⟩
    by_cases hv : v < n.cf.length
    · have hvi : (v : Int) < (n.cf.length : Int) := by omega
      obtain ⟨bo, oo, rfl, hc⟩ := sl_cell hsl v hv
      rw [decide_eq_true hvi, Bool.true_and] at hu
      have hu2 : (n.cf.getD v 0 != 0) = U := by rw [hu]; exact ne_dec _
      clear hu HU h12 hsl hs
      generalize n.cf.getD v 0 = z at hc hu2
      rcases e1 with e1 | ⟨e1, e2⟩
      all_goals
        go_enter Tryd.func70, Tryd.ntmps70
        go_wp2
        go_ret
        exact ⟨rfl, HB.out⟩
    · have hvi : ¬ (v : Int) < (n.cf.length : Int) := by omega
      rw [decide_eq_false hvi, Bool.false_and] at hu
      clear HU h12 hsl hs
      subst hu
      rcases e1 with e1 | ⟨e1, e2⟩
      all_goals
        go_enter Tryd.func70, Tryd.ntmps70
        go_wp2
        go_ret
        exact ⟨rfl, HB.out⟩
  · have hu := HU.out
    rw [if_neg h12] at hu
    have e1 : (n.op == 1) = false := by simp; omega
    have e2 : (n.op == 2) = false := by simp; omega
    clear HU hsl hs h12
    by_cases h3 : n.op = 3
    · have e3 : (n.op == 3) = true := by simp [h3]
      have e4 : (n.op == 4) = false := by simp [h3]
      have hu2 : (n.var == (v : Int)) = U := by rw [hu]; by_cases h : n.var = (v : Int) <;> simp [h, h3]
      clear hu h3
      cases U
      all_goals
        go_enter Tryd.func70, Tryd.ntmps70
        go_wp2
        go_ret
        exact ⟨rfl, HB.out⟩
    · by_cases h4 : n.op = 4
      · have e3 : (n.op == 3) = false := by simp [h4]
        have e4 : (n.op == 4) = true := by simp [h4]
        by_cases hv : n.var = (v : Int)
        · have ev : (n.var == (v : Int)) = true := by simp [hv]
          have hu2 : true = U := by rw [hu]; simp [hv, h4]
          subst hu2
          clear hu h3 h4 hv
          go_enter Tryd.func70, Tryd.ntmps70
          go_wp2
          go_ret
          exact ⟨rfl, HB.out⟩
        · have ev : (n.var == (v : Int)) = false := by simp [hv]
          have hu2 : (n.oth == (v : Int)) = U := by rw [hu]; by_cases h : n.oth = (v : Int) <;> simp [h, h4, hv]
          clear hu h3 h4 hv
          go_enter Tryd.func70, Tryd.ntmps70
          go_wp2
          go_ret
          exact ⟨rfl, HB.out⟩
      · have e3 : (n.op == 3) = false := by simp [h3]
        have e4 : (n.op == 4) = false := by simp [h4]
        have hu2 : false = U := by rw [hu]; simp [h3, h4]
        subst hu2
        clear hu h3 h4
        go_enter Tryd.func70, Tryd.ntmps70
        go_wp2
        go_ret
        exact ⟨rfl, HB.out⟩
theorem take_kid {l : List Fm} {k : Nat} (h : k < l.length) : ∃ c, c ∈ l ∧ l.take (k + 1) = l.take k ++ [c] ∧ l = l.take k ++ (c :: l.drop (k + 1)) := by
  refine ⟨l[k], List.getElem_mem h, by rw [List.take_succ_eq_append_getElem h], ?_⟩
  rw [← List.drop_eq_getElem_cons h, List.take_append_drop]
set_option maxHeartbeats 8000000 in
set_option maxRecDepth 4000 in
theorem freeIn_any (a : Option Addr) (n cap v : Nat) (ns : List Nd) (hn : n ≤ 40) : ∀ (N : Nat) (t : Fm), t.flat.length ≤ N → t.ok → ∀ (pre post : List Nd) (w : World), ns = pre ++ (t.flat ++ post) → SlF w a n ns → Calls Tryd.prog 44 #[.slice a n cap, .int .i64 (pre.length : Int), .int .i64 (v : Int)] w fun e w' => e = .returned (.bool (t.fre (v : Int))) ∧ Below w.heap.size w w' := by
  intro N
  induction N with
  | zero => intro t htl; have := flat_pos t; omega
  | succ N ih =>
    intro t htl hok pre post w he hs
    obtain ⟨-, hkl, hkok⟩ := ok_node hok
    have hL := hs.1
    have hfl := flat_node t
    have hpn : pre.length < n := by rw [← hL, he, hfl]; simp <;> omega
    have hget : ns.getD pre.length zNd = t.node := by rw [he, hfl]; simp [List.getD]
    obtain ⟨bb, oo, a', c', ha, x0, x1, x2, x3, x4, x5, x6, hsl⟩ := slF_cell hs pre.length hpn
    subst ha
    rw [hget] at x0 x1 x2 x3 x4 x5 x6 hsl
    have hB1 := (Below.refl w.heap.size w).alloc (Nat.le_refl _) (ndO t.node a' c')
    have HB1 := hide hB1
    have HX := hide (heap_alloc_last w (ndO t.node a' c'))
    have HS1 := hide (slF_below hs hB1)
    have HUS := hide (uses_any t.node a' c' v (w.alloc (ndO t.node a' c')) (sl_below hsl hB1))
    unfold ndV at HUS
    have HF := hide (fre_node t (v : Int))
    have HIH : Hid (∀ (k : Nat), k < t.kids.length → ∃ c, t.kids.take (k + 1) = t.kids.take k ++ [c] ∧ (flatL (t.kids.take (k + 1))).length = (flatL (t.kids.take k)).length + c.flat.length ∧ pre.length + 1 + (flatL (t.kids.take k)).length + c.flat.length ≤ n ∧ ∀ W, SlF W (some ⟨bb, oo, none⟩) n ns → (Calls Tryd.prog 44 #[.slice (some ⟨bb, oo, none⟩) n cap, .int .i64 ((pre.length + 1 + (flatL (t.kids.take k)).length : Nat) : Int), .int .i64 (v : Int)] W fun e w' => e = .returned (.bool (c.fre (v : Int))) ∧ Below W.heap.size W w') ∧ (Calls Tryd.prog 46 #[.slice (some ⟨bb, oo, none⟩) n cap, .int .i64 ((pre.length + 1 + (flatL (t.kids.take k)).length : Nat) : Int)] W fun e w' => e = .returned (.int .i64 ((pre.length + 1 + (flatL (t.kids.take k)).length + c.flat.length : Nat) : Int)) ∧ w' = W)) := fun k hk => by
      obtain ⟨c, hc, h1, h2⟩ := take_kid hk
      have hns : ns = (pre ++ (t.node :: flatL (t.kids.take k))) ++ (c.flat ++ (flatL (t.kids.drop (k + 1)) ++ post)) := by
        rw [he, hfl]
        have h3 : flatL t.kids = flatL (t.kids.take k) ++ (c.flat ++ flatL (t.kids.drop (k + 1))) := by
          rw [← flatL_cons, ← flatL_append, ← h2]
        rw [h3]
        simp
      have hlen : (pre ++ (t.node :: flatL (t.kids.take k))).length = pre.length + 1 + (flatL (t.kids.take k)).length := by simp <;> omega
      refine ⟨c, h1, by rw [h1, flatL_append, List.length_append]; simp [flatL], by rw [← hL, hns, List.length_append, hlen, List.length_append]; omega, fun W hW => ⟨?_, ?_⟩⟩
      · have := ih c (by have := kid_lt hc; omega) (hkok c hc) _ _ W hns hW
        rw [hlen] at this
        exact this
      · have := endOf_any _ n cap ns W hW hn _ _ c (hkok c hc) hns
        rw [hlen] at this
        exact this
    have HKL := hide hkl
    have HPO := hide (fun W => partsOf_any t.node.op W)
    have HAT : Hid (t.kids.take t.kids.length = t.kids) := List.take_length
    clear hs hsl hok hkok hfl hget he ih hB1 htl hL
    generalize t.fre (v : Int) = FR at HF ⊢
    generalize useB t.node (v : Int) = U at HF HUS
    rw [← hkl] at HPO
    generalize t.kids = ks at *
    generalize t.node = nd at *
    generalize pre.length = p at *
    generalize hW1 : w.alloc (ndO nd a' c') = W1 at HB1 HX HS1 HUS
    obtain ⟨⟨z0, z1, z2, z3, z4, z5, z6⟩, -⟩ := box7_cells HX.out
    have HZ : Hid (∀ W, Below W1.heap.size W1 W → W.cell? ⟨w.heap.size, 0, none⟩ = some (.int .i64 nd.op) ∧ True) := fun W h => ⟨(box7_cells ((h.block _ (Array.getElem?_eq_some_iff.1 HX.out).1).trans HX.out)).1.1, trivial⟩
    go_enter Tryd.func44, Tryd.ntmps44
    go_upto_region 2 with fail
    clear hW1 x0 x1 x2 x3 x4 x5 x6
    go_cut [28] (fun s wx => s = .bool (decide ((nd.op = 8 ∨ nd.op = 9) ∧ nd.var = (v : Int))) ∧ W1 = wx)
    case first =>
      by_cases h8 : nd.op = 8
      · have e8 : (nd.op == 8) = true := by simp [h8]
        have e : decide ((nd.op = 8 ∨ nd.op = 9) ∧ nd.var = (v : Int)) = (nd.var == (v : Int)) := by rw [h8]; simp; rfl
        have HEQ := hide e
        clear h8 e
        go_wp2
        go_meet
        case rel => exact ⟨by rw [HEQ.out], rfl⟩
      · have e8 : (nd.op == 8) = false := by simp [h8]
        by_cases h9 : nd.op = 9
        · have e9 : (nd.op == 9) = true := by simp [h9]
          have e : decide ((nd.op = 8 ∨ nd.op = 9) ∧ nd.var = (v : Int)) = (nd.var == (v : Int)) := by rw [h9]; simp; rfl
          have HEQ := hide e
          clear h8 h9 e
          go_wp2
          go_meet
          case rel => exact ⟨by rw [HEQ.out], rfl⟩
        · have e9 : (nd.op == 9) = false := by simp [h9]
          have e : decide ((nd.op = 8 ∨ nd.op = 9) ∧ nd.var = (v : Int)) = false := by simp [h8, h9]
          have HEQ := hide e
          clear h8 h9 e
          go_wp2
          go_meet
          case rel => exact ⟨by rw [HEQ.out], rfl⟩
    case rest =>
      obtain ⟨rfl, rfl⟩ := hcut
      by_cases hbl : (nd.op = 8 ∨ nd.op = 9) ∧ nd.var = (v : Int)
      · have hf := HF.out
        rw [if_pos hbl] at hf
        rw [decide_eq_true hbl]
        have HFR := hide hf
        clear hbl hf HF
        go_wp2
        go_ret
        exact ⟨by rw [HFR.out]; rfl, HB1.out⟩
      · have hf := HF.out
        rw [if_neg hbl] at hf
        rw [decide_eq_false hbl]
        have HFR := hide hf
        clear hbl hf HF
        go_wp2_with fail
        refine HUS.out.mono ?_
        rintro e w2 ⟨rfl, hb2⟩
        have HB2 := hide hb2
        clear hb2 z0 z1 z2 z3 z4 z5 z6
        cases U with
        | true =>
          go_wp2
          go_ret
          exact ⟨by rw [HFR.out]; rfl, below_step HB1.out HB2.out⟩
        | false =>
          go_wp2
          go_loopw [1, 9] (fun av kv wx => ∃ k : Nat, k ≤ ks.length ∧ kv = .int .i64 k ∧ av = .int .i64 ((p + 1 + (flatL (ks.take k)).length : Nat) : Int) ∧ (∀ c ∈ ks.take k, c.fre (v : Int) = false) ∧ Below W1.heap.size W1 wx) (fun _ kv _ => ks.length + 1 - (intOf kv).toNat)
          case atStart => exact ⟨0, by omega, rfl, by simp [flatL], fun c hc => by simp at hc, HB2.out⟩
          case round =>
            obtain ⟨k, hk, rfl, rfl, hnf, hb⟩ := hrel
            have HNF := hide hnf
            have HB := hide hb
            obtain ⟨y0, -⟩ := HZ.out wr hb
            clear hnf hb
            have hk2 : ks.length ≤ 2 := by have := HKL.out; have := partsN_le nd.op; omega
            by_cases hlt : k < ks.length
            · have hlti : (k : Int) < (ks.length : Int) := by omega
              obtain ⟨c, h1, h2, h3, h4⟩ := HIH.out k hlt
              obtain ⟨hfi, -⟩ := h4 wr (slF_below HS1.out HB.out)
              have HFI := hide hfi
              have H4 := hide h4
              have HNX : Hid (c.fre (v : Int) = false → ∀ c' ∈ ks.take (k + 1), c'.fre (v : Int) = false) := fun hq c' hc' => by
                rw [h1] at hc'
                rcases List.mem_append.1 hc' with h | h
                · exact HNF.out c' h
                · simp at h; subst h; exact hq
              have HTR : Hid (c.fre (v : Int) = true → FR = true) := fun hq => by
                rw [HFR.out, Bool.false_or, List.any_eq_true]
                exact ⟨c, List.mem_of_mem_take (i := k + 1) (by rw [h1]; simp), hq⟩
              have HLL := hide h2
              clear h1 h2 h4 hfi HNF
              generalize c.fre (v : Int) = q at HFI HNX HTR H4
              generalize (flatL (ks.take k)).length = L at *
              generalize c.flat.length = lc at *
              go_wp2_with (go_at_call 43; refine (HPO.out _).mono ?_; rintro e w' ⟨rfl, hw'⟩; rw [hw']; clear hw' w')
              clear y0
              refine HFI.out.mono ?_
              rintro e w3 ⟨rfl, hb3⟩
              have HB3 := hide (below_step HB.out hb3)
              clear hb3
              cases q with
              | true =>
                go_wp2
                go_ret
                exact ⟨by rw [HTR.out (by trivial)]; rfl, below_step HB1.out HB3.out⟩
              | false =>
                obtain ⟨-, hen⟩ := H4.out w3 (slF_below HS1.out HB3.out)
                have HEN := hide hen
                clear hen
                go_wp2_with (go_at_call 46; refine HEN.out.mono ?_; rintro e w' ⟨rfl, hw'⟩; rw [hw']; clear hw' w')
                go_roundw
                case rel => exact ⟨k + 1, by omega, by go_num, by rw [HLL.out]; congr 2; omega, HNX.out (by trivial), HB3.out⟩
                case measure => simp [intOf]; omega
            · have hlti : ¬ (k : Int) < (ks.length : Int) := by omega
              obtain rfl : k = ks.length := by omega
              have hff : FR = false := by
                rw [HFR.out, Bool.false_or, List.any_eq_false]
                intro c hc
                have := HNF.out c (by rw [HAT.out]; exact hc)
                simp [this]
              have HFF := hide hff
              clear hff
              go_wp2_with (go_at_call 43; refine (HPO.out _).mono ?_; rintro e w' ⟨rfl, hw'⟩; rw [hw']; clear hw' w')
              go_ret
              exact ⟨by rw [HFF.out]; rfl, below_step HB1.out HB.out⟩
end Go.Proofs.YtgbmemkoggogdaaDoor

/- The reference's FreeOf: contract. -/
namespace Go.Proofs.YtgbmemkoggogdaaDoor
open Go.RowKit

def freK (t : Fm) (k : Nat) : List Int := ((List.range k).map fun i : Nat => (i : Int)).filter fun v => t.fre v
theorem freK_five (t : Fm) : freK t 5 = freL t := rfl
theorem freK_succ (t : Fm) (k : Nat) : freK t (k + 1) = if t.fre (k : Int) = true then freK t k ++ [(k : Int)] else freK t k := by
  unfold freK
  rw [List.range_succ, List.map_append, List.filter_append]
  by_cases h : t.fre (k : Int) = true
  · rw [if_pos h]; simp [h]
  · rw [if_neg h]; simp [h]
theorem freK_len (t : Fm) (k : Nat) : (freK t k).length ≤ k := by
  unfold freK
  exact Nat.le_trans (List.length_filter_le _ _) (by simp)
theorem freK_wf (t : Fm) {k : Nat} (h : k ≤ 5) : ∀ x ∈ freK t k, (Lit.int .i64 x).wf = true := fun x hx => by
  unfold freK at hx
  obtain ⟨h1, -⟩ := List.mem_filter.1 hx
  obtain ⟨i, hi, rfl⟩ := List.mem_map.1 h1
  have := List.mem_range.1 hi
  exact WalkArith.wf_i64 (by omega)
set_option maxHeartbeats 4000000 in
set_option maxRecDepth 4000 in
theorem freeOf_any (a : Option Addr) (n cap : Nat) (ns : List Nd) (w : World) (hs : SlF w a n ns) (hn : n ≤ 40) (pre post : List Nd) (t : Fm) (ht : t.ok) (he : ns = pre ++ (t.flat ++ post)) : Calls Tryd.prog 24 #[.slice a n cap, .int .i64 (pre.length : Int)] w (GivesRow w (freL t)) := by
  obtain ⟨l0, hl0, hv0, hv1, hv2⟩ := info_parts info3
  have HFI := hide (fun (v : Nat) W (h : SlF W a n ns) => freeIn_any a n cap v ns hn t.flat.length t (Nat.le_refl _) ht pre post W he h)
  have HS := hide hs
  have HSU := hide (freK_succ t)
  have HLE := hide (freK_len t)
  have HWF := hide (fun k (h : k ≤ 5) => freK_wf t h)
  have H5 := hide (freK_five t)
  clear hs ht he
  generalize pre.length = p at *
  generalize hfr : t.fre = fr at HFI HSU
  generalize freL t = FL at H5 ⊢
  go_enter Tryd.func24, Tryd.ntmps24
  go_wp2
  go_loopw [5, 6] (fun lv kv wx => ∃ k : Nat, k ≤ 5 ∧ kv = .int .i64 k ∧ Grow w (freK t k) lv wx) (fun _ kv _ => 5 - (intOf kv).toNat)
  case atStart => exact ⟨0, by omega, rfl, grow_nil w⟩
  case round =>
    obtain ⟨k, hk, rfl, hgr⟩ := hrel
    have HGR := hide hgr
    have hle := HLE.out k
    clear hgr
    by_cases hlt : (k : Int) < 5
    · have HF := hide (HFI.out k wr (slF_below HS.out HGR.out.2))
      have HS1 := hide (HSU.out k)
      generalize fr (k : Int) = q at HF HS1
      go_wp2_with fail
      refine HF.out.mono ?_
      rintro e w1 ⟨rfl, hb1⟩
      have HG1 := hide (grow_below HGR.out hb1)
      clear hb1
      cases q with
      | true =>
        have hs1 := HS1.out
        rw [if_pos rfl] at hs1
        have HK1 := hide hs1
        clear hs1
        have HOWN := hide HG1.out.1
        have HSZ := hide HG1.out.2.size
        generalize hL : (freK t k).length = L at HOWN hle
        have HLL := hide hL
        clear hL
        go_wp2_with (at_builtin; refine wpList_append_own _ rfl _ _ 23 rfl w.heap.size 3 l0 (.int .i64 0) 1 8 Tryd.underlying23 hl0 hv0 hv1 hv2 rfl (by decide) _ L ((freK t k).map (Value.int .i64)) rfl (HOWN.out.alloc _) ⟨w1.heap.size, 0, none⟩ 1 1 [.int .i64 (k : Int)] rfl rfl (one_new _ _ _) (fun u hu => by simp at hu; subst hu; rfl) (by unfold maxLen; omega) (by omega) (by have := HSZ.out; simp; omega) ?_; intro v3 w6 hown hgrow _)
        go_roundw
        case rel => exact ⟨k + 1, by omega, by go_num, by rw [HK1.out]; exact grow_push HG1.out (by rw [HLL.out]; exact hown) hgrow⟩
        case measure => simp [intOf]; omega
      | false =>
        have hs1 := HS1.out
        rw [if_neg (by decide)] at hs1
        have HK1 := hide hs1
        clear hs1
        go_wp2
        go_roundw
        case rel => exact ⟨k + 1, by omega, by go_num, by rw [HK1.out]; exact HG1.out⟩
        case measure => simp [intOf]; omega
    · obtain rfl : k = 5 := by omega
      have HEND := hide (grow_end HGR.out (by unfold maxLen; omega) (HWF.out 5 (Nat.le_refl _)))
      rw [H5.out] at HEND
      clear hle
      go_wp2
      go_ret
      exact HEND.out
end Go.Proofs.YtgbmemkoggogdaaDoor

/- The reference's NodeFault: contract. -/
namespace Go.Proofs.YtgbmemkoggogdaaDoor
open Go.RowKit

def ndRp (op var oth wd wd2 num : Int) (len : Nat) (sz : Int) : Prop := (1 ≤ op ∧ op ≤ 9) ∧ ((op = 3 ∨ op = 4 ∨ op = 8 ∨ op = 9) → 0 ≤ var ∧ var < 5) ∧ (op = 4 → 0 ≤ oth ∧ oth < 5) ∧ ((op = 3 ∨ op = 4) → 0 ≤ wd ∧ wd < 3) ∧ (op = 4 → 0 ≤ wd2 ∧ wd2 < 3) ∧ (op = 3 → 0 ≤ num ∧ num ≤ 9) ∧ ((op = 1 ∨ op = 2) → len ≤ 5 ∧ sz ≤ 12 ∧ -60 ≤ num ∧ num ≤ 60)
def ndSp (op var oth wd wd2 num : Int) (len : Nat) (last : Int) : Prop := (¬ (op = 3 ∨ op = 4 ∨ op = 8 ∨ op = 9) → var = 0) ∧ (op ≠ 4 → oth = 0 ∧ wd2 = 0) ∧ (¬ (op = 3 ∨ op = 4) → wd = 0) ∧ (¬ (op = 1 ∨ op = 2) → op ≠ 3 → num = 0) ∧ (¬ (op = 1 ∨ op = 2) → len = 0) ∧ (0 < len → last ≠ 0)
theorem ndF_1 {n : Nd} (h : ¬ ndRp n.op n.var n.oth n.wd n.wd2 n.num n.cf.length (absT n.cf n.cf.length)) : ndF n = 1 := by
  unfold ndF; exact if_neg h
theorem ndF_2 {n : Nd} (h : ndRp n.op n.var n.oth n.wd n.wd2 n.num n.cf.length (absT n.cf n.cf.length)) (h2 : ¬ ndSp n.op n.var n.oth n.wd n.wd2 n.num n.cf.length (n.cf.getD (n.cf.length - 1) 0)) : ndF n = 2 := by
  unfold ndF; rw [if_pos (show ndR n from h)]; exact if_neg h2
theorem ndF_0 {n : Nd} (h : ndRp n.op n.var n.oth n.wd n.wd2 n.num n.cf.length (absT n.cf n.cf.length)) (h2 : ndSp n.op n.var n.oth n.wd n.wd2 n.num n.cf.length (n.cf.getD (n.cf.length - 1) 0)) : ndF n = 0 := by
  unfold ndF; rw [if_pos (show ndR n from h)]; exact if_pos h2
set_option maxHeartbeats 40000000 in
set_option maxRecDepth 8000 in
theorem nodeFault_any : NodeSays := by
  intro n a c w hs
  have HB := hide ((Below.refl w.heap.size w).alloc (Nat.le_refl _) (ndO n a c))
  obtain ⟨⟨p0, p1, p2, p3, p4, p5, p6⟩, -⟩ := box7_cells (heap_alloc_last w (ndO n a c))
  have hsl := sl_below hs HB.out
  have hmx := hs.2.1
  unfold maxLen at hmx
  have H1 := hide (@ndF_1 n)
  have H2 := hide (@ndF_2 n)
  have H0 := hide (@ndF_0 n)
  have HSO := hide (sizeOf_any a n.cf.length c n.cf _ hsl)
  have HSZ := hide (sizeI_12 n.cf)
  have HLC := hide (fun i (h : i < n.cf.length) => sl_cell hsl i h)
  unfold ndV
  generalize hW1 : w.alloc (ndO n a c) = W1 at HB p0 p1 p2 p3 p4 p5 p6 hsl HSO HLC
  obtain ⟨op, var, oth, wd, wd2, num, cf⟩ := n
  simp only at p0 p1 p2 p3 p4 p5 p6 H1 H2 H0 HSO HSZ HLC hmx hW1 ⊢
  clear hs hsl
  generalize ndF ⟨op, var, oth, wd, wd2, num, cf⟩ = F at H1 H2 H0 ⊢
  generalize absT cf cf.length = sz at H1 H2 H0 HSZ
  generalize sizeI cf = si at HSO HSZ
  obtain ⟨bL, hbL⟩ : ∃ x, decide (op = 1 ∨ op = 2) = x := ⟨_, rfl⟩
  have HbL := hide hbL
  clear hbL
  obtain ⟨bV, hbV⟩ : ∃ x, decide (op = 3 ∨ op = 4 ∨ op = 8 ∨ op = 9) = x := ⟨_, rfl⟩
  have HbV := hide hbV
  clear hbV
  obtain ⟨bW, hbW⟩ : ∃ x, decide (op = 3 ∨ op = 4) = x := ⟨_, rfl⟩
  have HbW := hide hbW
  clear hbW
  go_enter Tryd.func42, Tryd.ntmps42
  go_upto_region 1 with fail
  clear hW1
  go_cut [3] (fun s wx => s = .bool bL ∧ W1 = wx)
  case first =>
    clear H1 H2 H0
    as_aux_lemma =>
      by_cases h1 : op = 1
      · have eh1 : (op == 1) = true := by simp [h1]
        have nh1 : (op != 1) = false := by simp [h1]
        have HEQ : Hid (bL = true) := by show _ = _; rw [← HbL.out]; exact decide_eq_true (show op = 1 ∨ op = 2 by omega)
        clear h1
        go_wp2_with (go_at_call 69; refine HSO.out.mono ?_; rintro e w' ⟨rfl, hw'⟩; rw [hw']; clear hw' w')
        go_meet
        case rel => exact ⟨by rw [HEQ.out] <;> first | (congr 1; exact decide_eq_true (by omega)) | (congr 1; exact decide_eq_false (by omega)) | (congr 1; simp; omega), rfl⟩
      · have eh1 : (op == 1) = false := by simp [h1]
        have nh1 : (op != 1) = true := by simp [h1]
        by_cases h2 : op = 2
        · have eh2 : (op == 2) = true := by simp [h2]
          have nh2 : (op != 2) = false := by simp [h2]
          have HEQ : Hid (bL = true) := by show _ = _; rw [← HbL.out]; exact decide_eq_true (show op = 1 ∨ op = 2 by omega)
          clear h1 h2
          go_wp2_with (go_at_call 69; refine HSO.out.mono ?_; rintro e w' ⟨rfl, hw'⟩; rw [hw']; clear hw' w')
          go_meet
          case rel => exact ⟨by rw [HEQ.out] <;> first | (congr 1; exact decide_eq_true (by omega)) | (congr 1; exact decide_eq_false (by omega)) | (congr 1; simp; omega), rfl⟩
        · have eh2 : (op == 2) = false := by simp [h2]
          have nh2 : (op != 2) = true := by simp [h2]
          have HEQ : Hid (bL = false) := by show _ = _; rw [← HbL.out]; exact decide_eq_false (show ¬ (op = 1 ∨ op = 2) by omega)
          clear h1 h2
          go_wp2_with (go_at_call 69; refine HSO.out.mono ?_; rintro e w' ⟨rfl, hw'⟩; rw [hw']; clear hw' w')
          go_meet
          case rel => exact ⟨by rw [HEQ.out] <;> first | (congr 1; exact decide_eq_true (by omega)) | (congr 1; exact decide_eq_false (by omega)) | (congr 1; simp; omega), rfl⟩
  case rest =>
    obtain ⟨rfl, rfl⟩ := hcut
    as_aux_lemma =>
      go_upto_region 2 with fail
      go_cut [4] (fun s wx => s = .bool bV ∧ W1 = wx)
      case first =>
        clear H1 H2 H0
        as_aux_lemma =>
          by_cases h3 : op = 3
          · have eh3 : (op == 3) = true := by simp [h3]
            have nh3 : (op != 3) = false := by simp [h3]
            have HEQ : Hid (bV = true) := by show _ = _; rw [← HbV.out]; exact decide_eq_true (show op = 3 ∨ op = 4 ∨ op = 8 ∨ op = 9 by omega)
            clear h3
            go_wp2_with (go_at_call 69; refine HSO.out.mono ?_; rintro e w' ⟨rfl, hw'⟩; rw [hw']; clear hw' w')
            go_meet
            case rel => exact ⟨by rw [HEQ.out] <;> first | (congr 1; exact decide_eq_true (by omega)) | (congr 1; exact decide_eq_false (by omega)) | (congr 1; simp; omega), rfl⟩
          · have eh3 : (op == 3) = false := by simp [h3]
            have nh3 : (op != 3) = true := by simp [h3]
            by_cases h4 : op = 4
            · have eh4 : (op == 4) = true := by simp [h4]
              have nh4 : (op != 4) = false := by simp [h4]
              have HEQ : Hid (bV = true) := by show _ = _; rw [← HbV.out]; exact decide_eq_true (show op = 3 ∨ op = 4 ∨ op = 8 ∨ op = 9 by omega)
              clear h3 h4
              go_wp2_with (go_at_call 69; refine HSO.out.mono ?_; rintro e w' ⟨rfl, hw'⟩; rw [hw']; clear hw' w')
              go_meet
              case rel => exact ⟨by rw [HEQ.out] <;> first | (congr 1; exact decide_eq_true (by omega)) | (congr 1; exact decide_eq_false (by omega)) | (congr 1; simp; omega), rfl⟩
            · have eh4 : (op == 4) = false := by simp [h4]
              have nh4 : (op != 4) = true := by simp [h4]
              by_cases h8 : op = 8
              · have eh8 : (op == 8) = true := by simp [h8]
                have nh8 : (op != 8) = false := by simp [h8]
                have HEQ : Hid (bV = true) := by show _ = _; rw [← HbV.out]; exact decide_eq_true (show op = 3 ∨ op = 4 ∨ op = 8 ∨ op = 9 by omega)
                clear h3 h4 h8
                go_wp2_with (go_at_call 69; refine HSO.out.mono ?_; rintro e w' ⟨rfl, hw'⟩; rw [hw']; clear hw' w')
                go_meet
                case rel => exact ⟨by rw [HEQ.out] <;> first | (congr 1; exact decide_eq_true (by omega)) | (congr 1; exact decide_eq_false (by omega)) | (congr 1; simp; omega), rfl⟩
              · have eh8 : (op == 8) = false := by simp [h8]
                have nh8 : (op != 8) = true := by simp [h8]
                by_cases h9 : op = 9
                · have eh9 : (op == 9) = true := by simp [h9]
                  have nh9 : (op != 9) = false := by simp [h9]
                  have HEQ : Hid (bV = true) := by show _ = _; rw [← HbV.out]; exact decide_eq_true (show op = 3 ∨ op = 4 ∨ op = 8 ∨ op = 9 by omega)
                  clear h3 h4 h8 h9
                  go_wp2_with (go_at_call 69; refine HSO.out.mono ?_; rintro e w' ⟨rfl, hw'⟩; rw [hw']; clear hw' w')
                  go_meet
                  case rel => exact ⟨by rw [HEQ.out] <;> first | (congr 1; exact decide_eq_true (by omega)) | (congr 1; exact decide_eq_false (by omega)) | (congr 1; simp; omega), rfl⟩
                · have eh9 : (op == 9) = false := by simp [h9]
                  have nh9 : (op != 9) = true := by simp [h9]
                  have HEQ : Hid (bV = false) := by show _ = _; rw [← HbV.out]; exact decide_eq_false (show ¬ (op = 3 ∨ op = 4 ∨ op = 8 ∨ op = 9) by omega)
                  clear h3 h4 h8 h9
                  go_wp2_with (go_at_call 69; refine HSO.out.mono ?_; rintro e w' ⟨rfl, hw'⟩; rw [hw']; clear hw' w')
                  go_meet
                  case rel => exact ⟨by rw [HEQ.out] <;> first | (congr 1; exact decide_eq_true (by omega)) | (congr 1; exact decide_eq_false (by omega)) | (congr 1; simp; omega), rfl⟩
      case rest =>
        obtain ⟨rfl, rfl⟩ := hcut
        as_aux_lemma =>
          go_upto_region 3 with fail
          go_cut [5] (fun s wx => s = .bool bW ∧ W1 = wx)
          case first =>
            clear H1 H2 H0
            as_aux_lemma =>
              by_cases h3 : op = 3
              · have eh3 : (op == 3) = true := by simp [h3]
                have nh3 : (op != 3) = false := by simp [h3]
                have HEQ : Hid (bW = true) := by show _ = _; rw [← HbW.out]; exact decide_eq_true (show op = 3 ∨ op = 4 by omega)
                clear h3
                go_wp2_with (go_at_call 69; refine HSO.out.mono ?_; rintro e w' ⟨rfl, hw'⟩; rw [hw']; clear hw' w')
                go_meet
                case rel => exact ⟨by rw [HEQ.out] <;> first | (congr 1; exact decide_eq_true (by omega)) | (congr 1; exact decide_eq_false (by omega)) | (congr 1; simp; omega), rfl⟩
              · have eh3 : (op == 3) = false := by simp [h3]
                have nh3 : (op != 3) = true := by simp [h3]
                by_cases h4 : op = 4
                · have eh4 : (op == 4) = true := by simp [h4]
                  have nh4 : (op != 4) = false := by simp [h4]
                  have HEQ : Hid (bW = true) := by show _ = _; rw [← HbW.out]; exact decide_eq_true (show op = 3 ∨ op = 4 by omega)
                  clear h3 h4
                  go_wp2_with (go_at_call 69; refine HSO.out.mono ?_; rintro e w' ⟨rfl, hw'⟩; rw [hw']; clear hw' w')
                  go_meet
                  case rel => exact ⟨by rw [HEQ.out] <;> first | (congr 1; exact decide_eq_true (by omega)) | (congr 1; exact decide_eq_false (by omega)) | (congr 1; simp; omega), rfl⟩
                · have eh4 : (op == 4) = false := by simp [h4]
                  have nh4 : (op != 4) = true := by simp [h4]
                  have HEQ : Hid (bW = false) := by show _ = _; rw [← HbW.out]; exact decide_eq_false (show ¬ (op = 3 ∨ op = 4) by omega)
                  clear h3 h4
                  go_wp2_with (go_at_call 69; refine HSO.out.mono ?_; rintro e w' ⟨rfl, hw'⟩; rw [hw']; clear hw' w')
                  go_meet
                  case rel => exact ⟨by rw [HEQ.out] <;> first | (congr 1; exact decide_eq_true (by omega)) | (congr 1; exact decide_eq_false (by omega)) | (congr 1; simp; omega), rfl⟩
          case rest =>
            obtain ⟨rfl, rfl⟩ := hcut
            as_aux_lemma =>
              go_upto_region 4 with fail
              go_cut [47] (fun s wx => s = .bool (decide (op < 1 ∨ op > 9)) ∧ W1 = wx)
              case first =>
                clear H1 H2 H0
                as_aux_lemma =>
                  by_cases q1 : op < 1
                  · skip
                    have HEQ := hide (decide_eq_true (show op < 1 ∨ op > 9 by omega) : decide (op < 1 ∨ op > 9) = true)
                    go_wp2_with (go_at_call 69; refine HSO.out.mono ?_; rintro e w' ⟨rfl, hw'⟩; rw [hw']; clear hw' w')
                    go_meet
                    case rel => exact ⟨by rw [HEQ.out] <;> first | (congr 1; exact decide_eq_true (by omega)) | (congr 1; exact decide_eq_false (by omega)) | (congr 1; simp; omega), rfl⟩
                  · skip
                    by_cases q2 : op > 9
                    · skip
                      have HEQ := hide (decide_eq_true (show op < 1 ∨ op > 9 by omega) : decide (op < 1 ∨ op > 9) = true)
                      go_wp2_with (go_at_call 69; refine HSO.out.mono ?_; rintro e w' ⟨rfl, hw'⟩; rw [hw']; clear hw' w')
                      go_meet
                      case rel => exact ⟨by rw [HEQ.out] <;> first | (congr 1; exact decide_eq_true (by omega)) | (congr 1; exact decide_eq_false (by omega)) | (congr 1; simp; omega), rfl⟩
                    · skip
                      have HEQ := hide (decide_eq_false (show ¬ (op < 1 ∨ op > 9) by omega) : decide (op < 1 ∨ op > 9) = false)
                      go_wp2_with (go_at_call 69; refine HSO.out.mono ?_; rintro e w' ⟨rfl, hw'⟩; rw [hw']; clear hw' w')
                      go_meet
                      case rel => exact ⟨by rw [HEQ.out] <;> first | (congr 1; exact decide_eq_true (by omega)) | (congr 1; exact decide_eq_false (by omega)) | (congr 1; simp; omega), rfl⟩
              case rest =>
                obtain ⟨rfl, rfl⟩ := hcut
                by_cases g : op < 1 ∨ op > 9
                · rw [decide_eq_true g]
                  as_aux_lemma =>
                    have hsz := HSZ.out.1
                    have HFF := hide (H1.out (by unfold ndRp; omega))
                    clear g hsz H1 H2 H0
                    go_wp2
                    go_ret
                    exact ⟨by rw [HFF.out]; rfl, HB.out⟩
                rw [decide_eq_false g]
                have G4 := hide g
                clear g
                as_aux_lemma =>
                  go_upto_region 6 with fail
                  go_cut [4, 73] (fun v4 s wx => v4 = .bool bV ∧ s = .bool (decide (((op = 3 ∨ op = 4 ∨ op = 8 ∨ op = 9) ∧ (var < 0 ∨ var ≥ 5)) ∨ (op = 4 ∧ (oth < 0 ∨ oth ≥ 5)))) ∧ W1 = wx)
                  case first =>
                    clear H1 H2 H0
                    as_aux_lemma =>
                      by_cases dv : op = 3 ∨ op = 4 ∨ op = 8 ∨ op = 9
                      · have EbV : bV = true := by rw [← HbV.out]; exact decide_eq_true (show op = 3 ∨ op = 4 ∨ op = 8 ∨ op = 9 by omega)
                        rw [EbV]
                        have HEbV := hide EbV
                        clear EbV
                        by_cases q1 : var < 0
                        · skip
                          have HEQ := hide (decide_eq_true (show ((op = 3 ∨ op = 4 ∨ op = 8 ∨ op = 9) ∧ (var < 0 ∨ var ≥ 5)) ∨ (op = 4 ∧ (oth < 0 ∨ oth ≥ 5)) by omega) : decide (((op = 3 ∨ op = 4 ∨ op = 8 ∨ op = 9) ∧ (var < 0 ∨ var ≥ 5)) ∨ (op = 4 ∧ (oth < 0 ∨ oth ≥ 5))) = true)
                          clear dv
                          go_wp2_with (go_at_call 69; refine HSO.out.mono ?_; rintro e w' ⟨rfl, hw'⟩; rw [hw']; clear hw' w')
                          go_meet
                          case rel => exact ⟨by rw [HEbV.out], by rw [HEQ.out] <;> first | (congr 1; exact decide_eq_true (by omega)) | (congr 1; exact decide_eq_false (by omega)) | (congr 1; simp; omega), rfl⟩
                        · skip
                          by_cases q2 : var ≥ 5
                          · skip
                            have HEQ := hide (decide_eq_true (show ((op = 3 ∨ op = 4 ∨ op = 8 ∨ op = 9) ∧ (var < 0 ∨ var ≥ 5)) ∨ (op = 4 ∧ (oth < 0 ∨ oth ≥ 5)) by omega) : decide (((op = 3 ∨ op = 4 ∨ op = 8 ∨ op = 9) ∧ (var < 0 ∨ var ≥ 5)) ∨ (op = 4 ∧ (oth < 0 ∨ oth ≥ 5))) = true)
                            clear dv
                            go_wp2_with (go_at_call 69; refine HSO.out.mono ?_; rintro e w' ⟨rfl, hw'⟩; rw [hw']; clear hw' w')
                            go_meet
                            case rel => exact ⟨by rw [HEbV.out], by rw [HEQ.out] <;> first | (congr 1; exact decide_eq_true (by omega)) | (congr 1; exact decide_eq_false (by omega)) | (congr 1; simp; omega), rfl⟩
                          · skip
                            by_cases h4 : op = 4
                            · have eh4 : (op == 4) = true := by simp [h4]
                              have nh4 : (op != 4) = false := by simp [h4]
                              by_cases q3 : oth < 0
                              · skip
                                have HEQ := hide (decide_eq_true (show ((op = 3 ∨ op = 4 ∨ op = 8 ∨ op = 9) ∧ (var < 0 ∨ var ≥ 5)) ∨ (op = 4 ∧ (oth < 0 ∨ oth ≥ 5)) by omega) : decide (((op = 3 ∨ op = 4 ∨ op = 8 ∨ op = 9) ∧ (var < 0 ∨ var ≥ 5)) ∨ (op = 4 ∧ (oth < 0 ∨ oth ≥ 5))) = true)
                                clear dv h4
                                go_wp2_with (go_at_call 69; refine HSO.out.mono ?_; rintro e w' ⟨rfl, hw'⟩; rw [hw']; clear hw' w')
                                go_meet
                                case rel => exact ⟨by rw [HEbV.out], by rw [HEQ.out] <;> first | (congr 1; exact decide_eq_true (by omega)) | (congr 1; exact decide_eq_false (by omega)) | (congr 1; simp; omega), rfl⟩
                              · skip
                                by_cases q4 : oth ≥ 5
                                · skip
                                  have HEQ := hide (decide_eq_true (show ((op = 3 ∨ op = 4 ∨ op = 8 ∨ op = 9) ∧ (var < 0 ∨ var ≥ 5)) ∨ (op = 4 ∧ (oth < 0 ∨ oth ≥ 5)) by omega) : decide (((op = 3 ∨ op = 4 ∨ op = 8 ∨ op = 9) ∧ (var < 0 ∨ var ≥ 5)) ∨ (op = 4 ∧ (oth < 0 ∨ oth ≥ 5))) = true)
                                  clear dv h4
                                  go_wp2_with (go_at_call 69; refine HSO.out.mono ?_; rintro e w' ⟨rfl, hw'⟩; rw [hw']; clear hw' w')
                                  go_meet
                                  case rel => exact ⟨by rw [HEbV.out], by rw [HEQ.out] <;> first | (congr 1; exact decide_eq_true (by omega)) | (congr 1; exact decide_eq_false (by omega)) | (congr 1; simp; omega), rfl⟩
                                · skip
                                  have HEQ := hide (decide_eq_false (show ¬ (((op = 3 ∨ op = 4 ∨ op = 8 ∨ op = 9) ∧ (var < 0 ∨ var ≥ 5)) ∨ (op = 4 ∧ (oth < 0 ∨ oth ≥ 5))) by omega) : decide (((op = 3 ∨ op = 4 ∨ op = 8 ∨ op = 9) ∧ (var < 0 ∨ var ≥ 5)) ∨ (op = 4 ∧ (oth < 0 ∨ oth ≥ 5))) = false)
                                  clear dv h4
                                  go_wp2_with (go_at_call 69; refine HSO.out.mono ?_; rintro e w' ⟨rfl, hw'⟩; rw [hw']; clear hw' w')
                                  go_meet
                                  case rel => exact ⟨by rw [HEbV.out], by rw [HEQ.out] <;> first | (congr 1; exact decide_eq_true (by omega)) | (congr 1; exact decide_eq_false (by omega)) | (congr 1; simp; omega), rfl⟩
                            · have eh4 : (op == 4) = false := by simp [h4]
                              have nh4 : (op != 4) = true := by simp [h4]
                              have HEQ := hide (decide_eq_false (show ¬ (((op = 3 ∨ op = 4 ∨ op = 8 ∨ op = 9) ∧ (var < 0 ∨ var ≥ 5)) ∨ (op = 4 ∧ (oth < 0 ∨ oth ≥ 5))) by omega) : decide (((op = 3 ∨ op = 4 ∨ op = 8 ∨ op = 9) ∧ (var < 0 ∨ var ≥ 5)) ∨ (op = 4 ∧ (oth < 0 ∨ oth ≥ 5))) = false)
                              clear dv h4
                              go_wp2_with (go_at_call 69; refine HSO.out.mono ?_; rintro e w' ⟨rfl, hw'⟩; rw [hw']; clear hw' w')
                              go_meet
                              case rel => exact ⟨by rw [HEbV.out], by rw [HEQ.out] <;> first | (congr 1; exact decide_eq_true (by omega)) | (congr 1; exact decide_eq_false (by omega)) | (congr 1; simp; omega), rfl⟩
                      · have EbV : bV = false := by rw [← HbV.out]; exact decide_eq_false (show ¬ (op = 3 ∨ op = 4 ∨ op = 8 ∨ op = 9) by omega)
                        rw [EbV]
                        have HEbV := hide EbV
                        clear EbV
                        have h4 : ¬ op = 4 := by omega
                        have eh4 : (op == 4) = false := by simp [h4]
                        have HEQ := hide (decide_eq_false (show ¬ (((op = 3 ∨ op = 4 ∨ op = 8 ∨ op = 9) ∧ (var < 0 ∨ var ≥ 5)) ∨ (op = 4 ∧ (oth < 0 ∨ oth ≥ 5))) by omega) : decide (((op = 3 ∨ op = 4 ∨ op = 8 ∨ op = 9) ∧ (var < 0 ∨ var ≥ 5)) ∨ (op = 4 ∧ (oth < 0 ∨ oth ≥ 5))) = false)
                        clear dv
                        go_wp2_with (go_at_call 69; refine HSO.out.mono ?_; rintro e w' ⟨rfl, hw'⟩; rw [hw']; clear hw' w')
                        go_meet
                        case rel => exact ⟨by rw [HEbV.out], by rw [HEQ.out] <;> first | (congr 1; exact decide_eq_true (by omega)) | (congr 1; exact decide_eq_false (by omega)) | (congr 1; simp; omega), rfl⟩
                  case rest =>
                    obtain ⟨rfl, rfl, rfl⟩ := hcut
                    by_cases g : ((op = 3 ∨ op = 4 ∨ op = 8 ∨ op = 9) ∧ (var < 0 ∨ var ≥ 5)) ∨ (op = 4 ∧ (oth < 0 ∨ oth ≥ 5))
                    · rw [decide_eq_true g]
                      as_aux_lemma =>
                        have kG4 := G4.out
                        have hsz := HSZ.out.1
                        have HFF := hide (H1.out (by unfold ndRp; omega))
                        clear g hsz H1 H2 H0 kG4
                        go_wp2
                        go_ret
                        exact ⟨by rw [HFF.out]; rfl, HB.out⟩
                    rw [decide_eq_false g]
                    have G6 := hide g
                    clear g
                    as_aux_lemma =>
                      go_upto_region 8 with fail
                      go_cut [5, 99] (fun v5 s wx => v5 = .bool bW ∧ s = .bool (decide (((op = 3 ∨ op = 4) ∧ (wd < 0 ∨ wd ≥ 3)) ∨ (op = 4 ∧ (wd2 < 0 ∨ wd2 ≥ 3)))) ∧ W1 = wx)
                      case first =>
                        clear H1 H2 H0
                        as_aux_lemma =>
                          by_cases dv : op = 3 ∨ op = 4
                          · have EbW : bW = true := by rw [← HbW.out]; exact decide_eq_true (show op = 3 ∨ op = 4 by omega)
                            rw [EbW]
                            have HEbW := hide EbW
                            clear EbW
                            by_cases q1 : wd < 0
                            · skip
                              have HEQ := hide (decide_eq_true (show ((op = 3 ∨ op = 4) ∧ (wd < 0 ∨ wd ≥ 3)) ∨ (op = 4 ∧ (wd2 < 0 ∨ wd2 ≥ 3)) by omega) : decide (((op = 3 ∨ op = 4) ∧ (wd < 0 ∨ wd ≥ 3)) ∨ (op = 4 ∧ (wd2 < 0 ∨ wd2 ≥ 3))) = true)
                              clear dv
                              go_wp2_with (go_at_call 69; refine HSO.out.mono ?_; rintro e w' ⟨rfl, hw'⟩; rw [hw']; clear hw' w')
                              go_meet
                              case rel => exact ⟨by rw [HEbW.out], by rw [HEQ.out] <;> first | (congr 1; exact decide_eq_true (by omega)) | (congr 1; exact decide_eq_false (by omega)) | (congr 1; simp; omega), rfl⟩
                            · skip
                              by_cases q2 : wd ≥ 3
                              · skip
                                have HEQ := hide (decide_eq_true (show ((op = 3 ∨ op = 4) ∧ (wd < 0 ∨ wd ≥ 3)) ∨ (op = 4 ∧ (wd2 < 0 ∨ wd2 ≥ 3)) by omega) : decide (((op = 3 ∨ op = 4) ∧ (wd < 0 ∨ wd ≥ 3)) ∨ (op = 4 ∧ (wd2 < 0 ∨ wd2 ≥ 3))) = true)
                                clear dv
                                go_wp2_with (go_at_call 69; refine HSO.out.mono ?_; rintro e w' ⟨rfl, hw'⟩; rw [hw']; clear hw' w')
                                go_meet
                                case rel => exact ⟨by rw [HEbW.out], by rw [HEQ.out] <;> first | (congr 1; exact decide_eq_true (by omega)) | (congr 1; exact decide_eq_false (by omega)) | (congr 1; simp; omega), rfl⟩
                              · skip
                                by_cases h4 : op = 4
                                · have eh4 : (op == 4) = true := by simp [h4]
                                  have nh4 : (op != 4) = false := by simp [h4]
                                  by_cases q3 : wd2 < 0
                                  · skip
                                    have HEQ := hide (decide_eq_true (show ((op = 3 ∨ op = 4) ∧ (wd < 0 ∨ wd ≥ 3)) ∨ (op = 4 ∧ (wd2 < 0 ∨ wd2 ≥ 3)) by omega) : decide (((op = 3 ∨ op = 4) ∧ (wd < 0 ∨ wd ≥ 3)) ∨ (op = 4 ∧ (wd2 < 0 ∨ wd2 ≥ 3))) = true)
                                    clear dv h4
                                    go_wp2_with (go_at_call 69; refine HSO.out.mono ?_; rintro e w' ⟨rfl, hw'⟩; rw [hw']; clear hw' w')
                                    go_meet
                                    case rel => exact ⟨by rw [HEbW.out], by rw [HEQ.out] <;> first | (congr 1; exact decide_eq_true (by omega)) | (congr 1; exact decide_eq_false (by omega)) | (congr 1; simp; omega), rfl⟩
                                  · skip
                                    by_cases q4 : wd2 ≥ 3
                                    · skip
                                      have HEQ := hide (decide_eq_true (show ((op = 3 ∨ op = 4) ∧ (wd < 0 ∨ wd ≥ 3)) ∨ (op = 4 ∧ (wd2 < 0 ∨ wd2 ≥ 3)) by omega) : decide (((op = 3 ∨ op = 4) ∧ (wd < 0 ∨ wd ≥ 3)) ∨ (op = 4 ∧ (wd2 < 0 ∨ wd2 ≥ 3))) = true)
                                      clear dv h4
                                      go_wp2_with (go_at_call 69; refine HSO.out.mono ?_; rintro e w' ⟨rfl, hw'⟩; rw [hw']; clear hw' w')
                                      go_meet
                                      case rel => exact ⟨by rw [HEbW.out], by rw [HEQ.out] <;> first | (congr 1; exact decide_eq_true (by omega)) | (congr 1; exact decide_eq_false (by omega)) | (congr 1; simp; omega), rfl⟩
                                    · skip
                                      have HEQ := hide (decide_eq_false (show ¬ (((op = 3 ∨ op = 4) ∧ (wd < 0 ∨ wd ≥ 3)) ∨ (op = 4 ∧ (wd2 < 0 ∨ wd2 ≥ 3))) by omega) : decide (((op = 3 ∨ op = 4) ∧ (wd < 0 ∨ wd ≥ 3)) ∨ (op = 4 ∧ (wd2 < 0 ∨ wd2 ≥ 3))) = false)
                                      clear dv h4
                                      go_wp2_with (go_at_call 69; refine HSO.out.mono ?_; rintro e w' ⟨rfl, hw'⟩; rw [hw']; clear hw' w')
                                      go_meet
                                      case rel => exact ⟨by rw [HEbW.out], by rw [HEQ.out] <;> first | (congr 1; exact decide_eq_true (by omega)) | (congr 1; exact decide_eq_false (by omega)) | (congr 1; simp; omega), rfl⟩
                                · have eh4 : (op == 4) = false := by simp [h4]
                                  have nh4 : (op != 4) = true := by simp [h4]
                                  have HEQ := hide (decide_eq_false (show ¬ (((op = 3 ∨ op = 4) ∧ (wd < 0 ∨ wd ≥ 3)) ∨ (op = 4 ∧ (wd2 < 0 ∨ wd2 ≥ 3))) by omega) : decide (((op = 3 ∨ op = 4) ∧ (wd < 0 ∨ wd ≥ 3)) ∨ (op = 4 ∧ (wd2 < 0 ∨ wd2 ≥ 3))) = false)
                                  clear dv h4
                                  go_wp2_with (go_at_call 69; refine HSO.out.mono ?_; rintro e w' ⟨rfl, hw'⟩; rw [hw']; clear hw' w')
                                  go_meet
                                  case rel => exact ⟨by rw [HEbW.out], by rw [HEQ.out] <;> first | (congr 1; exact decide_eq_true (by omega)) | (congr 1; exact decide_eq_false (by omega)) | (congr 1; simp; omega), rfl⟩
                          · have EbW : bW = false := by rw [← HbW.out]; exact decide_eq_false (show ¬ (op = 3 ∨ op = 4) by omega)
                            rw [EbW]
                            have HEbW := hide EbW
                            clear EbW
                            have h4 : ¬ op = 4 := by omega
                            have eh4 : (op == 4) = false := by simp [h4]
                            have HEQ := hide (decide_eq_false (show ¬ (((op = 3 ∨ op = 4) ∧ (wd < 0 ∨ wd ≥ 3)) ∨ (op = 4 ∧ (wd2 < 0 ∨ wd2 ≥ 3))) by omega) : decide (((op = 3 ∨ op = 4) ∧ (wd < 0 ∨ wd ≥ 3)) ∨ (op = 4 ∧ (wd2 < 0 ∨ wd2 ≥ 3))) = false)
                            clear dv
                            go_wp2_with (go_at_call 69; refine HSO.out.mono ?_; rintro e w' ⟨rfl, hw'⟩; rw [hw']; clear hw' w')
                            go_meet
                            case rel => exact ⟨by rw [HEbW.out], by rw [HEQ.out] <;> first | (congr 1; exact decide_eq_true (by omega)) | (congr 1; exact decide_eq_false (by omega)) | (congr 1; simp; omega), rfl⟩
                      case rest =>
                        obtain ⟨rfl, rfl, rfl⟩ := hcut
                        by_cases g : ((op = 3 ∨ op = 4) ∧ (wd < 0 ∨ wd ≥ 3)) ∨ (op = 4 ∧ (wd2 < 0 ∨ wd2 ≥ 3))
                        · rw [decide_eq_true g]
                          as_aux_lemma =>
                            have kG4 := G4.out
                            have kG6 := G6.out
                            have hsz := HSZ.out.1
                            have HFF := hide (H1.out (by unfold ndRp; omega))
                            clear g hsz H1 H2 H0 kG4 kG6
                            go_wp2
                            go_ret
                            exact ⟨by rw [HFF.out]; rfl, HB.out⟩
                        rw [decide_eq_false g]
                        have G8 := hide g
                        clear g
                        as_aux_lemma =>
                          go_upto_region 10 with fail
                          go_cut [112] (fun s wx => s = .bool (decide (op = 3 ∧ (num < 0 ∨ num > 9))) ∧ W1 = wx)
                          case first =>
                            clear H1 H2 H0
                            as_aux_lemma =>
                              by_cases h3 : op = 3
                              · have eh3 : (op == 3) = true := by simp [h3]
                                have nh3 : (op != 3) = false := by simp [h3]
                                by_cases q1 : num < 0
                                · skip
                                  have HEQ := hide (decide_eq_true (show op = 3 ∧ (num < 0 ∨ num > 9) by omega) : decide (op = 3 ∧ (num < 0 ∨ num > 9)) = true)
                                  clear h3
                                  go_wp2_with (go_at_call 69; refine HSO.out.mono ?_; rintro e w' ⟨rfl, hw'⟩; rw [hw']; clear hw' w')
                                  go_meet
                                  case rel => exact ⟨by rw [HEQ.out] <;> first | (congr 1; exact decide_eq_true (by omega)) | (congr 1; exact decide_eq_false (by omega)) | (congr 1; simp; omega), rfl⟩
                                · skip
                                  by_cases q2 : num > 9
                                  · skip
                                    have HEQ := hide (decide_eq_true (show op = 3 ∧ (num < 0 ∨ num > 9) by omega) : decide (op = 3 ∧ (num < 0 ∨ num > 9)) = true)
                                    clear h3
                                    go_wp2_with (go_at_call 69; refine HSO.out.mono ?_; rintro e w' ⟨rfl, hw'⟩; rw [hw']; clear hw' w')
                                    go_meet
                                    case rel => exact ⟨by rw [HEQ.out] <;> first | (congr 1; exact decide_eq_true (by omega)) | (congr 1; exact decide_eq_false (by omega)) | (congr 1; simp; omega), rfl⟩
                                  · skip
                                    have HEQ := hide (decide_eq_false (show ¬ (op = 3 ∧ (num < 0 ∨ num > 9)) by omega) : decide (op = 3 ∧ (num < 0 ∨ num > 9)) = false)
                                    clear h3
                                    go_wp2_with (go_at_call 69; refine HSO.out.mono ?_; rintro e w' ⟨rfl, hw'⟩; rw [hw']; clear hw' w')
                                    go_meet
                                    case rel => exact ⟨by rw [HEQ.out] <;> first | (congr 1; exact decide_eq_true (by omega)) | (congr 1; exact decide_eq_false (by omega)) | (congr 1; simp; omega), rfl⟩
                              · have eh3 : (op == 3) = false := by simp [h3]
                                have nh3 : (op != 3) = true := by simp [h3]
                                have HEQ := hide (decide_eq_false (show ¬ (op = 3 ∧ (num < 0 ∨ num > 9)) by omega) : decide (op = 3 ∧ (num < 0 ∨ num > 9)) = false)
                                clear h3
                                go_wp2_with (go_at_call 69; refine HSO.out.mono ?_; rintro e w' ⟨rfl, hw'⟩; rw [hw']; clear hw' w')
                                go_meet
                                case rel => exact ⟨by rw [HEQ.out] <;> first | (congr 1; exact decide_eq_true (by omega)) | (congr 1; exact decide_eq_false (by omega)) | (congr 1; simp; omega), rfl⟩
                          case rest =>
                            obtain ⟨rfl, rfl⟩ := hcut
                            by_cases g : op = 3 ∧ (num < 0 ∨ num > 9)
                            · rw [decide_eq_true g]
                              as_aux_lemma =>
                                have kG4 := G4.out
                                have kG6 := G6.out
                                have kG8 := G8.out
                                have hsz := HSZ.out.1
                                have HFF := hide (H1.out (by unfold ndRp; omega))
                                clear g hsz H1 H2 H0 kG4 kG6 kG8
                                go_wp2
                                go_ret
                                exact ⟨by rw [HFF.out]; rfl, HB.out⟩
                            rw [decide_eq_false g]
                            have G10 := hide g
                            clear g
                            as_aux_lemma =>
                              go_upto_region 12 with fail
                              go_cut [3, 135] (fun v3 s wx => v3 = .bool bL ∧ s = .bool (decide ((op = 1 ∨ op = 2) ∧ ((cf.length : Int) > 5 ∨ si > 12 ∨ num < -60 ∨ num > 60))) ∧ W1 = wx)
                              case first =>
                                clear H1 H2 H0
                                as_aux_lemma =>
                                  by_cases dv : op = 1 ∨ op = 2
                                  · have EbL : bL = true := by rw [← HbL.out]; exact decide_eq_true (show op = 1 ∨ op = 2 by omega)
                                    rw [EbL]
                                    have HEbL := hide EbL
                                    clear EbL
                                    by_cases q1 : (cf.length : Int) > 5
                                    · skip
                                      have HEQ := hide (decide_eq_true (show (op = 1 ∨ op = 2) ∧ ((cf.length : Int) > 5 ∨ si > 12 ∨ num < -60 ∨ num > 60) by omega) : decide ((op = 1 ∨ op = 2) ∧ ((cf.length : Int) > 5 ∨ si > 12 ∨ num < -60 ∨ num > 60)) = true)
                                      clear dv
                                      go_wp2_with (go_at_call 69; refine HSO.out.mono ?_; rintro e w' ⟨rfl, hw'⟩; rw [hw']; clear hw' w')
                                      go_meet
                                      case rel => exact ⟨by rw [HEbL.out], by rw [HEQ.out] <;> first | (congr 1; exact decide_eq_true (by omega)) | (congr 1; exact decide_eq_false (by omega)) | (congr 1; simp; omega), rfl⟩
                                    · skip
                                      by_cases q2 : si > 12
                                      · skip
                                        have HEQ := hide (decide_eq_true (show (op = 1 ∨ op = 2) ∧ ((cf.length : Int) > 5 ∨ si > 12 ∨ num < -60 ∨ num > 60) by omega) : decide ((op = 1 ∨ op = 2) ∧ ((cf.length : Int) > 5 ∨ si > 12 ∨ num < -60 ∨ num > 60)) = true)
                                        clear dv
                                        go_wp2_with (go_at_call 69; refine HSO.out.mono ?_; rintro e w' ⟨rfl, hw'⟩; rw [hw']; clear hw' w')
                                        go_meet
                                        case rel => exact ⟨by rw [HEbL.out], by rw [HEQ.out] <;> first | (congr 1; exact decide_eq_true (by omega)) | (congr 1; exact decide_eq_false (by omega)) | (congr 1; simp; omega), rfl⟩
                                      · skip
                                        by_cases q3 : num < -60
                                        · skip
                                          have HEQ := hide (decide_eq_true (show (op = 1 ∨ op = 2) ∧ ((cf.length : Int) > 5 ∨ si > 12 ∨ num < -60 ∨ num > 60) by omega) : decide ((op = 1 ∨ op = 2) ∧ ((cf.length : Int) > 5 ∨ si > 12 ∨ num < -60 ∨ num > 60)) = true)
                                          clear dv
                                          go_wp2_with (go_at_call 69; refine HSO.out.mono ?_; rintro e w' ⟨rfl, hw'⟩; rw [hw']; clear hw' w')
                                          go_meet
                                          case rel => exact ⟨by rw [HEbL.out], by rw [HEQ.out] <;> first | (congr 1; exact decide_eq_true (by omega)) | (congr 1; exact decide_eq_false (by omega)) | (congr 1; simp; omega), rfl⟩
                                        · skip
                                          by_cases q4 : num > 60
                                          · skip
                                            have HEQ := hide (decide_eq_true (show (op = 1 ∨ op = 2) ∧ ((cf.length : Int) > 5 ∨ si > 12 ∨ num < -60 ∨ num > 60) by omega) : decide ((op = 1 ∨ op = 2) ∧ ((cf.length : Int) > 5 ∨ si > 12 ∨ num < -60 ∨ num > 60)) = true)
                                            clear dv
                                            go_wp2_with (go_at_call 69; refine HSO.out.mono ?_; rintro e w' ⟨rfl, hw'⟩; rw [hw']; clear hw' w')
                                            go_meet
                                            case rel => exact ⟨by rw [HEbL.out], by rw [HEQ.out] <;> first | (congr 1; exact decide_eq_true (by omega)) | (congr 1; exact decide_eq_false (by omega)) | (congr 1; simp; omega), rfl⟩
                                          · skip
                                            have HEQ := hide (decide_eq_false (show ¬ ((op = 1 ∨ op = 2) ∧ ((cf.length : Int) > 5 ∨ si > 12 ∨ num < -60 ∨ num > 60)) by omega) : decide ((op = 1 ∨ op = 2) ∧ ((cf.length : Int) > 5 ∨ si > 12 ∨ num < -60 ∨ num > 60)) = false)
                                            clear dv
                                            go_wp2_with (go_at_call 69; refine HSO.out.mono ?_; rintro e w' ⟨rfl, hw'⟩; rw [hw']; clear hw' w')
                                            go_meet
                                            case rel => exact ⟨by rw [HEbL.out], by rw [HEQ.out] <;> first | (congr 1; exact decide_eq_true (by omega)) | (congr 1; exact decide_eq_false (by omega)) | (congr 1; simp; omega), rfl⟩
                                  · have EbL : bL = false := by rw [← HbL.out]; exact decide_eq_false (show ¬ (op = 1 ∨ op = 2) by omega)
                                    rw [EbL]
                                    have HEbL := hide EbL
                                    clear EbL
                                    have HEQ := hide (decide_eq_false (show ¬ ((op = 1 ∨ op = 2) ∧ ((cf.length : Int) > 5 ∨ si > 12 ∨ num < -60 ∨ num > 60)) by omega) : decide ((op = 1 ∨ op = 2) ∧ ((cf.length : Int) > 5 ∨ si > 12 ∨ num < -60 ∨ num > 60)) = false)
                                    clear dv
                                    go_wp2_with (go_at_call 69; refine HSO.out.mono ?_; rintro e w' ⟨rfl, hw'⟩; rw [hw']; clear hw' w')
                                    go_meet
                                    case rel => exact ⟨by rw [HEbL.out], by rw [HEQ.out] <;> first | (congr 1; exact decide_eq_true (by omega)) | (congr 1; exact decide_eq_false (by omega)) | (congr 1; simp; omega), rfl⟩
                              case rest =>
                                obtain ⟨rfl, rfl, rfl⟩ := hcut
                                by_cases g : (op = 1 ∨ op = 2) ∧ ((cf.length : Int) > 5 ∨ si > 12 ∨ num < -60 ∨ num > 60)
                                · rw [decide_eq_true g]
                                  as_aux_lemma =>
                                    have kG4 := G4.out
                                    have kG6 := G6.out
                                    have kG8 := G8.out
                                    have kG10 := G10.out
                                    have hsz := HSZ.out.1
                                    have HFF := hide (H1.out (by unfold ndRp; omega))
                                    clear g hsz H1 H2 H0 kG4 kG6 kG8 kG10
                                    go_wp2
                                    go_ret
                                    exact ⟨by rw [HFF.out]; rfl, HB.out⟩
                                rw [decide_eq_false g]
                                have G12 := hide g
                                clear g
                                as_aux_lemma =>
                                  go_upto_region 14 with fail
                                  go_cut [3, 4, 5, 190] (fun v3 v4 v5 s wx => v3 = .bool bL ∧ v4 = .bool bV ∧ v5 = .bool bW ∧ s = .bool (decide (((¬ (op = 3 ∨ op = 4 ∨ op = 8 ∨ op = 9)) ∧ var ≠ 0) ∨ (op ≠ 4 ∧ (oth ≠ 0 ∨ wd2 ≠ 0)) ∨ ((¬ (op = 3 ∨ op = 4)) ∧ wd ≠ 0) ∨ ((¬ (op = 1 ∨ op = 2)) ∧ op ≠ 3 ∧ num ≠ 0) ∨ ((¬ (op = 1 ∨ op = 2)) ∧ (cf.length : Int) > 0))) ∧ W1 = wx)
                                  case first =>
                                    clear H1 H2 H0
                                    skip
                                    by_cases hq : op = 1 ∨ op = 2
                                    · skip
                                      as_aux_lemma =>
                                        have EbV : bV = false := by rw [← HbV.out]; exact decide_eq_false (show ¬ (op = 3 ∨ op = 4 ∨ op = 8 ∨ op = 9) by omega)
                                        rw [EbV]
                                        have HEbV := hide EbV
                                        clear EbV
                                        have EbW : bW = false := by rw [← HbW.out]; exact decide_eq_false (show ¬ (op = 3 ∨ op = 4) by omega)
                                        rw [EbW]
                                        have HEbW := hide EbW
                                        clear EbW
                                        have EbL : bL = true := by rw [← HbL.out]; exact decide_eq_true (show op = 1 ∨ op = 2 by omega)
                                        rw [EbL]
                                        have HEbL := hide EbL
                                        clear EbL
                                        have e4 : (op == 4) = false := by simp; omega
                                        have n4 : (op != 4) = true := by simp; omega
                                        have e3 : (op == 3) = false := by simp; omega
                                        have n3 : (op != 3) = true := by simp; omega
                                        by_cases zvar : var = 0
                                        · have ezvar : (var == 0) = true := by simp [zvar]
                                          have nzvar : (var != 0) = false := by simp [zvar]
                                          by_cases zoth : oth = 0
                                          · have ezoth : (oth == 0) = true := by simp [zoth]
                                            have nzoth : (oth != 0) = false := by simp [zoth]
                                            by_cases zwd2 : wd2 = 0
                                            · have ezwd2 : (wd2 == 0) = true := by simp [zwd2]
                                              have nzwd2 : (wd2 != 0) = false := by simp [zwd2]
                                              by_cases zwd : wd = 0
                                              · have ezwd : (wd == 0) = true := by simp [zwd]
                                                have nzwd : (wd != 0) = false := by simp [zwd]
                                                have HEQ := hide (decide_eq_false (show ¬ (((¬ (op = 3 ∨ op = 4 ∨ op = 8 ∨ op = 9)) ∧ var ≠ 0) ∨ (op ≠ 4 ∧ (oth ≠ 0 ∨ wd2 ≠ 0)) ∨ ((¬ (op = 3 ∨ op = 4)) ∧ wd ≠ 0) ∨ ((¬ (op = 1 ∨ op = 2)) ∧ op ≠ 3 ∧ num ≠ 0) ∨ ((¬ (op = 1 ∨ op = 2)) ∧ (cf.length : Int) > 0)) by omega) : decide (((¬ (op = 3 ∨ op = 4 ∨ op = 8 ∨ op = 9)) ∧ var ≠ 0) ∨ (op ≠ 4 ∧ (oth ≠ 0 ∨ wd2 ≠ 0)) ∨ ((¬ (op = 3 ∨ op = 4)) ∧ wd ≠ 0) ∨ ((¬ (op = 1 ∨ op = 2)) ∧ op ≠ 3 ∧ num ≠ 0) ∨ ((¬ (op = 1 ∨ op = 2)) ∧ (cf.length : Int) > 0)) = false)
                                                clear zvar zoth zwd2 zwd
                                                go_wp2_with (go_at_call 69; refine HSO.out.mono ?_; rintro e w' ⟨rfl, hw'⟩; rw [hw']; clear hw' w')
                                                go_meet
                                                case rel => exact ⟨by rw [HEbL.out], by rw [HEbV.out], by rw [HEbW.out], by rw [HEQ.out] <;> first | (congr 1; exact decide_eq_true (by omega)) | (congr 1; exact decide_eq_false (by omega)) | (congr 1; simp; omega), rfl⟩
                                              · have ezwd : (wd == 0) = false := by simp [zwd]
                                                have nzwd : (wd != 0) = true := by simp [zwd]
                                                have HEQ := hide (decide_eq_true (show ((¬ (op = 3 ∨ op = 4 ∨ op = 8 ∨ op = 9)) ∧ var ≠ 0) ∨ (op ≠ 4 ∧ (oth ≠ 0 ∨ wd2 ≠ 0)) ∨ ((¬ (op = 3 ∨ op = 4)) ∧ wd ≠ 0) ∨ ((¬ (op = 1 ∨ op = 2)) ∧ op ≠ 3 ∧ num ≠ 0) ∨ ((¬ (op = 1 ∨ op = 2)) ∧ (cf.length : Int) > 0) by omega) : decide (((¬ (op = 3 ∨ op = 4 ∨ op = 8 ∨ op = 9)) ∧ var ≠ 0) ∨ (op ≠ 4 ∧ (oth ≠ 0 ∨ wd2 ≠ 0)) ∨ ((¬ (op = 3 ∨ op = 4)) ∧ wd ≠ 0) ∨ ((¬ (op = 1 ∨ op = 2)) ∧ op ≠ 3 ∧ num ≠ 0) ∨ ((¬ (op = 1 ∨ op = 2)) ∧ (cf.length : Int) > 0)) = true)
                                                clear zvar zoth zwd2 zwd
                                                go_wp2_with (go_at_call 69; refine HSO.out.mono ?_; rintro e w' ⟨rfl, hw'⟩; rw [hw']; clear hw' w')
                                                go_meet
                                                case rel => exact ⟨by rw [HEbL.out], by rw [HEbV.out], by rw [HEbW.out], by rw [HEQ.out] <;> first | (congr 1; exact decide_eq_true (by omega)) | (congr 1; exact decide_eq_false (by omega)) | (congr 1; simp; omega), rfl⟩
                                            · have ezwd2 : (wd2 == 0) = false := by simp [zwd2]
                                              have nzwd2 : (wd2 != 0) = true := by simp [zwd2]
                                              have HEQ := hide (decide_eq_true (show ((¬ (op = 3 ∨ op = 4 ∨ op = 8 ∨ op = 9)) ∧ var ≠ 0) ∨ (op ≠ 4 ∧ (oth ≠ 0 ∨ wd2 ≠ 0)) ∨ ((¬ (op = 3 ∨ op = 4)) ∧ wd ≠ 0) ∨ ((¬ (op = 1 ∨ op = 2)) ∧ op ≠ 3 ∧ num ≠ 0) ∨ ((¬ (op = 1 ∨ op = 2)) ∧ (cf.length : Int) > 0) by omega) : decide (((¬ (op = 3 ∨ op = 4 ∨ op = 8 ∨ op = 9)) ∧ var ≠ 0) ∨ (op ≠ 4 ∧ (oth ≠ 0 ∨ wd2 ≠ 0)) ∨ ((¬ (op = 3 ∨ op = 4)) ∧ wd ≠ 0) ∨ ((¬ (op = 1 ∨ op = 2)) ∧ op ≠ 3 ∧ num ≠ 0) ∨ ((¬ (op = 1 ∨ op = 2)) ∧ (cf.length : Int) > 0)) = true)
                                              clear zvar zoth zwd2
                                              go_wp2_with (go_at_call 69; refine HSO.out.mono ?_; rintro e w' ⟨rfl, hw'⟩; rw [hw']; clear hw' w')
                                              go_meet
                                              case rel => exact ⟨by rw [HEbL.out], by rw [HEbV.out], by rw [HEbW.out], by rw [HEQ.out] <;> first | (congr 1; exact decide_eq_true (by omega)) | (congr 1; exact decide_eq_false (by omega)) | (congr 1; simp; omega), rfl⟩
                                          · have ezoth : (oth == 0) = false := by simp [zoth]
                                            have nzoth : (oth != 0) = true := by simp [zoth]
                                            have HEQ := hide (decide_eq_true (show ((¬ (op = 3 ∨ op = 4 ∨ op = 8 ∨ op = 9)) ∧ var ≠ 0) ∨ (op ≠ 4 ∧ (oth ≠ 0 ∨ wd2 ≠ 0)) ∨ ((¬ (op = 3 ∨ op = 4)) ∧ wd ≠ 0) ∨ ((¬ (op = 1 ∨ op = 2)) ∧ op ≠ 3 ∧ num ≠ 0) ∨ ((¬ (op = 1 ∨ op = 2)) ∧ (cf.length : Int) > 0) by omega) : decide (((¬ (op = 3 ∨ op = 4 ∨ op = 8 ∨ op = 9)) ∧ var ≠ 0) ∨ (op ≠ 4 ∧ (oth ≠ 0 ∨ wd2 ≠ 0)) ∨ ((¬ (op = 3 ∨ op = 4)) ∧ wd ≠ 0) ∨ ((¬ (op = 1 ∨ op = 2)) ∧ op ≠ 3 ∧ num ≠ 0) ∨ ((¬ (op = 1 ∨ op = 2)) ∧ (cf.length : Int) > 0)) = true)
                                            clear zvar zoth
                                            go_wp2_with (go_at_call 69; refine HSO.out.mono ?_; rintro e w' ⟨rfl, hw'⟩; rw [hw']; clear hw' w')
                                            go_meet
                                            case rel => exact ⟨by rw [HEbL.out], by rw [HEbV.out], by rw [HEbW.out], by rw [HEQ.out] <;> first | (congr 1; exact decide_eq_true (by omega)) | (congr 1; exact decide_eq_false (by omega)) | (congr 1; simp; omega), rfl⟩
                                        · have ezvar : (var == 0) = false := by simp [zvar]
                                          have nzvar : (var != 0) = true := by simp [zvar]
                                          have HEQ := hide (decide_eq_true (show ((¬ (op = 3 ∨ op = 4 ∨ op = 8 ∨ op = 9)) ∧ var ≠ 0) ∨ (op ≠ 4 ∧ (oth ≠ 0 ∨ wd2 ≠ 0)) ∨ ((¬ (op = 3 ∨ op = 4)) ∧ wd ≠ 0) ∨ ((¬ (op = 1 ∨ op = 2)) ∧ op ≠ 3 ∧ num ≠ 0) ∨ ((¬ (op = 1 ∨ op = 2)) ∧ (cf.length : Int) > 0) by omega) : decide (((¬ (op = 3 ∨ op = 4 ∨ op = 8 ∨ op = 9)) ∧ var ≠ 0) ∨ (op ≠ 4 ∧ (oth ≠ 0 ∨ wd2 ≠ 0)) ∨ ((¬ (op = 3 ∨ op = 4)) ∧ wd ≠ 0) ∨ ((¬ (op = 1 ∨ op = 2)) ∧ op ≠ 3 ∧ num ≠ 0) ∨ ((¬ (op = 1 ∨ op = 2)) ∧ (cf.length : Int) > 0)) = true)
                                          clear zvar
                                          go_wp2_with (go_at_call 69; refine HSO.out.mono ?_; rintro e w' ⟨rfl, hw'⟩; rw [hw']; clear hw' w')
                                          go_meet
                                          case rel => exact ⟨by rw [HEbL.out], by rw [HEbV.out], by rw [HEbW.out], by rw [HEQ.out] <;> first | (congr 1; exact decide_eq_true (by omega)) | (congr 1; exact decide_eq_false (by omega)) | (congr 1; simp; omega), rfl⟩
                                    · skip
                                      by_cases hq : op = 3
                                      · skip
                                        as_aux_lemma =>
                                          have EbV : bV = true := by rw [← HbV.out]; exact decide_eq_true (show op = 3 ∨ op = 4 ∨ op = 8 ∨ op = 9 by omega)
                                          rw [EbV]
                                          have HEbV := hide EbV
                                          clear EbV
                                          have EbW : bW = true := by rw [← HbW.out]; exact decide_eq_true (show op = 3 ∨ op = 4 by omega)
                                          rw [EbW]
                                          have HEbW := hide EbW
                                          clear EbW
                                          have EbL : bL = false := by rw [← HbL.out]; exact decide_eq_false (show ¬ (op = 1 ∨ op = 2) by omega)
                                          rw [EbL]
                                          have HEbL := hide EbL
                                          clear EbL
                                          have e4 : (op == 4) = false := by simp [hq]
                                          have n4 : (op != 4) = true := by simp [hq]
                                          have e3 : (op == 3) = true := by simp [hq]
                                          have n3 : (op != 3) = false := by simp [hq]
                                          by_cases zoth : oth = 0
                                          · have ezoth : (oth == 0) = true := by simp [zoth]
                                            have nzoth : (oth != 0) = false := by simp [zoth]
                                            by_cases zwd2 : wd2 = 0
                                            · have ezwd2 : (wd2 == 0) = true := by simp [zwd2]
                                              have nzwd2 : (wd2 != 0) = false := by simp [zwd2]
                                              by_cases ql : (cf.length : Int) > 0
                                              · skip
                                                have HEQ := hide (decide_eq_true (show ((¬ (op = 3 ∨ op = 4 ∨ op = 8 ∨ op = 9)) ∧ var ≠ 0) ∨ (op ≠ 4 ∧ (oth ≠ 0 ∨ wd2 ≠ 0)) ∨ ((¬ (op = 3 ∨ op = 4)) ∧ wd ≠ 0) ∨ ((¬ (op = 1 ∨ op = 2)) ∧ op ≠ 3 ∧ num ≠ 0) ∨ ((¬ (op = 1 ∨ op = 2)) ∧ (cf.length : Int) > 0) by omega) : decide (((¬ (op = 3 ∨ op = 4 ∨ op = 8 ∨ op = 9)) ∧ var ≠ 0) ∨ (op ≠ 4 ∧ (oth ≠ 0 ∨ wd2 ≠ 0)) ∨ ((¬ (op = 3 ∨ op = 4)) ∧ wd ≠ 0) ∨ ((¬ (op = 1 ∨ op = 2)) ∧ op ≠ 3 ∧ num ≠ 0) ∨ ((¬ (op = 1 ∨ op = 2)) ∧ (cf.length : Int) > 0)) = true)
                                                clear hq zoth zwd2
                                                go_wp2_with (go_at_call 69; refine HSO.out.mono ?_; rintro e w' ⟨rfl, hw'⟩; rw [hw']; clear hw' w')
                                                go_meet
                                                case rel => exact ⟨by rw [HEbL.out], by rw [HEbV.out], by rw [HEbW.out], by rw [HEQ.out] <;> first | (congr 1; exact decide_eq_true (by omega)) | (congr 1; exact decide_eq_false (by omega)) | (congr 1; simp; omega), rfl⟩
                                              · skip
                                                have HEQ := hide (decide_eq_false (show ¬ (((¬ (op = 3 ∨ op = 4 ∨ op = 8 ∨ op = 9)) ∧ var ≠ 0) ∨ (op ≠ 4 ∧ (oth ≠ 0 ∨ wd2 ≠ 0)) ∨ ((¬ (op = 3 ∨ op = 4)) ∧ wd ≠ 0) ∨ ((¬ (op = 1 ∨ op = 2)) ∧ op ≠ 3 ∧ num ≠ 0) ∨ ((¬ (op = 1 ∨ op = 2)) ∧ (cf.length : Int) > 0)) by omega) : decide (((¬ (op = 3 ∨ op = 4 ∨ op = 8 ∨ op = 9)) ∧ var ≠ 0) ∨ (op ≠ 4 ∧ (oth ≠ 0 ∨ wd2 ≠ 0)) ∨ ((¬ (op = 3 ∨ op = 4)) ∧ wd ≠ 0) ∨ ((¬ (op = 1 ∨ op = 2)) ∧ op ≠ 3 ∧ num ≠ 0) ∨ ((¬ (op = 1 ∨ op = 2)) ∧ (cf.length : Int) > 0)) = false)
                                                clear hq zoth zwd2
                                                go_wp2_with (go_at_call 69; refine HSO.out.mono ?_; rintro e w' ⟨rfl, hw'⟩; rw [hw']; clear hw' w')
                                                go_meet
                                                case rel => exact ⟨by rw [HEbL.out], by rw [HEbV.out], by rw [HEbW.out], by rw [HEQ.out] <;> first | (congr 1; exact decide_eq_true (by omega)) | (congr 1; exact decide_eq_false (by omega)) | (congr 1; simp; omega), rfl⟩
                                            · have ezwd2 : (wd2 == 0) = false := by simp [zwd2]
                                              have nzwd2 : (wd2 != 0) = true := by simp [zwd2]
                                              have HEQ := hide (decide_eq_true (show ((¬ (op = 3 ∨ op = 4 ∨ op = 8 ∨ op = 9)) ∧ var ≠ 0) ∨ (op ≠ 4 ∧ (oth ≠ 0 ∨ wd2 ≠ 0)) ∨ ((¬ (op = 3 ∨ op = 4)) ∧ wd ≠ 0) ∨ ((¬ (op = 1 ∨ op = 2)) ∧ op ≠ 3 ∧ num ≠ 0) ∨ ((¬ (op = 1 ∨ op = 2)) ∧ (cf.length : Int) > 0) by omega) : decide (((¬ (op = 3 ∨ op = 4 ∨ op = 8 ∨ op = 9)) ∧ var ≠ 0) ∨ (op ≠ 4 ∧ (oth ≠ 0 ∨ wd2 ≠ 0)) ∨ ((¬ (op = 3 ∨ op = 4)) ∧ wd ≠ 0) ∨ ((¬ (op = 1 ∨ op = 2)) ∧ op ≠ 3 ∧ num ≠ 0) ∨ ((¬ (op = 1 ∨ op = 2)) ∧ (cf.length : Int) > 0)) = true)
                                              clear hq zoth zwd2
                                              go_wp2_with (go_at_call 69; refine HSO.out.mono ?_; rintro e w' ⟨rfl, hw'⟩; rw [hw']; clear hw' w')
                                              go_meet
                                              case rel => exact ⟨by rw [HEbL.out], by rw [HEbV.out], by rw [HEbW.out], by rw [HEQ.out] <;> first | (congr 1; exact decide_eq_true (by omega)) | (congr 1; exact decide_eq_false (by omega)) | (congr 1; simp; omega), rfl⟩
                                          · have ezoth : (oth == 0) = false := by simp [zoth]
                                            have nzoth : (oth != 0) = true := by simp [zoth]
                                            have HEQ := hide (decide_eq_true (show ((¬ (op = 3 ∨ op = 4 ∨ op = 8 ∨ op = 9)) ∧ var ≠ 0) ∨ (op ≠ 4 ∧ (oth ≠ 0 ∨ wd2 ≠ 0)) ∨ ((¬ (op = 3 ∨ op = 4)) ∧ wd ≠ 0) ∨ ((¬ (op = 1 ∨ op = 2)) ∧ op ≠ 3 ∧ num ≠ 0) ∨ ((¬ (op = 1 ∨ op = 2)) ∧ (cf.length : Int) > 0) by omega) : decide (((¬ (op = 3 ∨ op = 4 ∨ op = 8 ∨ op = 9)) ∧ var ≠ 0) ∨ (op ≠ 4 ∧ (oth ≠ 0 ∨ wd2 ≠ 0)) ∨ ((¬ (op = 3 ∨ op = 4)) ∧ wd ≠ 0) ∨ ((¬ (op = 1 ∨ op = 2)) ∧ op ≠ 3 ∧ num ≠ 0) ∨ ((¬ (op = 1 ∨ op = 2)) ∧ (cf.length : Int) > 0)) = true)
                                            clear hq zoth
                                            go_wp2_with (go_at_call 69; refine HSO.out.mono ?_; rintro e w' ⟨rfl, hw'⟩; rw [hw']; clear hw' w')
                                            go_meet
                                            case rel => exact ⟨by rw [HEbL.out], by rw [HEbV.out], by rw [HEbW.out], by rw [HEQ.out] <;> first | (congr 1; exact decide_eq_true (by omega)) | (congr 1; exact decide_eq_false (by omega)) | (congr 1; simp; omega), rfl⟩
                                      · skip
                                        by_cases hq2 : op = 4
                                        · skip
                                          as_aux_lemma =>
                                            have EbV : bV = true := by rw [← HbV.out]; exact decide_eq_true (show op = 3 ∨ op = 4 ∨ op = 8 ∨ op = 9 by omega)
                                            rw [EbV]
                                            have HEbV := hide EbV
                                            clear EbV
                                            have EbW : bW = true := by rw [← HbW.out]; exact decide_eq_true (show op = 3 ∨ op = 4 by omega)
                                            rw [EbW]
                                            have HEbW := hide EbW
                                            clear EbW
                                            have EbL : bL = false := by rw [← HbL.out]; exact decide_eq_false (show ¬ (op = 1 ∨ op = 2) by omega)
                                            rw [EbL]
                                            have HEbL := hide EbL
                                            clear EbL
                                            have e4 : (op == 4) = true := by simp [hq2]
                                            have n4 : (op != 4) = false := by simp [hq2]
                                            have e3 : (op == 3) = false := by simp [hq2]
                                            have n3 : (op != 3) = true := by simp [hq2]
                                            by_cases znum : num = 0
                                            · have eznum : (num == 0) = true := by simp [znum]
                                              have nznum : (num != 0) = false := by simp [znum]
                                              by_cases ql : (cf.length : Int) > 0
                                              · skip
                                                have HEQ := hide (decide_eq_true (show ((¬ (op = 3 ∨ op = 4 ∨ op = 8 ∨ op = 9)) ∧ var ≠ 0) ∨ (op ≠ 4 ∧ (oth ≠ 0 ∨ wd2 ≠ 0)) ∨ ((¬ (op = 3 ∨ op = 4)) ∧ wd ≠ 0) ∨ ((¬ (op = 1 ∨ op = 2)) ∧ op ≠ 3 ∧ num ≠ 0) ∨ ((¬ (op = 1 ∨ op = 2)) ∧ (cf.length : Int) > 0) by omega) : decide (((¬ (op = 3 ∨ op = 4 ∨ op = 8 ∨ op = 9)) ∧ var ≠ 0) ∨ (op ≠ 4 ∧ (oth ≠ 0 ∨ wd2 ≠ 0)) ∨ ((¬ (op = 3 ∨ op = 4)) ∧ wd ≠ 0) ∨ ((¬ (op = 1 ∨ op = 2)) ∧ op ≠ 3 ∧ num ≠ 0) ∨ ((¬ (op = 1 ∨ op = 2)) ∧ (cf.length : Int) > 0)) = true)
                                                clear hq hq2 znum
                                                go_wp2_with (go_at_call 69; refine HSO.out.mono ?_; rintro e w' ⟨rfl, hw'⟩; rw [hw']; clear hw' w')
                                                go_meet
                                                case rel => exact ⟨by rw [HEbL.out], by rw [HEbV.out], by rw [HEbW.out], by rw [HEQ.out] <;> first | (congr 1; exact decide_eq_true (by omega)) | (congr 1; exact decide_eq_false (by omega)) | (congr 1; simp; omega), rfl⟩
                                              · skip
                                                have HEQ := hide (decide_eq_false (show ¬ (((¬ (op = 3 ∨ op = 4 ∨ op = 8 ∨ op = 9)) ∧ var ≠ 0) ∨ (op ≠ 4 ∧ (oth ≠ 0 ∨ wd2 ≠ 0)) ∨ ((¬ (op = 3 ∨ op = 4)) ∧ wd ≠ 0) ∨ ((¬ (op = 1 ∨ op = 2)) ∧ op ≠ 3 ∧ num ≠ 0) ∨ ((¬ (op = 1 ∨ op = 2)) ∧ (cf.length : Int) > 0)) by omega) : decide (((¬ (op = 3 ∨ op = 4 ∨ op = 8 ∨ op = 9)) ∧ var ≠ 0) ∨ (op ≠ 4 ∧ (oth ≠ 0 ∨ wd2 ≠ 0)) ∨ ((¬ (op = 3 ∨ op = 4)) ∧ wd ≠ 0) ∨ ((¬ (op = 1 ∨ op = 2)) ∧ op ≠ 3 ∧ num ≠ 0) ∨ ((¬ (op = 1 ∨ op = 2)) ∧ (cf.length : Int) > 0)) = false)
                                                clear hq hq2 znum
                                                go_wp2_with (go_at_call 69; refine HSO.out.mono ?_; rintro e w' ⟨rfl, hw'⟩; rw [hw']; clear hw' w')
                                                go_meet
                                                case rel => exact ⟨by rw [HEbL.out], by rw [HEbV.out], by rw [HEbW.out], by rw [HEQ.out] <;> first | (congr 1; exact decide_eq_true (by omega)) | (congr 1; exact decide_eq_false (by omega)) | (congr 1; simp; omega), rfl⟩
                                            · have eznum : (num == 0) = false := by simp [znum]
                                              have nznum : (num != 0) = true := by simp [znum]
                                              have HEQ := hide (decide_eq_true (show ((¬ (op = 3 ∨ op = 4 ∨ op = 8 ∨ op = 9)) ∧ var ≠ 0) ∨ (op ≠ 4 ∧ (oth ≠ 0 ∨ wd2 ≠ 0)) ∨ ((¬ (op = 3 ∨ op = 4)) ∧ wd ≠ 0) ∨ ((¬ (op = 1 ∨ op = 2)) ∧ op ≠ 3 ∧ num ≠ 0) ∨ ((¬ (op = 1 ∨ op = 2)) ∧ (cf.length : Int) > 0) by omega) : decide (((¬ (op = 3 ∨ op = 4 ∨ op = 8 ∨ op = 9)) ∧ var ≠ 0) ∨ (op ≠ 4 ∧ (oth ≠ 0 ∨ wd2 ≠ 0)) ∨ ((¬ (op = 3 ∨ op = 4)) ∧ wd ≠ 0) ∨ ((¬ (op = 1 ∨ op = 2)) ∧ op ≠ 3 ∧ num ≠ 0) ∨ ((¬ (op = 1 ∨ op = 2)) ∧ (cf.length : Int) > 0)) = true)
                                              clear hq hq2 znum
                                              go_wp2_with (go_at_call 69; refine HSO.out.mono ?_; rintro e w' ⟨rfl, hw'⟩; rw [hw']; clear hw' w')
                                              go_meet
                                              case rel => exact ⟨by rw [HEbL.out], by rw [HEbV.out], by rw [HEbW.out], by rw [HEQ.out] <;> first | (congr 1; exact decide_eq_true (by omega)) | (congr 1; exact decide_eq_false (by omega)) | (congr 1; simp; omega), rfl⟩
                                        · skip
                                          by_cases hq3 : op = 8 ∨ op = 9
                                          · skip
                                            as_aux_lemma =>
                                              have EbV : bV = true := by rw [← HbV.out]; exact decide_eq_true (show op = 3 ∨ op = 4 ∨ op = 8 ∨ op = 9 by omega)
                                              rw [EbV]
                                              have HEbV := hide EbV
                                              clear EbV
                                              have EbW : bW = false := by rw [← HbW.out]; exact decide_eq_false (show ¬ (op = 3 ∨ op = 4) by omega)
                                              rw [EbW]
                                              have HEbW := hide EbW
                                              clear EbW
                                              have EbL : bL = false := by rw [← HbL.out]; exact decide_eq_false (show ¬ (op = 1 ∨ op = 2) by omega)
                                              rw [EbL]
                                              have HEbL := hide EbL
                                              clear EbL
                                              have e4 : (op == 4) = false := by simp; omega
                                              have n4 : (op != 4) = true := by simp; omega
                                              have e3 : (op == 3) = false := by simp; omega
                                              have n3 : (op != 3) = true := by simp; omega
                                              by_cases zoth : oth = 0
                                              · have ezoth : (oth == 0) = true := by simp [zoth]
                                                have nzoth : (oth != 0) = false := by simp [zoth]
                                                by_cases zwd2 : wd2 = 0
                                                · have ezwd2 : (wd2 == 0) = true := by simp [zwd2]
                                                  have nzwd2 : (wd2 != 0) = false := by simp [zwd2]
                                                  by_cases zwd : wd = 0
                                                  · have ezwd : (wd == 0) = true := by simp [zwd]
                                                    have nzwd : (wd != 0) = false := by simp [zwd]
                                                    by_cases znum : num = 0
                                                    · have eznum : (num == 0) = true := by simp [znum]
                                                      have nznum : (num != 0) = false := by simp [znum]
                                                      by_cases ql : (cf.length : Int) > 0
                                                      · skip
                                                        have HEQ := hide (decide_eq_true (show ((¬ (op = 3 ∨ op = 4 ∨ op = 8 ∨ op = 9)) ∧ var ≠ 0) ∨ (op ≠ 4 ∧ (oth ≠ 0 ∨ wd2 ≠ 0)) ∨ ((¬ (op = 3 ∨ op = 4)) ∧ wd ≠ 0) ∨ ((¬ (op = 1 ∨ op = 2)) ∧ op ≠ 3 ∧ num ≠ 0) ∨ ((¬ (op = 1 ∨ op = 2)) ∧ (cf.length : Int) > 0) by omega) : decide (((¬ (op = 3 ∨ op = 4 ∨ op = 8 ∨ op = 9)) ∧ var ≠ 0) ∨ (op ≠ 4 ∧ (oth ≠ 0 ∨ wd2 ≠ 0)) ∨ ((¬ (op = 3 ∨ op = 4)) ∧ wd ≠ 0) ∨ ((¬ (op = 1 ∨ op = 2)) ∧ op ≠ 3 ∧ num ≠ 0) ∨ ((¬ (op = 1 ∨ op = 2)) ∧ (cf.length : Int) > 0)) = true)
                                                        clear hq hq2 zoth zwd2 zwd znum
                                                        go_wp2_with (go_at_call 69; refine HSO.out.mono ?_; rintro e w' ⟨rfl, hw'⟩; rw [hw']; clear hw' w')
                                                        go_meet
                                                        case rel => exact ⟨by rw [HEbL.out], by rw [HEbV.out], by rw [HEbW.out], by rw [HEQ.out] <;> first | (congr 1; exact decide_eq_true (by omega)) | (congr 1; exact decide_eq_false (by omega)) | (congr 1; simp; omega), rfl⟩
                                                      · skip
                                                        have HEQ := hide (decide_eq_false (show ¬ (((¬ (op = 3 ∨ op = 4 ∨ op = 8 ∨ op = 9)) ∧ var ≠ 0) ∨ (op ≠ 4 ∧ (oth ≠ 0 ∨ wd2 ≠ 0)) ∨ ((¬ (op = 3 ∨ op = 4)) ∧ wd ≠ 0) ∨ ((¬ (op = 1 ∨ op = 2)) ∧ op ≠ 3 ∧ num ≠ 0) ∨ ((¬ (op = 1 ∨ op = 2)) ∧ (cf.length : Int) > 0)) by omega) : decide (((¬ (op = 3 ∨ op = 4 ∨ op = 8 ∨ op = 9)) ∧ var ≠ 0) ∨ (op ≠ 4 ∧ (oth ≠ 0 ∨ wd2 ≠ 0)) ∨ ((¬ (op = 3 ∨ op = 4)) ∧ wd ≠ 0) ∨ ((¬ (op = 1 ∨ op = 2)) ∧ op ≠ 3 ∧ num ≠ 0) ∨ ((¬ (op = 1 ∨ op = 2)) ∧ (cf.length : Int) > 0)) = false)
                                                        clear hq hq2 zoth zwd2 zwd znum
                                                        go_wp2_with (go_at_call 69; refine HSO.out.mono ?_; rintro e w' ⟨rfl, hw'⟩; rw [hw']; clear hw' w')
                                                        go_meet
                                                        case rel => exact ⟨by rw [HEbL.out], by rw [HEbV.out], by rw [HEbW.out], by rw [HEQ.out] <;> first | (congr 1; exact decide_eq_true (by omega)) | (congr 1; exact decide_eq_false (by omega)) | (congr 1; simp; omega), rfl⟩
                                                    · have eznum : (num == 0) = false := by simp [znum]
                                                      have nznum : (num != 0) = true := by simp [znum]
                                                      have HEQ := hide (decide_eq_true (show ((¬ (op = 3 ∨ op = 4 ∨ op = 8 ∨ op = 9)) ∧ var ≠ 0) ∨ (op ≠ 4 ∧ (oth ≠ 0 ∨ wd2 ≠ 0)) ∨ ((¬ (op = 3 ∨ op = 4)) ∧ wd ≠ 0) ∨ ((¬ (op = 1 ∨ op = 2)) ∧ op ≠ 3 ∧ num ≠ 0) ∨ ((¬ (op = 1 ∨ op = 2)) ∧ (cf.length : Int) > 0) by omega) : decide (((¬ (op = 3 ∨ op = 4 ∨ op = 8 ∨ op = 9)) ∧ var ≠ 0) ∨ (op ≠ 4 ∧ (oth ≠ 0 ∨ wd2 ≠ 0)) ∨ ((¬ (op = 3 ∨ op = 4)) ∧ wd ≠ 0) ∨ ((¬ (op = 1 ∨ op = 2)) ∧ op ≠ 3 ∧ num ≠ 0) ∨ ((¬ (op = 1 ∨ op = 2)) ∧ (cf.length : Int) > 0)) = true)
                                                      clear hq hq2 zoth zwd2 zwd znum
                                                      go_wp2_with (go_at_call 69; refine HSO.out.mono ?_; rintro e w' ⟨rfl, hw'⟩; rw [hw']; clear hw' w')
                                                      go_meet
                                                      case rel => exact ⟨by rw [HEbL.out], by rw [HEbV.out], by rw [HEbW.out], by rw [HEQ.out] <;> first | (congr 1; exact decide_eq_true (by omega)) | (congr 1; exact decide_eq_false (by omega)) | (congr 1; simp; omega), rfl⟩
                                                  · have ezwd : (wd == 0) = false := by simp [zwd]
                                                    have nzwd : (wd != 0) = true := by simp [zwd]
                                                    have HEQ := hide (decide_eq_true (show ((¬ (op = 3 ∨ op = 4 ∨ op = 8 ∨ op = 9)) ∧ var ≠ 0) ∨ (op ≠ 4 ∧ (oth ≠ 0 ∨ wd2 ≠ 0)) ∨ ((¬ (op = 3 ∨ op = 4)) ∧ wd ≠ 0) ∨ ((¬ (op = 1 ∨ op = 2)) ∧ op ≠ 3 ∧ num ≠ 0) ∨ ((¬ (op = 1 ∨ op = 2)) ∧ (cf.length : Int) > 0) by omega) : decide (((¬ (op = 3 ∨ op = 4 ∨ op = 8 ∨ op = 9)) ∧ var ≠ 0) ∨ (op ≠ 4 ∧ (oth ≠ 0 ∨ wd2 ≠ 0)) ∨ ((¬ (op = 3 ∨ op = 4)) ∧ wd ≠ 0) ∨ ((¬ (op = 1 ∨ op = 2)) ∧ op ≠ 3 ∧ num ≠ 0) ∨ ((¬ (op = 1 ∨ op = 2)) ∧ (cf.length : Int) > 0)) = true)
                                                    clear hq hq2 zoth zwd2 zwd
                                                    go_wp2_with (go_at_call 69; refine HSO.out.mono ?_; rintro e w' ⟨rfl, hw'⟩; rw [hw']; clear hw' w')
                                                    go_meet
                                                    case rel => exact ⟨by rw [HEbL.out], by rw [HEbV.out], by rw [HEbW.out], by rw [HEQ.out] <;> first | (congr 1; exact decide_eq_true (by omega)) | (congr 1; exact decide_eq_false (by omega)) | (congr 1; simp; omega), rfl⟩
                                                · have ezwd2 : (wd2 == 0) = false := by simp [zwd2]
                                                  have nzwd2 : (wd2 != 0) = true := by simp [zwd2]
                                                  have HEQ := hide (decide_eq_true (show ((¬ (op = 3 ∨ op = 4 ∨ op = 8 ∨ op = 9)) ∧ var ≠ 0) ∨ (op ≠ 4 ∧ (oth ≠ 0 ∨ wd2 ≠ 0)) ∨ ((¬ (op = 3 ∨ op = 4)) ∧ wd ≠ 0) ∨ ((¬ (op = 1 ∨ op = 2)) ∧ op ≠ 3 ∧ num ≠ 0) ∨ ((¬ (op = 1 ∨ op = 2)) ∧ (cf.length : Int) > 0) by omega) : decide (((¬ (op = 3 ∨ op = 4 ∨ op = 8 ∨ op = 9)) ∧ var ≠ 0) ∨ (op ≠ 4 ∧ (oth ≠ 0 ∨ wd2 ≠ 0)) ∨ ((¬ (op = 3 ∨ op = 4)) ∧ wd ≠ 0) ∨ ((¬ (op = 1 ∨ op = 2)) ∧ op ≠ 3 ∧ num ≠ 0) ∨ ((¬ (op = 1 ∨ op = 2)) ∧ (cf.length : Int) > 0)) = true)
                                                  clear hq hq2 zoth zwd2
                                                  go_wp2_with (go_at_call 69; refine HSO.out.mono ?_; rintro e w' ⟨rfl, hw'⟩; rw [hw']; clear hw' w')
                                                  go_meet
                                                  case rel => exact ⟨by rw [HEbL.out], by rw [HEbV.out], by rw [HEbW.out], by rw [HEQ.out] <;> first | (congr 1; exact decide_eq_true (by omega)) | (congr 1; exact decide_eq_false (by omega)) | (congr 1; simp; omega), rfl⟩
                                              · have ezoth : (oth == 0) = false := by simp [zoth]
                                                have nzoth : (oth != 0) = true := by simp [zoth]
                                                have HEQ := hide (decide_eq_true (show ((¬ (op = 3 ∨ op = 4 ∨ op = 8 ∨ op = 9)) ∧ var ≠ 0) ∨ (op ≠ 4 ∧ (oth ≠ 0 ∨ wd2 ≠ 0)) ∨ ((¬ (op = 3 ∨ op = 4)) ∧ wd ≠ 0) ∨ ((¬ (op = 1 ∨ op = 2)) ∧ op ≠ 3 ∧ num ≠ 0) ∨ ((¬ (op = 1 ∨ op = 2)) ∧ (cf.length : Int) > 0) by omega) : decide (((¬ (op = 3 ∨ op = 4 ∨ op = 8 ∨ op = 9)) ∧ var ≠ 0) ∨ (op ≠ 4 ∧ (oth ≠ 0 ∨ wd2 ≠ 0)) ∨ ((¬ (op = 3 ∨ op = 4)) ∧ wd ≠ 0) ∨ ((¬ (op = 1 ∨ op = 2)) ∧ op ≠ 3 ∧ num ≠ 0) ∨ ((¬ (op = 1 ∨ op = 2)) ∧ (cf.length : Int) > 0)) = true)
                                                clear hq hq2 zoth
                                                go_wp2_with (go_at_call 69; refine HSO.out.mono ?_; rintro e w' ⟨rfl, hw'⟩; rw [hw']; clear hw' w')
                                                go_meet
                                                case rel => exact ⟨by rw [HEbL.out], by rw [HEbV.out], by rw [HEbW.out], by rw [HEQ.out] <;> first | (congr 1; exact decide_eq_true (by omega)) | (congr 1; exact decide_eq_false (by omega)) | (congr 1; simp; omega), rfl⟩
                                          · skip
                                            as_aux_lemma =>
                                              have EbV : bV = false := by rw [← HbV.out]; exact decide_eq_false (show ¬ (op = 3 ∨ op = 4 ∨ op = 8 ∨ op = 9) by omega)
                                              rw [EbV]
                                              have HEbV := hide EbV
                                              clear EbV
                                              have EbW : bW = false := by rw [← HbW.out]; exact decide_eq_false (show ¬ (op = 3 ∨ op = 4) by omega)
                                              rw [EbW]
                                              have HEbW := hide EbW
                                              clear EbW
                                              have EbL : bL = false := by rw [← HbL.out]; exact decide_eq_false (show ¬ (op = 1 ∨ op = 2) by omega)
                                              rw [EbL]
                                              have HEbL := hide EbL
                                              clear EbL
                                              have e4 : (op == 4) = false := by simp; omega
                                              have n4 : (op != 4) = true := by simp; omega
                                              have e3 : (op == 3) = false := by simp; omega
                                              have n3 : (op != 3) = true := by simp; omega
                                              by_cases zvar : var = 0
                                              · have ezvar : (var == 0) = true := by simp [zvar]
                                                have nzvar : (var != 0) = false := by simp [zvar]
                                                by_cases zoth : oth = 0
                                                · have ezoth : (oth == 0) = true := by simp [zoth]
                                                  have nzoth : (oth != 0) = false := by simp [zoth]
                                                  by_cases zwd2 : wd2 = 0
                                                  · have ezwd2 : (wd2 == 0) = true := by simp [zwd2]
                                                    have nzwd2 : (wd2 != 0) = false := by simp [zwd2]
                                                    by_cases zwd : wd = 0
                                                    · have ezwd : (wd == 0) = true := by simp [zwd]
                                                      have nzwd : (wd != 0) = false := by simp [zwd]
                                                      by_cases znum : num = 0
                                                      · have eznum : (num == 0) = true := by simp [znum]
                                                        have nznum : (num != 0) = false := by simp [znum]
                                                        by_cases ql : (cf.length : Int) > 0
                                                        · skip
                                                          have HEQ := hide (decide_eq_true (show ((¬ (op = 3 ∨ op = 4 ∨ op = 8 ∨ op = 9)) ∧ var ≠ 0) ∨ (op ≠ 4 ∧ (oth ≠ 0 ∨ wd2 ≠ 0)) ∨ ((¬ (op = 3 ∨ op = 4)) ∧ wd ≠ 0) ∨ ((¬ (op = 1 ∨ op = 2)) ∧ op ≠ 3 ∧ num ≠ 0) ∨ ((¬ (op = 1 ∨ op = 2)) ∧ (cf.length : Int) > 0) by omega) : decide (((¬ (op = 3 ∨ op = 4 ∨ op = 8 ∨ op = 9)) ∧ var ≠ 0) ∨ (op ≠ 4 ∧ (oth ≠ 0 ∨ wd2 ≠ 0)) ∨ ((¬ (op = 3 ∨ op = 4)) ∧ wd ≠ 0) ∨ ((¬ (op = 1 ∨ op = 2)) ∧ op ≠ 3 ∧ num ≠ 0) ∨ ((¬ (op = 1 ∨ op = 2)) ∧ (cf.length : Int) > 0)) = true)
                                                          clear hq hq2 zvar zoth zwd2 zwd znum
                                                          go_wp2_with (go_at_call 69; refine HSO.out.mono ?_; rintro e w' ⟨rfl, hw'⟩; rw [hw']; clear hw' w')
                                                          go_meet
                                                          case rel => exact ⟨by rw [HEbL.out], by rw [HEbV.out], by rw [HEbW.out], by rw [HEQ.out] <;> first | (congr 1; exact decide_eq_true (by omega)) | (congr 1; exact decide_eq_false (by omega)) | (congr 1; simp; omega), rfl⟩
                                                        · skip
                                                          have HEQ := hide (decide_eq_false (show ¬ (((¬ (op = 3 ∨ op = 4 ∨ op = 8 ∨ op = 9)) ∧ var ≠ 0) ∨ (op ≠ 4 ∧ (oth ≠ 0 ∨ wd2 ≠ 0)) ∨ ((¬ (op = 3 ∨ op = 4)) ∧ wd ≠ 0) ∨ ((¬ (op = 1 ∨ op = 2)) ∧ op ≠ 3 ∧ num ≠ 0) ∨ ((¬ (op = 1 ∨ op = 2)) ∧ (cf.length : Int) > 0)) by omega) : decide (((¬ (op = 3 ∨ op = 4 ∨ op = 8 ∨ op = 9)) ∧ var ≠ 0) ∨ (op ≠ 4 ∧ (oth ≠ 0 ∨ wd2 ≠ 0)) ∨ ((¬ (op = 3 ∨ op = 4)) ∧ wd ≠ 0) ∨ ((¬ (op = 1 ∨ op = 2)) ∧ op ≠ 3 ∧ num ≠ 0) ∨ ((¬ (op = 1 ∨ op = 2)) ∧ (cf.length : Int) > 0)) = false)
                                                          clear hq hq2 zvar zoth zwd2 zwd znum
                                                          go_wp2_with (go_at_call 69; refine HSO.out.mono ?_; rintro e w' ⟨rfl, hw'⟩; rw [hw']; clear hw' w')
                                                          go_meet
                                                          case rel => exact ⟨by rw [HEbL.out], by rw [HEbV.out], by rw [HEbW.out], by rw [HEQ.out] <;> first | (congr 1; exact decide_eq_true (by omega)) | (congr 1; exact decide_eq_false (by omega)) | (congr 1; simp; omega), rfl⟩
                                                      · have eznum : (num == 0) = false := by simp [znum]
                                                        have nznum : (num != 0) = true := by simp [znum]
                                                        have HEQ := hide (decide_eq_true (show ((¬ (op = 3 ∨ op = 4 ∨ op = 8 ∨ op = 9)) ∧ var ≠ 0) ∨ (op ≠ 4 ∧ (oth ≠ 0 ∨ wd2 ≠ 0)) ∨ ((¬ (op = 3 ∨ op = 4)) ∧ wd ≠ 0) ∨ ((¬ (op = 1 ∨ op = 2)) ∧ op ≠ 3 ∧ num ≠ 0) ∨ ((¬ (op = 1 ∨ op = 2)) ∧ (cf.length : Int) > 0) by omega) : decide (((¬ (op = 3 ∨ op = 4 ∨ op = 8 ∨ op = 9)) ∧ var ≠ 0) ∨ (op ≠ 4 ∧ (oth ≠ 0 ∨ wd2 ≠ 0)) ∨ ((¬ (op = 3 ∨ op = 4)) ∧ wd ≠ 0) ∨ ((¬ (op = 1 ∨ op = 2)) ∧ op ≠ 3 ∧ num ≠ 0) ∨ ((¬ (op = 1 ∨ op = 2)) ∧ (cf.length : Int) > 0)) = true)
                                                        clear hq hq2 zvar zoth zwd2 zwd znum
                                                        go_wp2_with (go_at_call 69; refine HSO.out.mono ?_; rintro e w' ⟨rfl, hw'⟩; rw [hw']; clear hw' w')
                                                        go_meet
                                                        case rel => exact ⟨by rw [HEbL.out], by rw [HEbV.out], by rw [HEbW.out], by rw [HEQ.out] <;> first | (congr 1; exact decide_eq_true (by omega)) | (congr 1; exact decide_eq_false (by omega)) | (congr 1; simp; omega), rfl⟩
                                                    · have ezwd : (wd == 0) = false := by simp [zwd]
                                                      have nzwd : (wd != 0) = true := by simp [zwd]
                                                      have HEQ := hide (decide_eq_true (show ((¬ (op = 3 ∨ op = 4 ∨ op = 8 ∨ op = 9)) ∧ var ≠ 0) ∨ (op ≠ 4 ∧ (oth ≠ 0 ∨ wd2 ≠ 0)) ∨ ((¬ (op = 3 ∨ op = 4)) ∧ wd ≠ 0) ∨ ((¬ (op = 1 ∨ op = 2)) ∧ op ≠ 3 ∧ num ≠ 0) ∨ ((¬ (op = 1 ∨ op = 2)) ∧ (cf.length : Int) > 0) by omega) : decide (((¬ (op = 3 ∨ op = 4 ∨ op = 8 ∨ op = 9)) ∧ var ≠ 0) ∨ (op ≠ 4 ∧ (oth ≠ 0 ∨ wd2 ≠ 0)) ∨ ((¬ (op = 3 ∨ op = 4)) ∧ wd ≠ 0) ∨ ((¬ (op = 1 ∨ op = 2)) ∧ op ≠ 3 ∧ num ≠ 0) ∨ ((¬ (op = 1 ∨ op = 2)) ∧ (cf.length : Int) > 0)) = true)
                                                      clear hq hq2 zvar zoth zwd2 zwd
                                                      go_wp2_with (go_at_call 69; refine HSO.out.mono ?_; rintro e w' ⟨rfl, hw'⟩; rw [hw']; clear hw' w')
                                                      go_meet
                                                      case rel => exact ⟨by rw [HEbL.out], by rw [HEbV.out], by rw [HEbW.out], by rw [HEQ.out] <;> first | (congr 1; exact decide_eq_true (by omega)) | (congr 1; exact decide_eq_false (by omega)) | (congr 1; simp; omega), rfl⟩
                                                  · have ezwd2 : (wd2 == 0) = false := by simp [zwd2]
                                                    have nzwd2 : (wd2 != 0) = true := by simp [zwd2]
                                                    have HEQ := hide (decide_eq_true (show ((¬ (op = 3 ∨ op = 4 ∨ op = 8 ∨ op = 9)) ∧ var ≠ 0) ∨ (op ≠ 4 ∧ (oth ≠ 0 ∨ wd2 ≠ 0)) ∨ ((¬ (op = 3 ∨ op = 4)) ∧ wd ≠ 0) ∨ ((¬ (op = 1 ∨ op = 2)) ∧ op ≠ 3 ∧ num ≠ 0) ∨ ((¬ (op = 1 ∨ op = 2)) ∧ (cf.length : Int) > 0) by omega) : decide (((¬ (op = 3 ∨ op = 4 ∨ op = 8 ∨ op = 9)) ∧ var ≠ 0) ∨ (op ≠ 4 ∧ (oth ≠ 0 ∨ wd2 ≠ 0)) ∨ ((¬ (op = 3 ∨ op = 4)) ∧ wd ≠ 0) ∨ ((¬ (op = 1 ∨ op = 2)) ∧ op ≠ 3 ∧ num ≠ 0) ∨ ((¬ (op = 1 ∨ op = 2)) ∧ (cf.length : Int) > 0)) = true)
                                                    clear hq hq2 zvar zoth zwd2
                                                    go_wp2_with (go_at_call 69; refine HSO.out.mono ?_; rintro e w' ⟨rfl, hw'⟩; rw [hw']; clear hw' w')
                                                    go_meet
                                                    case rel => exact ⟨by rw [HEbL.out], by rw [HEbV.out], by rw [HEbW.out], by rw [HEQ.out] <;> first | (congr 1; exact decide_eq_true (by omega)) | (congr 1; exact decide_eq_false (by omega)) | (congr 1; simp; omega), rfl⟩
                                                · have ezoth : (oth == 0) = false := by simp [zoth]
                                                  have nzoth : (oth != 0) = true := by simp [zoth]
                                                  have HEQ := hide (decide_eq_true (show ((¬ (op = 3 ∨ op = 4 ∨ op = 8 ∨ op = 9)) ∧ var ≠ 0) ∨ (op ≠ 4 ∧ (oth ≠ 0 ∨ wd2 ≠ 0)) ∨ ((¬ (op = 3 ∨ op = 4)) ∧ wd ≠ 0) ∨ ((¬ (op = 1 ∨ op = 2)) ∧ op ≠ 3 ∧ num ≠ 0) ∨ ((¬ (op = 1 ∨ op = 2)) ∧ (cf.length : Int) > 0) by omega) : decide (((¬ (op = 3 ∨ op = 4 ∨ op = 8 ∨ op = 9)) ∧ var ≠ 0) ∨ (op ≠ 4 ∧ (oth ≠ 0 ∨ wd2 ≠ 0)) ∨ ((¬ (op = 3 ∨ op = 4)) ∧ wd ≠ 0) ∨ ((¬ (op = 1 ∨ op = 2)) ∧ op ≠ 3 ∧ num ≠ 0) ∨ ((¬ (op = 1 ∨ op = 2)) ∧ (cf.length : Int) > 0)) = true)
                                                  clear hq hq2 zvar zoth
                                                  go_wp2_with (go_at_call 69; refine HSO.out.mono ?_; rintro e w' ⟨rfl, hw'⟩; rw [hw']; clear hw' w')
                                                  go_meet
                                                  case rel => exact ⟨by rw [HEbL.out], by rw [HEbV.out], by rw [HEbW.out], by rw [HEQ.out] <;> first | (congr 1; exact decide_eq_true (by omega)) | (congr 1; exact decide_eq_false (by omega)) | (congr 1; simp; omega), rfl⟩
                                              · have ezvar : (var == 0) = false := by simp [zvar]
                                                have nzvar : (var != 0) = true := by simp [zvar]
                                                have HEQ := hide (decide_eq_true (show ((¬ (op = 3 ∨ op = 4 ∨ op = 8 ∨ op = 9)) ∧ var ≠ 0) ∨ (op ≠ 4 ∧ (oth ≠ 0 ∨ wd2 ≠ 0)) ∨ ((¬ (op = 3 ∨ op = 4)) ∧ wd ≠ 0) ∨ ((¬ (op = 1 ∨ op = 2)) ∧ op ≠ 3 ∧ num ≠ 0) ∨ ((¬ (op = 1 ∨ op = 2)) ∧ (cf.length : Int) > 0) by omega) : decide (((¬ (op = 3 ∨ op = 4 ∨ op = 8 ∨ op = 9)) ∧ var ≠ 0) ∨ (op ≠ 4 ∧ (oth ≠ 0 ∨ wd2 ≠ 0)) ∨ ((¬ (op = 3 ∨ op = 4)) ∧ wd ≠ 0) ∨ ((¬ (op = 1 ∨ op = 2)) ∧ op ≠ 3 ∧ num ≠ 0) ∨ ((¬ (op = 1 ∨ op = 2)) ∧ (cf.length : Int) > 0)) = true)
                                                clear hq hq2 zvar
                                                go_wp2_with (go_at_call 69; refine HSO.out.mono ?_; rintro e w' ⟨rfl, hw'⟩; rw [hw']; clear hw' w')
                                                go_meet
                                                case rel => exact ⟨by rw [HEbL.out], by rw [HEbV.out], by rw [HEbW.out], by rw [HEQ.out] <;> first | (congr 1; exact decide_eq_true (by omega)) | (congr 1; exact decide_eq_false (by omega)) | (congr 1; simp; omega), rfl⟩
                                  case rest =>
                                    obtain ⟨rfl, rfl, rfl, rfl, rfl⟩ := hcut
                                    by_cases g : ((¬ (op = 3 ∨ op = 4 ∨ op = 8 ∨ op = 9)) ∧ var ≠ 0) ∨ (op ≠ 4 ∧ (oth ≠ 0 ∨ wd2 ≠ 0)) ∨ ((¬ (op = 3 ∨ op = 4)) ∧ wd ≠ 0) ∨ ((¬ (op = 1 ∨ op = 2)) ∧ op ≠ 3 ∧ num ≠ 0) ∨ ((¬ (op = 1 ∨ op = 2)) ∧ (cf.length : Int) > 0)
                                    · rw [decide_eq_true g]
                                      as_aux_lemma =>
                                        have kG4 := G4.out
                                        have kG6 := G6.out
                                        have kG8 := G8.out
                                        have kG10 := G10.out
                                        have kG12 := G12.out
                                        have hsz := HSZ.out.1
                                        have HFF := hide (H2.out (by unfold ndRp; omega) (by unfold ndSp; omega))
                                        clear g hsz H1 H2 H0 kG4 kG6 kG8 kG10 kG12
                                        go_wp2
                                        go_ret
                                        exact ⟨by rw [HFF.out]; rfl, HB.out⟩
                                    rw [decide_eq_false g]
                                    have G14 := hide g
                                    clear g
                                    as_aux_lemma =>
                                      go_upto_region 16 with fail
                                      by_cases ql : (cf.length : Int) > 0
                                      · obtain ⟨b1, o1, rfl, hc⟩ := HLC.out (cf.length - 1) (by omega)
                                        generalize cf.getD (cf.length - 1) 0 = z at hc H1 H2 H0
                                        by_cases qz : z = 0
                                        · have eqz : (z == 0) = true := by simp [qz]
                                          have kG4 := G4.out
                                          have kG6 := G6.out
                                          have kG8 := G8.out
                                          have kG10 := G10.out
                                          have kG12 := G12.out
                                          have kG14 := G14.out
                                          have hsz := HSZ.out.1
                                          have HFF := hide (H2.out (by unfold ndRp; omega) (by unfold ndSp; omega))
                                          clear hsz H1 H2 H0 kG4 kG6 kG8 kG10 kG12 kG14
                                          go_wp2
                                          go_ret
                                          exact ⟨by rw [HFF.out]; rfl, HB.out⟩
                                        · have eqz : (z == 0) = false := by simp [qz]
                                          have kG4 := G4.out
                                          have kG6 := G6.out
                                          have kG8 := G8.out
                                          have kG10 := G10.out
                                          have kG12 := G12.out
                                          have kG14 := G14.out
                                          have hsz := HSZ.out.1
                                          have HFF := hide (H0.out (by unfold ndRp; omega) (by unfold ndSp; omega))
                                          clear hsz H1 H2 H0 kG4 kG6 kG8 kG10 kG12 kG14
                                          go_wp2
                                          go_ret
                                          exact ⟨by rw [HFF.out]; rfl, HB.out⟩
                                      · skip
                                        have kG4 := G4.out
                                        have kG6 := G6.out
                                        have kG8 := G8.out
                                        have kG10 := G10.out
                                        have kG12 := G12.out
                                        have kG14 := G14.out
                                        have hsz := HSZ.out.1
                                        have HFF := hide (H0.out (by unfold ndRp; omega) (by unfold ndSp; omega))
                                        clear hsz H1 H2 H0 kG4 kG6 kG8 kG10 kG12 kG14
                                        go_wp2
                                        go_ret
                                        exact ⟨by rw [HFF.out]; rfl, HB.out⟩
end Go.Proofs.YtgbmemkoggogdaaDoor

/- The reference's Bare; two formulas that are the same (filbertsame.Nodes): contracts. -/
namespace Go.Proofs.YtgbmemkoggogdaaDoor
open Go.RowKit

def bareB (ns : List Nd) : Bool := ns.all fun n => decide (n.op ≠ 8 ∧ n.op ≠ 9)
theorem bare_take (ns : List Nd) {k : Nat} (h : k < ns.length) : bareB (ns.take (k + 1)) = (bareB (ns.take k) && decide ((ns.getD k zNd).op ≠ 8 ∧ (ns.getD k zNd).op ≠ 9)) := by
  unfold bareB
  rw [List.take_succ_eq_append_getElem h, List.all_append]
  simp [List.getD, h]
theorem bare_no {ns : List Nd} {k : Nat} (h : k < ns.length) (hb : (ns.getD k zNd).op = 8 ∨ (ns.getD k zNd).op = 9) : bareB ns = false := by
  unfold bareB
  rw [List.all_eq_false]
  refine ⟨ns.getD k zNd, by simp [List.getD, h], fun h' => ?_⟩
  have := of_decide_eq_true h'
  omega
set_option maxHeartbeats 4000000 in
set_option maxRecDepth 4000 in
theorem bare_any (a : Option Addr) (n cap : Nat) (ns : List Nd) (w : World) (hs : SlF w a n ns) (hn : n ≤ 40) : Calls Tryd.prog 22 #[.slice a n cap] w fun e w' => e = .returned (.bool (bareB ns)) ∧ w' = w := by
  have hL := hs.1
  have HS := hide hs
  have HT := hide (fun k (hk : k < n) => bare_take ns (k := k) (by omega))
  have HNO := hide (fun k (hk : k < n) => bare_no (ns := ns) (k := k) (by omega))
  have HE : Hid (ns.take n = ns) := by show _ = _; rw [← hL]; exact List.take_length
  clear hs hL
  generalize hB : bareB ns = B at HNO ⊢
  have HB := hide hB
  clear hB
  go_enter Tryd.func22, Tryd.ntmps22
  go_wp2
  go_loop [3] (fun iv => ∃ k : Nat, k ≤ n ∧ iv = .int .i64 k ∧ bareB (ns.take k) = true) (fun iv => n - (intOf iv).toNat)
  case atStart => exact ⟨0, by omega, rfl, rfl⟩
  case round =>
    obtain ⟨k, hk, rfl, hb⟩ := hrel
    have HBB := hide hb
    clear hb
    by_cases hlt : k < n
    · have hlti : (k : Int) < (n : Int) := by omega
      obtain ⟨bb, oo, a', c', rfl, x0, -⟩ := slF_cell HS.out k hlt
      have HTk := hide (HT.out k hlt)
      have HNk := hide (HNO.out k hlt)
      generalize (ns.getD k zNd).op = op at x0 HTk HNk
      by_cases h8 : op = 8
      · have e8 : (op == 8) = true := by simp [h8]
        have HBF := hide (HNk.out (.inl h8))
        clear h8
        go_wp2
        go_ret
        exact ⟨by rw [HBF.out]; rfl, rfl⟩
      · have e8 : (op == 8) = false := by simp [h8]
        by_cases h9 : op = 9
        · have e9 : (op == 9) = true := by simp [h9]
          have HBF := hide (HNk.out (.inr h9))
          clear h8 h9
          go_wp2
          go_ret
          exact ⟨by rw [HBF.out]; rfl, rfl⟩
        · have e9 : (op == 9) = false := by simp [h9]
          have HNX : Hid (bareB (ns.take (k + 1)) = true) := by show _ = _; rw [HTk.out, HBB.out]; simp [h8, h9]
          clear h8 h9
          go_wp2
          exact ⟨⟨k + 1, by omega, by simp, HNX.out⟩, by simp [intOf]; omega⟩
    · have hlti : ¬ (k : Int) < (n : Int) := by omega
      obtain rfl : k = n := by omega
      have hz := HBB.out
      rw [HE.out, HB.out] at hz
      have HZ := hide hz
      clear hz
      go_wp2
      go_ret
      exact ⟨by rw [HZ.out]; rfl, rfl⟩
end Go.Proofs.YtgbmemkoggogdaaDoor
