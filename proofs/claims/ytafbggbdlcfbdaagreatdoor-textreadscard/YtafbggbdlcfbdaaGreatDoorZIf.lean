/- 2 texts in one. -/
import Derived.Test.YtafbggbdlcfbdaaGreatDoorZUc
import Derived.Test.YtafbggbdlcfbdaaGreatDoorNx
import Derived.Test.YtafbggbdlcfbdaaGreatDoorZXd
import Derived.Test.YtafbggbdlcfbdaaGreatDoorZNr
import Derived.Test.YtafbggbdlcfbdaaGreatDoorZPa
/- Package text: showSide: contract. -/
namespace Go.Proofs.YtafbggbdlcfbdaaGreatDoor
open Go.RowKit

theorem infoStr : (Tryz.prog.info? 9).map (fun i => (i.zero, i.size, i.bytes)) = some (some (.string ⟨#[]⟩), 1, 16) := by kernel_rfl
/-- A row of strings that a call builds by append. -/
def StR (base : Nat) (W : World) (v : Value) (xs : List (List UInt8)) : Prop := W.ownsRow base 9 1 v xs.length (xs.map fun x => Value.string (bs x))
theorem stR_len {base : Nat} {W : World} {v : Value} {xs : List (List UInt8)} (h : StR base W v xs) : ∃ a c, v = .slice a xs.length c := by
  rcases h.2 with ⟨e, h0⟩ | ⟨g, cap, cur, e, -⟩
  · exact ⟨none, 0, by rw [e, h0]⟩
  · exact ⟨_, cap, e⟩
theorem stR_cells {base : Nat} {W : World} {v : Value} {xs : List (List UInt8)} (h : StR base W v xs) (hx : xs ≠ []) : ∃ g c, v = .slice (some ⟨g, 0, none⟩) xs.length c ∧ g < W.heap.size ∧ xs.length ≤ c ∧ ∀ (j : Nat) x, xs[j]? = some x → W.cell? ⟨g, j, none⟩ = some (.string (bs x)) := by
  rcases h.2 with ⟨e, h0⟩ | ⟨g, cap, cur, e, hg, hh, hc, hcm, hcs, ht⟩
  · exact absurd (List.eq_nil_of_length_eq_zero h0) hx
  · refine ⟨g, cap, e, (Array.getElem?_eq_some_iff.1 hh).1, hc, fun j x hj => ?_⟩
    have hjl : j < xs.length := (List.getElem?_eq_some_iff.1 hj).1
    rw [cell_of_row W g j cur 9 (0, 0) hh]
    have h3 : (cur.toList.take (xs.length * 1))[j]? = (xs.map fun x => Value.string (bs x))[j]? := by rw [ht]
    rw [List.getElem?_take, if_pos (by omega), Array.getElem?_toList, List.getElem?_map, hj] at h3
    exact h3
theorem stR_nil (base : Nat) (W : World) : StR base W (.slice none 0 0) [] := World.ownsRow_nil _ _ _ _
theorem stR_push {base : Nat} {w3 : World} {v' : Value} {xs : List (List UInt8)} {x : List UInt8} (h : w3.ownsRow base 9 1 v' (xs.length + 1) ((xs.map fun x => Value.string (bs x)) ++ [.string (bs x)])) : StR base w3 v' (xs ++ [x]) := by
  unfold StR
  rw [List.length_append, List.map_append]
  exact h
theorem sidP_less {cf : List Int} {sg : Int} {k : Nat} (h : sg * cf.getD k 0 < 1) : sidP cf sg (k + 1) = sidP cf sg k := by rw [sidP, if_pos h]
theorem sidP_one {cf : List Int} {sg : Int} {k : Nat} (h : sg * cf.getD k 0 = 1) : sidP cf sg (k + 1) = sidP cf sg k ++ [[ltC k]] := by rw [sidP, if_neg (by omega), partT, if_neg (by omega)]
theorem sidP_more {cf : List Int} {sg : Int} {k m : Nat} (h : sg * cf.getD k 0 = (m : Int)) (hm : 1 < m) : sidP cf sg (k + 1) = sidP cf sg k ++ [decL m ++ [ltC k]] := by rw [sidP, if_neg (by omega), partT, if_pos (by omega), h, Int.toNat_natCast]
set_option maxHeartbeats 16000000 in
set_option maxRecDepth 8000 in
theorem showSide_any (n : Nd) (a : Option Addr) (c : Nat) (sg : Int) (hsg : sg = 1 ∨ sg = -1) (w : World) (hs : Sl w a n.cf.length n.cf) (hl5 : n.cf.length ≤ 5) (hcb : ∀ k, -12 ≤ n.cf.getD k 0 ∧ n.cf.getD k 0 ≤ 12) (hnb : -60 ≤ n.num ∧ n.num ≤ 60) :
    Calls Tryz.prog 40 #[ndV n a c, .int .i64 sg] w fun e w' => e = .returned (.string (bs (sideT n.cf n.num sg))) ∧ Below w.heap.size w w' := by
  obtain ⟨l0, hl0, hv0, hv1, hv2⟩ := info_parts infoStr
  obtain ⟨op, var, oth, wd, wd2, num, cf⟩ := n
  simp only [] at hs hl5 hcb hnb ⊢
  have hB1 := (Below.refl w.heap.size w).alloc (Nat.le_refl _) (ndO ⟨op, var, oth, wd, wd2, num, cf⟩ a c)
  have hx1 := heap_alloc_last w (ndO ⟨op, var, oth, wd, wd2, num, cf⟩ a c)
  have hsz1 : (w.alloc (ndO ⟨op, var, oth, wd, wd2, num, cf⟩ a c)).heap.size = w.heap.size + 1 := by simp
  have HS := hide (fun W (h : Below w.heap.size w W) => sl_below hs h)
  have HCB := hide hcb
  have HMU : Hid (∀ x : Int, -60 ≤ x ∧ x ≤ 60 → ∃ m : Int, x * sg = m ∧ sg * x = m ∧ -60 ≤ m ∧ m ≤ 60 ∧ wrap64 m = m) := fun x hx => by
    refine ⟨x * sg, rfl, Int.mul_comm _ _, ?_⟩
    rcases hsg with rfl | rfl
    · refine ⟨by omega, by omega, by unfold wrap64; omega⟩
    · refine ⟨by omega, by omega, by unfold wrap64; omega⟩
  have HVA := hide (fun q (hq : q < 5) W => showVar_any q hq W)
  have HIT := hide (fun m (hm : m < 100) W => itoa_any m hm W)
  have HJO := hide (fun bk c xs W hc hb hn hcap hl => join_any bk c xs W hc hb hn hcap hl)
  have HSP := hide (And.intro (fun k => @sidP_less cf sg k) (And.intro (fun k => @sidP_one cf sg k) (fun k m => @sidP_more cf sg k m)))
  have HPL := hide (fun k => sidP_len cf sg k)
  have HAD : Hid (sidA cf num sg = if sg * num > 0 then sidP cf sg cf.length ++ [decL (sg * num).toNat] else sidP cf sg cf.length) := rfl
  have HAL := hide (And.intro (sidA_len cf num sg) (sidA_all cf num sg))
  have HTN := hide (fun h => @sidT_none cf num sg h)
  have HTS := hide (fun h => @sidT_some cf num sg h)
  have HL5 := hide hl5
  have HNB := hide hnb
  generalize sideT cf num sg = ST at HTN HTS ⊢
  obtain ⟨⟨j0, j1, j2, j3, j4, j5, j6⟩, -⟩ := box7_cells hx1
  have HX := hide hx1
  have HB := hide hB1
  have HSZ := hide hsz1
  clear hs hcb hsg hl5 hnb hB1 hx1 hsz1
  unfold ndV
  simp only [] at j0 j1 j2 j3 j4 j5 j6 ⊢
  generalize hW1 : w.alloc (ndO ⟨op, var, oth, wd, wd2, num, cf⟩ a c) = W1 at HX HB HSZ j0 j1 j2 j3 j4 j5 j6
  go_enter Tryz.func40, Tryz.ntmps40
  go_wp2
  clear hW1 j0 j1 j2 j3 j4 j5 j6
  go_loopw [5, 13] (fun v kv wx => ∃ k : Nat, k ≤ cf.length ∧ kv = .int .i64 (k : Int) ∧ StR (w.heap.size + 1) wx v (sidP cf sg k) ∧ Below W1.heap.size W1 wx) (fun _ kv _ => cf.length - (intOf kv).toNat)
  case atStart => exact ⟨0, Nat.zero_le _, rfl, stR_nil _ _, Below.refl _ _⟩
  case round =>
    obtain ⟨k, hk, rfl, hst, hb⟩ := hrel
    have HST := hide hst
    have HBW := hide hb
    have HBT := hide (below_step HB.out hb)
    have hpl := HPL.out k
    clear hst hb
    by_cases hlt : k < cf.length
    · have hlti : (k : Int) < (cf.length : Int) := by omega
      obtain ⟨bb, o, rfl, hck⟩ := sl_cell (HS.out wr HBT.out) k hlt
      obtain ⟨m, hm1, hm2, hm3, hm4, hm5⟩ := HMU.out (cf.getD k 0) (by have := HCB.out k; omega)
      have HOWN := hide (fun o => World.ownsRow.alloc (w := wr) HST.out o)
      have HPL5 : Hid ((sidP cf sg k).length ≤ 5) := by show _ ≤ _; have := HL5.out; omega
      have HV := hide (HVA.out k (by have := HL5.out; omega))
      have HCZ : Hid (sg * cf.getD k 0 = m) := hm2
      have hk5 : (k : Int) < 5 := by have := HL5.out; omega
      generalize cf.getD k 0 = z at hck hm1
      by_cases h1 : m = 1
      · have HNX : Hid (sidP cf sg (k + 1) = sidP cf sg k ++ [[ltC k]]) := HSP.out.2.1 k (HCZ.out.trans h1)
        have hm1b : (m == 1) = true := by simpa using h1
        clear hm2 hm3 hm4 h1 HCZ
        go_wp2_with fail
        refine (HV.out _).mono ?_
        rintro e w' ⟨rfl, hw'⟩
        rw [hw']
        clear hw' w'
        go_wp2_with (at_builtin; apply Classical.byContradiction; intro hcontra)
        apply hcontra
        clear hcontra
        refine wpList_append_own _ rfl _ _ 97 rfl (w.heap.size + 1) 9 l0 (.string ⟨#[]⟩) 1 16 Tryz.underlying97 hl0 hv0 hv1 hv2 rfl (by decide) _ _ _ rfl (HOWN.out _) ⟨wr.heap.size, 0, none⟩ 1 1 [.string (bs [ltC k])] rfl rfl (one_new wr _ _) (fun u hu => by simp at hu; subst hu; rfl) (by unfold maxLen; have := HPL5.out; omega) (by have := HPL5.out; omega) (by have := HSZ.out; have := HBW.out.size; simp; omega) ?_
        intro v' w3 hown hgrow hni
        go_wp2
        refine ⟨⟨k + 1, by omega, by go_num, ?_, ?_⟩, by simp [intOf]; omega⟩
        · rw [HNX.out]; exact stR_push hown
        · exact ((HBW.out.alloc HBW.out.size _).grown hgrow (by have := HBW.out.size; simp; omega) (fun x hx => by have := (HST.out.lt x hx).1; have := HSZ.out; omega))
      · by_cases h2 : m > 1
        · obtain ⟨mN, rfl⟩ : ∃ mN : Nat, m = (mN : Int) := ⟨m.toNat, by omega⟩
          have HNX : Hid (sidP cf sg (k + 1) = sidP cf sg k ++ [decL mN ++ [ltC k]]) := HSP.out.2.2 k mN HCZ.out (by omega)
          have HI := hide (HIT.out mN (by omega))
          have hdl := decL_len mN
          have s1 : ∀ W, (Op.stringOp .add (bs (decL mN)) (bs [ltC k])).run Tryz.prog W = .ok (.string (bs (decL mN ++ [ltC k]))) W := fun W => bs_add (decL mN) [ltC k] (by simp; omega) W
          have hm1b : ((mN : Int) == 1) = false := by simpa using h1
          generalize decL mN ++ [ltC k] = tx at s1 HNX
          generalize bs (decL mN) = t0 at s1 HI
          generalize bs [ltC k] = t1 at s1 HV
          clear hm2 hm3 hm4 h1 HCZ hdl
          go_wp2_with fail
          refine (HI.out _).mono ?_
          rintro e w' ⟨rfl, hw'⟩
          rw [hw']
          clear hw' w'
          go_wp2_with fail
          refine (HV.out _).mono ?_
          rintro e w' ⟨rfl, hw'⟩
          rw [hw']
          clear hw' w'
          go_wp2_with (at_builtin; apply Classical.byContradiction; intro hcontra)
          apply hcontra
          clear hcontra
          refine wpList_append_own _ rfl _ _ 97 rfl (w.heap.size + 1) 9 l0 (.string ⟨#[]⟩) 1 16 Tryz.underlying97 hl0 hv0 hv1 hv2 rfl (by decide) _ _ _ rfl (HOWN.out _) ⟨wr.heap.size, 0, none⟩ 1 1 [.string (bs tx)] rfl rfl (one_new wr _ _) (fun u hu => by simp at hu; subst hu; rfl) (by unfold maxLen; have := HPL5.out; omega) (by have := HPL5.out; omega) (by have := HSZ.out; have := HBW.out.size; simp; omega) ?_
          intro v' w3 hown hgrow hni
          go_wp2
          refine ⟨⟨k + 1, by omega, by go_num, ?_, ?_⟩, by simp [intOf]; omega⟩
          · rw [HNX.out]; exact stR_push hown
          · exact ((HBW.out.alloc HBW.out.size _).grown hgrow (by have := HBW.out.size; simp; omega) (fun x hx => by have := (HST.out.lt x hx).1; have := HSZ.out; omega))
        · have HNX : Hid (sidP cf sg (k + 1) = sidP cf sg k) := HSP.out.1 k (by have := HCZ.out; omega)
          have hm1b : (m == 1) = false := by simpa using h1
          clear hm2 hm3 hm4 h1 HCZ
          go_wp2
          exact ⟨⟨k + 1, by omega, by go_num, by rw [HNX.out]; exact HST.out, HBW.out⟩, by simp [intOf]; omega⟩
    · have hlti : ¬ (k : Int) < (cf.length : Int) := by omega
      obtain rfl : k = cf.length := by omega
      have hx1 := (HBW.out.block w.heap.size (by have := HSZ.out; omega)).trans HX.out
      obtain ⟨⟨j0, j1, j2, j3, j4, j5, j6⟩, -⟩ := box7_cells hx1
      simp only [] at j5
      have HOWN := hide (fun o => World.ownsRow.alloc (w := wr) HST.out o)
      have HPL5 : Hid ((sidP cf sg cf.length).length ≤ 5) := by show _ ≤ _; have := HL5.out; omega
      obtain ⟨m, hm1, hm2, hm3, hm4, hm5⟩ := HMU.out num HNB.out
      have HBA := hide HBT.out
      clear hx1 hlti hk hpl j0 j1 j2 j3 j4 j6
      by_cases h0 : m > 0
      · obtain ⟨mN, rfl⟩ : ∃ mN : Nat, m = (mN : Int) := ⟨m.toNat, by omega⟩
        have HAE : Hid (sidA cf num sg = sidP cf sg cf.length ++ [decL mN]) := by show _ = _; rw [HAD.out, hm2, if_pos h0, Int.toNat_natCast]
        have HI := hide (HIT.out mN (by omega))
        have hne : sidA cf num sg ≠ [] := by rw [HAE.out]; simp
        have HTE := hide (HTS.out hne)
        have HLE := hide HAL.out
        generalize sidA cf num sg = xs at HAE HTE HLE hne
        have HNE := hide hne
        clear hm2 hm3 hm4 HAD HTN HTS HAL hne
        go_wp2_with fail
        refine (HI.out _).mono ?_
        rintro e w' ⟨rfl, hw'⟩
        rw [hw']
        clear hw' w'
        go_wp2_with (at_builtin; apply Classical.byContradiction; intro hcontra)
        apply hcontra
        clear hcontra
        refine wpList_append_own _ rfl _ _ 97 rfl (w.heap.size + 1) 9 l0 (.string ⟨#[]⟩) 1 16 Tryz.underlying97 hl0 hv0 hv1 hv2 rfl (by decide) _ _ _ rfl (HOWN.out _) ⟨wr.heap.size, 0, none⟩ 1 1 [.string (bs (decL mN))] rfl rfl (one_new wr _ _) (fun u hu => by simp at hu; subst hu; rfl) (by unfold maxLen; have := HPL5.out; omega) (by have := HPL5.out; omega) (by have := HSZ.out; have := HBW.out.size; simp; omega) ?_
        intro v' w3 hown hgrow hni
        have hb3 := ((HBW.out.alloc HBW.out.size _).grown hgrow (by have := HBW.out.size; simp; omega) (fun x hx => by have := (HST.out.lt x hx).1; have := HSZ.out; omega))
        have hst3 := stR_push hown
        rw [← HAE.out] at hst3
        obtain ⟨g3, c3, hv3, hg3, hc3, hx3⟩ := stR_cells hst3 HNE.out
        subst hv3
        have HJ := hide (HJO.out g3 c3 xs w3 hx3 hg3 (by have := HLE.out.1; have := HL5.out; omega) hc3 (by have := HLE.out.2; have := HL5.out; omega))
        have HB3 := hide (below_step HB.out hb3)
        have hln : ¬ ((xs.length : Int) = 0) := (by have h9 : xs.length ≠ 0 := (fun h => HNE.out (List.eq_nil_of_length_eq_zero h)); omega)
        clear hown hgrow hni hst3 hx3 hg3 hc3 hb3
        go_wp2_with fail
        refine HJ.out.mono ?_
        rintro e w4 ⟨rfl, hb4⟩
        have HB4 := hide (below_step HB3.out hb4)
        clear hb4 HJ
        go_wp2
        go_ret
        exact ⟨by rw [HTE.out]; rfl, HB4.out⟩
      · have HAE : Hid (sidA cf num sg = sidP cf sg cf.length) := by show _ = _; rw [HAD.out, hm2, if_neg h0]
        have HLE := hide HAL.out
        by_cases hne : sidA cf num sg = []
        · have HTE := hide (HTN.out hne)
          obtain ⟨a5, c5, hv5⟩ := stR_len HST.out
          rw [← HAE.out, hne] at hv5
          clear hm2 hm3 hm4 HAD HTN HTS HAL HST HOWN
          subst hv5
          go_wp2
          go_ret
          exact ⟨by rw [HTE.out]; rfl, HBT.out⟩
        · have HTE := hide (HTS.out hne)
          have hst3 := HST.out
          rw [← HAE.out] at hst3
          generalize sidA cf num sg = xs at hst3 HTE HLE hne
          obtain ⟨g3, c3, hv3, hg3, hc3, hx3⟩ := stR_cells hst3 hne
          have HJ := hide (HJO.out g3 c3 xs wr hx3 hg3 (by have := HLE.out.1; have := HL5.out; omega) hc3 (by have := HLE.out.2; have := HL5.out; omega))
          have hln : ¬ ((xs.length : Int) = 0) := (by have h9 : xs.length ≠ 0 := (fun h => hne (List.eq_nil_of_length_eq_zero h)); omega)
          clear hm2 hm3 hm4 HAD HTN HTS HAL HST HOWN hst3 hg3 hc3 hx3 hne HAE
          subst hv3
          go_wp2_with fail
          refine HJ.out.mono ?_
          rintro e w4 ⟨rfl, hb4⟩
          have HB4 := hide (below_step HBT.out hb4)
          clear hb4 HJ
          go_wp2
          go_ret
          exact ⟨by rw [HTE.out]; rfl, HB4.out⟩
end Go.Proofs.YtafbggbdlcfbdaaGreatDoor

/- Package text: showPlain: contract. -/
namespace Go.Proofs.YtafbggbdlcfbdaaGreatDoor
open Go.RowKit

theorem nd_coefs {n : Nd} (hr : ndR n) (h : lineP n) : n.cf.length ≤ 5 ∧ (∀ k, -12 ≤ n.cf.getD k 0 ∧ n.cf.getD k 0 ≤ 12) ∧ (-60 ≤ n.num ∧ n.num ≤ 60) := by
  have hln := hr.2.2.2.2.2.2 h
  refine ⟨hln.1, fun k => ?_, by omega⟩
  by_cases h : k < n.cf.length
  · have := absT_at n.cf h
    unfold absI at this
    split at this <;> omega
  · simp [List.getD, List.getElem?_eq_none (Nat.le_of_not_lt h)]
def sqS (i : Nat) : Nat := ([7, 8, 9, 10, 11, 12, 2] : List Nat).getD i 0
theorem sqS_inj : ∀ i : Fin 7, ∀ j : Fin 7, sqS i.val = sqS j.val → i = j := by decide +kernel
theorem sqS_lt : ∀ i : Fin 7, sqS i.val < 45 := by decide +kernel
def srS (i : Nat) : Nat := ([15, 16, 17, 18, 19, 20, 2] : List Nat).getD i 0
theorem srS_inj : ∀ i : Fin 7, ∀ j : Fin 7, srS i.val = srS j.val → i = j := by decide +kernel
theorem srS_lt : ∀ i : Fin 7, srS i.val < 45 := by decide +kernel
set_option maxHeartbeats 16000000 in
set_option maxRecDepth 8000 in
theorem showLine_any (n : Nd) (a : Option Addr) (c : Nat) (w : World) (hs : Sl w a n.cf.length n.cf) (hok : ndF n = 0) (e12 : n.op = 1 ∨ n.op = 2) : Calls Tryz.prog 28 #[ndV n a c] w fun e w' => e = .returned (.string (bs (atomT n))) ∧ Below w.heap.size w w' := by
  have hnc := nd_coefs (ndF_zero hok).1 e12
  obtain ⟨hr, hsh⟩ := ndF_zero hok
  obtain ⟨op, var, oth, wd, wd2, num, cf⟩ := n
  simp only [] at hs e12
  have hB1 := (Below.refl w.heap.size w).alloc (Nat.le_refl _) (ndO ⟨op, var, oth, wd, wd2, num, cf⟩ a c)
  have HB := hide hB1
  have HX := hide (heap_alloc_last w (ndO ⟨op, var, oth, wd, wd2, num, cf⟩ a c))
  generalize hW1 : w.alloc (ndO ⟨op, var, oth, wd, wd2, num, cf⟩ a c) = W1 at HB HX
  obtain ⟨z0, z1, z2, z3, z4, z5, z6⟩ := (box7_cells HX.out).1
  have hlt : ∀ {pp : Addr} {vv : Value}, W1.cell? pp = some vv → ∀ W, Below W1.heap.size W1 W → W.cell? pp = some vv := fun h W hb => (hb.cell (World.block_lt_of_cell? W1 _ h)).trans h
  have HC0 := hide (hlt z0)
  have HC1 := hide (hlt z1)
  have HC2 := hide (hlt z2)
  have HC3 := hide (hlt z3)
  have HC4 := hide (hlt z4)
  have HC5 := hide (hlt z5)
  have HC6 := hide (hlt z6)
  have hcW := sl_below hs HB.out
  simp only [] at hnc hcW
  have HS1 := hide (fun W (hb : Below W1.heap.size W1 W) => showSide_any ⟨op, var, oth, wd, wd2, num, cf⟩ a c 1 (.inl rfl) W (sl_below hcW hb) hnc.1 hnc.2.1 hnc.2.2)
  have HS2 := hide (fun W (hb : Below W1.heap.size W1 W) => showSide_any ⟨op, var, oth, wd, wd2, num, cf⟩ a c (-1) (.inr rfl) W (sl_below hcW hb) hnc.1 hnc.2.1 hnc.2.2)
  unfold ndV at HS1 HS2 ⊢
  simp only [] at HS1 HS2 ⊢
  have hl1 := sideT_len cf num 1
  have hl2 := sideT_len cf num (-1)
  have hcl := hnc.1
  obtain ⟨sg, hsg⟩ : ∃ sg : List UInt8, sg = if op = 2 then [60] else [61] := ⟨_, rfl⟩
  have HR : Hid (atomT ⟨op, var, oth, wd, wd2, num, cf⟩ = sideT cf num 1 ++ sg ++ sideT cf num (-1)) := by
    show _ = _
    rw [hsg]
    unfold atomT
    simp only []
    rcases e12 with h | h
    · rw [if_pos h, if_neg (by omega)]
    · rw [if_neg (by omega), if_pos h, if_pos h]
  have hgl : sg.length = 1 := by rw [hsg]; split <;> rfl
  have ha1 : ∀ W, (Op.stringOp .add (bs (sideT cf num 1)) (bs sg)).run Tryz.prog W = .ok (.string (bs (sideT cf num 1 ++ sg))) W := bs_add _ _ (by omega)
  have ha2 : ∀ W, (Op.stringOp .add (bs (sideT cf num 1 ++ sg)) (bs (sideT cf num (-1)))).run Tryz.prog W = .ok (.string (bs (sideT cf num 1 ++ sg ++ sideT cf num (-1)))) W := bs_add _ _ (by rw [List.length_append]; omega)
  generalize atomT ⟨op, var, oth, wd, wd2, num, cf⟩ = R at HR ⊢
  generalize sideT cf num 1 ++ sg ++ sideT cf num (-1) = t2 at *
  generalize sideT cf num 1 ++ sg = t1 at *
  generalize sideT cf num 1 = s1 at *
  generalize sideT cf num (-1) = s2 at *
  clear hs hok hr hsh hcW hnc hl1 hl2 hcl hgl hlt
  rcases e12 with rfl | rfl
  · have HG : Hid (bs sg = ⟨#[61]⟩) := by show _ = _; rw [hsg]; rfl
    have hga : ∀ W, (Op.stringOp .add (bs s1) ⟨#[61]⟩).run Tryz.prog W = .ok (.string (bs t1)) W := fun W => by rw [← HG.out]; exact ha1 W
    clear hsg ha1
    go_enter Tryz.func28, Tryz.ntmps28
    go_upto_region 3 with fail
    clear hW1 z0 z1 z2 z3 z4 z5 z6
    refine region_vals (by kernel_rfl) (rvOn_spec (by decide +kernel)) sqS (fun i => ([.agg #[.int .i64 1, .int .i64 var, .int .i64 oth, .int .i64 wd, .int .i64 wd2, .int .i64 num, .slice a cf.length c], .string (bs s1), .string (bs t1), .agg #[.int .i64 1, .int .i64 var, .int .i64 oth, .int .i64 wd, .int .i64 wd2, .int .i64 num, .slice a cf.length c], .string (bs s2), .string (bs t2), .string (bs t2)] : List Value).getD i undef) (fun i j hi hj e => by have := sqS_inj ⟨i, hi⟩ ⟨j, hj⟩ e; injection this) (fun i hi => sqS_lt ⟨i, hi⟩) ?_ ?_
    · intro T W i o ho hsz hdep hst hb
      have hi : i < 7 := (Array.getElem?_eq_some_iff.1 ho).1
      have e1 : T[1]? = some (.pointer (some ⟨w.heap.size, 0, none⟩)) := hst 1 (by decide +kernel)
      have k0 := HC0.out W hb
      have k1 := HC1.out W hb
      have k2 := HC2.out W hb
      have k3 := HC3.out W hb
      have k4 := HC4.out W hb
      have k5 := HC5.out W hb
      have k6 := HC6.out W hb
      have HBW := hide hb
      clear hsz hst hb
      rcases (by omega : i = 0 ∨ i = 1 ∨ i = 2 ∨ i = 3 ∨ i = 4 ∨ i = 5 ∨ i = 6) with rfl | rfl | rfl | rfl | rfl | rfl | rfl
      · injection ho with ho
        subst ho
        clear hdep
        refine wpOp_step (o := _) rfl fun K2 hK => ?_
        rw [if_pos (by rfl)]
        have HK := hide hK
        clear hK
        go_simp
        exact HK.out _ _ ⟨rfl, HBW.out⟩
      · injection ho with ho
        subst ho
        have d0 : T[7]? = some (.agg #[.int .i64 1, .int .i64 var, .int .i64 oth, .int .i64 wd, .int .i64 wd2, .int .i64 num, .slice a cf.length c]) := hdep { on := 0, ground := .data } (by simp) rfl
        clear hdep
        refine wpOp_step (o := _) rfl fun K2 hK => ?_
        rw [if_pos (by rfl)]
        have HK := hide hK
        clear hK
        go_simp
        refine (HS1.out W HBW.out).mono ?_
        rintro e w9 ⟨rfl, hb9⟩
        exact HK.out _ _ ⟨rfl, below_step HBW.out hb9⟩
      · injection ho with ho
        subst ho
        have d1 : T[8]? = some (.string (bs s1)) := hdep { on := 1, ground := .data } (by simp) rfl
        clear hdep
        refine wpOp_step (o := _) rfl fun K2 hK => ?_
        rw [if_pos (by rfl)]
        have HK := hide hK
        clear hK
        go_simp
        exact HK.out _ _ ⟨rfl, HBW.out⟩
      · injection ho with ho
        subst ho
        clear hdep
        refine wpOp_step (o := _) rfl fun K2 hK => ?_
        rw [if_pos (by rfl)]
        have HK := hide hK
        clear hK
        go_simp
        exact HK.out _ _ ⟨rfl, HBW.out⟩
      · injection ho with ho
        subst ho
        have d3 : T[10]? = some (.agg #[.int .i64 1, .int .i64 var, .int .i64 oth, .int .i64 wd, .int .i64 wd2, .int .i64 num, .slice a cf.length c]) := hdep { on := 3, ground := .data } (by simp) rfl
        clear hdep
        refine wpOp_step (o := _) rfl fun K2 hK => ?_
        rw [if_pos (by rfl)]
        have HK := hide hK
        clear hK
        go_simp
        refine (HS2.out W HBW.out).mono ?_
        rintro e w9 ⟨rfl, hb9⟩
        exact HK.out _ _ ⟨rfl, below_step HBW.out hb9⟩
      · injection ho with ho
        subst ho
        have d2 : T[9]? = some (.string (bs t1)) := hdep { on := 2, ground := .data } (by simp) rfl
        have d4 : T[11]? = some (.string (bs s2)) := hdep { on := 4, ground := .data } (by simp) rfl
        clear hdep
        refine wpOp_step (o := _) rfl fun K2 hK => ?_
        rw [if_pos (by rfl)]
        have HK := hide hK
        clear hK
        go_simp
        exact HK.out _ _ ⟨rfl, HBW.out⟩
      · injection ho with ho
        subst ho
        have d5 : T[12]? = some (.string (bs t2)) := hdep { on := 5, ground := .data } (by simp) rfl
        clear hdep
        refine wpOp_step (o := _) rfl fun K2 hK => ?_
        rw [if_pos (by rfl)]
        have HK := hide hK
        clear hK
        go_simp
        exact HK.out _ _ ⟨rfl, HBW.out⟩
    · intro T W hsz hval hst hb
      have h2 : T[2]? = some (.string (bs t2)) := hval 6 (by decide +kernel)
      have HBW := hide hb
      clear hval hst hb
      go_wp2
      go_ret
      exact ⟨by simp [h2, HR.out], below_step HB.out HBW.out⟩
  · have HG : Hid (bs sg = ⟨#[60]⟩) := by show _ = _; rw [hsg]; rfl
    have hga : ∀ W, (Op.stringOp .add (bs s1) ⟨#[60]⟩).run Tryz.prog W = .ok (.string (bs t1)) W := fun W => by rw [← HG.out]; exact ha1 W
    clear hsg ha1
    go_enter Tryz.func28, Tryz.ntmps28
    go_upto_region 5 with fail
    clear hW1 z0 z1 z2 z3 z4 z5 z6
    refine region_vals (by kernel_rfl) (rvOn_spec (by decide +kernel)) srS (fun i => ([.agg #[.int .i64 2, .int .i64 var, .int .i64 oth, .int .i64 wd, .int .i64 wd2, .int .i64 num, .slice a cf.length c], .string (bs s1), .string (bs t1), .agg #[.int .i64 2, .int .i64 var, .int .i64 oth, .int .i64 wd, .int .i64 wd2, .int .i64 num, .slice a cf.length c], .string (bs s2), .string (bs t2), .string (bs t2)] : List Value).getD i undef) (fun i j hi hj e => by have := srS_inj ⟨i, hi⟩ ⟨j, hj⟩ e; injection this) (fun i hi => srS_lt ⟨i, hi⟩) ?_ ?_
    · intro T W i o ho hsz hdep hst hb
      have hi : i < 7 := (Array.getElem?_eq_some_iff.1 ho).1
      have e1 : T[1]? = some (.pointer (some ⟨w.heap.size, 0, none⟩)) := hst 1 (by decide +kernel)
      have k0 := HC0.out W hb
      have k1 := HC1.out W hb
      have k2 := HC2.out W hb
      have k3 := HC3.out W hb
      have k4 := HC4.out W hb
      have k5 := HC5.out W hb
      have k6 := HC6.out W hb
      have HBW := hide hb
      clear hsz hst hb
      rcases (by omega : i = 0 ∨ i = 1 ∨ i = 2 ∨ i = 3 ∨ i = 4 ∨ i = 5 ∨ i = 6) with rfl | rfl | rfl | rfl | rfl | rfl | rfl
      · injection ho with ho
        subst ho
        clear hdep
        refine wpOp_step (o := _) rfl fun K2 hK => ?_
        rw [if_pos (by rfl)]
        have HK := hide hK
        clear hK
        go_simp
        exact HK.out _ _ ⟨rfl, HBW.out⟩
      · injection ho with ho
        subst ho
        have d0 : T[15]? = some (.agg #[.int .i64 2, .int .i64 var, .int .i64 oth, .int .i64 wd, .int .i64 wd2, .int .i64 num, .slice a cf.length c]) := hdep { on := 0, ground := .data } (by simp) rfl
        clear hdep
        refine wpOp_step (o := _) rfl fun K2 hK => ?_
        rw [if_pos (by rfl)]
        have HK := hide hK
        clear hK
        go_simp
        refine (HS1.out W HBW.out).mono ?_
        rintro e w9 ⟨rfl, hb9⟩
        exact HK.out _ _ ⟨rfl, below_step HBW.out hb9⟩
      · injection ho with ho
        subst ho
        have d1 : T[16]? = some (.string (bs s1)) := hdep { on := 1, ground := .data } (by simp) rfl
        clear hdep
        refine wpOp_step (o := _) rfl fun K2 hK => ?_
        rw [if_pos (by rfl)]
        have HK := hide hK
        clear hK
        go_simp
        exact HK.out _ _ ⟨rfl, HBW.out⟩
      · injection ho with ho
        subst ho
        clear hdep
        refine wpOp_step (o := _) rfl fun K2 hK => ?_
        rw [if_pos (by rfl)]
        have HK := hide hK
        clear hK
        go_simp
        exact HK.out _ _ ⟨rfl, HBW.out⟩
      · injection ho with ho
        subst ho
        have d3 : T[18]? = some (.agg #[.int .i64 2, .int .i64 var, .int .i64 oth, .int .i64 wd, .int .i64 wd2, .int .i64 num, .slice a cf.length c]) := hdep { on := 3, ground := .data } (by simp) rfl
        clear hdep
        refine wpOp_step (o := _) rfl fun K2 hK => ?_
        rw [if_pos (by rfl)]
        have HK := hide hK
        clear hK
        go_simp
        refine (HS2.out W HBW.out).mono ?_
        rintro e w9 ⟨rfl, hb9⟩
        exact HK.out _ _ ⟨rfl, below_step HBW.out hb9⟩
      · injection ho with ho
        subst ho
        have d2 : T[17]? = some (.string (bs t1)) := hdep { on := 2, ground := .data } (by simp) rfl
        have d4 : T[19]? = some (.string (bs s2)) := hdep { on := 4, ground := .data } (by simp) rfl
        clear hdep
        refine wpOp_step (o := _) rfl fun K2 hK => ?_
        rw [if_pos (by rfl)]
        have HK := hide hK
        clear hK
        go_simp
        exact HK.out _ _ ⟨rfl, HBW.out⟩
      · injection ho with ho
        subst ho
        have d5 : T[20]? = some (.string (bs t2)) := hdep { on := 5, ground := .data } (by simp) rfl
        clear hdep
        refine wpOp_step (o := _) rfl fun K2 hK => ?_
        rw [if_pos (by rfl)]
        have HK := hide hK
        clear hK
        go_simp
        exact HK.out _ _ ⟨rfl, HBW.out⟩
    · intro T W hsz hval hst hb
      have h2 : T[2]? = some (.string (bs t2)) := hval 6 (by decide +kernel)
      have HBW := hide hb
      clear hval hst hb
      go_wp2
      go_ret
      exact ⟨by simp [h2, HR.out], below_step HB.out HBW.out⟩
def ssS (i : Nat) : Nat := ([23, 24, 25, 26, 27, 28, 29, 30, 31, 32, 2] : List Nat).getD i 0
theorem ssS_inj : ∀ i : Fin 11, ∀ j : Fin 11, ssS i.val = ssS j.val → i = j := by decide +kernel
theorem ssS_lt : ∀ i : Fin 11, ssS i.val < 45 := by decide +kernel
set_option maxHeartbeats 16000000 in
set_option maxRecDepth 8000 in
theorem showAt_any (n : Nd) (a : Option Addr) (c : Nat) (w : World) (hs : Sl w a n.cf.length n.cf) (hok : ndF n = 0) (e12 : n.op = 3) : Calls Tryz.prog 28 #[ndV n a c] w fun e w' => e = .returned (.string (bs (atomT n))) ∧ Below w.heap.size w w' := by
  obtain ⟨hr, hsh⟩ := ndF_zero hok
  obtain ⟨op, var, oth, wd, wd2, num, cf⟩ := n
  simp only [] at hs e12
  have hB1 := (Below.refl w.heap.size w).alloc (Nat.le_refl _) (ndO ⟨op, var, oth, wd, wd2, num, cf⟩ a c)
  have HB := hide hB1
  have HX := hide (heap_alloc_last w (ndO ⟨op, var, oth, wd, wd2, num, cf⟩ a c))
  generalize hW1 : w.alloc (ndO ⟨op, var, oth, wd, wd2, num, cf⟩ a c) = W1 at HB HX
  obtain ⟨z0, z1, z2, z3, z4, z5, z6⟩ := (box7_cells HX.out).1
  have hlt : ∀ {pp : Addr} {vv : Value}, W1.cell? pp = some vv → ∀ W, Below W1.heap.size W1 W → W.cell? pp = some vv := fun h W hb => (hb.cell (World.block_lt_of_cell? W1 _ h)).trans h
  have HC0 := hide (hlt z0)
  have HC1 := hide (hlt z1)
  have HC2 := hide (hlt z2)
  have HC3 := hide (hlt z3)
  have HC4 := hide (hlt z4)
  have HC5 := hide (hlt z5)
  have HC6 := hide (hlt z6)
  have v1 := hr.2.1 (.inl e12)
  have v2 := hr.2.2.2.1 (.inl e12)
  have v3 := hr.2.2.2.2.2.1 e12
  simp only [] at v1 v2 v3
  obtain ⟨q, rfl⟩ : ∃ q : Nat, var = (q : Int) := ⟨var.toNat, by omega⟩
  obtain ⟨d, rfl⟩ : ∃ d : Nat, wd = (d : Int) := ⟨wd.toNat, by omega⟩
  obtain ⟨m, rfl⟩ : ∃ m : Nat, num = (m : Int) := ⟨num.toNat, by omega⟩
  subst e12
  have HS1 := hide (fun W => showOut_any d q (by omega) (by omega) W)
  have HS2 := hide (fun W => itoa_any m (by omega) W)
  unfold ndV
  simp only []
  have hl1 := decL_len d
  have hl2 := decL_len m
  have HR : Hid (atomT ⟨3, (q : Int), oth, (d : Int), wd2, (m : Int), cf⟩ = [64] ++ decL d ++ [91] ++ [ltC q] ++ [93] ++ [61] ++ decL m) := by
    show _ = _
    unfold atomT
    simp
  have ha1 : ∀ W, (Op.stringOp .add (bs ([64] ++ decL d ++ [91] ++ [ltC q] ++ [93])) ⟨#[61]⟩).run Tryz.prog W = .ok (.string (bs ([64] ++ decL d ++ [91] ++ [ltC q] ++ [93] ++ [61]))) W := fun W => bs_add ([64] ++ decL d ++ [91] ++ [ltC q] ++ [93]) [61] (by simp; omega) W
  have ha2 : ∀ W, (Op.stringOp .add (bs ([64] ++ decL d ++ [91] ++ [ltC q] ++ [93] ++ [61])) (bs (decL m))).run Tryz.prog W = .ok (.string (bs ([64] ++ decL d ++ [91] ++ [ltC q] ++ [93] ++ [61] ++ decL m))) W := fun W => bs_add _ _ (by simp; omega) W
  generalize atomT ⟨3, (q : Int), oth, (d : Int), wd2, (m : Int), cf⟩ = R at HR ⊢
  generalize [64] ++ decL d ++ [91] ++ [ltC q] ++ [93] ++ [61] ++ decL m = t2 at *
  generalize [64] ++ decL d ++ [91] ++ [ltC q] ++ [93] ++ [61] = t1 at *
  generalize [64] ++ decL d ++ [91] ++ [ltC q] ++ [93] = s1 at *
  generalize decL m = s2 at *
  clear hs hok hr hsh hl1 hl2 hlt v1 v2 v3
  go_enter Tryz.func28, Tryz.ntmps28
  go_upto_region 7 with fail
  clear hW1 z0 z1 z2 z3 z4 z5 z6
  refine region_vals (by kernel_rfl) (rvOn_spec (by decide +kernel)) ssS (fun i => ([.pointer (some ⟨w.heap.size, 3, none⟩), .int .i64 (d : Int), .pointer (some ⟨w.heap.size, 1, none⟩), .int .i64 (q : Int), .string (bs s1), .string (bs t1), .pointer (some ⟨w.heap.size, 5, none⟩), .int .i64 (m : Int), .string (bs s2), .string (bs t2), .string (bs t2)] : List Value).getD i undef) (fun i j hi hj e => by have := ssS_inj ⟨i, hi⟩ ⟨j, hj⟩ e; injection this) (fun i hi => ssS_lt ⟨i, hi⟩) ?_ ?_
  · intro T W i o ho hsz hdep hst hb
    have hi : i < 11 := (Array.getElem?_eq_some_iff.1 ho).1
    have e1 : T[1]? = some (.pointer (some ⟨w.heap.size, 0, none⟩)) := hst 1 (by decide +kernel)
    have k0 := HC0.out W hb
    have k1 := HC1.out W hb
    have k2 := HC2.out W hb
    have k3 := HC3.out W hb
    have k4 := HC4.out W hb
    have k5 := HC5.out W hb
    have k6 := HC6.out W hb
    have HBW := hide hb
    clear hsz hst hb
    rcases (by omega : i = 0 ∨ i = 1 ∨ i = 2 ∨ i = 3 ∨ i = 4 ∨ i = 5 ∨ i = 6 ∨ i = 7 ∨ i = 8 ∨ i = 9 ∨ i = 10) with rfl | rfl | rfl | rfl | rfl | rfl | rfl | rfl | rfl | rfl | rfl
    · injection ho with ho
      subst ho
      clear hdep
      refine wpOp_step (o := _) rfl fun K2 hK => ?_
      rw [if_pos (by rfl)]
      have HK := hide hK
      clear hK
      go_simp
      exact HK.out _ _ ⟨rfl, HBW.out⟩
    · injection ho with ho
      subst ho
      have d0 : T[23]? = some (.pointer (some ⟨w.heap.size, 3, none⟩)) := hdep { on := 0, ground := .data } (by simp) rfl
      clear hdep
      refine wpOp_step (o := _) rfl fun K2 hK => ?_
      rw [if_pos (by rfl)]
      have HK := hide hK
      clear hK
      go_simp
      exact HK.out _ _ ⟨rfl, HBW.out⟩
    · injection ho with ho
      subst ho
      clear hdep
      refine wpOp_step (o := _) rfl fun K2 hK => ?_
      rw [if_pos (by rfl)]
      have HK := hide hK
      clear hK
      go_simp
      exact HK.out _ _ ⟨rfl, HBW.out⟩
    · injection ho with ho
      subst ho
      have d2 : T[25]? = some (.pointer (some ⟨w.heap.size, 1, none⟩)) := hdep { on := 2, ground := .data } (by simp) rfl
      clear hdep
      refine wpOp_step (o := _) rfl fun K2 hK => ?_
      rw [if_pos (by rfl)]
      have HK := hide hK
      clear hK
      go_simp
      exact HK.out _ _ ⟨rfl, HBW.out⟩
    · injection ho with ho
      subst ho
      have d1 : T[24]? = some (.int .i64 (d : Int)) := hdep { on := 1, ground := .data } (by simp) rfl
      have d3 : T[26]? = some (.int .i64 (q : Int)) := hdep { on := 3, ground := .data } (by simp) rfl
      clear hdep
      refine wpOp_step (o := _) rfl fun K2 hK => ?_
      rw [if_pos (by rfl)]
      have HK := hide hK
      clear hK
      go_simp
      refine (HS1.out W).mono ?_
      rintro e w9 ⟨rfl, hw9⟩
      rw [hw9]
      exact HK.out _ _ ⟨rfl, HBW.out⟩
    · injection ho with ho
      subst ho
      have d4 : T[27]? = some (.string (bs s1)) := hdep { on := 4, ground := .data } (by simp) rfl
      clear hdep
      refine wpOp_step (o := _) rfl fun K2 hK => ?_
      rw [if_pos (by rfl)]
      have HK := hide hK
      clear hK
      go_simp
      exact HK.out _ _ ⟨rfl, HBW.out⟩
    · injection ho with ho
      subst ho
      clear hdep
      refine wpOp_step (o := _) rfl fun K2 hK => ?_
      rw [if_pos (by rfl)]
      have HK := hide hK
      clear hK
      go_simp
      exact HK.out _ _ ⟨rfl, HBW.out⟩
    · injection ho with ho
      subst ho
      have d6 : T[29]? = some (.pointer (some ⟨w.heap.size, 5, none⟩)) := hdep { on := 6, ground := .data } (by simp) rfl
      clear hdep
      refine wpOp_step (o := _) rfl fun K2 hK => ?_
      rw [if_pos (by rfl)]
      have HK := hide hK
      clear hK
      go_simp
      exact HK.out _ _ ⟨rfl, HBW.out⟩
    · injection ho with ho
      subst ho
      have d7 : T[30]? = some (.int .i64 (m : Int)) := hdep { on := 7, ground := .data } (by simp) rfl
      clear hdep
      refine wpOp_step (o := _) rfl fun K2 hK => ?_
      rw [if_pos (by rfl)]
      have HK := hide hK
      clear hK
      go_simp
      refine (HS2.out W).mono ?_
      rintro e w9 ⟨rfl, hw9⟩
      rw [hw9]
      exact HK.out _ _ ⟨rfl, HBW.out⟩
    · injection ho with ho
      subst ho
      have d5 : T[28]? = some (.string (bs t1)) := hdep { on := 5, ground := .data } (by simp) rfl
      have d8 : T[31]? = some (.string (bs s2)) := hdep { on := 8, ground := .data } (by simp) rfl
      clear hdep
      refine wpOp_step (o := _) rfl fun K2 hK => ?_
      rw [if_pos (by rfl)]
      have HK := hide hK
      clear hK
      go_simp
      exact HK.out _ _ ⟨rfl, HBW.out⟩
    · injection ho with ho
      subst ho
      have d9 : T[32]? = some (.string (bs t2)) := hdep { on := 9, ground := .data } (by simp) rfl
      clear hdep
      refine wpOp_step (o := _) rfl fun K2 hK => ?_
      rw [if_pos (by rfl)]
      have HK := hide hK
      clear hK
      go_simp
      exact HK.out _ _ ⟨rfl, HBW.out⟩
  · intro T W hsz hval hst hb
    have h2 : T[2]? = some (.string (bs t2)) := hval 10 (by decide +kernel)
    have HBW := hide hb
    clear hval hst hb
    go_wp2
    go_ret
    exact ⟨by simp [h2, HR.out], below_step HB.out HBW.out⟩
def stS (i : Nat) : Nat := ([33, 34, 35, 36, 37, 38, 39, 40, 41, 42, 43, 44, 2] : List Nat).getD i 0
theorem stS_inj : ∀ i : Fin 13, ∀ j : Fin 13, stS i.val = stS j.val → i = j := by decide +kernel
theorem stS_lt : ∀ i : Fin 13, stS i.val < 45 := by decide +kernel
set_option maxHeartbeats 16000000 in
set_option maxRecDepth 8000 in
theorem showLike_any (n : Nd) (a : Option Addr) (c : Nat) (w : World) (hs : Sl w a n.cf.length n.cf) (hok : ndF n = 0) (e12 : n.op = 4) : Calls Tryz.prog 28 #[ndV n a c] w fun e w' => e = .returned (.string (bs (atomT n))) ∧ Below w.heap.size w w' := by
  obtain ⟨hr, hsh⟩ := ndF_zero hok
  obtain ⟨op, var, oth, wd, wd2, num, cf⟩ := n
  simp only [] at hs e12
  have hB1 := (Below.refl w.heap.size w).alloc (Nat.le_refl _) (ndO ⟨op, var, oth, wd, wd2, num, cf⟩ a c)
  have HB := hide hB1
  have HX := hide (heap_alloc_last w (ndO ⟨op, var, oth, wd, wd2, num, cf⟩ a c))
  generalize hW1 : w.alloc (ndO ⟨op, var, oth, wd, wd2, num, cf⟩ a c) = W1 at HB HX
  obtain ⟨z0, z1, z2, z3, z4, z5, z6⟩ := (box7_cells HX.out).1
  have hlt : ∀ {pp : Addr} {vv : Value}, W1.cell? pp = some vv → ∀ W, Below W1.heap.size W1 W → W.cell? pp = some vv := fun h W hb => (hb.cell (World.block_lt_of_cell? W1 _ h)).trans h
  have HC0 := hide (hlt z0)
  have HC1 := hide (hlt z1)
  have HC2 := hide (hlt z2)
  have HC3 := hide (hlt z3)
  have HC4 := hide (hlt z4)
  have HC5 := hide (hlt z5)
  have HC6 := hide (hlt z6)
  have v1 := hr.2.1 (.inr (.inl e12))
  have v2 := hr.2.2.2.1 (.inr e12)
  have v3 := hr.2.2.1 e12
  have v4 := hr.2.2.2.2.1 e12
  simp only [] at v1 v2 v3 v4
  obtain ⟨q, rfl⟩ : ∃ q : Nat, var = (q : Int) := ⟨var.toNat, by omega⟩
  obtain ⟨d, rfl⟩ : ∃ d : Nat, wd = (d : Int) := ⟨wd.toNat, by omega⟩
  obtain ⟨r, rfl⟩ : ∃ r : Nat, oth = (r : Int) := ⟨oth.toNat, by omega⟩
  obtain ⟨m, rfl⟩ : ∃ m : Nat, wd2 = (m : Int) := ⟨wd2.toNat, by omega⟩
  subst e12
  have HS1 := hide (fun W => showOut_any d q (by omega) (by omega) W)
  have HS2 := hide (fun W => showOut_any m r (by omega) (by omega) W)
  unfold ndV
  simp only []
  have hl1 := decL_len d
  have hl2 := decL_len m
  have HR : Hid (atomT ⟨4, (q : Int), (r : Int), (d : Int), (m : Int), num, cf⟩ = [64] ++ decL d ++ [91] ++ [ltC q] ++ [93] ++ [61] ++ ([64] ++ decL m ++ [91] ++ [ltC r] ++ [93])) := by
    show _ = _
    unfold atomT
    simp
  have ha1 : ∀ W, (Op.stringOp .add (bs ([64] ++ decL d ++ [91] ++ [ltC q] ++ [93])) ⟨#[61]⟩).run Tryz.prog W = .ok (.string (bs ([64] ++ decL d ++ [91] ++ [ltC q] ++ [93] ++ [61]))) W := fun W => bs_add ([64] ++ decL d ++ [91] ++ [ltC q] ++ [93]) [61] (by simp; omega) W
  have ha2 : ∀ W, (Op.stringOp .add (bs ([64] ++ decL d ++ [91] ++ [ltC q] ++ [93] ++ [61])) (bs ([64] ++ decL m ++ [91] ++ [ltC r] ++ [93]))).run Tryz.prog W = .ok (.string (bs ([64] ++ decL d ++ [91] ++ [ltC q] ++ [93] ++ [61] ++ ([64] ++ decL m ++ [91] ++ [ltC r] ++ [93])))) W := fun W => bs_add _ _ (by simp; omega) W
  generalize atomT ⟨4, (q : Int), (r : Int), (d : Int), (m : Int), num, cf⟩ = R at HR ⊢
  generalize [64] ++ decL d ++ [91] ++ [ltC q] ++ [93] ++ [61] ++ ([64] ++ decL m ++ [91] ++ [ltC r] ++ [93]) = t2 at *
  generalize [64] ++ decL d ++ [91] ++ [ltC q] ++ [93] ++ [61] = t1 at *
  generalize [64] ++ decL d ++ [91] ++ [ltC q] ++ [93] = s1 at *
  generalize [64] ++ decL m ++ [91] ++ [ltC r] ++ [93] = s2 at *
  clear hs hok hr hsh hl1 hl2 hlt v1 v2 v3 v4
  go_enter Tryz.func28, Tryz.ntmps28
  go_upto_region 8 with fail
  clear hW1 z0 z1 z2 z3 z4 z5 z6
  refine region_vals (by kernel_rfl) (rvOn_spec (by decide +kernel)) stS (fun i => ([.pointer (some ⟨w.heap.size, 3, none⟩), .int .i64 (d : Int), .pointer (some ⟨w.heap.size, 1, none⟩), .int .i64 (q : Int), .string (bs s1), .string (bs t1), .pointer (some ⟨w.heap.size, 4, none⟩), .int .i64 (m : Int), .pointer (some ⟨w.heap.size, 2, none⟩), .int .i64 (r : Int), .string (bs s2), .string (bs t2), .string (bs t2)] : List Value).getD i undef) (fun i j hi hj e => by have := stS_inj ⟨i, hi⟩ ⟨j, hj⟩ e; injection this) (fun i hi => stS_lt ⟨i, hi⟩) ?_ ?_
  · intro T W i o ho hsz hdep hst hb
    have hi : i < 13 := (Array.getElem?_eq_some_iff.1 ho).1
    have e1 : T[1]? = some (.pointer (some ⟨w.heap.size, 0, none⟩)) := hst 1 (by decide +kernel)
    have k0 := HC0.out W hb
    have k1 := HC1.out W hb
    have k2 := HC2.out W hb
    have k3 := HC3.out W hb
    have k4 := HC4.out W hb
    have k5 := HC5.out W hb
    have k6 := HC6.out W hb
    have HBW := hide hb
    clear hsz hst hb
    rcases (by omega : i = 0 ∨ i = 1 ∨ i = 2 ∨ i = 3 ∨ i = 4 ∨ i = 5 ∨ i = 6 ∨ i = 7 ∨ i = 8 ∨ i = 9 ∨ i = 10 ∨ i = 11 ∨ i = 12) with rfl | rfl | rfl | rfl | rfl | rfl | rfl | rfl | rfl | rfl | rfl | rfl | rfl
    · injection ho with ho
      subst ho
      clear hdep
      refine wpOp_step (o := _) rfl fun K2 hK => ?_
      rw [if_pos (by rfl)]
      have HK := hide hK
      clear hK
      go_simp
      exact HK.out _ _ ⟨rfl, HBW.out⟩
    · injection ho with ho
      subst ho
      have d0 : T[33]? = some (.pointer (some ⟨w.heap.size, 3, none⟩)) := hdep { on := 0, ground := .data } (by simp) rfl
      clear hdep
      refine wpOp_step (o := _) rfl fun K2 hK => ?_
      rw [if_pos (by rfl)]
      have HK := hide hK
      clear hK
      go_simp
      exact HK.out _ _ ⟨rfl, HBW.out⟩
    · injection ho with ho
      subst ho
      clear hdep
      refine wpOp_step (o := _) rfl fun K2 hK => ?_
      rw [if_pos (by rfl)]
      have HK := hide hK
      clear hK
      go_simp
      exact HK.out _ _ ⟨rfl, HBW.out⟩
    · injection ho with ho
      subst ho
      have d2 : T[35]? = some (.pointer (some ⟨w.heap.size, 1, none⟩)) := hdep { on := 2, ground := .data } (by simp) rfl
      clear hdep
      refine wpOp_step (o := _) rfl fun K2 hK => ?_
      rw [if_pos (by rfl)]
      have HK := hide hK
      clear hK
      go_simp
      exact HK.out _ _ ⟨rfl, HBW.out⟩
    · injection ho with ho
      subst ho
      have d1 : T[34]? = some (.int .i64 (d : Int)) := hdep { on := 1, ground := .data } (by simp) rfl
      have d3 : T[36]? = some (.int .i64 (q : Int)) := hdep { on := 3, ground := .data } (by simp) rfl
      clear hdep
      refine wpOp_step (o := _) rfl fun K2 hK => ?_
      rw [if_pos (by rfl)]
      have HK := hide hK
      clear hK
      go_simp
      refine (HS1.out W).mono ?_
      rintro e w9 ⟨rfl, hw9⟩
      rw [hw9]
      exact HK.out _ _ ⟨rfl, HBW.out⟩
    · injection ho with ho
      subst ho
      have d4 : T[37]? = some (.string (bs s1)) := hdep { on := 4, ground := .data } (by simp) rfl
      clear hdep
      refine wpOp_step (o := _) rfl fun K2 hK => ?_
      rw [if_pos (by rfl)]
      have HK := hide hK
      clear hK
      go_simp
      exact HK.out _ _ ⟨rfl, HBW.out⟩
    · injection ho with ho
      subst ho
      clear hdep
      refine wpOp_step (o := _) rfl fun K2 hK => ?_
      rw [if_pos (by rfl)]
      have HK := hide hK
      clear hK
      go_simp
      exact HK.out _ _ ⟨rfl, HBW.out⟩
    · injection ho with ho
      subst ho
      have d6 : T[39]? = some (.pointer (some ⟨w.heap.size, 4, none⟩)) := hdep { on := 6, ground := .data } (by simp) rfl
      clear hdep
      refine wpOp_step (o := _) rfl fun K2 hK => ?_
      rw [if_pos (by rfl)]
      have HK := hide hK
      clear hK
      go_simp
      exact HK.out _ _ ⟨rfl, HBW.out⟩
    · injection ho with ho
      subst ho
      clear hdep
      refine wpOp_step (o := _) rfl fun K2 hK => ?_
      rw [if_pos (by rfl)]
      have HK := hide hK
      clear hK
      go_simp
      exact HK.out _ _ ⟨rfl, HBW.out⟩
    · injection ho with ho
      subst ho
      have d8 : T[41]? = some (.pointer (some ⟨w.heap.size, 2, none⟩)) := hdep { on := 8, ground := .data } (by simp) rfl
      clear hdep
      refine wpOp_step (o := _) rfl fun K2 hK => ?_
      rw [if_pos (by rfl)]
      have HK := hide hK
      clear hK
      go_simp
      exact HK.out _ _ ⟨rfl, HBW.out⟩
    · injection ho with ho
      subst ho
      have d7 : T[40]? = some (.int .i64 (m : Int)) := hdep { on := 7, ground := .data } (by simp) rfl
      have d9 : T[42]? = some (.int .i64 (r : Int)) := hdep { on := 9, ground := .data } (by simp) rfl
      clear hdep
      refine wpOp_step (o := _) rfl fun K2 hK => ?_
      rw [if_pos (by rfl)]
      have HK := hide hK
      clear hK
      go_simp
      refine (HS2.out W).mono ?_
      rintro e w9 ⟨rfl, hw9⟩
      rw [hw9]
      exact HK.out _ _ ⟨rfl, HBW.out⟩
    · injection ho with ho
      subst ho
      have d5 : T[38]? = some (.string (bs t1)) := hdep { on := 5, ground := .data } (by simp) rfl
      have d10 : T[43]? = some (.string (bs s2)) := hdep { on := 10, ground := .data } (by simp) rfl
      clear hdep
      refine wpOp_step (o := _) rfl fun K2 hK => ?_
      rw [if_pos (by rfl)]
      have HK := hide hK
      clear hK
      go_simp
      exact HK.out _ _ ⟨rfl, HBW.out⟩
    · injection ho with ho
      subst ho
      have d11 : T[44]? = some (.string (bs t2)) := hdep { on := 11, ground := .data } (by simp) rfl
      clear hdep
      refine wpOp_step (o := _) rfl fun K2 hK => ?_
      rw [if_pos (by rfl)]
      have HK := hide hK
      clear hK
      go_simp
      exact HK.out _ _ ⟨rfl, HBW.out⟩
  · intro T W hsz hval hst hb
    have h2 : T[2]? = some (.string (bs t2)) := hval 12 (by decide +kernel)
    have HBW := hide hb
    clear hval hst hb
    go_wp2
    go_ret
    exact ⟨by simp [h2, HR.out], below_step HB.out HBW.out⟩
end Go.Proofs.YtafbggbdlcfbdaaGreatDoor
