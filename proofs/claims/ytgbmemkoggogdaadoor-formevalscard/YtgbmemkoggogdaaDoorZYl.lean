/- 9 texts in one. -/
import Derived.BigQuiet
import Derived.BigRegion
import Derived.Test.YtgbmemkoggogdaaDoorZQe
import Derived.Test.YtgbmemkoggogdaaDoorZSe
import Derived.Test.YtgbmemkoggogdaaDoorZYf
import Derived.Test.YtgbmemkoggogdaaDoorYk
import Derived.Test.YtgbmemkoggogdaaDoorZNr
import Derived.Test.YtgbmemkoggogdaaDoorZEg
import Derived.Test.YtgbmemkoggogdaaDoorZXd
import Derived.Test.YtgbmemkoggogdaaDoorZNx
import Derived.Test.YtgbmemkoggogdaaDoorZFd
/- Package formula: holds: contract. -/
namespace Go.Proofs.YtgbmemkoggogdaaDoor
open Go.RowKit

theorem hold_at {os : List Om} {nums : List Int} {n : Nd} (h : n.op = 3) : holdB os nums n = decide (sayN (os.getD n.wd.toNat zOm).b (os.getD n.wd.toNat zOm).N (os.getD n.wd.toNat zOm).O (nums.getD n.var.toNat 0) = n.num) := by
  unfold holdB
  rw [if_neg (by omega), if_neg (by omega), if_pos h]
theorem hold_like {os : List Om} {nums : List Int} {n : Nd} (h : n.op = 4) : holdB os nums n = decide (sayN (os.getD n.wd.toNat zOm).b (os.getD n.wd.toNat zOm).N (os.getD n.wd.toNat zOm).O (nums.getD n.var.toNat 0) = sayN (os.getD n.wd2.toNat zOm).b (os.getD n.wd2.toNat zOm).N (os.getD n.wd2.toNat zOm).O (nums.getD n.oth.toNat 0)) := by
  unfold holdB
  rw [if_neg (by omega), if_neg (by omega), if_neg (by omega), if_pos h]
theorem hold_eq {os : List Om} {nums : List Int} {n : Nd} (h : n.op = 1 ∨ n.op = 2) : holdB os nums n = lnEnd n.num (n.op == 2) (sumT n.cf (fun i => nums.getD i 0) n.cf.length) := by
  unfold holdB
  rcases h with h | h
  · rw [if_pos h, h]; rfl
  · rw [if_neg (by omega), if_pos h, h]; rfl
theorem hold_no {os : List Om} {nums : List Int} {n : Nd} (h : 5 ≤ n.op) : holdB os nums n = false := by
  unfold holdB
  rw [if_neg (by omega), if_neg (by omega), if_neg (by omega), if_neg (by omega)]
theorem atV_ok {m : Om} {x : Int} (h : outC m.b m.N m.O = 0) (hx : 0 ≤ x ∧ x ≤ 1099511627776) : atF m.b m.N m.O x 1099511627776 = 0 ∧ atV m.b m.N m.O x = sayN m.b m.N m.O x := by
  have e : atF m.b m.N m.O x 1099511627776 = 0 := by unfold atF; rw [if_pos h, if_pos hx]
  exact ⟨e, by unfold atV; rw [if_pos e]⟩
set_option maxHeartbeats 8000000 in
set_option maxRecDepth 4000 in
theorem holds_op3 (n : Nd) (a : Option Addr) (c : Nat) (a2 : Option Addr) (m cap2 : Nat) (os : List Om) (a3 : Option Addr) (l cap3 : Nat) (nums : List Int) (w : World) (hs : Sl w a n.cf.length n.cf) (ho : SlO w a2 m os) (h3 : Sl w a3 l nums) (hok : ndF n = 0) (hus : ∀ v : Nat, v < 5 → useB n ((v : Nat) : Int) = true → v < l) (hwd : ¬ wdB m n) (hO : ∀ i, i < m → outC (os.getD i zOm).b (os.getD i zOm).N (os.getD i zOm).O = 0) (hnm : numOk nums = true) (e3 : n.op = 3) : Calls Tryd.prog 30 #[ndV n a c, .slice a2 m cap2, .slice a3 l cap3] w fun e w' => e = .returned (.tuple #[.bool (holdB os nums n), .nilIface]) ∧ Below w.heap.size w w' := by
  obtain ⟨hr, hsh⟩ := ndF_zero hok
  have hop := hr.1
  have hB1 := (Below.refl w.heap.size w).alloc (Nat.le_refl _) (ndO n a c)
  have HB := hide hB1
  have HX := hide (heap_alloc_last w (ndO n a c))
  unfold ndV
  generalize hW1 : w.alloc (ndO n a c) = W1 at HB HX
  obtain ⟨z0, z1, z2, z3, z4, z5, z6⟩ := (box7_cells HX.out).1
  have HS3 := hide (sl_below h3 HB.out)
  have HO2 := hide (slO_below ho HB.out)
  have HS := hide (sl_below hs HB.out)
  have hL3 := h3.1
  have hmx := h3.2.1
  unfold maxLen at hmx
  have hmm := ho.2.1
  unfold maxLen at hmm
  have hv := hr.2.1 (.inl e3)
  have hwr := hr.2.2.2.1 (.inl e3)
  obtain ⟨q, hq⟩ : ∃ q : Nat, n.var = (q : Int) := ⟨n.var.toNat, by omega⟩
  obtain ⟨u, hu⟩ : ∃ u : Nat, n.wd = (u : Int) := ⟨n.wd.toNat, by omega⟩
  have hql : q < l := hus q (by omega) (by unfold useB; rw [if_neg (by omega)]; simp [e3, hq])
  have hum : u < m := by
    by_cases h : u < m
    · exact h
    · exact absurd (show wdB m n from .inl ⟨.inl e3, by omega⟩) hwd
  have hqli : (q : Int) < (l : Int) := by omega
  have humi : (u : Int) < (m : Int) := by omega
  have HH := hide (hold_at (os := os) (nums := nums) e3)
  rw [hq, hu, Int.toNat_natCast, Int.toNat_natCast] at HH
  obtain ⟨b3, o3, rfl, hc3⟩ := sl_cell HS3.out q hql
  obtain ⟨b2, o2, a1, c1, a4, c4, rfl, x0, x1, x2, y1, y2⟩ := slO_cell HO2.out u hum
  obtain ⟨g1, g2⟩ := atV_ok (hO u hum) (numOk_at hnm (by omega) : 0 ≤ nums.getD q 0 ∧ nums.getD q 0 ≤ 1099511627776)
  have HAT := hide (fun W (hb : Below W1.heap.size W1 W) => word_at_any (os.getD u zOm).b a1 (os.getD u zOm).N.length c1 a4 (os.getD u zOm).O.length c4 (os.getD u zOm).N (os.getD u zOm).O (nums.getD q 0) W (sl2_below y1 hb) (sl_below y2 hb))
  unfold outV at HAT
  rw [g1, g2] at HAT
  generalize os.getD u zOm = om at *
  generalize nums.getD q 0 = x at *
  generalize sayN om.b om.N om.O x = sv at HAT HH
  generalize holdB os nums n = R at HH ⊢
  have t1 : (n.op == 1) = false := by simp [e3]
  have t2 : (n.op == 2) = false := by simp [e3]
  have t3 : (n.op == 3) = true := by simp [e3]
  rw [show errV 0 = .nilIface from rfl] at HAT
  have HQ := hide hq
  have HU := hide hu
  clear hr hsh hop hs ho h3 hok hus hwd hO hnm e3 hv hwr g1 g2 y1 y2
  rw [hq] at z1
  rw [hu] at z3
  clear hq hu
  go_enter Tryd.func30, Tryd.ntmps30
  go_wp2_with fail
  go_region_with (go_at_call 52; refine (HAT.out _ ((Below.refl _ _).drew)).mono ?_; rintro e w2 ⟨rfl, hb2⟩; have HB2 : Hid (Below W1.heap.size W1 w2) := ⟨hb2.os, hb2.tape, hb2.output, hb2.size, hb2.block⟩; clear hb2)
  all_goals
    clear hW1 x0 x1 x2 z0 z1 z2 z3 z4 z5 z6 hc3
    obtain ⟨z0, z1, z2, z3, z4, z5, z6⟩ := (box7_cells ((HB2.out.block _ (Array.getElem?_eq_some_iff.1 HX.out).1).trans HX.out)).1
    go_wp2
    go_ret2
    exact ⟨by rw [HH.out]; rfl, below_step HB.out HB2.out⟩
end Go.Proofs.YtgbmemkoggogdaaDoor

/- The reference's Truth, at Like: contract. -/
namespace Go.Proofs.YtgbmemkoggogdaaDoor
open Go.RowKit

def tlS (i : Nat) : Nat := ([89, 90, 91, 92, 93, 94, 95, 96, 97, 98, 99, 100, 101, 102, 103, 104, 105, 106, 107, 108, 109, 110, 111, 8] : List Nat).getD i 0
theorem tlS_inj : ∀ i : Fin 24, ∀ j : Fin 24, tlS i.val = tlS j.val → i = j := by decide +kernel
theorem tlS_lt : ∀ i : Fin 24, tlS i.val < 151 := by decide +kernel
set_option maxHeartbeats 16000000 in
set_option maxRecDepth 8000 in
theorem truth_like (a : Option Addr) (n cap : Nat) (ns : List Nd) (p : Nat) (a2 : Option Addr) (m cap2 : Nat) (os : List Om) (a3 : Option Addr) (l cap3 : Nat) (nums : List Int) (wq : World) (nd : Nd) (hs : SlF wq a n ns) (hp : p < n) (hnd : ns.getD p zNd = nd) (ho : SlO wq a2 m os) (h3 : Sl wq a3 l nums) (hok : ndF nd = 0) (hus : ∀ v : Nat, v < 5 → useB nd ((v : Nat) : Int) = true → v < l) (hwd : ¬ wdB m nd) (hO : ∀ i, i < m → outC (os.getD i zOm).b (os.getD i zOm).N (os.getD i zOm).O = 0) (hnm : numOk nums = true) (e4 : nd.op = 4) : Calls Tryd.prog 25 #[.slice a n cap, .int .i64 (p : Int), .slice a2 m cap2, .slice a3 l cap3] wq fun e w' => e = .returned (.bool (holdB os nums nd)) ∧ Below wq.heap.size wq w' := by
  obtain ⟨hr, hsh⟩ := ndF_zero hok
  obtain ⟨bb, oo, a', c', rfl, x0, x1, x2, x3, x4, x5, x6, -⟩ := slF_cell hs p hp
  rw [hnd] at x0 x1 x2 x3 x4 x5 x6
  have hB1 := (Below.refl wq.heap.size wq).alloc (Nat.le_refl _) (ndO nd a' c')
  have HB := hide hB1
  have HX := hide (heap_alloc_last wq (ndO nd a' c'))
  generalize hW1 : wq.alloc (ndO nd a' c') = W1 at HB HX
  obtain ⟨z0, z1, z2, z3, z4, z5, z6⟩ := (box7_cells HX.out).1
  have HS3 := hide (sl_below h3 HB.out)
  have HO2 := hide (slO_below ho HB.out)
  have hL3 := h3.1
  have hpi : (p : Int) < (n : Int) := by omega
  have hv := hr.2.1 (.inr (.inl e4))
  have hwr := hr.2.2.2.1 (.inr e4)
  have hv2 := hr.2.2.1 e4
  have hwr2 := hr.2.2.2.2.1 e4
  obtain ⟨q, hq⟩ : ∃ q : Nat, nd.var = (q : Int) := ⟨nd.var.toNat, by omega⟩
  obtain ⟨u, hu⟩ : ∃ u : Nat, nd.wd = (u : Int) := ⟨nd.wd.toNat, by omega⟩
  obtain ⟨q', hq'⟩ : ∃ q : Nat, nd.oth = (q : Int) := ⟨nd.oth.toNat, by omega⟩
  obtain ⟨u', hu'⟩ : ∃ u : Nat, nd.wd2 = (u : Int) := ⟨nd.wd2.toNat, by omega⟩
  have hql : q < l := hus q (by omega) (by unfold useB; rw [if_neg (by omega)]; simp [e4, hq])
  have hql' : q' < l := hus q' (by omega) (by unfold useB; rw [if_neg (by omega)]; simp [e4, hq'])
  have hum : u < m := by
    by_cases h : u < m
    · exact h
    · exact absurd (show wdB m nd from .inl ⟨.inr e4, by omega⟩) hwd
  have hum' : u' < m := by
    by_cases h : u' < m
    · exact h
    · exact absurd (show wdB m nd from .inr ⟨e4, by omega⟩) hwd
  have hqli : (q : Int) < (l : Int) := by omega
  have humi : (u : Int) < (m : Int) := by omega
  have hqli' : (q' : Int) < (l : Int) := by omega
  have humi' : (u' : Int) < (m : Int) := by omega
  have HH := hide (hold_like (os := os) (nums := nums) e4)
  rw [hq, hu, hq', hu', Int.toNat_natCast, Int.toNat_natCast, Int.toNat_natCast, Int.toNat_natCast] at HH
  obtain ⟨b3, o3, rfl, hc3⟩ := sl_cell HS3.out q hql
  obtain ⟨b2, o2, a1, c1, a4, c4, rfl, hom⟩ := slO_cell HO2.out u hum
  obtain ⟨b3', o3', e3', hc3'⟩ := sl_cell HS3.out q' hql'
  cases e3'
  obtain ⟨b2', o2', a5, c5, a6, c6, e2', hom'⟩ := slO_cell HO2.out u' hum'
  cases e2'
  have HSA := hide (fun W (hb : Below W1.heap.size W1 W) => said_any (os.getD u zOm).b a1 (os.getD u zOm).N.length c1 a4 (os.getD u zOm).O.length c4 (os.getD u zOm).N (os.getD u zOm).O (nums.getD q 0) W (sl2_below hom.2.2.2.1 hb) (sl_below hom.2.2.2.2 hb) (hO u hum) (numOk_at hnm (by omega)))
  have HSB := hide (fun W (hb : Below W1.heap.size W1 W) => said_any (os.getD u' zOm).b a5 (os.getD u' zOm).N.length c5 a6 (os.getD u' zOm).O.length c6 (os.getD u' zOm).N (os.getD u' zOm).O (nums.getD q' 0) W (sl2_below hom'.2.2.2.1 hb) (sl_below hom'.2.2.2.2 hb) (hO u' hum') (numOk_at hnm (by omega)))
  unfold outV at HSA HSB
  rw [hq] at z1
  rw [hq'] at z2
  rw [hu] at z3
  rw [hu'] at z4
  obtain ⟨y0, y1, y2, -, -⟩ := hom
  obtain ⟨v0, v1, v2, -, -⟩ := hom'
  have hlt : ∀ {pp : Addr} {vv : Value}, W1.cell? pp = some vv → ∀ W, Below W1.heap.size W1 W → W.cell? pp = some vv := fun h W hb => (hb.cell (World.block_lt_of_cell? W1 _ h)).trans h
  have HC1 := hide (hlt z1)
  have HC2 := hide (hlt z2)
  have HC3 := hide (hlt z3)
  have HC4 := hide (hlt z4)
  have HD1 := hide (hlt hc3)
  have HD2 := hide (hlt hc3')
  have HY0 := hide (hlt y0)
  have HY1 := hide (hlt y1)
  have HY2 := hide (hlt y2)
  have HV0 := hide (hlt v0)
  have HV1 := hide (hlt v1)
  have HV2 := hide (hlt v2)
  generalize os.getD u zOm = om at *
  generalize nums.getD q 0 = x at *
  generalize sayN om.b om.N om.O x = sv at HSA HH
  generalize os.getD u' zOm = om' at *
  generalize nums.getD q' 0 = x' at *
  generalize sayN om'.b om'.N om'.O x' = sv' at HSB HH
  generalize holdB os nums nd = R at HH ⊢
  have t1 : (nd.op == 1) = false := by simp [e4]
  have t2 : (nd.op == 2) = false := by simp [e4]
  have t3 : (nd.op == 3) = false := by simp [e4]
  have t4 : (nd.op == 4) = true := by simp [e4]
  clear hr hsh hs ho h3 hok hus hwd hO hnm e4 hv hwr hv2 hwr2 hq hu hq' hu' hlt hnd
  go_enter Tryd.func25, Tryd.ntmps25
  go_upto_region 13 with fail
  clear hW1 z0 z1 z2 z3 z4 z5 z6 x0 x1 x2 x3 x4 x5 x6 hc3 hc3' y0 y1 y2 v0 v1 v2
  refine region_vals (by kernel_rfl) (rvOn_spec (by decide +kernel)) tlS (fun i => ([.slice (some ⟨b2, o2, none⟩) m cap2, .pointer (some ⟨wq.heap.size, 3, none⟩), .int .i64 (u : Int), .pointer (some ⟨b2, o2 + u * 3, none⟩), .agg #[.int .i64 om.b, .slice a1 om.N.length c1, .slice a4 om.O.length c4], .slice (some ⟨b3, o3, none⟩) l cap3, .pointer (some ⟨wq.heap.size, 1, none⟩), .int .i64 (q : Int), .pointer (some ⟨b3, o3 + q, none⟩), .int .i64 x, .int .i64 sv, .slice (some ⟨b2, o2, none⟩) m cap2, .pointer (some ⟨wq.heap.size, 4, none⟩), .int .i64 (u' : Int), .pointer (some ⟨b2, o2 + u' * 3, none⟩), .agg #[.int .i64 om'.b, .slice a5 om'.N.length c5, .slice a6 om'.O.length c6], .slice (some ⟨b3, o3, none⟩) l cap3, .pointer (some ⟨wq.heap.size, 2, none⟩), .int .i64 (q' : Int), .pointer (some ⟨b3, o3 + q', none⟩), .int .i64 x', .int .i64 sv', .bool (sv == sv'), .bool (sv == sv')] : List Value).getD i undef) (fun i j hi hj e => by have := tlS_inj ⟨i, hi⟩ ⟨j, hj⟩ e; injection this) (fun i hi => tlS_lt ⟨i, hi⟩) ?_ ?_
  · intro T W i o ho hsz hdep hst hb
    have hi : i < 24 := (Array.getElem?_eq_some_iff.1 ho).1
    have e2 : T[2]? = some (.slice (some ⟨b2, o2, none⟩) m cap2) := hst 2 (by decide +kernel)
    have e3 : T[3]? = some (.slice (some ⟨b3, o3, none⟩) l cap3) := hst 3 (by decide +kernel)
    have e9 : T[9]? = some (.pointer (some ⟨wq.heap.size, 0, none⟩)) := hst 9 (by decide +kernel)
    have HK1 := HC1.out W hb
    have HK2 := HC2.out W hb
    have HK3 := HC3.out W hb
    have HK4 := HC4.out W hb
    have HK5 := HD1.out W hb
    have HK6 := HD2.out W hb
    have HK7 := HY0.out W hb
    have HK8 := HY1.out W hb
    have HK9 := HY2.out W hb
    have HL7 := HV0.out W hb
    have HL8 := HV1.out W hb
    have HL9 := HV2.out W hb
    have HCA := hide (HSA.out W hb)
    have HCB := hide (HSB.out W hb)
    have HBW := hide hb
    clear hsz hst hb HC1 HC2 HC3 HC4 HD1 HD2 HY0 HY1 HY2 HV0 HV1 HV2 HSA HSB
    rcases (by omega : i = 0 ∨ i = 1 ∨ i = 2 ∨ i = 3 ∨ i = 4 ∨ i = 5 ∨ i = 6 ∨ i = 7 ∨ i = 8 ∨ i = 9 ∨ i = 10 ∨ i = 11 ∨ i = 12 ∨ i = 13 ∨ i = 14 ∨ i = 15 ∨ i = 16 ∨ i = 17 ∨ i = 18 ∨ i = 19 ∨ i = 20 ∨ i = 21 ∨ i = 22 ∨ i = 23) with rfl | rfl | rfl | rfl | rfl | rfl | rfl | rfl | rfl | rfl | rfl | rfl | rfl | rfl | rfl | rfl | rfl | rfl | rfl | rfl | rfl | rfl | rfl | rfl
    · injection ho with ho
      subst ho
      clear hdep
      refine wpOp_step (o := _) rfl fun K' hK => ?_
      rw [if_pos (by rfl)]
      have HK := hide hK
      clear hK
      go_simp
      exact HK.out _ _ ⟨rfl, HBW.out⟩
    · injection ho with ho
      subst ho
      clear hdep
      refine wpOp_step (o := _) rfl fun K' hK => ?_
      rw [if_pos (by rfl)]
      have HK := hide hK
      clear hK
      go_simp
      exact HK.out _ _ ⟨rfl, HBW.out⟩
    · injection ho with ho
      subst ho
      have d1 : T[90]? = some (.pointer (some ⟨wq.heap.size, 3, none⟩)) := hdep { on := 1, ground := .data } (by simp) rfl
      clear hdep
      refine wpOp_step (o := _) rfl fun K' hK => ?_
      rw [if_pos (by rfl)]
      have HK := hide hK
      clear hK
      go_simp
      exact HK.out _ _ ⟨rfl, HBW.out⟩
    · injection ho with ho
      subst ho
      have d0 : T[89]? = some (.slice (some ⟨b2, o2, none⟩) m cap2) := hdep { on := 0, ground := .data } (by simp) rfl
      have d2 : T[91]? = some (.int .i64 (u : Int)) := hdep { on := 2, ground := .data } (by simp) rfl
      clear hdep
      refine wpOp_step (o := _) rfl fun K' hK => ?_
      rw [if_pos (by rfl)]
      have HK := hide hK
      clear hK
      go_simp
      exact HK.out _ _ ⟨rfl, HBW.out⟩
    · injection ho with ho
      subst ho
      have d3 : T[92]? = some (.pointer (some ⟨b2, o2 + u * 3, none⟩)) := hdep { on := 3, ground := .data } (by simp) rfl
      clear hdep
      refine wpOp_step (o := _) rfl fun K' hK => ?_
      rw [if_pos (by rfl)]
      have HK := hide hK
      clear hK
      go_simp
      exact HK.out _ _ ⟨rfl, HBW.out⟩
    · injection ho with ho
      subst ho
      clear hdep
      refine wpOp_step (o := _) rfl fun K' hK => ?_
      rw [if_pos (by rfl)]
      have HK := hide hK
      clear hK
      go_simp
      exact HK.out _ _ ⟨rfl, HBW.out⟩
    · injection ho with ho
      subst ho
      clear hdep
      refine wpOp_step (o := _) rfl fun K' hK => ?_
      rw [if_pos (by rfl)]
      have HK := hide hK
      clear hK
      go_simp
      exact HK.out _ _ ⟨rfl, HBW.out⟩
    · injection ho with ho
      subst ho
      have d6 : T[95]? = some (.pointer (some ⟨wq.heap.size, 1, none⟩)) := hdep { on := 6, ground := .data } (by simp) rfl
      clear hdep
      refine wpOp_step (o := _) rfl fun K' hK => ?_
      rw [if_pos (by rfl)]
      have HK := hide hK
      clear hK
      go_simp
      exact HK.out _ _ ⟨rfl, HBW.out⟩
    · injection ho with ho
      subst ho
      have d5 : T[94]? = some (.slice (some ⟨b3, o3, none⟩) l cap3) := hdep { on := 5, ground := .data } (by simp) rfl
      have d7 : T[96]? = some (.int .i64 (q : Int)) := hdep { on := 7, ground := .data } (by simp) rfl
      clear hdep
      refine wpOp_step (o := _) rfl fun K' hK => ?_
      rw [if_pos (by rfl)]
      have HK := hide hK
      clear hK
      go_simp
      exact HK.out _ _ ⟨rfl, HBW.out⟩
    · injection ho with ho
      subst ho
      have d8 : T[97]? = some (.pointer (some ⟨b3, o3 + q, none⟩)) := hdep { on := 8, ground := .data } (by simp) rfl
      clear hdep
      refine wpOp_step (o := _) rfl fun K' hK => ?_
      rw [if_pos (by rfl)]
      have HK := hide hK
      clear hK
      go_simp
      exact HK.out _ _ ⟨rfl, HBW.out⟩
    · injection ho with ho
      subst ho
      have d4 : T[93]? = some (.agg #[.int .i64 om.b, .slice a1 om.N.length c1, .slice a4 om.O.length c4]) := hdep { on := 4, ground := .data } (by simp) rfl
      have d9 : T[98]? = some (.int .i64 x) := hdep { on := 9, ground := .data } (by simp) rfl
      clear hdep
      refine wpOp_step (o := _) rfl fun K' hK => ?_
      rw [if_pos (by rfl)]
      have HK := hide hK
      clear hK
      go_simp
      refine HCA.out.mono ?_
      rintro e W2 ⟨rfl, hb2⟩
      exact HK.out _ _ ⟨rfl, below_step HBW.out hb2⟩
    · injection ho with ho
      subst ho
      clear hdep
      refine wpOp_step (o := _) rfl fun K' hK => ?_
      rw [if_pos (by rfl)]
      have HK := hide hK
      clear hK
      go_simp
      exact HK.out _ _ ⟨rfl, HBW.out⟩
    · injection ho with ho
      subst ho
      clear hdep
      refine wpOp_step (o := _) rfl fun K' hK => ?_
      rw [if_pos (by rfl)]
      have HK := hide hK
      clear hK
      go_simp
      exact HK.out _ _ ⟨rfl, HBW.out⟩
    · injection ho with ho
      subst ho
      have d12 : T[101]? = some (.pointer (some ⟨wq.heap.size, 4, none⟩)) := hdep { on := 12, ground := .data } (by simp) rfl
      clear hdep
      refine wpOp_step (o := _) rfl fun K' hK => ?_
      rw [if_pos (by rfl)]
      have HK := hide hK
      clear hK
      go_simp
      exact HK.out _ _ ⟨rfl, HBW.out⟩
    · injection ho with ho
      subst ho
      have d11 : T[100]? = some (.slice (some ⟨b2, o2, none⟩) m cap2) := hdep { on := 11, ground := .data } (by simp) rfl
      have d13 : T[102]? = some (.int .i64 (u' : Int)) := hdep { on := 13, ground := .data } (by simp) rfl
      clear hdep
      refine wpOp_step (o := _) rfl fun K' hK => ?_
      rw [if_pos (by rfl)]
      have HK := hide hK
      clear hK
      go_simp
      exact HK.out _ _ ⟨rfl, HBW.out⟩
    · injection ho with ho
      subst ho
      have d14 : T[103]? = some (.pointer (some ⟨b2, o2 + u' * 3, none⟩)) := hdep { on := 14, ground := .data } (by simp) rfl
      clear hdep
      refine wpOp_step (o := _) rfl fun K' hK => ?_
      rw [if_pos (by rfl)]
      have HK := hide hK
      clear hK
      go_simp
      exact HK.out _ _ ⟨rfl, HBW.out⟩
    · injection ho with ho
      subst ho
      clear hdep
      refine wpOp_step (o := _) rfl fun K' hK => ?_
      rw [if_pos (by rfl)]
      have HK := hide hK
      clear hK
      go_simp
      exact HK.out _ _ ⟨rfl, HBW.out⟩
    · injection ho with ho
      subst ho
      clear hdep
      refine wpOp_step (o := _) rfl fun K' hK => ?_
      rw [if_pos (by rfl)]
      have HK := hide hK
      clear hK
      go_simp
      exact HK.out _ _ ⟨rfl, HBW.out⟩
    · injection ho with ho
      subst ho
      have d17 : T[106]? = some (.pointer (some ⟨wq.heap.size, 2, none⟩)) := hdep { on := 17, ground := .data } (by simp) rfl
      clear hdep
      refine wpOp_step (o := _) rfl fun K' hK => ?_
      rw [if_pos (by rfl)]
      have HK := hide hK
      clear hK
      go_simp
      exact HK.out _ _ ⟨rfl, HBW.out⟩
    · injection ho with ho
      subst ho
      have d16 : T[105]? = some (.slice (some ⟨b3, o3, none⟩) l cap3) := hdep { on := 16, ground := .data } (by simp) rfl
      have d18 : T[107]? = some (.int .i64 (q' : Int)) := hdep { on := 18, ground := .data } (by simp) rfl
      clear hdep
      refine wpOp_step (o := _) rfl fun K' hK => ?_
      rw [if_pos (by rfl)]
      have HK := hide hK
      clear hK
      go_simp
      exact HK.out _ _ ⟨rfl, HBW.out⟩
    · injection ho with ho
      subst ho
      have d19 : T[108]? = some (.pointer (some ⟨b3, o3 + q', none⟩)) := hdep { on := 19, ground := .data } (by simp) rfl
      clear hdep
      refine wpOp_step (o := _) rfl fun K' hK => ?_
      rw [if_pos (by rfl)]
      have HK := hide hK
      clear hK
      go_simp
      exact HK.out _ _ ⟨rfl, HBW.out⟩
    · injection ho with ho
      subst ho
      have d15 : T[104]? = some (.agg #[.int .i64 om'.b, .slice a5 om'.N.length c5, .slice a6 om'.O.length c6]) := hdep { on := 15, ground := .data } (by simp) rfl
      have d20 : T[109]? = some (.int .i64 x') := hdep { on := 20, ground := .data } (by simp) rfl
      clear hdep
      refine wpOp_step (o := _) rfl fun K' hK => ?_
      rw [if_pos (by rfl)]
      have HK := hide hK
      clear hK
      go_simp
      refine HCB.out.mono ?_
      rintro e W2 ⟨rfl, hb2⟩
      exact HK.out _ _ ⟨rfl, below_step HBW.out hb2⟩
    · injection ho with ho
      subst ho
      have d10 : T[99]? = some (.int .i64 sv) := hdep { on := 10, ground := .data } (by simp) rfl
      have d21 : T[110]? = some (.int .i64 sv') := hdep { on := 21, ground := .data } (by simp) rfl
      clear hdep
      refine wpOp_step (o := _) rfl fun K' hK => ?_
      rw [if_pos (by rfl)]
      have HK := hide hK
      clear hK
      go_simp
      exact HK.out _ _ ⟨rfl, HBW.out⟩
    · injection ho with ho
      subst ho
      have d22 : T[111]? = some (.bool (sv == sv')) := hdep { on := 22, ground := .data } (by simp) rfl
      clear hdep
      refine wpOp_step (o := _) rfl fun K' hK => ?_
      rw [if_pos (by rfl)]
      have HK := hide hK
      clear hK
      go_simp
      exact HK.out _ _ ⟨rfl, HBW.out⟩
  · intro T W hsz hval hst hb
    have h8 : T[8]? = some (.bool (sv == sv')) := hval 23 (by decide +kernel)
    have HBW := hide hb
    clear hval hst hb
    go_wp2
    go_ret
    exact ⟨by simp [h8, HH.out]; rfl, below_step HB.out HBW.out⟩
end Go.Proofs.YtgbmemkoggogdaaDoor

/- The reference's Truth, at At, Eq and Lt: contract. -/
namespace Go.Proofs.YtgbmemkoggogdaaDoor
open Go.RowKit

def taS (i : Nat) : Nat := ([72, 73, 74, 75, 76, 77, 78, 79, 80, 81, 82, 83, 84, 85, 8] : List Nat).getD i 0
theorem taS_inj : ∀ i : Fin 15, ∀ j : Fin 15, taS i.val = taS j.val → i = j := by decide +kernel
theorem taS_lt : ∀ i : Fin 15, taS i.val < 151 := by decide +kernel
set_option maxHeartbeats 16000000 in
set_option maxRecDepth 8000 in
theorem truth_at (a : Option Addr) (n cap : Nat) (ns : List Nd) (p : Nat) (a2 : Option Addr) (m cap2 : Nat) (os : List Om) (a3 : Option Addr) (l cap3 : Nat) (nums : List Int) (wq : World) (nd : Nd) (hs : SlF wq a n ns) (hp : p < n) (hnd : ns.getD p zNd = nd) (ho : SlO wq a2 m os) (h3 : Sl wq a3 l nums) (hok : ndF nd = 0) (hus : ∀ v : Nat, v < 5 → useB nd ((v : Nat) : Int) = true → v < l) (hwd : ¬ wdB m nd) (hO : ∀ i, i < m → outC (os.getD i zOm).b (os.getD i zOm).N (os.getD i zOm).O = 0) (hnm : numOk nums = true) (e4 : nd.op = 3) : Calls Tryd.prog 25 #[.slice a n cap, .int .i64 (p : Int), .slice a2 m cap2, .slice a3 l cap3] wq fun e w' => e = .returned (.bool (holdB os nums nd)) ∧ Below wq.heap.size wq w' := by
  obtain ⟨hr, hsh⟩ := ndF_zero hok
  obtain ⟨bb, oo, a', c', rfl, x0, x1, x2, x3, x4, x5, x6, -⟩ := slF_cell hs p hp
  rw [hnd] at x0 x1 x2 x3 x4 x5 x6
  have hB1 := (Below.refl wq.heap.size wq).alloc (Nat.le_refl _) (ndO nd a' c')
  have HB := hide hB1
  have HX := hide (heap_alloc_last wq (ndO nd a' c'))
  generalize hW1 : wq.alloc (ndO nd a' c') = W1 at HB HX
  obtain ⟨z0, z1, z2, z3, z4, z5, z6⟩ := (box7_cells HX.out).1
  have HS3 := hide (sl_below h3 HB.out)
  have HO2 := hide (slO_below ho HB.out)
  have hL3 := h3.1
  have hpi : (p : Int) < (n : Int) := by omega
  have hv := hr.2.1 (.inl e4)
  have hwr := hr.2.2.2.1 (.inl e4)
  obtain ⟨q, hq⟩ : ∃ q : Nat, nd.var = (q : Int) := ⟨nd.var.toNat, by omega⟩
  obtain ⟨u, hu⟩ : ∃ u : Nat, nd.wd = (u : Int) := ⟨nd.wd.toNat, by omega⟩
  have hql : q < l := hus q (by omega) (by unfold useB; rw [if_neg (by omega)]; simp [e4, hq])
  have hum : u < m := by
    by_cases h : u < m
    · exact h
    · exact absurd (show wdB m nd from .inl ⟨.inl e4, by omega⟩) hwd
  have hqli : (q : Int) < (l : Int) := by omega
  have humi : (u : Int) < (m : Int) := by omega
  have HH := hide (hold_at (os := os) (nums := nums) e4)
  rw [hq, hu, Int.toNat_natCast, Int.toNat_natCast] at HH
  obtain ⟨b3, o3, rfl, hc3⟩ := sl_cell HS3.out q hql
  obtain ⟨b2, o2, a1, c1, a4, c4, rfl, hom⟩ := slO_cell HO2.out u hum
  have HSA := hide (fun W (hb : Below W1.heap.size W1 W) => said_any (os.getD u zOm).b a1 (os.getD u zOm).N.length c1 a4 (os.getD u zOm).O.length c4 (os.getD u zOm).N (os.getD u zOm).O (nums.getD q 0) W (sl2_below hom.2.2.2.1 hb) (sl_below hom.2.2.2.2 hb) (hO u hum) (numOk_at hnm (by omega)))
  unfold outV at HSA
  rw [hq] at z1
  rw [hu] at z3
  obtain ⟨y0, y1, y2, -, -⟩ := hom
  have hlt : ∀ {pp : Addr} {vv : Value}, W1.cell? pp = some vv → ∀ W, Below W1.heap.size W1 W → W.cell? pp = some vv := fun h W hb => (hb.cell (World.block_lt_of_cell? W1 _ h)).trans h
  have HC1 := hide (hlt z1)
  have HC3 := hide (hlt z3)
  have HC5 := hide (hlt z5)
  have HD1 := hide (hlt hc3)
  have HY0 := hide (hlt y0)
  have HY1 := hide (hlt y1)
  have HY2 := hide (hlt y2)
  generalize os.getD u zOm = om at *
  generalize nums.getD q 0 = x at *
  generalize sayN om.b om.N om.O x = sv at HSA HH
  generalize holdB os nums nd = R at HH ⊢
  have t1 : (nd.op == 1) = false := by simp [e4]
  have t2 : (nd.op == 2) = false := by simp [e4]
  have t3 : (nd.op == 3) = true := by simp [e4]
  clear hr hsh hs ho h3 hok hus hwd hO hnm e4 hv hwr hq hu hlt hnd
  go_enter Tryd.func25, Tryd.ntmps25
  go_upto_region 11 with fail
  clear hW1 z0 z1 z2 z3 z4 z5 z6 x0 x1 x2 x3 x4 x5 x6 hc3 y0 y1 y2
  refine region_vals (by kernel_rfl) (rvOn_spec (by decide +kernel)) taS (fun i => ([.slice (some ⟨b2, o2, none⟩) m cap2, .pointer (some ⟨wq.heap.size, 3, none⟩), .int .i64 (u : Int), .pointer (some ⟨b2, o2 + u * 3, none⟩), .agg #[.int .i64 om.b, .slice a1 om.N.length c1, .slice a4 om.O.length c4], .slice (some ⟨b3, o3, none⟩) l cap3, .pointer (some ⟨wq.heap.size, 1, none⟩), .int .i64 (q : Int), .pointer (some ⟨b3, o3 + q, none⟩), .int .i64 x, .int .i64 sv, .pointer (some ⟨wq.heap.size, 5, none⟩), .int .i64 nd.num, .bool (sv == nd.num), .bool (sv == nd.num)] : List Value).getD i undef) (fun i j hi hj e => by have := taS_inj ⟨i, hi⟩ ⟨j, hj⟩ e; injection this) (fun i hi => taS_lt ⟨i, hi⟩) ?_ ?_
  · intro T W i o ho hsz hdep hst hb
    have hi : i < 15 := (Array.getElem?_eq_some_iff.1 ho).1
    have e2 : T[2]? = some (.slice (some ⟨b2, o2, none⟩) m cap2) := hst 2 (by decide +kernel)
    have e3 : T[3]? = some (.slice (some ⟨b3, o3, none⟩) l cap3) := hst 3 (by decide +kernel)
    have e9 : T[9]? = some (.pointer (some ⟨wq.heap.size, 0, none⟩)) := hst 9 (by decide +kernel)
    have HK1 := HC1.out W hb
    have HK3 := HC3.out W hb
    have HK4 := HC5.out W hb
    have HK5 := HD1.out W hb
    have HK7 := HY0.out W hb
    have HK8 := HY1.out W hb
    have HK9 := HY2.out W hb
    have HCA := hide (HSA.out W hb)
    have HBW := hide hb
    clear hsz hst hb HC1 HC3 HC5 HD1 HY0 HY1 HY2 HSA
    rcases (by omega : i = 0 ∨ i = 1 ∨ i = 2 ∨ i = 3 ∨ i = 4 ∨ i = 5 ∨ i = 6 ∨ i = 7 ∨ i = 8 ∨ i = 9 ∨ i = 10 ∨ i = 11 ∨ i = 12 ∨ i = 13 ∨ i = 14) with rfl | rfl | rfl | rfl | rfl | rfl | rfl | rfl | rfl | rfl | rfl | rfl | rfl | rfl | rfl
    · injection ho with ho
      subst ho
      clear hdep
      refine wpOp_step (o := _) rfl fun K' hK => ?_
      rw [if_pos (by rfl)]
      have HK := hide hK
      clear hK
      go_simp
      exact HK.out _ _ ⟨rfl, HBW.out⟩
    · injection ho with ho
      subst ho
      clear hdep
      refine wpOp_step (o := _) rfl fun K' hK => ?_
      rw [if_pos (by rfl)]
      have HK := hide hK
      clear hK
      go_simp
      exact HK.out _ _ ⟨rfl, HBW.out⟩
    · injection ho with ho
      subst ho
      have d1 : T[73]? = some (.pointer (some ⟨wq.heap.size, 3, none⟩)) := hdep { on := 1, ground := .data } (by simp) rfl
      clear hdep
      refine wpOp_step (o := _) rfl fun K' hK => ?_
      rw [if_pos (by rfl)]
      have HK := hide hK
      clear hK
      go_simp
      exact HK.out _ _ ⟨rfl, HBW.out⟩
    · injection ho with ho
      subst ho
      have d0 : T[72]? = some (.slice (some ⟨b2, o2, none⟩) m cap2) := hdep { on := 0, ground := .data } (by simp) rfl
      have d2 : T[74]? = some (.int .i64 (u : Int)) := hdep { on := 2, ground := .data } (by simp) rfl
      clear hdep
      refine wpOp_step (o := _) rfl fun K' hK => ?_
      rw [if_pos (by rfl)]
      have HK := hide hK
      clear hK
      go_simp
      exact HK.out _ _ ⟨rfl, HBW.out⟩
    · injection ho with ho
      subst ho
      have d3 : T[75]? = some (.pointer (some ⟨b2, o2 + u * 3, none⟩)) := hdep { on := 3, ground := .data } (by simp) rfl
      clear hdep
      refine wpOp_step (o := _) rfl fun K' hK => ?_
      rw [if_pos (by rfl)]
      have HK := hide hK
      clear hK
      go_simp
      exact HK.out _ _ ⟨rfl, HBW.out⟩
    · injection ho with ho
      subst ho
      clear hdep
      refine wpOp_step (o := _) rfl fun K' hK => ?_
      rw [if_pos (by rfl)]
      have HK := hide hK
      clear hK
      go_simp
      exact HK.out _ _ ⟨rfl, HBW.out⟩
    · injection ho with ho
      subst ho
      clear hdep
      refine wpOp_step (o := _) rfl fun K' hK => ?_
      rw [if_pos (by rfl)]
      have HK := hide hK
      clear hK
      go_simp
      exact HK.out _ _ ⟨rfl, HBW.out⟩
    · injection ho with ho
      subst ho
      have d6 : T[78]? = some (.pointer (some ⟨wq.heap.size, 1, none⟩)) := hdep { on := 6, ground := .data } (by simp) rfl
      clear hdep
      refine wpOp_step (o := _) rfl fun K' hK => ?_
      rw [if_pos (by rfl)]
      have HK := hide hK
      clear hK
      go_simp
      exact HK.out _ _ ⟨rfl, HBW.out⟩
    · injection ho with ho
      subst ho
      have d5 : T[77]? = some (.slice (some ⟨b3, o3, none⟩) l cap3) := hdep { on := 5, ground := .data } (by simp) rfl
      have d7 : T[79]? = some (.int .i64 (q : Int)) := hdep { on := 7, ground := .data } (by simp) rfl
      clear hdep
      refine wpOp_step (o := _) rfl fun K' hK => ?_
      rw [if_pos (by rfl)]
      have HK := hide hK
      clear hK
      go_simp
      exact HK.out _ _ ⟨rfl, HBW.out⟩
    · injection ho with ho
      subst ho
      have d8 : T[80]? = some (.pointer (some ⟨b3, o3 + q, none⟩)) := hdep { on := 8, ground := .data } (by simp) rfl
      clear hdep
      refine wpOp_step (o := _) rfl fun K' hK => ?_
      rw [if_pos (by rfl)]
      have HK := hide hK
      clear hK
      go_simp
      exact HK.out _ _ ⟨rfl, HBW.out⟩
    · injection ho with ho
      subst ho
      have d4 : T[76]? = some (.agg #[.int .i64 om.b, .slice a1 om.N.length c1, .slice a4 om.O.length c4]) := hdep { on := 4, ground := .data } (by simp) rfl
      have d9 : T[81]? = some (.int .i64 x) := hdep { on := 9, ground := .data } (by simp) rfl
      clear hdep
      refine wpOp_step (o := _) rfl fun K' hK => ?_
      rw [if_pos (by rfl)]
      have HK := hide hK
      clear hK
      go_simp
      refine HCA.out.mono ?_
      rintro e W2 ⟨rfl, hb2⟩
      exact HK.out _ _ ⟨rfl, below_step HBW.out hb2⟩
    · injection ho with ho
      subst ho
      clear hdep
      refine wpOp_step (o := _) rfl fun K' hK => ?_
      rw [if_pos (by rfl)]
      have HK := hide hK
      clear hK
      go_simp
      exact HK.out _ _ ⟨rfl, HBW.out⟩
    · injection ho with ho
      subst ho
      have d11 : T[83]? = some (.pointer (some ⟨wq.heap.size, 5, none⟩)) := hdep { on := 11, ground := .data } (by simp) rfl
      clear hdep
      refine wpOp_step (o := _) rfl fun K' hK => ?_
      rw [if_pos (by rfl)]
      have HK := hide hK
      clear hK
      go_simp
      exact HK.out _ _ ⟨rfl, HBW.out⟩
    · injection ho with ho
      subst ho
      have d10 : T[82]? = some (.int .i64 sv) := hdep { on := 10, ground := .data } (by simp) rfl
      have d12 : T[84]? = some (.int .i64 nd.num) := hdep { on := 12, ground := .data } (by simp) rfl
      clear hdep
      refine wpOp_step (o := _) rfl fun K' hK => ?_
      rw [if_pos (by rfl)]
      have HK := hide hK
      clear hK
      go_simp
      exact HK.out _ _ ⟨rfl, HBW.out⟩
    · injection ho with ho
      subst ho
      have d13 : T[85]? = some (.bool (sv == nd.num)) := hdep { on := 13, ground := .data } (by simp) rfl
      clear hdep
      refine wpOp_step (o := _) rfl fun K' hK => ?_
      rw [if_pos (by rfl)]
      have HK := hide hK
      clear hK
      go_simp
      exact HK.out _ _ ⟨rfl, HBW.out⟩
  · intro T W hsz hval hst hb
    have h8 : T[8]? = some (.bool (sv == nd.num)) := hval 14 (by decide +kernel)
    have HBW := hide hb
    clear hval hst hb
    go_wp2
    go_ret
    exact ⟨by simp [h8, HH.out]; rfl, below_step HB.out HBW.out⟩
end Go.Proofs.YtgbmemkoggogdaaDoor

/- The reference's Truth, at Eq and Lt; whole: contract. -/
namespace Go.Proofs.YtgbmemkoggogdaaDoor
open Go.RowKit

theorem sum_step (cf : List Int) (f : Nat → Int) (k : Nat) : sumT cf f (k + 1) = sumT cf f k + cf.getD k 0 * f k := rfl
theorem wrap_ok {x : Int} (h : -9223372036854775808 ≤ x ∧ x ≤ 9223372036854775807) : IntKind.i64.wrap x = x := by rw [IntKind.wrap_i64]; omega
set_option maxHeartbeats 8000000 in
set_option maxRecDepth 4000 in
theorem truth_line (a : Option Addr) (n cap : Nat) (ns : List Nd) (p : Nat) (v2 : Value) (os : List Om) (a3 : Option Addr) (l cap3 : Nat) (nums : List Int) (wq : World) (nd : Nd) (hs : SlF wq a n ns) (hp : p < n) (hnd : ns.getD p zNd = nd) (h3 : Sl wq a3 l nums) (hok : ndF nd = 0) (hus : ∀ v : Nat, v < 5 → useB nd ((v : Nat) : Int) = true → v < l) (hnm : numOk nums = true) (e12 : nd.op = 1 ∨ nd.op = 2) : Calls Tryd.prog 25 #[.slice a n cap, .int .i64 (p : Int), v2, .slice a3 l cap3] wq fun e w' => e = .returned (.bool (holdB os nums nd)) ∧ Below wq.heap.size wq w' := by
  have hcl := cf_le hok e12 hus
  obtain ⟨hr, hsh⟩ := ndF_zero hok
  have hln := hr.2.2.2.2.2.2 e12
  obtain ⟨bb, oo, a', c', rfl, x0, x1, x2, x3, x4, x5, x6, hsl⟩ := slF_cell hs p hp
  rw [hnd] at x0 x1 x2 x3 x4 x5 x6 hsl
  have hB1 := (Below.refl wq.heap.size wq).alloc (Nat.le_refl _) (ndO nd a' c')
  have HB := hide hB1
  have HX := hide (heap_alloc_last wq (ndO nd a' c'))
  have HSC := hide (sl_below hsl hB1)
  have HS3 := hide (sl_below h3 hB1)
  generalize hW1 : wq.alloc (ndO nd a' c') = W1 at HB HX HSC HS3
  obtain ⟨z0, z1, z2, z3, z4, z5, z6⟩ := (box7_cells HX.out).1
  have hpi : (p : Int) < (n : Int) := by omega
  have HH := hide (hold_eq (os := os) (nums := nums) e12)
  have HBD : Hid (∀ k, k ≤ nd.cf.length → -13194139533312 ≤ sumT nd.cf (fun i => nums.getD i 0) k ∧ sumT nd.cf (fun i => nums.getD i 0) k ≤ 13194139533312) := fun k hk => by
    have h := sumT_bd nd.cf (fun i => nums.getD i 0) 1099511627776 k (fun i hi => numOk_at hnm (by rw [h3.1]; omega))
    have h2 := absT_mono nd.cf hk
    have h3 := absT_nn nd.cf k
    have h4 := hln.2.1
    generalize absT nd.cf k = A at *
    constructor
    · have : A * 1099511627776 ≤ 12 * 1099511627776 := Int.mul_le_mul_of_nonneg_right (by omega) (by decide)
      omega
    · have : A * 1099511627776 ≤ 12 * 1099511627776 := Int.mul_le_mul_of_nonneg_right (by omega) (by decide)
      omega
  have HSU := hide (sum_step nd.cf (fun i => nums.getD i 0))
  have HS0 : Hid (sumT nd.cf (fun i => nums.getD i 0) 0 = 0) := rfl
  have hnum := hln.2.2
  have t12 : ((nd.op == 1) = true ∧ (nd.op == 2) = false) ∨ ((nd.op == 1) = false ∧ (nd.op == 2) = true) := by
    rcases e12 with h | h
    · exact .inl ⟨by simp [h], by simp [h]⟩
    · exact .inr ⟨by simp [h], by simp [h]⟩
  have h5c := hln.1
  clear hr hsh hs h3 hok hus hnm e12 hln hsl hnd hB1
  generalize holdB os nums nd = R at HH ⊢
  generalize hSF : sumT nd.cf (fun i => nums.getD i 0) = SF at HH HBD HSU HS0
  clear hSF
  rcases t12 with ⟨t1, t2⟩ | ⟨t1, t2⟩
  all_goals
    rw [t2] at HH
    go_enter Tryd.func25, Tryd.ntmps25
    go_wp2
    clear hW1 x0 x1 x2 x3 x4 x5 x6 z0 z1 z2 z3 z4 z5 z6
    go_loopw [10, 11] (fun sv kv wx => ∃ k : Nat, k ≤ nd.cf.length ∧ kv = .int .i64 k ∧ sv = .int .i64 (nd.num + SF k) ∧ Below W1.heap.size W1 wx) (fun _ kv _ => nd.cf.length - (intOf kv).toNat)
    case atStart => exact ⟨0, by omega, rfl, by rw [HS0.out, Int.add_zero], Below.refl _ _⟩
    case round =>
      obtain ⟨k, hk, rfl, rfl, hbk⟩ := hrel
      have HBK := hide hbk
      obtain ⟨z0, z1, z2, z3, z4, z5, z6⟩ := (box7_cells ((hbk.block _ (Array.getElem?_eq_some_iff.1 HX.out).1).trans HX.out)).1
      clear hbk
      by_cases hlt : k < nd.cf.length
      · have hlti : (k : Int) < (nd.cf.length : Int) := by omega
        have hltl : (k : Int) < (l : Int) := by omega
        obtain ⟨b1, o1, rfl, hc1⟩ := sl_cell (sl_below HSC.out HBK.out) k hlt
        obtain ⟨b3, o3, rfl, hc3⟩ := sl_cell (sl_below HS3.out HBK.out) k (by omega)
        have hsu := HSU.out k
        have hb1 := HBD.out k (by omega)
        have hb2 := HBD.out (k + 1) (by omega)
        generalize nd.cf.getD k 0 = z at hc1 hsu
        generalize nums.getD k 0 = y at hc3 hsu
        by_cases hz : z = 0
        · have ez : (z == 0) = true := by simpa using hz
          have nz : (z != 0) = false := by simpa using hz
          have HE : Hid (SF (k + 1) = SF k) := by show _ = _; rw [hsu, hz]; simp
          clear hsu hz hb1 hb2
          go_wp2
          go_roundw
          case rel => exact ⟨k + 1, by omega, by go_num, by rw [HE.out], HBK.out⟩
          case measure => simp [intOf]; omega
        · have ez : (z == 0) = false := by simpa using hz
          have nz : (z != 0) = true := by simpa using hz
          have hw1 : IntKind.i64.wrap (z * y) = z * y := wrap_ok (by omega)
          have hw2 : IntKind.i64.wrap (nd.num + SF k + z * y) = nd.num + SF k + z * y := wrap_ok (by omega)
          have HE := hide hsu
          clear hsu hz hb1 hb2
          go_wp2
          go_quiet (fail)
          go_wp2
          go_roundw
          case rel => exact ⟨k + 1, by omega, by go_num, by rw [HE.out]; simp [Int.add_assoc], below_drewN HBK.out _⟩
          case measure => simp [intOf]; omega
      · have hlti : ¬ (k : Int) < (nd.cf.length : Int) := by omega
        obtain rfl : k = nd.cf.length := by omega
        have hh := HH.out
        unfold lnEnd at hh
        generalize SF nd.cf.length = sf at hh ⊢
        have HHH := hide hh
        have HBK2 := hide (below_step HB.out HBK.out)
        clear hh
        by_cases hz : nd.num + sf = 0
        · have ez : (nd.num + sf == 0) = true := by simpa using hz
          have hl : ¬ nd.num + sf < 0 := by omega
          go_wp2
          go_ret
          exact ⟨by rw [HHH.out]; simp; omega, HBK2.out⟩
        · have ez : (nd.num + sf == 0) = false := by simpa using hz
          by_cases hl : nd.num + sf < 0
          · go_wp2
            go_ret
            exact ⟨by rw [HHH.out]; simp; omega, HBK2.out⟩
          · go_wp2
            go_ret
            exact ⟨by rw [HHH.out]; simp; omega, HBK2.out⟩
end Go.Proofs.YtgbmemkoggogdaaDoor

/- The reference's Truth, whole: contract. -/
namespace Go.Proofs.YtgbmemkoggogdaaDoor
open Go.RowKit

set_option maxHeartbeats 16000000 in
set_option maxRecDepth 8000 in
theorem truth_any (a : Option Addr) (n cap : Nat) (ns : List Nd) (a2 : Option Addr) (m cap2 : Nat) (os : List Om) (a3 : Option Addr) (l cap3 : Nat) (nums : List Int) (w0 : World) (hs : SlF w0 a n ns) (ho : SlO w0 a2 m os) (h3 : Sl w0 a3 l nums) (hn : n ≤ 40) (hus : ∀ x ∈ ns, ∀ v : Nat, v < 5 → useB x ((v : Nat) : Int) = true → v < l) (hwd : ∀ x ∈ ns, ¬ wdB m x) (hO : ∀ i, i < m → outC (os.getD i zOm).b (os.getD i zOm).N (os.getD i zOm).O = 0) (hnm : numOk nums = true) : ∀ (N : Nat) (t : Fm), t.flat.length ≤ N → t.ok → t.bare → ∀ (pre post : List Nd) (W : World), ns = pre ++ (t.flat ++ post) → Below w0.heap.size w0 W → Calls Tryd.prog 25 #[.slice a n cap, .int .i64 (pre.length : Int), .slice a2 m cap2, .slice a3 l cap3] W fun e W' => e = .returned (.bool (t.tru os nums)) ∧ Below W.heap.size W W' := by
  intro N
  induction N with
  | zero => intro t htl; have := flat_pos t; omega
  | succ N ih =>
    intro t htl hok hba pre post W he hb0
    have hL := hs.1
    have hfl := flat_node t
    have hpn : pre.length < n := by rw [← hL, he, hfl]; simp <;> omega
    have hget : ns.getD pre.length zNd = t.node := by rw [he, hfl]; simp [List.getD]
    have hmem : t.node ∈ ns := by rw [he, hfl]; simp
    have hsW := slF_below hs hb0
    have hoW := slO_below ho hb0
    have h3W := sl_below h3 hb0
    cases t with
    | at0 nd =>
      have hnd : ndF nd = 0 := hok.1
      have hp0 := hok.2
      have hop := (ndF_zero hnd).1.1
      have h4 : nd.op = 1 ∨ nd.op = 2 ∨ nd.op = 3 ∨ nd.op = 4 := by
        unfold partsN at hp0
        by_cases q : nd.op = 5 ∨ nd.op = 8 ∨ nd.op = 9
        · rw [if_pos q] at hp0; omega
        · rw [if_neg q] at hp0
          by_cases q2 : nd.op = 6 ∨ nd.op = 7
          · rw [if_pos q2] at hp0; omega
          · omega
      show Calls _ _ _ _ fun e W' => e = .returned (.bool (holdB os nums nd)) ∧ _
      simp only [Fm.node] at hget hmem
      rcases h4 with h | h | h | h
      · exact truth_line a n cap ns pre.length _ os a3 l cap3 nums W nd hsW hpn hget h3W hnd (hus nd hmem) hnm (.inl h)
      · exact truth_line a n cap ns pre.length _ os a3 l cap3 nums W nd hsW hpn hget h3W hnd (hus nd hmem) hnm (.inr h)
      · exact truth_at a n cap ns pre.length a2 m cap2 os a3 l cap3 nums W nd hsW hpn hget hoW h3W hnd (hus nd hmem) (hwd nd hmem) hO hnm h
      · exact truth_like a n cap ns pre.length a2 m cap2 os a3 l cap3 nums W nd hsW hpn hget hoW h3W hnd (hus nd hmem) (hwd nd hmem) hO hnm h
    | un nd f =>
      obtain ⟨hnd, hp1, hfo⟩ := hok
      obtain ⟨hb8, hfb⟩ := hba
      have h5 : nd.op = 5 := by
        unfold partsN at hp1
        by_cases q : nd.op = 5 ∨ nd.op = 8 ∨ nd.op = 9
        · omega
        · rw [if_neg q] at hp1
          split at hp1 <;> omega
      simp only [Fm.node] at hget
      obtain ⟨bb, oo, a', c', rfl, x0, x1, x2, x3, x4, x5, x6, -⟩ := slF_cell hsW pre.length hpn
      rw [hget] at x0 x1 x2 x3 x4 x5 x6
      have hB1 := (Below.refl W.heap.size W).alloc (Nat.le_refl _) (ndO nd a' c')
      have HC := hide (ih f (by simp [Fm.flat] at htl; omega) hfo hfb (pre ++ [nd]) post (W.alloc (ndO nd a' c')) (by rw [he]; simp [Fm.flat]) (below_step hb0 hB1))
      rw [show (((pre ++ [nd]).length : Nat) : Int) = (pre.length : Int) + 1 by simp] at HC
      have HB := hide hB1
      have HX := hide (heap_alloc_last W (ndO nd a' c'))
      have HT : Hid ((Fm.un nd f).tru os nums = !f.tru os nums) := rfl
      have hpi : (pre.length : Int) < (n : Int) := by omega
      have e1 : (nd.op == 1) = false := by simp [h5]
      have e2 : (nd.op == 2) = false := by simp [h5]
      have e3 : (nd.op == 3) = false := by simp [h5]
      have e4 : (nd.op == 4) = false := by simp [h5]
      have e5 : (nd.op == 5) = true := by simp [h5]
      clear hs ho h3 hus hwd hO hnm ih htl hfo hfb hfl hget he hL hmem hsW hoW h3W hb0 hB1 hnd hp1 hb8 h5
      generalize (Fm.un nd f).tru os nums = T at HT ⊢
      generalize f.tru os nums = tv at HT HC
      generalize pre.length = p at *
      generalize hW1 : W.alloc (ndO nd a' c') = W1 at HB HX HC
      obtain ⟨z0, z1, z2, z3, z4, z5, z6⟩ := (box7_cells HX.out).1
      go_enter Tryd.func25, Tryd.ntmps25
      go_wp2_with fail
      clear hW1 x0 x1 x2 x3 x4 x5 x6 z0 z1 z2 z3 z4 z5 z6
      refine HC.out.mono ?_
      rintro e w2 ⟨rfl, hb2⟩
      obtain ⟨z0, z1, z2, z3, z4, z5, z6⟩ := (box7_cells ((hb2.block _ (Array.getElem?_eq_some_iff.1 HX.out).1).trans HX.out)).1
      have HB2 := hide (below_step HB.out hb2)
      clear hb2 HC
      go_wp2
      go_ret
      exact ⟨by rw [HT.out]; rfl, HB2.out⟩
    | bin nd f g =>
      obtain ⟨hnd, hp1, hfo, hgo⟩ := hok
      obtain ⟨hb8, hfb, hgb⟩ := hba
      have h67 : nd.op = 6 ∨ nd.op = 7 := by
        unfold partsN at hp1
        by_cases q : nd.op = 5 ∨ nd.op = 8 ∨ nd.op = 9
        · rw [if_pos q] at hp1; omega
        · rw [if_neg q] at hp1
          split at hp1 <;> omega
      simp only [Fm.node] at hget
      obtain ⟨bb, oo, a', c', rfl, x0, x1, x2, x3, x4, x5, x6, -⟩ := slF_cell hsW pre.length hpn
      rw [hget] at x0 x1 x2 x3 x4 x5 x6
      have hB1 := (Below.refl W.heap.size W).alloc (Nat.le_refl _) (ndO nd a' c')
      have HC := hide (ih f (by simp [Fm.flat] at htl; omega) hfo hfb (pre ++ [nd]) (g.flat ++ post) (W.alloc (ndO nd a' c')) (by rw [he]; simp [Fm.flat]) (below_step hb0 hB1))
      rw [show (((pre ++ [nd]).length : Nat) : Int) = (pre.length : Int) + 1 by simp] at HC
      have HE : Hid (∀ W', Below (W.alloc (ndO nd a' c')).heap.size (W.alloc (ndO nd a' c')) W' → Calls Tryd.prog 46 #[.slice (some ⟨bb, oo, none⟩) n cap, .int .i64 ((pre.length : Int) + 1)] W' fun e w' => e = .returned (.int .i64 ((pre.length + 1 + f.flat.length : Nat) : Int)) ∧ w' = W') := fun W' hb => by
        have h := endOf_any (some ⟨bb, oo, none⟩) n cap ns W' (slF_below hs (below_step hb0 (below_step hB1 hb))) hn (pre ++ [nd]) (g.flat ++ post) f hfo (by rw [he]; simp [Fm.flat])
        rw [show (((pre ++ [nd]).length : Nat) : Int) = (pre.length : Int) + 1 by simp, show (pre ++ [nd]).length + f.flat.length = pre.length + 1 + f.flat.length by simp] at h
        exact h
      have HC2 : Hid (∀ W', Below (W.alloc (ndO nd a' c')).heap.size (W.alloc (ndO nd a' c')) W' → Calls Tryd.prog 25 #[.slice (some ⟨bb, oo, none⟩) n cap, .int .i64 ((pre.length + 1 + f.flat.length : Nat) : Int), .slice a2 m cap2, .slice a3 l cap3] W' fun e w' => e = .returned (.bool (g.tru os nums)) ∧ Below W'.heap.size W' w') := fun W' hb => by
        have h := ih g (by simp [Fm.flat] at htl; omega) hgo hgb (pre ++ (nd :: f.flat)) post W' (by rw [he]; simp [Fm.flat]) (below_step hb0 (below_step hB1 hb))
        rw [show (pre ++ (nd :: f.flat)).length = pre.length + 1 + f.flat.length by simp; omega] at h
        exact h
      have HB := hide hB1
      have HX := hide (heap_alloc_last W (ndO nd a' c'))
      have HT : Hid ((Fm.bin nd f g).tru os nums = if nd.op = 6 then f.tru os nums && g.tru os nums else f.tru os nums || g.tru os nums) := rfl
      have hpi : (pre.length : Int) < (n : Int) := by omega
      have e1 : (nd.op == 1) = false := by simp; omega
      have e2 : (nd.op == 2) = false := by simp; omega
      have e3 : (nd.op == 3) = false := by simp; omega
      have e4 : (nd.op == 4) = false := by simp; omega
      have e5 : (nd.op == 5) = false := by simp; omega
      have e67 : ((nd.op == 6) = true ∧ (nd.op == 7) = false ∧ nd.op = 6) ∨ ((nd.op == 6) = false ∧ (nd.op == 7) = true ∧ ¬ nd.op = 6) := by
        rcases h67 with h | h
        · exact .inl ⟨by simp [h], by simp [h], h⟩
        · exact .inr ⟨by simp [h], by simp [h], by omega⟩
      clear hs ho h3 hus hwd hO hnm ih htl hfo hfb hgo hgb hfl hget he hL hmem hsW hoW h3W hb0 hB1 hnd hp1 hb8 h67
      generalize (Fm.bin nd f g).tru os nums = T at HT ⊢
      generalize f.tru os nums = tv at HT HC
      generalize g.tru os nums = tw at HT HC2
      generalize f.flat.length = fl at HE HC2
      generalize pre.length = p at *
      generalize hW1 : W.alloc (ndO nd a' c') = W1 at HB HX HC HE HC2
      obtain ⟨z0, z1, z2, z3, z4, z5, z6⟩ := (box7_cells HX.out).1
      go_enter Tryd.func25, Tryd.ntmps25
      go_wp2_with fail
      clear hW1 x0 x1 x2 x3 x4 x5 x6 z0 z1 z2 z3 z4 z5 z6
      refine HC.out.mono ?_
      rintro e w2 ⟨rfl, hb2⟩
      obtain ⟨z0, z1, z2, z3, z4, z5, z6⟩ := (box7_cells ((hb2.block _ (Array.getElem?_eq_some_iff.1 HX.out).1).trans HX.out)).1
      have HE2 := hide (HE.out w2 hb2)
      have HC3 := hide (HC2.out w2 hb2)
      have HB2 := hide hb2
      clear hb2 HC HE HC2
      go_wp2_with (go_at_call 46; refine HE2.out.mono ?_; rintro e w' ⟨rfl, hw'⟩; rw [hw']; clear hw' w')
      refine HC3.out.mono ?_
      rintro e w3 ⟨rfl, hb3⟩
      clear z0 z1 z2 z3 z4 z5 z6
      have hb13 := below_step HB2.out hb3
      obtain ⟨z0, z1, z2, z3, z4, z5, z6⟩ := (box7_cells ((hb13.block _ (Array.getElem?_eq_some_iff.1 HX.out).1).trans HX.out)).1
      have HB3 := hide (below_step HB.out hb13)
      clear hb3 hb13 HC3 HE2
      rcases e67 with ⟨e6, e7, h6⟩ | ⟨e6, e7, h6⟩
      · have HT6 : Hid (T = (tv && tw)) := by show _ = _; rw [HT.out, if_pos h6]
        clear HT h6
        cases tv
        all_goals
          cases tw
          all_goals
            go_wp2
            go_ret
            exact ⟨by rw [HT6.out]; rfl, HB3.out⟩
      · have HT6 : Hid (T = (tv || tw)) := by show _ = _; rw [HT.out, if_neg h6]
        clear HT h6
        cases tv
        all_goals
          cases tw
          all_goals
            go_wp2
            go_ret
            exact ⟨by rw [HT6.out]; rfl, HB3.out⟩
end Go.Proofs.YtgbmemkoggogdaaDoor

/- Package formula: Eval: contract, from that of holds. -/
namespace Go.Proofs.YtgbmemkoggogdaaDoor
open Go.RowKit

def HoldNd : Prop := ∀ (n : Nd) (a : Option Addr) (c : Nat) (a2 : Option Addr) (m cap2 : Nat) (os : List Om) (a3 : Option Addr) (l cap3 : Nat) (nums : List Int) (w : World), Sl w a n.cf.length n.cf → SlO w a2 m os → Sl w a3 l nums → l ≤ cap3 → ndF n = 0 → (∀ v : Nat, v < 5 → useB n ((v : Nat) : Int) = true → v < l) → ¬ wdB m n → (∀ i, i < m → outC (os.getD i zOm).b (os.getD i zOm).N (os.getD i zOm).O = 0) → numOk nums = true → Calls Tryd.prog 30 #[ndV n a c, .slice a2 m cap2, .slice a3 l cap3] w fun e w' => e = .returned (.tuple #[.bool (holdB os nums n), .nilIface]) ∧ Below w.heap.size w w'
def evC (ns : List Nd) (os : List Om) (nums : List Int) (t : Fm) : Int := if bareB ns = true then (if wdF ns os 0 = 0 then nmC t nums else wdF ns os 0) else 2
theorem bare_tree (t : Fm) (h : bareB t.flat = true) : t.bare := by
  induction t with
  | at0 n => simp [bareB, Fm.flat] at h; exact h
  | un n f ih =>
    simp only [bareB, Fm.flat, List.all_cons, Bool.and_eq_true, decide_eq_true_eq] at h
    exact ⟨h.1, ih h.2⟩
  | bin n f g ih1 ih2 =>
    simp only [bareB, Fm.flat, List.all_cons, List.all_append, Bool.and_eq_true, decide_eq_true_eq] at h
    exact ⟨h.1, ih1 h.2.1, ih2 h.2.2⟩
theorem bare_fre (t : Fm) (h : t.bare) : ∀ n ∈ t.flat, ∀ v : Int, useB n v = true → t.fre v = true := by
  induction t with
  | at0 m =>
    intro n hn v hu
    simp [Fm.flat] at hn
    subst hn
    obtain ⟨h1, h2⟩ := h
    unfold Fm.fre
    rw [if_neg (by omega)]
    exact hu
  | un m f ih =>
    intro n hn v hu
    simp only [Fm.flat, List.mem_cons] at hn
    obtain ⟨⟨h1, h2⟩, h3⟩ := h
    unfold Fm.fre
    rw [if_neg (by omega)]
    rcases hn with rfl | hn
    · rw [hu]; rfl
    · rw [ih h3 n hn v hu]; simp
  | bin m f g ih1 ih2 =>
    intro n hn v hu
    simp only [Fm.flat, List.mem_cons, List.mem_append] at hn
    obtain ⟨⟨h1, h2⟩, h3, h4⟩ := h
    unfold Fm.fre
    rw [if_neg (by omega)]
    rcases hn with rfl | hn | hn
    · rw [hu]; simp
    · rw [ih1 h3 n hn v hu]; simp
    · rw [ih2 h4 n hn v hu]; simp
theorem wdF_fine {ns : List Nd} {os : List Om} (h : wdF ns os 0 = 0) : os.length ≤ 3 ∧ (∀ i, i < os.length → outC (os.getD i zOm).b (os.getD i zOm).N (os.getD i zOm).O = 0) ∧ ∀ n ∈ ns, ¬ wdB os.length n := by
  unfold wdF at h
  by_cases h3 : 3 < os.length
  · rw [if_pos h3] at h; omega
  · rw [if_neg h3] at h
    by_cases hf : firstC (os.map (omF 0)) = 0
    · rw [if_pos hf] at h
      by_cases ha : (ns.all fun n => decide (¬ wdB os.length n)) = true
      · refine ⟨by omega, fun i hi => ?_, fun n hn => ?_⟩
        · have := firstC_get0 _ hf i (by simpa using hi)
          rw [omF_get 0 hi] at this
          unfold omF at this
          by_cases hz : outC (os.getD i zOm).b (os.getD i zOm).N (os.getD i zOm).O = 0
          · exact hz
          · rw [if_neg hz] at this; exact this
        · exact of_decide_eq_true (List.all_eq_true.1 ha n hn)
      · rw [if_neg ha] at h; omega
    · rw [if_neg hf] at h; exact absurd h hf
theorem nmC_fine {t : Fm} {nums : List Int} (h : nmC t nums = 0) : (∀ v : Nat, v < 5 → t.fre ((v : Nat) : Int) = true → v < nums.length) ∧ numOk nums = true := by
  unfold nmC at h
  by_cases hs : shortB t nums.length = true
  · rw [if_pos hs] at h; omega
  · rw [if_neg hs] at h
    refine ⟨fun v hv hf => ?_, ?_⟩
    · by_cases q : v < nums.length
      · exact q
      · exact absurd (short_yes hv hf (by omega)) hs
    · by_cases hn : numOk nums = true
      · exact hn
      · rw [if_neg hn] at h; omega
theorem rowIs_keep {W W' : World} {b : Nat} {T : TypeId} {n : Nat} {f : Nat → Value} (h : W.rowIs b T n f) (hb : Below W.heap.size W W') : W'.rowIs b T n f := by
  obtain ⟨c, hc, h2⟩ := h
  exact ⟨c, (hb.block _ (Array.getElem?_eq_some_iff.1 hc).1).trans hc, h2⟩
theorem said_row {wx : World} {eb n p : Nat} {S : List Bool} (h : wx.rowIs eb 4 n fun q => .bool (if q < p then S.getD q false else false)) (v : Bool) (hv : S.getD p false = v) : (wx.setCell ⟨eb, p, none⟩ (.bool v)).rowIs eb 4 n fun q => .bool (if q < p + 1 then S.getD q false else false) :=
  (h.set _ _).congr fun q _ => by
    by_cases e1 : q = p
    · subst e1; rw [if_pos rfl, if_pos (by omega), hv]
    · rw [if_neg e1]
      congr 1
      by_cases e2 : q < p
      · rw [if_pos e2, if_pos (by omega)]
      · rw [if_neg e2, if_neg (by omega)]
theorem said_end {wx : World} {eb n : Nat} {S : List Bool} (hS : S.length = n) (hn : n ≤ 100000000) (h : wx.rowIs eb 4 n fun q => .bool (if q < n then S.getD q false else false)) : SlB wx (some ⟨eb, 0, none⟩) n S := by
  refine ⟨hS, by unfold maxLen; omega, .inr ⟨eb, 0, rfl, fun i hi => ?_⟩⟩
  have h1 := h.cell (i := i) hi
  rw [if_pos hi] at h1
  rw [Nat.zero_add, h1]
def EvR (w : World) (b : Bool) (c : Int) (e : Ending) (w' : World) : Prop := e = .returned (.tuple #[.bool b, errV c]) ∧ Below w.heap.size w w'
set_option maxHeartbeats 4000000 in
set_option maxRecDepth 4000 in
theorem devEval_bad (a : Option Addr) (n cap : Nat) (ns : List Nd) (v2 v3 : Value) (w : World) (hs : SlF w a n ns) (hz : (formP ns).2 ≠ 0) : Calls Tryd.prog 11 #[.slice a n cap, v2, v3] w (EvR w false (formP ns).2) := by
  have HCK := hide (devCheck_any a n cap ns w hs)
  have hze : errV (formP ns).2 = .iface 26 (.int .i64 (formP ns).2) := by unfold errV; rw [if_neg hz]
  rw [hze] at HCK
  have HZE := hide hze
  clear hs hz hze
  go_enter Tryd.func11, Tryd.ntmps11
  go_wp2_with fail
  refine HCK.out.mono ?_
  rintro e w1 ⟨rfl, hb1⟩
  have HB1 := hide hb1
  clear hb1
  go_wp2
  go_ret2
  exact ⟨by rw [HZE.out]; rfl, HB1.out⟩
set_option maxHeartbeats 8000000 in
set_option maxRecDepth 4000 in
theorem devEval_of (a : Option Addr) (n cap : Nat) (ns : List Nd) (a2 : Option Addr) (m cap2 : Nat) (os : List Om) (a3 : Option Addr) (l cap3 : Nat) (nums : List Int) (w : World) (hs : SlF w a n ns) (ho : SlO w a2 m os) (h3 : Sl w a3 l nums) (hcap : l ≤ cap3) (t : Fm) (hok : t.ok) (he : ns = t.flat) (hn : n ≤ 40) (hz : (formP ns).2 = 0) (hHD : HoldNd) : Calls Tryd.prog 11 #[.slice a n cap, .slice a2 m cap2, .slice a3 l cap3] w (EvR w (decide (evC ns os nums t = 0) && t.tru os nums) (evC ns os nums t)) := by
  have hL := hs.1
  have hLo := ho.1
  have hL3 := h3.1
  have HCK := hide (devCheck_any a n cap ns w hs)
  rw [hz, show errV 0 = .nilIface from rfl] at HCK
  have hall : ∀ x ∈ ns, ndF x = 0 := by rw [he]; exact ok_ndF t hok
  have HCW := hide (fun W (h1 : SlF W a n ns) (h2 : SlO W a2 m os) => checkWords_any a n cap ns a2 m cap2 os W h1 h2 hall)
  have HCN := hide (fun W (h1 : SlF W a n ns) (h2 : Sl W a3 l nums) => checkNums_any a n cap ns a3 l cap3 nums W h1 h2 hn t hok he)
  have HBI := hide (fun op W => binds_any op W)
  have HBT := hide (fun k (hk : k < n) => bare_take ns (k := k) (by omega))
  have HBN := hide (fun k (hk : k < n) => bare_no (ns := ns) (k := k) (by omega))
  have HE0 : Hid (ns.take n = ns) := by show _ = _; rw [← hL]; exact List.take_length
  have HS := hide hs
  have HO := hide ho
  have H3 := hide h3
  have HEV : Hid (evC ns os nums t = if bareB ns = true then (if wdF ns os 0 = 0 then nmC t nums else wdF ns os 0) else 2) := rfl
  have HHO : Hid (bareB ns = true → wdF ns os 0 = 0 → nmC t nums = 0 → ∀ (k : Nat), k < n → ∀ (a' : Option Addr) (c' : Nat) (W : World), Sl W a' (ns.getD k zNd).cf.length (ns.getD k zNd).cf → SlO W a2 m os → Sl W a3 l nums → Calls Tryd.prog 30 #[ndV (ns.getD k zNd) a' c', .slice a2 m cap2, .slice a3 l cap3] W fun e w' => e = .returned (.tuple #[.bool (holdB os nums (ns.getD k zNd)), .nilIface]) ∧ Below W.heap.size W w') := fun hb hw hm k hk a' c' W g1 g2 g3 => by
    have hmem : ns.getD k zNd ∈ ns := by simp [List.getD, show k < ns.length by omega]
    obtain ⟨-, hO, hW⟩ := wdF_fine hw
    obtain ⟨hf, hq⟩ := nmC_fine hm
    rw [hLo] at hO hW
    exact hHD (ns.getD k zNd) a' c' a2 m cap2 os a3 l cap3 nums W g1 g2 g3 hcap (hall _ hmem) (fun v hv hu => by rw [← hL3]; exact hf v hv (bare_fre t (bare_tree t (by rw [← he]; exact hb)) _ (by rw [← he]; exact hmem) _ hu)) (hW _ hmem) hO hq
  have HJO : Hid (bareB ns = true → ∀ (W : World) (a4 : Option Addr) (c4 : Nat), SlF W a n ns → SlB W a4 n (ns.map (holdB os nums)) → Calls Tryd.prog 31 #[.slice a n cap, .slice a4 n c4] W fun e w' => e = .returned (.bool (t.tru os nums)) ∧ Below W.heap.size W w') := fun hb W a4 c4 g1 g2 => join_any a n cap ns a4 c4 os nums W g1 g2 hn t hok (bare_tree t (by rw [← he]; exact hb)) he
  have HSL : Hid ((ns.map (holdB os nums)).length = n) := by show _ = _; simpa using hL
  have HSG : Hid (∀ k, k < n → (ns.map (holdB os nums)).getD k false = holdB os nums (ns.getD k zNd)) := fun k hk => by simp [List.getD, show k < ns.length by omega]
  have hmk := make_bools n (by omega)
  clear hs ho h3 hok he hz hHD hall hL hLo hL3
  generalize evC ns os nums t = C at HEV ⊢
  generalize t.tru os nums = T at HJO ⊢
  go_enter Tryd.func11, Tryd.ntmps11
  go_wp2_with fail
  refine HCK.out.mono ?_
  rintro e w1 ⟨rfl, hb1⟩
  have HB1 := hide hb1
  clear hb1 HCK
  generalize (formP ns).1 = f1
  go_wp2
  go_loopw [29] (fun kv wx => ∃ k : Nat, k ≤ n ∧ kv = .int .i64 k ∧ bareB (ns.take k) = true ∧ Below w.heap.size w wx) (fun kv _ => n - (intOf kv).toNat)
  case atStart => exact ⟨0, by omega, rfl, rfl, HB1.out⟩
  case round =>
    obtain ⟨k, hk, rfl, hb, hbw⟩ := hrel
    have HBA := hide hb
    have HBW := hide hbw
    clear hb hbw
    by_cases hlt : k < n
    · have hlti : (k : Int) < (n : Int) := by omega
      obtain ⟨bb, oo, a', c', rfl, x0, x1, x2, x3, x4, x5, x6, hsl⟩ := slF_cell (slF_below HS.out HBW.out) k hlt
      have HTK := hide (HBT.out k hlt)
      have HNO := hide (HBN.out k hlt)
      generalize ns.getD k zNd = nd at x0 x1 x2 x3 x4 x5 x6 hsl HTK HNO
      have HBX := hide (HBW.out.alloc HBW.out.size (ndO nd a' c'))
      have HBI2 := hide (fun W => HBI.out nd.op W)
      clear hsl
      by_cases h8 : nd.op = 8 ∨ nd.op = 9
      · rw [decide_eq_true h8] at HBI2
        have HC2 : Hid (C = 2) := by show _ = _; rw [HEV.out, HNO.out h8, if_neg (by decide)]
        clear h8 HTK HNO
        go_wp2_with (go_at_call 27; refine (HBI2.out _).mono ?_; rintro e w' ⟨rfl, hw'⟩; rw [hw']; clear hw' w')
        go_ret2
        exact ⟨by rw [HC2.out]; rfl, HBX.out⟩
      · rw [decide_eq_false h8] at HBI2
        have HNX : Hid (bareB (ns.take (k + 1)) = true) := by show _ = _; rw [HTK.out, HBA.out]; simp; omega
        clear h8 HTK HNO
        go_wp2_with (go_at_call 27; refine (HBI2.out _).mono ?_; rintro e w' ⟨rfl, hw'⟩; rw [hw']; clear hw' w')
        go_roundw
        case rel => exact ⟨k + 1, by omega, by go_num, HNX.out, HBX.out⟩
        case measure => simp [intOf]; omega
    · have hlti : ¬ (k : Int) < (n : Int) := by omega
      obtain rfl : k = n := by omega
      have hba := HBA.out
      rw [HE0.out] at hba
      have HHB := hide (HHO.out hba)
      have HJB := hide (HJO.out hba)
      have hev := HEV.out
      rw [if_pos hba] at hev
      have HCV := hide hev
      clear hba hev HBA HHO HJO HEV
      obtain ⟨wo, hwo⟩ : ∃ wo : World, wo = wr := ⟨_, rfl⟩
      rw [← hwo] at HBW ⊢
      clear hwo wr
      have HW1 := hide (HCW.out wo (slF_below HS.out HBW.out) (slO_below HO.out HBW.out))
      generalize wdF ns os 0 = wc_ at HW1 HCV HHB
      go_wp2_with fail
      refine HW1.out.mono ?_
      rintro e w2 ⟨rfl, hb2⟩
      have HB2 := hide (below_step HBW.out hb2)
      clear hb2 HW1
      by_cases hwz : wc_ = 0
      · have hcv := HCV.out
        rw [if_pos hwz] at hcv
        have HHC := hide (HHB.out hwz)
        rw [hwz, show errV 0 = .nilIface from rfl]
        have HCX := hide hcv
        clear hwz hcv HCV HHB
        have HN1 := hide (HCN.out w2 (slF_below HS.out HB2.out) (sl_below H3.out HB2.out))
        generalize nmC t nums = nc at HN1 HCX HHC
        go_wp2_with fail
        refine HN1.out.mono ?_
        rintro e w3 ⟨rfl, hb3⟩
        have HB3 := hide (below_step HB2.out hb3)
        clear hb3 HN1
        by_cases hnz : nc = 0
        · have HHN := hide (HHC.out hnz)
          rw [hnz] at HCX ⊢
          rw [show errV 0 = .nilIface from rfl]
          clear hnz HHC
          have hBd := (Below.refl w3.heap.size w3).alloc (Nat.le_refl _) (.cells (madeCells #[.bool false] k) 4)
          have HI0 : Hid (((w3.alloc (.cells (madeCells #[.bool false] k) 4)).rowIs w3.heap.size 4 k fun q => .bool (if q < 0 then (ns.map (holdB os nums)).getD q false else false)) ∧ Below w3.heap.size w3 (w3.alloc (.cells (madeCells #[.bool false] k) 4))) :=
            ⟨(World.rowIs_made w3 (.bool false) k 4).congr fun q _ => by simp, hBd⟩
          clear hBd
          go_wp2
          generalize w3.alloc (.cells (madeCells #[.bool false] k) 4) = wI at HI0 ⊢
          go_loopw [55] (fun i wx => ∃ p : Nat, p ≤ k ∧ i = .int .i64 p ∧ (wx.rowIs w3.heap.size 4 k fun q => .bool (if q < p then (ns.map (holdB os nums)).getD q false else false)) ∧ Below w3.heap.size w3 wx) (fun i _ => k - (intOf i).toNat)
          case atStart => exact ⟨0, by omega, rfl, HI0.out⟩
          case round =>
            obtain ⟨p, hp, rfl, hrw, hbw⟩ := hrel
            have HRW := hide hrw
            have HBV := hide hbw
            clear hrw hbw HI0
            by_cases hlt2 : p < k
            · have hlti2 : (p : Int) < (k : Int) := by omega
              have hbn := below_step HB3.out HBV.out
              obtain ⟨bb, oo, a', c', rfl, x0, x1, x2, x3, x4, x5, x6, hsl⟩ := slF_cell (slF_below HS.out hbn) p hlt2
              have hBa := (Below.refl wr.heap.size wr).alloc (Nat.le_refl _) (ndO (ns.getD p zNd) a' c')
              have HCL := hide (HHN.out p hlt2 a' c' (wr.alloc (ndO (ns.getD p zNd) a' c')) (sl_below hsl hBa) (slO_below HO.out (below_step hbn hBa)) (sl_below H3.out (below_step hbn hBa)))
              have HSP := hide (HSG.out p hlt2)
              have HBa := hide hBa
              unfold ndV at HCL
              generalize ns.getD p zNd = nd at x0 x1 x2 x3 x4 x5 x6 hsl HCL HSP HBa
              clear hsl hbn hBa
              generalize holdB os nums nd = hv at HCL HSP
              have HXa := hide (heap_alloc_last wr (ndO nd a' c'))
              generalize hWa : wr.alloc (ndO nd a' c') = Wa at HCL HBa HXa
              obtain ⟨⟨z0, z1, z2, z3, z4, z5, z6⟩, -⟩ := box7_cells HXa.out
              go_wp2_with fail
              clear hWa x0 x1 x2 x3 x4 x5 x6 z0 z1 z2 z3 z4 z5 z6
              refine HCL.out.mono ?_
              rintro e w5 ⟨rfl, hb5⟩
              have HRK := hide (rowIs_keep HRW.out (below_step HBa.out hb5))
              have HB5 := hide (below_step HBV.out (below_step HBa.out hb5))
              have hcz := HRK.out.cell (i := p) hlt2
              have hfz := HRK.out.frozen p
              clear hb5
              go_wp2
              go_roundw
              case rel => exact ⟨p + 1, by omega, by go_num, said_row HRK.out hv HSP.out, HB5.out.setCell (Nat.le_refl _) _⟩
              case measure => simp [intOf]; omega
            · have hlti2 : ¬ (p : Int) < (k : Int) := by omega
              obtain rfl : p = k := by omega
              have HJ := hide (HJB.out wr (some ⟨w3.heap.size, 0, none⟩) p (slF_below HS.out (below_step HB3.out HBV.out)) (said_end HSL.out (by omega) HRW.out))
              clear HRW
              go_wp2_with fail
              refine HJ.out.mono ?_
              rintro e w6 ⟨rfl, hb6⟩
              have HB6 := hide (below_step HB3.out (below_step HBV.out hb6))
              clear hb6 HJ
              go_wp2
              go_ret2
              exact ⟨by rw [HCX.out]; rfl, HB6.out⟩
        · have hze : errV nc = .iface 26 (.int .i64 nc) := by unfold errV; rw [if_neg hnz]
          rw [hze]
          have HZE := hide hze
          have HDF := hide (decide_eq_false hnz)
          clear hnz hze HHC
          go_wp2
          go_ret2
          exact ⟨by rw [HCX.out, HDF.out, HZE.out]; rfl, HB3.out⟩
      · have hcv := HCV.out
        rw [if_neg hwz] at hcv
        have HCX := hide hcv
        have hze : errV wc_ = .iface 26 (.int .i64 wc_) := by unfold errV; rw [if_neg hwz]
        rw [hze]
        have HZE := hide hze
        have HDF := hide (decide_eq_false hwz)
        clear hwz hze hcv HCV HHB
        go_wp2
        go_ret2
        exact ⟨by rw [HCX.out, HDF.out, HZE.out]; rfl, HB2.out⟩
end Go.Proofs.YtgbmemkoggogdaaDoor

/- Package formula: holds, at Like: contract. -/
namespace Go.Proofs.YtgbmemkoggogdaaDoor
open Go.RowKit

set_option maxHeartbeats 8000000 in
set_option maxRecDepth 4000 in
theorem holds_op4 (n : Nd) (a : Option Addr) (c : Nat) (a2 : Option Addr) (m cap2 : Nat) (os : List Om) (a3 : Option Addr) (l cap3 : Nat) (nums : List Int) (w : World) (hs : Sl w a n.cf.length n.cf) (ho : SlO w a2 m os) (h3 : Sl w a3 l nums) (hok : ndF n = 0) (hus : ∀ v : Nat, v < 5 → useB n ((v : Nat) : Int) = true → v < l) (hwd : ¬ wdB m n) (hO : ∀ i, i < m → outC (os.getD i zOm).b (os.getD i zOm).N (os.getD i zOm).O = 0) (hnm : numOk nums = true) (e4 : n.op = 4) : Calls Tryd.prog 30 #[ndV n a c, .slice a2 m cap2, .slice a3 l cap3] w fun e w' => e = .returned (.tuple #[.bool (holdB os nums n), .nilIface]) ∧ Below w.heap.size w w' := by
  obtain ⟨hr, hsh⟩ := ndF_zero hok
  have hop := hr.1
  have hB1 := (Below.refl w.heap.size w).alloc (Nat.le_refl _) (ndO n a c)
  have HB := hide hB1
  have HX := hide (heap_alloc_last w (ndO n a c))
  unfold ndV
  generalize hW1 : w.alloc (ndO n a c) = W1 at HB HX
  obtain ⟨z0, z1, z2, z3, z4, z5, z6⟩ := (box7_cells HX.out).1
  have HS3 := hide (sl_below h3 HB.out)
  have HO2 := hide (slO_below ho HB.out)
  have HS := hide (sl_below hs HB.out)
  have hL3 := h3.1
  have hmx := h3.2.1
  unfold maxLen at hmx
  have hmm := ho.2.1
  unfold maxLen at hmm
  have hv := hr.2.1 (.inr (.inl e4))
  have hwr := hr.2.2.2.1 (.inr e4)
  have hv2 := hr.2.2.1 e4
  have hwr2 := hr.2.2.2.2.1 e4
  obtain ⟨q, hq⟩ : ∃ q : Nat, n.var = (q : Int) := ⟨n.var.toNat, by omega⟩
  obtain ⟨u, hu⟩ : ∃ u : Nat, n.wd = (u : Int) := ⟨n.wd.toNat, by omega⟩
  obtain ⟨q', hq'⟩ : ∃ q : Nat, n.oth = (q : Int) := ⟨n.oth.toNat, by omega⟩
  obtain ⟨u', hu'⟩ : ∃ u : Nat, n.wd2 = (u : Int) := ⟨n.wd2.toNat, by omega⟩
  have hql : q < l := hus q (by omega) (by unfold useB; rw [if_neg (by omega)]; simp [e4, hq])
  have hql' : q' < l := hus q' (by omega) (by unfold useB; rw [if_neg (by omega)]; simp [e4, hq'])
  have hum : u < m := by
    by_cases h : u < m
    · exact h
    · exact absurd (show wdB m n from .inl ⟨.inr e4, by omega⟩) hwd
  have hum' : u' < m := by
    by_cases h : u' < m
    · exact h
    · exact absurd (show wdB m n from .inr ⟨e4, by omega⟩) hwd
  have hqli : (q : Int) < (l : Int) := by omega
  have humi : (u : Int) < (m : Int) := by omega
  have hqli' : (q' : Int) < (l : Int) := by omega
  have humi' : (u' : Int) < (m : Int) := by omega
  have HH := hide (hold_like (os := os) (nums := nums) e4)
  rw [hq, hu, hq', hu', Int.toNat_natCast, Int.toNat_natCast, Int.toNat_natCast, Int.toNat_natCast] at HH
  obtain ⟨g1, g2⟩ := atV_ok (hO u hum) (numOk_at hnm (by omega) : 0 ≤ nums.getD q 0 ∧ nums.getD q 0 ≤ 1099511627776)
  obtain ⟨g1', g2'⟩ := atV_ok (hO u' hum') (numOk_at hnm (by omega) : 0 ≤ nums.getD q' 0 ∧ nums.getD q' 0 ≤ 1099511627776)
  obtain ⟨b3, o3, rfl, hc3⟩ := sl_cell HS3.out q hql
  obtain ⟨b2, o2, a1, c1, a4, c4, rfl, x0, x1, x2, y1, y2⟩ := slO_cell HO2.out u hum
  have HAT := hide (fun W (hb : Below W1.heap.size W1 W) => word_at_any (os.getD u zOm).b a1 (os.getD u zOm).N.length c1 a4 (os.getD u zOm).O.length c4 (os.getD u zOm).N (os.getD u zOm).O (nums.getD q 0) W (sl2_below y1 hb) (sl_below y2 hb))
  unfold outV at HAT
  rw [g1, g2, show errV 0 = .nilIface from rfl] at HAT
  have HNX : Hid (∀ W2, Below W1.heap.size W1 W2 → ∃ a5 c5 a6 c6, (W2.cell? ⟨b3, o3 + q', none⟩ = some (.int .i64 (nums.getD q' 0)) ∧ W2.cell? ⟨b2, o2 + u' * 3, none⟩ = some (.int .i64 (os.getD u' zOm).b) ∧ W2.cell? ⟨b2, o2 + u' * 3 + 1, none⟩ = some (.slice a5 (os.getD u' zOm).N.length c5) ∧ W2.cell? ⟨b2, o2 + u' * 3 + 2, none⟩ = some (.slice a6 (os.getD u' zOm).O.length c6)) ∧ ∀ W, Below W2.heap.size W2 W → Calls Tryd.prog 52 #[.agg #[.int .i64 (os.getD u' zOm).b, .slice a5 (os.getD u' zOm).N.length c5, .slice a6 (os.getD u' zOm).O.length c6], .int .i64 (nums.getD q' 0)] W fun e w' => e = .returned (.tuple #[.int .i64 (sayN (os.getD u' zOm).b (os.getD u' zOm).N (os.getD u' zOm).O (nums.getD q' 0)), .nilIface]) ∧ Below W.heap.size W w') := fun W2 hb2 => by
    obtain ⟨bx, ox, ex, hcx⟩ := sl_cell (sl_below HS3.out hb2) q' hql'
    cases ex
    obtain ⟨by_, oy, a5, c5, a6, c6, ey, v0, v1, v2, t1, t2⟩ := slO_cell (slO_below HO2.out hb2) u' hum'
    cases ey
    refine ⟨a5, c5, a6, c6, ⟨hcx, v0, v1, v2⟩, fun W hb => ?_⟩
    have := word_at_any (os.getD u' zOm).b a5 (os.getD u' zOm).N.length c5 a6 (os.getD u' zOm).O.length c6 (os.getD u' zOm).N (os.getD u' zOm).O (nums.getD q' 0) W (sl2_below t1 hb) (sl_below t2 hb)
    unfold outV at this
    rw [g1', g2', show errV 0 = .nilIface from rfl] at this
    exact this
  generalize os.getD u zOm = om at *
  generalize nums.getD q 0 = x at *
  generalize sayN om.b om.N om.O x = sv at HAT HH
  generalize os.getD u' zOm = om' at *
  generalize nums.getD q' 0 = x' at *
  generalize sayN om'.b om'.N om'.O x' = sv' at HNX HH
  generalize holdB os nums n = R at HH ⊢
  have t1 : (n.op == 1) = false := by simp [e4]
  have t2 : (n.op == 2) = false := by simp [e4]
  have t3 : (n.op == 3) = false := by simp [e4]
  have t4 : (n.op == 4) = true := by simp [e4]
  have HQ := hide hq
  have HU := hide hu
  have HQ' := hide hq'
  have HU' := hide hu'
  clear hr hsh hop hs ho h3 hok hus hwd hO hnm e4 hv hwr hv2 hwr2 g1 g2 g1' g2' y1 y2
  rw [hq] at z1
  rw [hu] at z3
  clear hq hu hq' hu'
  go_enter Tryd.func30, Tryd.ntmps30
  go_upto_region 9 with fail
  clear hW1
  go_cut [10, 11] (fun s t wx => s = .int .i64 sv ∧ t = .nilIface ∧ Below W1.heap.size W1 wx)
  case first =>
    go_region_with (go_at_call 52; refine (HAT.out _ ((Below.refl _ _).drew)).mono ?_; rintro e w2 ⟨rfl, hb2⟩; have HB2 : Hid (Below W1.heap.size W1 w2) := ⟨hb2.os, hb2.tape, hb2.output, hb2.size, hb2.block⟩; clear hb2)
    all_goals
      go_wp2_with fail
      go_meet
      exact ⟨rfl, rfl, HB2.out⟩
  case rest =>
    obtain ⟨rfl, rfl, hb2⟩ := hcut
    obtain ⟨a5, c5, a6, c6, ⟨v0, v1, v2, v3⟩, hcall⟩ := HNX.out wc hb2
    have HCL := hide hcall
    have HBC := hide hb2
    clear hcall hc3 x0 x1 x2 z0 z1 z2 z3 z4 z5 z6
    obtain ⟨z0, z1, z2, z3, z4, z5, z6⟩ := (box7_cells ((hb2.block _ (Array.getElem?_eq_some_iff.1 HX.out).1).trans HX.out)).1
    rw [HQ'.out] at z2
    rw [HU'.out] at z4
    clear hb2
    go_wp2_with fail
    go_region_with (go_at_call 52; refine (HCL.out _ ((Below.refl _ _).drew)).mono ?_; rintro e w4 ⟨rfl, hb4⟩; have HB4 : Hid (Below wc.heap.size wc w4) := ⟨hb4.os, hb4.tape, hb4.output, hb4.size, hb4.block⟩; clear hb4)
    all_goals
      go_wp2
      go_ret2
      exact ⟨by rw [HH.out]; rfl, below_step HB.out (below_step HBC.out HB4.out)⟩
end Go.Proofs.YtgbmemkoggogdaaDoor

/- Package formula: holds, at Eq and Lt: contract. -/
namespace Go.Proofs.YtgbmemkoggogdaaDoor
open Go.RowKit

def tgS (i : Nat) : Nat := ([18, 19, 20, 21, 22, 23, 24, 25, 26, 27, 28, 29, 30, 31, 32, 6, 7] : List Nat).getD i 0
theorem tgS_inj : ∀ i : Fin 17, ∀ j : Fin 17, tgS i.val = tgS j.val → i = j := by decide +kernel
theorem tgS_lt : ∀ i : Fin 17, tgS i.val < 99 := by decide +kernel
set_option maxHeartbeats 8000000 in
set_option maxRecDepth 4000 in
theorem holds_op12 (n : Nd) (a : Option Addr) (c : Nat) (a2 : Option Addr) (m cap2 : Nat) (os : List Om) (a3 : Option Addr) (l cap3 : Nat) (nums : List Int) (w : World) (hs : Sl w a n.cf.length n.cf) (ho : SlO w a2 m os) (h3 : Sl w a3 l nums) (hcap : l ≤ cap3) (hok : ndF n = 0) (hus : ∀ v : Nat, v < 5 → useB n ((v : Nat) : Int) = true → v < l) (hnm : numOk nums = true) (e12 : n.op = 1 ∨ n.op = 2) : Calls Tryd.prog 30 #[ndV n a c, .slice a2 m cap2, .slice a3 l cap3] w fun e w' => e = .returned (.tuple #[.bool (holdB os nums n), .nilIface]) ∧ Below w.heap.size w w' := by
  obtain ⟨hr, hsh⟩ := ndF_zero hok
  have hop := hr.1
  have hB1 := (Below.refl w.heap.size w).alloc (Nat.le_refl _) (ndO n a c)
  have HB := hide hB1
  have HX := hide (heap_alloc_last w (ndO n a c))
  unfold ndV
  generalize hW1 : w.alloc (ndO n a c) = W1 at HB HX
  obtain ⟨z0, z1, z2, z3, z4, z5, z6⟩ := (box7_cells HX.out).1
  have HS3 := hide (sl_below h3 HB.out)
  have HO2 := hide (slO_below ho HB.out)
  have HS := hide (sl_below hs HB.out)
  have hL3 := h3.1
  have hmx := h3.2.1
  unfold maxLen at hmx
  have hmm := ho.2.1
  unfold maxLen at hmm
  have hln := hr.2.2.2.2.2.2 e12
  have hcl := cf_le hok e12 hus
  have HH := hide (hold_eq (os := os) (nums := nums) e12)
  have hdc : hdC n.cf n.num (nums.take n.cf.length) = 0 := by
    unfold hdC
    rw [if_pos ⟨⟨hln.1, hln.2.1⟩, hln.2.2.1, hln.2.2.2⟩, if_pos (by rw [List.length_take]; omega), if_pos]
    exact numOk_of (fun i hi => by
      rw [List.length_take] at hi
      rw [take_getD, if_pos (by omega)]
      exact numOk_at hnm (by omega))
  have hdb : hdB n.cf n.num (n.op == 2) (nums.take n.cf.length) = lnEnd n.num (n.op == 2) (sumT n.cf (fun i => nums.getD i 0) n.cf.length) := by
    unfold hdB
    rw [if_pos hdc, sumT_congr (g := fun i => nums.getD i 0)]
    intro i hi
    show (nums.take n.cf.length).getD i 0 = nums.getD i 0
    rw [take_getD, if_pos hi]
  have HHO := hide (fun W (hb : Below W1.heap.size W1 W) cc => holds_saysQ a n.cf.length c n.cf n.num (n.op == 2) a3 n.cf.length cc (nums.take n.cf.length) W (sl_below HS.out hb) (sl_below (sl_front HS3.out hcl) hb))
  rw [hdc, hdb, show errV 0 = .nilIface from rfl] at HHO
  rw [← HH.out] at HHO
  generalize holdB os nums n = R at HHO ⊢
  obtain ⟨ls, hls⟩ : ∃ ls, (n.op == 2) = ls := ⟨_, rfl⟩
  rw [hls] at HHO
  have t12 : (n.op == 1) = true ∨ ((n.op == 1) = false ∧ ls = true) := by
    rcases e12 with h | h
    · exact .inl (by simp [h])
    · exact .inr ⟨by simp [h], by rw [← hls]; simp [h]⟩
  have hcli : (n.cf.length : Int) ≤ (l : Int) := by omega
  have hcpi : (n.cf.length : Int) ≤ (cap3 : Int) := by omega
  have hcpn : n.cf.length ≤ cap3 := by omega
  clear hr hsh hop hs ho h3 hok hus hnm e12 hln hdc hdb HH
  have hlt : ∀ {pp : Addr} {vv : Value}, W1.cell? pp = some vv → ∀ W, Below W1.heap.size W1 W → W.cell? pp = some vv := fun h W hb => (hb.cell (World.block_lt_of_cell? W1 _ h)).trans h
  have HC0 := hide (hlt z0)
  have HC5 := hide (hlt z5)
  have HC6 := hide (hlt z6)
  clear hlt
  go_enter Tryd.func30, Tryd.ntmps30
  rcases t12 with t1 | ⟨t1, rfl⟩
  · skip
    go_upto_region 4 with fail
    clear hW1 z0 z1 z2 z3 z4 z5 z6
    refine region_vals (by kernel_rfl) (rvOn_spec (by decide +kernel)) tgS (fun i => ([.pointer (some ⟨w.heap.size, 6, none⟩), .slice a n.cf.length c, .pointer (some ⟨w.heap.size, 5, none⟩), .int .i64 n.num, .pointer (some ⟨w.heap.size, 0, none⟩), .int .i64 n.op, .bool ls, .slice a3 l cap3, .pointer (some ⟨w.heap.size, 6, none⟩), .slice a n.cf.length c, .int .i64 (n.cf.length : Int), .slice a3 n.cf.length cap3, .tuple #[.bool R, .nilIface], .bool R, .nilIface, .bool R, .nilIface] : List Value).getD i undef) (fun i j hi hj e => by have := tgS_inj ⟨i, hi⟩ ⟨j, hj⟩ e; injection this) (fun i hi => tgS_lt ⟨i, hi⟩) ?_ ?_
    · intro T W i o ho hsz hdep hst hb
      have hi : i < 17 := (Array.getElem?_eq_some_iff.1 ho).1
      have s2 : T[2]? = some (.slice a3 l cap3) := hst 2 (by decide +kernel)
      have s3 : T[3]? = some (.pointer (some ⟨w.heap.size, 0, none⟩)) := hst 3 (by decide +kernel)
      have HK0 := HC0.out W hb
      have HK5 := HC5.out W hb
      have HK6 := HC6.out W hb
      have HCA := hide (HHO.out W hb cap3)
      have HBW := hide hb
      clear hsz hst hb HC0 HC5 HC6 HHO
      rcases (by omega : i = 0 ∨ i = 1 ∨ i = 2 ∨ i = 3 ∨ i = 4 ∨ i = 5 ∨ i = 6 ∨ i = 7 ∨ i = 8 ∨ i = 9 ∨ i = 10 ∨ i = 11 ∨ i = 12 ∨ i = 13 ∨ i = 14 ∨ i = 15 ∨ i = 16) with rfl | rfl | rfl | rfl | rfl | rfl | rfl | rfl | rfl | rfl | rfl | rfl | rfl | rfl | rfl | rfl | rfl
      · injection ho with ho
        subst ho
        clear hdep
        refine wpOp_step (o := _) rfl fun K' hK => ?_
        rw [if_pos (by rfl)]
        have HK := hide hK
        clear hK
        go_simp
        exact HK.out _ _ ⟨rfl, HBW.out⟩
      · injection ho with ho
        subst ho
        have d0 : T[18]? = some (.pointer (some ⟨w.heap.size, 6, none⟩)) := hdep { on := 0, ground := .data } (by simp) rfl
        clear hdep
        refine wpOp_step (o := _) rfl fun K' hK => ?_
        rw [if_pos (by rfl)]
        have HK := hide hK
        clear hK
        go_simp
        exact HK.out _ _ ⟨rfl, HBW.out⟩
      · injection ho with ho
        subst ho
        clear hdep
        refine wpOp_step (o := _) rfl fun K' hK => ?_
        rw [if_pos (by rfl)]
        have HK := hide hK
        clear hK
        go_simp
        exact HK.out _ _ ⟨rfl, HBW.out⟩
      · injection ho with ho
        subst ho
        have d2 : T[20]? = some (.pointer (some ⟨w.heap.size, 5, none⟩)) := hdep { on := 2, ground := .data } (by simp) rfl
        clear hdep
        refine wpOp_step (o := _) rfl fun K' hK => ?_
        rw [if_pos (by rfl)]
        have HK := hide hK
        clear hK
        go_simp
        exact HK.out _ _ ⟨rfl, HBW.out⟩
      · injection ho with ho
        subst ho
        clear hdep
        refine wpOp_step (o := _) rfl fun K' hK => ?_
        rw [if_pos (by rfl)]
        have HK := hide hK
        clear hK
        go_simp
        exact HK.out _ _ ⟨rfl, HBW.out⟩
      · injection ho with ho
        subst ho
        have d4 : T[22]? = some (.pointer (some ⟨w.heap.size, 0, none⟩)) := hdep { on := 4, ground := .data } (by simp) rfl
        clear hdep
        refine wpOp_step (o := _) rfl fun K' hK => ?_
        rw [if_pos (by rfl)]
        have HK := hide hK
        clear hK
        go_simp
        exact HK.out _ _ ⟨rfl, HBW.out⟩
      · injection ho with ho
        subst ho
        have d5 : T[23]? = some (.int .i64 n.op) := hdep { on := 5, ground := .data } (by simp) rfl
        clear hdep
        refine wpOp_step (o := _) rfl fun K' hK => ?_
        rw [if_pos (by rfl)]
        have HK := hide hK
        clear hK
        go_simp
        exact HK.out _ _ ⟨rfl, HBW.out⟩
      · injection ho with ho
        subst ho
        clear hdep
        refine wpOp_step (o := _) rfl fun K' hK => ?_
        rw [if_pos (by rfl)]
        have HK := hide hK
        clear hK
        go_simp
        exact HK.out _ _ ⟨rfl, HBW.out⟩
      · injection ho with ho
        subst ho
        clear hdep
        refine wpOp_step (o := _) rfl fun K' hK => ?_
        rw [if_pos (by rfl)]
        have HK := hide hK
        clear hK
        go_simp
        exact HK.out _ _ ⟨rfl, HBW.out⟩
      · injection ho with ho
        subst ho
        have d8 : T[26]? = some (.pointer (some ⟨w.heap.size, 6, none⟩)) := hdep { on := 8, ground := .data } (by simp) rfl
        clear hdep
        refine wpOp_step (o := _) rfl fun K' hK => ?_
        rw [if_pos (by rfl)]
        have HK := hide hK
        clear hK
        go_simp
        exact HK.out _ _ ⟨rfl, HBW.out⟩
      · injection ho with ho
        subst ho
        have d9 : T[27]? = some (.slice a n.cf.length c) := hdep { on := 9, ground := .data } (by simp) rfl
        clear hdep
        refine wpOp_step (o := _) rfl fun K' hK => ?_
        rw [if_pos (by rfl)]
        have HK := hide hK
        clear hK
        go_simp
        exact HK.out _ _ ⟨rfl, HBW.out⟩
      · injection ho with ho
        subst ho
        have d7 : T[25]? = some (.slice a3 l cap3) := hdep { on := 7, ground := .data } (by simp) rfl
        have d10 : T[28]? = some (.int .i64 (n.cf.length : Int)) := hdep { on := 10, ground := .data } (by simp) rfl
        clear hdep
        refine wpOp_step (o := _) rfl fun K' hK => ?_
        rw [if_pos (by rfl)]
        have HK := hide hK
        clear hK
        go_simp
        exact HK.out _ _ ⟨rfl, HBW.out⟩
      · injection ho with ho
        subst ho
        have d1 : T[19]? = some (.slice a n.cf.length c) := hdep { on := 1, ground := .data } (by simp) rfl
        have d3 : T[21]? = some (.int .i64 n.num) := hdep { on := 3, ground := .data } (by simp) rfl
        have d6 : T[24]? = some (.bool ls) := hdep { on := 6, ground := .data } (by simp) rfl
        have d11 : T[29]? = some (.slice a3 n.cf.length cap3) := hdep { on := 11, ground := .data } (by simp) rfl
        clear hdep
        refine wpOp_step (o := _) rfl fun K' hK => ?_
        rw [if_pos (by rfl)]
        have HK := hide hK
        clear hK
        go_simp
        refine HCA.out.mono ?_
        rintro e W2 ⟨rfl, hb2⟩
        exact HK.out _ _ ⟨rfl, below_step HBW.out hb2⟩
      · injection ho with ho
        subst ho
        have d12 : T[30]? = some (.tuple #[.bool R, .nilIface]) := hdep { on := 12, ground := .data } (by simp) rfl
        clear hdep
        refine wpOp_step (o := _) rfl fun K' hK => ?_
        rw [if_pos (by rfl)]
        have HK := hide hK
        clear hK
        go_simp
        exact HK.out _ _ ⟨rfl, HBW.out⟩
      · injection ho with ho
        subst ho
        have d12 : T[30]? = some (.tuple #[.bool R, .nilIface]) := hdep { on := 12, ground := .data } (by simp) rfl
        clear hdep
        refine wpOp_step (o := _) rfl fun K' hK => ?_
        rw [if_pos (by rfl)]
        have HK := hide hK
        clear hK
        go_simp
        exact HK.out _ _ ⟨rfl, HBW.out⟩
      · injection ho with ho
        subst ho
        have d13 : T[31]? = some (.bool R) := hdep { on := 13, ground := .data } (by simp) rfl
        clear hdep
        refine wpOp_step (o := _) rfl fun K' hK => ?_
        rw [if_pos (by rfl)]
        have HK := hide hK
        clear hK
        go_simp
        exact HK.out _ _ ⟨rfl, HBW.out⟩
      · injection ho with ho
        subst ho
        have d14 : T[32]? = some (.nilIface) := hdep { on := 14, ground := .data } (by simp) rfl
        clear hdep
        refine wpOp_step (o := _) rfl fun K' hK => ?_
        rw [if_pos (by rfl)]
        have HK := hide hK
        clear hK
        go_simp
        exact HK.out _ _ ⟨rfl, HBW.out⟩
    · intro T W hsz hval hst hb
      have h6 : T[6]? = some (.bool R) := hval 15 (by decide +kernel)
      have h7 : T[7]? = some .nilIface := hval 16 (by decide +kernel)
      have HBW := hide hb
      clear hval hst hb
      go_wp2
      go_ret2
      exact ⟨by simp [h6, h7], below_step HB.out HBW.out⟩
  · skip
    go_upto_region 4 with fail
    clear hW1 z0 z1 z2 z3 z4 z5 z6
    refine region_vals (by kernel_rfl) (rvOn_spec (by decide +kernel)) tgS (fun i => ([.pointer (some ⟨w.heap.size, 6, none⟩), .slice a n.cf.length c, .pointer (some ⟨w.heap.size, 5, none⟩), .int .i64 n.num, .pointer (some ⟨w.heap.size, 0, none⟩), .int .i64 n.op, .bool true, .slice a3 l cap3, .pointer (some ⟨w.heap.size, 6, none⟩), .slice a n.cf.length c, .int .i64 (n.cf.length : Int), .slice a3 n.cf.length cap3, .tuple #[.bool R, .nilIface], .bool R, .nilIface, .bool R, .nilIface] : List Value).getD i undef) (fun i j hi hj e => by have := tgS_inj ⟨i, hi⟩ ⟨j, hj⟩ e; injection this) (fun i hi => tgS_lt ⟨i, hi⟩) ?_ ?_
    · intro T W i o ho hsz hdep hst hb
      have hi : i < 17 := (Array.getElem?_eq_some_iff.1 ho).1
      have s2 : T[2]? = some (.slice a3 l cap3) := hst 2 (by decide +kernel)
      have s3 : T[3]? = some (.pointer (some ⟨w.heap.size, 0, none⟩)) := hst 3 (by decide +kernel)
      have HK0 := HC0.out W hb
      have HK5 := HC5.out W hb
      have HK6 := HC6.out W hb
      have HCA := hide (HHO.out W hb cap3)
      have HBW := hide hb
      clear hsz hst hb HC0 HC5 HC6 HHO
      rcases (by omega : i = 0 ∨ i = 1 ∨ i = 2 ∨ i = 3 ∨ i = 4 ∨ i = 5 ∨ i = 6 ∨ i = 7 ∨ i = 8 ∨ i = 9 ∨ i = 10 ∨ i = 11 ∨ i = 12 ∨ i = 13 ∨ i = 14 ∨ i = 15 ∨ i = 16) with rfl | rfl | rfl | rfl | rfl | rfl | rfl | rfl | rfl | rfl | rfl | rfl | rfl | rfl | rfl | rfl | rfl
      · injection ho with ho
        subst ho
        clear hdep
        refine wpOp_step (o := _) rfl fun K' hK => ?_
        rw [if_pos (by rfl)]
        have HK := hide hK
        clear hK
        go_simp
        exact HK.out _ _ ⟨rfl, HBW.out⟩
      · injection ho with ho
        subst ho
        have d0 : T[18]? = some (.pointer (some ⟨w.heap.size, 6, none⟩)) := hdep { on := 0, ground := .data } (by simp) rfl
        clear hdep
        refine wpOp_step (o := _) rfl fun K' hK => ?_
        rw [if_pos (by rfl)]
        have HK := hide hK
        clear hK
        go_simp
        exact HK.out _ _ ⟨rfl, HBW.out⟩
      · injection ho with ho
        subst ho
        clear hdep
        refine wpOp_step (o := _) rfl fun K' hK => ?_
        rw [if_pos (by rfl)]
        have HK := hide hK
        clear hK
        go_simp
        exact HK.out _ _ ⟨rfl, HBW.out⟩
      · injection ho with ho
        subst ho
        have d2 : T[20]? = some (.pointer (some ⟨w.heap.size, 5, none⟩)) := hdep { on := 2, ground := .data } (by simp) rfl
        clear hdep
        refine wpOp_step (o := _) rfl fun K' hK => ?_
        rw [if_pos (by rfl)]
        have HK := hide hK
        clear hK
        go_simp
        exact HK.out _ _ ⟨rfl, HBW.out⟩
      · injection ho with ho
        subst ho
        clear hdep
        refine wpOp_step (o := _) rfl fun K' hK => ?_
        rw [if_pos (by rfl)]
        have HK := hide hK
        clear hK
        go_simp
        exact HK.out _ _ ⟨rfl, HBW.out⟩
      · injection ho with ho
        subst ho
        have d4 : T[22]? = some (.pointer (some ⟨w.heap.size, 0, none⟩)) := hdep { on := 4, ground := .data } (by simp) rfl
        clear hdep
        refine wpOp_step (o := _) rfl fun K' hK => ?_
        rw [if_pos (by rfl)]
        have HK := hide hK
        clear hK
        go_simp
        exact HK.out _ _ ⟨rfl, HBW.out⟩
      · injection ho with ho
        subst ho
        have d5 : T[23]? = some (.int .i64 n.op) := hdep { on := 5, ground := .data } (by simp) rfl
        clear hdep
        refine wpOp_step (o := _) rfl fun K' hK => ?_
        rw [if_pos (by rfl)]
        have HK := hide hK
        clear hK
        go_simp
        exact HK.out _ _ ⟨rfl, HBW.out⟩
      · injection ho with ho
        subst ho
        clear hdep
        refine wpOp_step (o := _) rfl fun K' hK => ?_
        rw [if_pos (by rfl)]
        have HK := hide hK
        clear hK
        go_simp
        exact HK.out _ _ ⟨rfl, HBW.out⟩
      · injection ho with ho
        subst ho
        clear hdep
        refine wpOp_step (o := _) rfl fun K' hK => ?_
        rw [if_pos (by rfl)]
        have HK := hide hK
        clear hK
        go_simp
        exact HK.out _ _ ⟨rfl, HBW.out⟩
      · injection ho with ho
        subst ho
        have d8 : T[26]? = some (.pointer (some ⟨w.heap.size, 6, none⟩)) := hdep { on := 8, ground := .data } (by simp) rfl
        clear hdep
        refine wpOp_step (o := _) rfl fun K' hK => ?_
        rw [if_pos (by rfl)]
        have HK := hide hK
        clear hK
        go_simp
        exact HK.out _ _ ⟨rfl, HBW.out⟩
      · injection ho with ho
        subst ho
        have d9 : T[27]? = some (.slice a n.cf.length c) := hdep { on := 9, ground := .data } (by simp) rfl
        clear hdep
        refine wpOp_step (o := _) rfl fun K' hK => ?_
        rw [if_pos (by rfl)]
        have HK := hide hK
        clear hK
        go_simp
        exact HK.out _ _ ⟨rfl, HBW.out⟩
      · injection ho with ho
        subst ho
        have d7 : T[25]? = some (.slice a3 l cap3) := hdep { on := 7, ground := .data } (by simp) rfl
        have d10 : T[28]? = some (.int .i64 (n.cf.length : Int)) := hdep { on := 10, ground := .data } (by simp) rfl
        clear hdep
        refine wpOp_step (o := _) rfl fun K' hK => ?_
        rw [if_pos (by rfl)]
        have HK := hide hK
        clear hK
        go_simp
        exact HK.out _ _ ⟨rfl, HBW.out⟩
      · injection ho with ho
        subst ho
        have d1 : T[19]? = some (.slice a n.cf.length c) := hdep { on := 1, ground := .data } (by simp) rfl
        have d3 : T[21]? = some (.int .i64 n.num) := hdep { on := 3, ground := .data } (by simp) rfl
        have d6 : T[24]? = some (.bool true) := hdep { on := 6, ground := .data } (by simp) rfl
        have d11 : T[29]? = some (.slice a3 n.cf.length cap3) := hdep { on := 11, ground := .data } (by simp) rfl
        clear hdep
        refine wpOp_step (o := _) rfl fun K' hK => ?_
        rw [if_pos (by rfl)]
        have HK := hide hK
        clear hK
        go_simp
        refine HCA.out.mono ?_
        rintro e W2 ⟨rfl, hb2⟩
        exact HK.out _ _ ⟨rfl, below_step HBW.out hb2⟩
      · injection ho with ho
        subst ho
        have d12 : T[30]? = some (.tuple #[.bool R, .nilIface]) := hdep { on := 12, ground := .data } (by simp) rfl
        clear hdep
        refine wpOp_step (o := _) rfl fun K' hK => ?_
        rw [if_pos (by rfl)]
        have HK := hide hK
        clear hK
        go_simp
        exact HK.out _ _ ⟨rfl, HBW.out⟩
      · injection ho with ho
        subst ho
        have d12 : T[30]? = some (.tuple #[.bool R, .nilIface]) := hdep { on := 12, ground := .data } (by simp) rfl
        clear hdep
        refine wpOp_step (o := _) rfl fun K' hK => ?_
        rw [if_pos (by rfl)]
        have HK := hide hK
        clear hK
        go_simp
        exact HK.out _ _ ⟨rfl, HBW.out⟩
      · injection ho with ho
        subst ho
        have d13 : T[31]? = some (.bool R) := hdep { on := 13, ground := .data } (by simp) rfl
        clear hdep
        refine wpOp_step (o := _) rfl fun K' hK => ?_
        rw [if_pos (by rfl)]
        have HK := hide hK
        clear hK
        go_simp
        exact HK.out _ _ ⟨rfl, HBW.out⟩
      · injection ho with ho
        subst ho
        have d14 : T[32]? = some (.nilIface) := hdep { on := 14, ground := .data } (by simp) rfl
        clear hdep
        refine wpOp_step (o := _) rfl fun K' hK => ?_
        rw [if_pos (by rfl)]
        have HK := hide hK
        clear hK
        go_simp
        exact HK.out _ _ ⟨rfl, HBW.out⟩
    · intro T W hsz hval hst hb
      have h6 : T[6]? = some (.bool R) := hval 15 (by decide +kernel)
      have h7 : T[7]? = some .nilIface := hval 16 (by decide +kernel)
      have HBW := hide hb
      clear hval hst hb
      go_wp2
      go_ret2
      exact ⟨by simp [h6, h7], below_step HB.out HBW.out⟩
end Go.Proofs.YtgbmemkoggogdaaDoor

/- Package formula: holds, whole: contract; Eval. -/
namespace Go.Proofs.YtgbmemkoggogdaaDoor
open Go.RowKit

set_option maxHeartbeats 4000000 in
set_option maxRecDepth 4000 in
theorem holds_more (n : Nd) (a : Option Addr) (c : Nat) (v2 v3 : Value) (os : List Om) (nums : List Int) (w : World) (h5 : 5 ≤ n.op) : Calls Tryd.prog 30 #[ndV n a c, v2, v3] w fun e w' => e = .returned (.tuple #[.bool (holdB os nums n), .nilIface]) ∧ Below w.heap.size w w' := by
  have HB := hide ((Below.refl w.heap.size w).alloc (Nat.le_refl _) (ndO n a c))
  have HH := hide (hold_no (os := os) (nums := nums) h5)
  have e1 : (n.op == 1) = false := by simp; omega
  have e2 : (n.op == 2) = false := by simp; omega
  have e3 : (n.op == 3) = false := by simp; omega
  have e4 : (n.op == 4) = false := by simp; omega
  unfold ndV
  generalize holdB os nums n = R at HH ⊢
  clear h5
  go_enter Tryd.func30, Tryd.ntmps30
  go_wp2
  go_ret2
  exact ⟨by rw [HH.out]; rfl, HB.out⟩
theorem holds_all : HoldNd := by
  intro n a c a2 m cap2 os a3 l cap3 nums w hs ho h3 hcap hok hus hwd hO hnm
  have hop := (ndF_zero hok).1.1
  by_cases e12 : n.op = 1 ∨ n.op = 2
  · exact holds_op12 n a c a2 m cap2 os a3 l cap3 nums w hs ho h3 hcap hok hus hnm e12
  by_cases e3 : n.op = 3
  · exact holds_op3 n a c a2 m cap2 os a3 l cap3 nums w hs ho h3 hok hus hwd hO hnm e3
  by_cases e4 : n.op = 4
  · exact holds_op4 n a c a2 m cap2 os a3 l cap3 nums w hs ho h3 hok hus hwd hO hnm e4
  exact holds_more n a c _ _ os nums w (by omega)
end Go.Proofs.YtgbmemkoggogdaaDoor
