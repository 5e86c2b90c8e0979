/- 11 texts in one. -/
import Derived.BigQuiet
import Derived.BigRegion
import Derived.Test.YtempjeckngamdaaDoorNu
import Derived.Test.YtempjeckngamdaaDoorZYf
import Derived.Test.YtempjeckngamdaaDoorZAx
import Derived.Test.YtempjeckngamdaaDoorZXd
import Derived.Test.YtempjeckngamdaaDoorZEg
import Derived.Test.YtempjeckngamdaaDoorRe
/- Package formula: a node is appended. -/
namespace Go.Proofs.YtempjeckngamdaaDoor
open Go.RowKit

/-- One node is appended. -/
theorem wpList_append_node {ops : Array Oper} {rest : List Oper} {o : Oper} {a : Act} {Q : Exit → Act → World → Prop} (w : World) (hgd : o.guard = none) (s x : Operand)
    (ho : o.op = .call { callee := .builtin .append, args := #[s, x], argTypes := #[22, 22] })
    (base : Nat) (v : Value) (k : Nat) (xs : List Value) (hs : a.eval s = v) (hown : w.ownsRow base 52 7 v k xs) (n : Nd) (ax : Option Addr) (cx : Nat) (hx : a.eval x = .slice (some ⟨w.heap.size, 0, none⟩) 1 1) (hk : k ≤ 1000) (hbase : base ≤ w.heap.size)
    (h : ∀ g cap w', w'.ownsRow base 52 7 (.slice (some ⟨g, 0, none⟩) (k + 1) cap) (k + 1) (xs ++ ndL n ax cx) → (w.alloc (.cells #[.int .i64 n.op, .int .i64 n.var, .int .i64 n.oth, .int .i64 n.wd, .int .i64 n.wd2, .int .i64 n.num, .slice ax n.cf.length cx] 52)).grownBy w' v.ownBlock → (v.ownBlock = some g ∨ g = (w.alloc (.cells #[.int .i64 n.op, .int .i64 n.var, .int .i64 n.oth, .int .i64 n.wd, .int .i64 n.wd2, .int .i64 n.num, .slice ax n.cf.length cx] 52)).heap.size) → wpList Tryd.prog ops Q rest (a.put o.dst (.slice (some ⟨g, 0, none⟩) (k + 1) cap)) w') : wpList Tryd.prog ops Q (o :: rest) a (w.alloc (.cells #[.int .i64 n.op, .int .i64 n.var, .int .i64 n.oth, .int .i64 n.wd, .int .i64 n.wd2, .int .i64 n.num, .slice ax n.cf.length cx] 52)) := by
  obtain ⟨l0, hl0, hv0, hv1, hv2⟩ := info_parts infoNd
  exact wpList_append_lies _ hgd s x 22 ho base 52 l0 (.agg #[.int .i64 0, .int .i64 0, .int .i64 0, .int .i64 0, .int .i64 0, .int .i64 0, .slice none 0 0]) 7 72 Tryd.underlying22 hl0 hv0 hv1 hv2 zNode_size (by decide) v k xs hs (hown.alloc _) ⟨w.heap.size, 0, none⟩ 1 1 (ndL n ax cx) hx rfl (news_new w (ndL n ax cx) 52) (ndL_one n ax cx) (by omega) (by unfold maxLen; omega) (by omega) (by simp; omega) _ rfl (fun g cap w' h1 h2 h3 _ => h g cap w' h1 h2 h3)
end Go.Proofs.YtempjeckngamdaaDoor

/- Package formula: Bound: what it builds. -/
namespace Go.Proofs.YtempjeckngamdaaDoor
open Go.RowKit

def bndH (v u : Int) : List Nd := [⟨9, v, 0, 0, 0, 0, []⟩, ⟨7, 0, 0, 0, 0, 0, []⟩, ⟨5, 0, 0, 0, 0, 0, []⟩, ⟨2, 0, 0, 0, 0, 0, cuts5 v u⟩]
def bndF (ns : List Nd) (v u : Int) (j : Nat) : Nd := (bndH v u ++ ns).getD j zNd
theorem bndF_more (ns : List Nd) (v u : Int) (k : Nat) : bndF ns v u (4 + k) = ns.getD k zNd := by
  unfold bndF bndH
  simp [List.getD, Nat.add_comm 4 k]
theorem bndL_is {ns : List Nd} {v u : Int} (h : bndC ns v u = 0) : bndL ns v u = bndH v u ++ ns := by unfold bndL; rw [if_pos h]; rfl
theorem bndL_no {ns : List Nd} {v u : Int} (h : bndC ns v u ≠ 0) : bndL ns v u = [] := by unfold bndL; rw [if_neg h]
/-- The four nodes as they are built. -/
def bndO (v u : Int) (a : Option Addr) (c : Nat) : List Value := [.int .i64 9, .int .i64 v, .int .i64 0, .int .i64 0, .int .i64 0, .int .i64 0, .slice none 0 0, .int .i64 7, .int .i64 0, .int .i64 0, .int .i64 0, .int .i64 0, .int .i64 0, .slice none 0 0, .int .i64 5, .int .i64 0, .int .i64 0, .int .i64 0, .int .i64 0, .int .i64 0, .slice none 0 0, .int .i64 2, .int .i64 0, .int .i64 0, .int .i64 0, .int .i64 0, .int .i64 0, .slice a (cuts5 v u).length c]
theorem nwAt_four {w W : World} (ns : List Nd) (v u : Int) {a : Option Addr} {c : Nat} (hb : Below w.heap.size w W) (hs : Sl W a (cuts5 v u).length (cuts5 v u)) : NwAt w (bndF ns v u) 4 (.slice (some ⟨W.heap.size, 0, none⟩) 4 4) (W.alloc (.cells (bndO v u a c).toArray 52)) := by
  have hba := (Below.refl W.heap.size W).alloc (Nat.le_refl _) (.cells (bndO v u a c).toArray 52)
  refine ⟨bndO v u a c, ⟨rfl, .inr ⟨W.heap.size, 4, (bndO v u a c).toArray, rfl, hb.size, heap_alloc_last W _, by decide, by decide, rfl, rfl⟩⟩, fun j hj => ?_, below_step hb hba⟩
  have nil : Sl (W.alloc (.cells (bndO v u a c).toArray 52)) none 0 [] := ⟨rfl, by decide, (fun x hx => by cases hx), .inl rfl⟩
  match j, hj with
  | 0, _ => exact ⟨none, 0, fun i hi => by match i, hi with | 0, _ => rfl | 1, _ => rfl | 2, _ => rfl | 3, _ => rfl | 4, _ => rfl | 5, _ => rfl | 6, _ => rfl, nil, fun x hx => absurd hx.1 (by simp [bndF, bndH])⟩
  | 1, _ => exact ⟨none, 0, fun i hi => by match i, hi with | 0, _ => rfl | 1, _ => rfl | 2, _ => rfl | 3, _ => rfl | 4, _ => rfl | 5, _ => rfl | 6, _ => rfl, nil, fun x hx => absurd hx.1 (by simp [bndF, bndH])⟩
  | 2, _ => exact ⟨none, 0, fun i hi => by match i, hi with | 0, _ => rfl | 1, _ => rfl | 2, _ => rfl | 3, _ => rfl | 4, _ => rfl | 5, _ => rfl | 6, _ => rfl, nil, fun x hx => absurd hx.1 (by simp [bndF, bndH])⟩
  | 3, _ =>
    refine ⟨a, c, fun i hi => by match i, hi with | 0, _ => rfl | 1, _ => rfl | 2, _ => rfl | 3, _ => rfl | 4, _ => rfl | 5, _ => rfl | 6, _ => rfl, sl_below hs hba, fun x hx e => ?_⟩
    have h1 := slB_lt hs hx
    simp [Value.ownBlock] at e
    omega
theorem bnd_wf {ns : List Nd} {v u : Int} (hv : 0 ≤ v ∧ v < 5) (hn : ∀ n ∈ ns, ndWf n) : ∀ n ∈ bndH v u ++ ns, ndWf n := by
  intro n hm
  rcases List.mem_append.1 hm with h | h
  · simp only [bndH, List.mem_cons, List.not_mem_nil, or_false] at h
    have hz : ∀ x : Int, -100 ≤ x → x ≤ 100 → (Lit.int .i64 x).wf = true := fun x h1 h2 => WalkArith.wf_i64 (by omega)
    rcases h with rfl | rfl | rfl | rfl
    all_goals
      intro x hx
      simp only [List.mem_cons, List.not_mem_nil, or_false] at hx
      exact hz x (by omega) (by omega)
  · exact hn n h
theorem cuts_wf {v u : Int} : ∀ x ∈ ((zer5.set v.toNat 1).set u.toNat (-1)), (Lit.int .i64 x).wf = true := by
  intro x hx
  rcases List.mem_or_eq_of_mem_set hx with hx | rfl
  · rcases List.mem_or_eq_of_mem_set hx with hx | rfl
    · simp [zer5] at hx; subst hx; rfl
    · rfl
  · rfl
end Go.Proofs.YtempjeckngamdaaDoor

/- Package formula: Rename: contract. -/
namespace Go.Proofs.YtempjeckngamdaaDoor
open Go.RowKit

theorem renL_ok {ns : List Nd} {tl : List Int} (h : renC ns tl = 0) : renL ns tl = ns.map (renN tl) := by unfold renL; rw [if_pos h]
theorem renL_no {ns : List Nd} {tl : List Int} (h : renC ns tl ≠ 0) : renL ns tl = [] := by unfold renL; rw [if_neg h]
set_option maxHeartbeats 8000000 in
set_option maxRecDepth 4000 in
theorem devRename_any (a : Option Addr) (n cap : Nat) (ns : List Nd) (a2 : Option Addr) (m cap2 : Nat) (tl : List Int) (w : World) (hs : SlF w a n ns) (h2 : Sl w a2 m tl) : Calls Tryd.prog 12 #[.slice a n cap, .slice a2 m cap2] w (NodesR w (renL ns tl) (renC ns tl)) := by
  have HCK := hide (devCheck_any a n cap ns w hs)
  have HRC : Hid (renC ns tl = if (formP ns).2 = 0 then namesC tl else (formP ns).2) := rfl
  have HNIL : Hid (∀ (W : World), SlF W none 0 []) := fun W => ⟨rfl, by decide, (fun x hx => by cases hx), .inl rfl⟩
  by_cases hz : (formP ns).2 = 0
  · obtain ⟨t, he, hok, hn40, -⟩ := form_tree hz
    have hn : n ≤ 40 := by rw [← hs.1]; exact hn40
    have hrc := HRC.out
    rw [if_pos hz] at hrc
    rw [hz, show errV 0 = .nilIface from rfl] at HCK
    have HCN := hide (fun W (h : Sl W a2 m tl) => checkNames_any a2 m cap2 tl W h)
    by_cases hnz : namesC tl = 0
    · have hN := namesC_ok hnz
      obtain rfl : m = 5 := by rw [← h2.1]; exact hN.1
      rw [hnz] at hrc
      rw [renL_ok hrc, hrc]
      rw [hnz, show errV 0 = .nilIface from rfl] at HCN
      have hall : ∀ x ∈ ns, ndF x = 0 := by rw [he]; exact ok_ndF t hok
      have hL := hs.1
      have HRE := hide (fun (k : Nat) (hk : k < n) a' c' W (g1 : Sl W a' (ns.getD k zNd).cf.length (ns.getD k zNd).cf) (g2 : Sl W a2 5 tl) => rename_any (ns.getD k zNd) a' c' a2 cap2 tl W g1 g2 (hall _ (by simp [List.getD, show k < ns.length by omega])) hN)
      have HEND : Hid (∀ v wr, NwAt w (fun j => renN tl (ns.getD j zNd)) n v wr → ∃ a cap, v = .slice a (ns.map (renN tl)).length cap ∧ SlF wr a (ns.map (renN tl)).length (ns.map (renN tl)) ∧ Below w.heap.size w wr) := fun v wr h => by
        have hb : Below w.heap.size w wr := by obtain ⟨_, _, _, hb⟩ := h; exact hb
        obtain ⟨a, cap, e1, e2⟩ := nwAt_end h (by unfold maxLen; omega) (ns.map (renN tl)) (by simpa using hL) (fun j hj => by simp [List.getD, show j < ns.length by omega]) (fun x hx => by
          obtain ⟨y, hy, rfl⟩ := List.mem_map.1 hx
          exact ren_wf (hall y hy) hN)
        have hLL : (ns.map (renN tl)).length = n := by simpa using hL
        rw [hLL]
        exact ⟨a, cap, e1, e2, hb⟩
      have HS := hide hs
      have HS2 := hide h2
      clear hs h2 hz he hok hrc hnz hN hall hL HRC
      generalize ns.map (renN tl) = RL at HEND ⊢
      go_enter Tryd.func12, Tryd.ntmps12
      go_wp2_with fail
      refine HCK.out.mono ?_
      rintro e w1 ⟨rfl, hb1⟩
      have HB1 := hide hb1
      have HC1 := hide (HCN.out w1 (sl_below HS2.out hb1))
      clear hb1 HCK HCN
      generalize (formP ns).1 = f1
      go_wp2_with fail
      refine HC1.out.mono ?_
      rintro e w2 ⟨rfl, hb2⟩
      have HN0 := hide (nwAt_below (nwAt_nil w (fun j => renN tl (ns.getD j zNd))) (below_step HB1.out hb2))
      clear hb2 HC1 HB1
      go_wp2
      go_loopw [9, 27] (fun v kv wx => ∃ k : Nat, k ≤ n ∧ kv = .int .i64 k ∧ NwAt w (fun j => renN tl (ns.getD j zNd)) k v wx) (fun _ kv _ => n - (intOf kv).toNat)
      case atStart => exact ⟨0, by omega, rfl, HN0.out⟩
      case round =>
        obtain ⟨k, hk, rfl, hNW⟩ := hrel
        have HNW := hide hNW
        by_cases hlt : k < n
        · have hlti : (k : Int) < (n : Int) := by omega
          have hbw : Below w.heap.size w wr := by obtain ⟨_, _, _, hb⟩ := hNW; exact hb
          obtain ⟨bb, oo, a', c', rfl, x0, x1, x2, x3, x4, x5, x6, hsl⟩ := slF_cell (slF_below HS.out hbw) k hlt
          have hBa := (Below.refl wr.heap.size wr).alloc (Nat.le_refl _) (ndO (ns.getD k zNd) a' c')
          have HCL := hide (HRE.out k hlt a' c' (wr.alloc (ndO (ns.getD k zNd) a' c')) (sl_below hsl hBa) (sl_below HS2.out (below_step hbw hBa)))
          have HBa := hide hBa
          have HXa := hide (heap_alloc_last wr (ndO (ns.getD k zNd) a' c'))
          have HPU := hide (fun (w2 : World) (a5 : Option Addr) (c5 : Nat) (hb : Below wr.heap.size wr w2) (hs5 : SlN wr.heap.size w2 a5 (renN tl (ns.getD k zNd)).cf.length (renN tl (ns.getD k zNd)).cf) => nwAt_push (cap := c5) hNW hb hs5)
          unfold ndV at HCL
          generalize ns.getD k zNd = nd at x0 x1 x2 x3 x4 x5 x6 hsl HCL HBa HXa HPU
          generalize renN tl nd = rn at HCL HPU
          clear hsl hbw hBa hNW
          generalize hWa : wr.alloc (ndO nd a' c') = Wa at HCL HBa HXa
          obtain ⟨⟨z0, z1, z2, z3, z4, z5, z6⟩, -⟩ := box7_cells HXa.out
          go_wp2_with (first
            | (go_at_call 26; refine HCL.out.mono ?_; rintro e w5 ⟨a5, c5, rfl, hs5, hb5⟩; unfold ndV; obtain ⟨vals, hown5, hsz5, hnx5⟩ := HPU.out w5 a5 c5 (below_step HBa.out hb5) (hs5.mono HBa.out.size); have HOWN := hide hown5; have HSZ5 := hide hsz5; have HNX := hide hnx5; clear hown5 hsz5 hnx5 hs5 hb5 x0 x1 x2 x3 x4 x5 x6 z0 z1 z2 z3 z4 z5 z6)
            | (at_builtin; refine wpList_append_node w5 rfl _ _ rfl w.heap.size u9 k vals rfl HOWN.out rn a5 c5 rfl (by omega) HSZ5.out ?_; intro g' cap' w3 hown3 hgrow3 hat3; have HN3 := hide (HNX.out w3 _ g' cap' hown3 hgrow3 hat3); clear hown3 hgrow3 hat3))
          go_roundw
          case rel => exact ⟨k + 1, by omega, by go_num, HN3.out⟩
          case measure => simp [intOf]; omega
        · have hlti : ¬ (k : Int) < (n : Int) := by omega
          obtain rfl : k = n := by omega
          obtain ⟨ae, ce, hee, hse, hbe⟩ := HEND.out _ _ hNW
          subst hee
          have HE := hide (⟨hse, hbe⟩ : _ ∧ _)
          clear hse hbe hNW HNW
          go_wp2
          go_ret2
          exact ⟨_, _, rfl, HE.out.1, HE.out.2⟩
    · rw [renL_no (by rw [hrc]; exact hnz), hrc]
      have hze : errV (namesC tl) = .iface 24 (.int .i64 (namesC tl)) := by unfold errV; rw [if_neg hnz]
      rw [hze] at HCN
      have HZE := hide hze
      have HS2 := hide h2
      clear hs h2 hz he hok hrc hnz hze HRC
      go_enter Tryd.func12, Tryd.ntmps12
      go_wp2_with fail
      refine HCK.out.mono ?_
      rintro e w1 ⟨rfl, hb1⟩
      have HB1 := hide hb1
      have HC1 := hide (HCN.out w1 (sl_below HS2.out hb1))
      clear hb1 HCK HCN
      generalize (formP ns).1 = f1
      go_wp2_with fail
      refine HC1.out.mono ?_
      rintro e w2 ⟨rfl, hb2⟩
      have HB2 := hide (below_step HB1.out hb2)
      clear hb2
      go_wp2
      go_ret2
      exact ⟨none, 0, by rw [HZE.out]; rfl, HNIL.out _, HB2.out⟩
  · have hrc := HRC.out
    rw [if_neg hz] at hrc
    rw [renL_no (by rw [hrc]; exact hz), hrc]
    have hze : errV (formP ns).2 = .iface 24 (.int .i64 (formP ns).2) := by unfold errV; rw [if_neg hz]
    rw [hze] at HCK
    have HZE := hide hze
    clear hs h2 hz hrc hze HRC
    go_enter Tryd.func12, Tryd.ntmps12
    go_wp2_with fail
    refine HCK.out.mono ?_
    rintro e w1 ⟨rfl, hb1⟩
    have HB1 := hide hb1
    clear hb1
    go_wp2
    go_ret2
    exact ⟨none, 0, by rw [HZE.out]; rfl, HNIL.out _, HB1.out⟩
end Go.Proofs.YtempjeckngamdaaDoor

/- Package formula: Bound: contract. -/
namespace Go.Proofs.YtempjeckngamdaaDoor
open Go.RowKit

theorem bndC_is {ns : List Nd} {v u : Int} (hz : (formP ns).2 = 0) : bndC ns v u = if (0 ≤ v ∧ v < 5) ∧ 0 ≤ u ∧ u < 5 then (if v = u then 6 else if 36 < ns.length then 3 else 0) else 1 := by unfold bndC; rw [if_pos hz]
set_option maxHeartbeats 8000000 in
set_option maxRecDepth 4000 in
theorem devBound_no (a : Option Addr) (n cap : Nat) (ns : List Nd) (v u : Int) (w : World) (hs : SlF w a n ns) (hq : (formP ns).2 ≠ 0 ∨ ¬ ((0 ≤ v ∧ v < 5) ∧ 0 ≤ u ∧ u < 5) ∨ v = u) : Calls Tryd.prog 15 #[.slice a n cap, .int .i64 v, .int .i64 u] w (NodesR w (bndL ns v u) (bndC ns v u)) := by
  have HCK := hide (devCheck_any a n cap ns w hs)
  have HNIL : Hid (∀ (W : World), SlF W none 0 []) := fun W => ⟨rfl, by decide, (fun x hx => by cases hx), .inl rfl⟩
  have HV := hide (fun W => isVar_any v W)
  have HU := hide (fun W => isVar_any u W)
  by_cases hz : (formP ns).2 = 0
  · have hbc := bndC_is (v := v) (u := u) hz
    rw [hz, show errV 0 = .nilIface from rfl] at HCK
    by_cases hv : 0 ≤ v ∧ v < 5
    · rw [decide_eq_true hv] at HV
      by_cases hu : 0 ≤ u ∧ u < 5
      · rw [decide_eq_true hu] at HU
        have huv : v = u := by
          rcases hq with h | h | h
          · exact absurd hz h
          · exact absurd ⟨hv, hu⟩ h
          · exact h
        rw [if_pos ⟨hv, hu⟩, if_pos huv] at hbc
        rw [bndL_no (by rw [hbc]; decide), hbc]
        have euv : (v == u) = true := by simpa using huv
        clear hs hq hz hbc hv hu huv
        go_enter Tryd.func15, Tryd.ntmps15
        go_wp2_with fail
        refine HCK.out.mono ?_
        rintro e w1 ⟨rfl, hb1⟩
        have HB1 := hide hb1
        clear hb1 HCK
        generalize (formP ns).1 = f1
        go_wp2_with (first
          | (go_at_call 27; refine (HV.out _).mono ?_; rintro e w' ⟨rfl, hw'⟩; rw [hw']; clear hw' w')
          | (go_at_call 27; refine (HU.out _).mono ?_; rintro e w' ⟨rfl, hw'⟩; rw [hw']; clear hw' w'))
        go_ret2
        exact ⟨none, 0, rfl, HNIL.out _, HB1.out⟩
      · rw [decide_eq_false hu] at HU
        rw [if_neg (fun h => hu h.2)] at hbc
        rw [bndL_no (by rw [hbc]; decide), hbc]
        clear hs hq hz hbc hv hu
        go_enter Tryd.func15, Tryd.ntmps15
        go_wp2_with fail
        refine HCK.out.mono ?_
        rintro e w1 ⟨rfl, hb1⟩
        have HB1 := hide hb1
        clear hb1 HCK
        generalize (formP ns).1 = f1
        go_wp2_with (first
          | (go_at_call 27; refine (HV.out _).mono ?_; rintro e w' ⟨rfl, hw'⟩; rw [hw']; clear hw' w')
          | (go_at_call 27; refine (HU.out _).mono ?_; rintro e w' ⟨rfl, hw'⟩; rw [hw']; clear hw' w'))
        go_ret2
        exact ⟨none, 0, rfl, HNIL.out _, HB1.out⟩
    · rw [decide_eq_false hv] at HV
      rw [if_neg (fun h => hv h.1)] at hbc
      rw [bndL_no (by rw [hbc]; decide), hbc]
      clear hs hq hz hbc hv
      go_enter Tryd.func15, Tryd.ntmps15
      go_wp2_with fail
      refine HCK.out.mono ?_
      rintro e w1 ⟨rfl, hb1⟩
      have HB1 := hide hb1
      clear hb1 HCK
      generalize (formP ns).1 = f1
      go_wp2_with (go_at_call 27; refine (HV.out _).mono ?_; rintro e w' ⟨rfl, hw'⟩; rw [hw']; clear hw' w')
      go_ret2
      exact ⟨none, 0, rfl, HNIL.out _, HB1.out⟩
  · have hbc : bndC ns v u = (formP ns).2 := by unfold bndC; rw [if_neg hz]
    rw [bndL_no (by rw [hbc]; exact hz), hbc]
    have hze : errV (formP ns).2 = .iface 24 (.int .i64 (formP ns).2) := by unfold errV; rw [if_neg hz]
    rw [hze] at HCK
    have HZE := hide hze
    clear hs hq hz hbc hze
    go_enter Tryd.func15, Tryd.ntmps15
    go_wp2_with fail
    refine HCK.out.mono ?_
    rintro e w1 ⟨rfl, hb1⟩
    have HB1 := hide hb1
    clear hb1
    go_wp2
    go_ret2
    exact ⟨none, 0, by rw [HZE.out]; rfl, HNIL.out _, HB1.out⟩
end Go.Proofs.YtempjeckngamdaaDoor

/- Package formula: Bound, of a formula that is right: contract. -/
namespace Go.Proofs.YtempjeckngamdaaDoor
open Go.RowKit

theorem nwAt_b {w wr : World} {nf : Nat → Nd} {k : Nat} {v : Value} (h : NwAt w nf k v wr) : Below w.heap.size w wr := by obtain ⟨_, _, _, hb⟩ := h; exact hb
set_option maxHeartbeats 8000000 in
set_option maxRecDepth 4000 in
theorem devBound_ok (a : Option Addr) (n cap : Nat) (ns : List Nd) (q r : Nat) (w : World) (hs : SlF w a n ns) (hz : (formP ns).2 = 0) (hq : q < 5) (hr : r < 5) (hqr : q ≠ r) : Calls Tryd.prog 15 #[.slice a n cap, .int .i64 (q : Int), .int .i64 (r : Int)] w (NodesR w (bndL ns (q : Int) (r : Int)) (bndC ns (q : Int) (r : Int))) := by
  have HCK := hide (devCheck_any a n cap ns w hs)
  rw [hz, show errV 0 = .nilIface from rfl] at HCK
  have hL := hs.1
  have hbc := bndC_is (v := (q : Int)) (u := (r : Int)) hz
  rw [if_pos ⟨by omega, by omega⟩, if_neg (by omega)] at hbc
  obtain ⟨t, he, hok, hn40, -⟩ := form_tree hz
  have hn : n ≤ 40 := by omega
  have HNIL : Hid (∀ (W : World), SlF W none 0 []) := fun W => ⟨rfl, by decide, (fun x hx => by cases hx), .inl rfl⟩
  have HV := hide (fun W => isVar_any (q : Int) W)
  have HU := hide (fun W => isVar_any (r : Int) W)
  rw [decide_eq_true (show 0 ≤ (q : Int) ∧ (q : Int) < 5 by omega)] at HV
  rw [decide_eq_true (show 0 ≤ (r : Int) ∧ (r : Int) < 5 by omega)] at HU
  have euv : ((q : Int) == (r : Int)) = false := by simp; omega
  have hqi : (q : Int) < 5 := by omega
  have hri : (r : Int) < 5 := by omega
  have HCU : Hid (cuts5 (q : Int) (r : Int) = trimL ((zer5.set q 1).set r (-1))) := rfl
  have HWF := hide (@cuts_wf (q : Int) (r : Int))
  rw [Int.toNat_natCast, Int.toNat_natCast] at HWF
  have HFO := hide (fun (W W1 : World) (ac : Option Addr) (cc : Nat) (hb : Below W1.heap.size W1 W) (h : Sl W ac (cuts5 (q : Int) (r : Int)).length (cuts5 (q : Int) (r : Int))) => nwAt_four (w := W1) (c := cc) ns (q : Int) (r : Int) hb h)
  have HEND : Hid (36 < n → False ∨ True) := fun _ => .inr trivial
  have HFIN : Hid (¬ 36 < n → ∀ v wr, NwAt w (bndF ns (q : Int) (r : Int)) (4 + n) v wr → NodesR w (bndL ns (q : Int) (r : Int)) (bndC ns (q : Int) (r : Int)) (.returned (.tuple #[v, .nilIface])) wr) := fun h36 v wr h => by
    rw [if_neg (by omega)] at hbc
    have hb : Below w.heap.size w wr := by obtain ⟨_, _, _, hb⟩ := h; exact hb
    have hlen : (bndH (q : Int) (r : Int) ++ ns).length = 4 + n := by rw [List.length_append, hL]; rfl
    obtain ⟨a', c', e1, e2⟩ := nwAt_end h (by unfold maxLen; omega) (bndH (q : Int) (r : Int) ++ ns) hlen (fun j _ => rfl) (bnd_wf (by omega) hs.2.2.1)
    rw [bndL_is hbc, hbc]
    refine ⟨a', c', ?_, by rw [hlen]; exact e2, hb⟩
    rw [hlen, e1]
    rfl
  have HFUL : Hid (36 < n → bndL ns (q : Int) (r : Int) = [] ∧ bndC ns (q : Int) (r : Int) = 3) := fun h36 => by
    rw [if_pos (by omega)] at hbc
    exact ⟨bndL_no (by rw [hbc]; decide), hbc⟩
  have HMO := hide (fun k => bndF_more ns (q : Int) (r : Int) k)
  have HS := hide hs
  have HAL : Hid (∀ k, k < n → (ns.getD k zNd).cf.length ≤ 5) := fun k hk => nd_parts (ok_ndF t hok _ (by rw [← he]; simp [List.getD, show k < ns.length by omega]))
  have hcl : (cuts5 (q : Int) (r : Int)).length ≤ 5 := by
    rw [HCU.out, trim_len]
    have := lastN_le ((zer5.set q 1).set r (-1)) ((zer5.set q 1).set r (-1)).length
    simp [zer5] at this
    simpa [zer5] using this
  clear hs hz hbc he hok hn40 hL HEND
  generalize bndL ns (q : Int) (r : Int) = BL at HFIN HFUL ⊢
  generalize bndC ns (q : Int) (r : Int) = BC at HFIN HFUL ⊢
  go_enter Tryd.func15, Tryd.ntmps15
  go_wp2_with fail
  refine HCK.out.mono ?_
  rintro e w1 ⟨rfl, hb1⟩
  have HB1 := hide hb1
  clear hb1 HCK
  generalize (formP ns).1 = f1
  have hBa := (Below.refl w1.heap.size w1).alloc (Nat.le_refl _) (.cells #[.int .i64 0, .int .i64 0, .int .i64 0, .int .i64 0, .int .i64 0] 64)
  have hx0 : (w1.alloc (.cells #[.int .i64 0, .int .i64 0, .int .i64 0, .int .i64 0, .int .i64 0] 64)).heap[w1.heap.size]? = some (.cells (iArr zer5) 64 (0, 0)) := heap_alloc_last w1 _
  generalize hWa : w1.alloc (.cells #[.int .i64 0, .int .i64 0, .int .i64 0, .int .i64 0, .int .i64 0] 64) = Wa at hBa hx0
  have hx1 := heap_setCell_at (k := q) (v := .int .i64 1) hx0
  rw [iArr_set] at hx1
  have hx2 := heap_setCell_at (k := r) (v := .int .i64 (-1)) hx1
  rw [iArr_set] at hx2
  have c0 : Wa.cell? ⟨w1.heap.size, q, none⟩ = some (.int .i64 (zer5.getD q 0)) := by rw [cell_of_row _ _ q _ _ _ hx0, iArr_get _ _ (by simpa [zer5] using hq)]
  have f0 : Wa.frozen? ⟨w1.heap.size, q, none⟩ = false := by simp [World.frozen?, hx0]
  have c1 : (Wa.setCell ⟨w1.heap.size, q, none⟩ (.int .i64 1)).cell? ⟨w1.heap.size, r, none⟩ = some (.int .i64 ((zer5.set q 1).getD r 0)) := by rw [cell_of_row _ _ r _ _ _ hx1, iArr_get _ _ (by simpa [zer5] using hr)]
  have f1' : (Wa.setCell ⟨w1.heap.size, q, none⟩ (.int .i64 1)).frozen? ⟨w1.heap.size, r, none⟩ = false := by simp [World.frozen?, hx1]
  have hB2 : Below w1.heap.size w1 ((Wa.setCell ⟨w1.heap.size, q, none⟩ (.int .i64 1)).setCell ⟨w1.heap.size, r, none⟩ (.int .i64 (-1))) := (hBa.setCell (Nat.le_refl _) _).setCell (Nat.le_refl _) _
  generalize hW3 : (Wa.setCell ⟨w1.heap.size, q, none⟩ (.int .i64 1)).setCell ⟨w1.heap.size, r, none⟩ (.int .i64 (-1)) = W3 at hx2 hB2
  have hl5 : ((zer5.set q 1).set r (-1)).length = 5 := by simp [zer5]
  obtain ⟨m0, m1, m2, m3, m4, hm⟩ := five_ints hl5
  have hmw := HWF.out
  rw [hm] at hx2 hmw
  obtain ⟨⟨y0, y1, y2, y3, y4⟩, -⟩ := box5_cells hx2
  have HCO := hide (trim5 m0 m1 m2 m3 m4 hx2 hmw)
  rw [← hm, ← HCU.out] at HCO
  have HB3 := hide (below_step HB1.out hB2)
  clear hx0 hx1 hx2 hm hl5 hmw hBa hB2 HWF HCU
  generalize zer5.getD q 0 = zz0 at c0
  generalize (zer5.set q 1).getD r 0 = zz1 at c1
  go_wp2_with (first
    | (go_at_call 27; refine (HV.out _).mono ?_; rintro e w' ⟨rfl, hw'⟩; rw [hw']; clear hw' w')
    | (go_at_call 27; refine (HU.out _).mono ?_; rintro e w' ⟨rfl, hw'⟩; rw [hw']; clear hw' w'))
  clear hWa hW3 c0 f0 c1 f1' y0 y1 y2 y3 y4
  refine HCO.out.mono ?_
  rintro e w4 ⟨ac, cc, rfl, hsc, hb4⟩
  have HN4 := hide (HFO.out w4 w ac cc (below_step HB3.out hb4) hsc.1)
  clear hsc hb4 HCO HFO
  unfold bndO at HN4
  generalize (cuts5 (q : Int) (r : Int)).length = cL at HN4 hcl ⊢
  by_cases h36 : 36 < n
  · obtain ⟨e1, e2⟩ := HFUL.out h36
    have hgt : (4 : Int) + (n : Int) > 40 := by omega
    have HE1 := hide e1
    have HE2 := hide e2
    have HB4 := hide (nwAt_b HN4.out)
    clear e1 e2 HFUL HFIN HN4
    go_wp2
    go_ret2
    exact ⟨none, 0, by rw [HE1.out, HE2.out]; rfl, by rw [HE1.out]; exact HNIL.out _, HB4.out⟩
  · have HF2 := hide (HFIN.out h36)
    have hgt : ¬ (4 : Int) + (n : Int) > 40 := by omega
    clear HFUL HFIN
    go_wp2
    generalize hW5 : w4.alloc (.cells #[.int .i64 9, .int .i64 (q : Int), .int .i64 0, .int .i64 0, .int .i64 0, .int .i64 0, .slice none 0 0, .int .i64 7, .int .i64 0, .int .i64 0, .int .i64 0, .int .i64 0, .int .i64 0, .slice none 0 0, .int .i64 5, .int .i64 0, .int .i64 0, .int .i64 0, .int .i64 0, .int .i64 0, .slice none 0 0, .int .i64 2, .int .i64 0, .int .i64 0, .int .i64 0, .int .i64 0, .int .i64 0, .slice ac cL cc] 52) = W5 at HN4 ⊢
    clear hW5
    go_loopw [11, 56] (fun v kv wx => ∃ k : Nat, k ≤ n ∧ kv = .int .i64 k ∧ NwAt w (bndF ns (q : Int) (r : Int)) (4 + k) v wx) (fun _ kv _ => n - (intOf kv).toNat)
    case atStart => exact ⟨0, by omega, rfl, HN4.out⟩
    case round =>
      obtain ⟨k, hk, rfl, hNW⟩ := hrel
      have HNW := hide hNW
      by_cases hlt : k < n
      · have hlti : (k : Int) < (n : Int) := by omega
        have hbw : Below w.heap.size w wr := by obtain ⟨_, _, _, hb⟩ := hNW; exact hb
        obtain ⟨bb, oo, a', c', rfl, x0, x1, x2, x3, x4, x5, x6, hsl⟩ := slF_cell (slF_below HS.out hbw) k hlt
        have hBa := (Below.refl wr.heap.size wr).alloc (Nat.le_refl _) (ndO (ns.getD k zNd) a' c')
        have hsa := sl_below hsl hBa
        have HBa := hide hBa
        have HXa := hide (heap_alloc_last wr (ndO (ns.getD k zNd) a' c'))
        have HPU := hide (fun (w2 : World) (a5 : Option Addr) (c5 : Nat) (hb : Below wr.heap.size wr w2) (hs5 : SlN wr.heap.size w2 a5 (bndF ns (q : Int) (r : Int) (4 + k)).cf.length (bndF ns (q : Int) (r : Int) (4 + k)).cf) => nwAt_push (cap := c5) hNW hb hs5)
        rw [HMO.out k] at HPU
        have h5c := HAL.out k hlt
        generalize ns.getD k zNd = nd at x0 x1 x2 x3 x4 x5 x6 hsl hsa HBa HXa HPU h5c
        have hml := hsa.2.1
        clear hsl hbw hBa hNW
        have HSA := hide hsa
        have hwsz : (wr.alloc (ndO nd a' c')).heap.size = wr.heap.size + 1 := by simp
        generalize hWa : wr.alloc (ndO nd a' c') = Wa at HBa HXa HSA hwsz
        have HWS := hide hwsz
        clear hsa hwsz
        obtain ⟨⟨z0, z1, z2, z3, z4, z5, z6⟩, -⟩ := box7_cells HXa.out
        go_wp2_with (first
          | (at_builtin; refine wpList_append_sv rfl _ _ rfl Wa.heap.size (.slice none 0 0) [] rfl (World.ownsRow_nil _ _ _ _) a' nd.cf.length c' nd.cf rfl HSA.out (by decide) (by omega) (Nat.le_refl _) ?_; intro v5 w5 hown5 hgrow5; rw [List.nil_append] at hown5; obtain ⟨a5, c5, rfl, hs5⟩ := sl_of_owns (l := nd.cf) rfl HSA.out.2.1 HSA.out.2.2.1 hown5; have hb5 : Below Wa.heap.size Wa w5 := Below.grown (Below.refl _ _) hgrow5 (Nat.le_refl _) (fun k hk => by cases hk); have k0 := (hb5.block _ (Array.getElem?_eq_some_iff.1 HXa.out).1).trans HXa.out; have k0' : (w5.setCell ⟨wr.heap.size, 6, none⟩ (.slice a5 nd.cf.length c5)).heap[wr.heap.size]? = some (ndO nd a5 c5) := heap_setCell_at (k := 6) (v := .slice a5 nd.cf.length c5) k0; have hb6 : Below wr.heap.size wr (w5.setCell ⟨wr.heap.size, 6, none⟩ (.slice a5 nd.cf.length c5)) := (below_step HBa.out hb5).setCell (Nat.le_refl _) _; have hs6 : SlN wr.heap.size (w5.setCell ⟨wr.heap.size, 6, none⟩ (.slice a5 nd.cf.length c5)) a5 nd.cf.length nd.cf := (slN_far hs5 (fun x hx => Below.heap_setCell _ _ _ _ (show x ≠ wr.heap.size by have := HWS.out; omega))).mono HBa.out.size; obtain ⟨vals, hown6, hsz6, hnx6⟩ := HPU.out _ a5 c5 hb6 hs6; obtain ⟨⟨j0, j1, j2, j3, j4, j5, j6⟩, -⟩ := box7_cells k0; obtain ⟨f0, f1', f2, f3, f4, f5, f6⟩ := box7_froz k0; generalize hW6 : w5.setCell ⟨wr.heap.size, 6, none⟩ (.slice a5 nd.cf.length c5) = W6 at k0' hb6 hs6 hown6 hsz6 hnx6; obtain ⟨⟨t0, t1, t2, t3, t4, t5, t6⟩, -⟩ := box7_cells k0'; have HOWN := hide hown6; have HSZ6 := hide hsz6; have HNX := hide hnx6; clear hown6 hsz6 hnx6 hs6 hb6 k0' k0 hb5 hs5 hown5 hgrow5 x0 x1 x2 x3 x4 x5 x6 z0 z1 z2 z3 z4 z5 z6)
          | (at_builtin; refine wpList_append_node W6 rfl _ _ rfl w.heap.size u11 (4 + k) vals rfl HOWN.out nd a5 c5 rfl (by omega) HSZ6.out ?_; intro g' cap' w7 hown7 hgrow7 hat7; have HN7 := hide (HNX.out w7 _ g' cap' hown7 hgrow7 hat7); clear hown7 hgrow7 hat7))
        go_roundw
        case rel => exact ⟨k + 1, by omega, by go_num, HN7.out⟩
        case measure => simp [intOf]; omega
      · have hlti : ¬ (k : Int) < (n : Int) := by omega
        obtain rfl : k = n := by omega
        have HE := hide (HF2.out _ _ hNW)
        obtain ⟨ae, ce, hee, hse, hbe⟩ := HE.out
        clear hNW HNW
        go_wp2
        go_ret2
        exact HE.out
end Go.Proofs.YtempjeckngamdaaDoor

/- Rows of nodes: many are appended at once; rows that are made. -/
namespace Go.Proofs.YtempjeckngamdaaDoor
open Go.RowKit

theorem made_iArr (n : Nat) : madeCells #[Value.int .i64 0] n = iArr (List.replicate n 0) := by
  apply Array.ext
  · simp [madeCells, iArr]
  · intro i h1 h2
    simp [madeCells, iArr, Nat.mod_one]
theorem cuts_made : ∀ q r : Fin 5, q ≠ r → ((List.replicate ((if r.val > q.val then r.val else q.val) + 1) (0 : Int)).set q.val 1).set r.val (-1) = cuts5 ((q.val : Nat) : Int) ((r.val : Nat) : Int) := by decide +kernel
end Go.Proofs.YtempjeckngamdaaDoor

/- The reference's BoundOf: contract. -/
namespace Go.Proofs.YtempjeckngamdaaDoor
open Go.RowKit

def NodesI (w : World) (L : List Nd) (c : Int) (e : Ending) (w' : World) : Prop := ∃ a cp, e = .returned (.tuple #[.slice a L.length cp, .int .i64 c]) ∧ SlF w' a L.length L ∧ Below w.heap.size w w'
theorem nwAt_row {w W : World} (ns : List Nd) (v u : Int) {a : Option Addr} {c g cap : Nat} (hb : Below w.heap.size w W) (hown : W.ownsRow w.heap.size 52 7 (.slice (some ⟨g, 0, none⟩) 4 cap) 4 (bndO v u a c)) (hs : Sl W a (cuts5 v u).length (cuts5 v u)) (hg : ∀ x, slB a (cuts5 v u).length x → x ≠ g) : NwAt w (bndF ns v u) 4 (.slice (some ⟨g, 0, none⟩) 4 cap) W := by
  refine ⟨bndO v u a c, hown, fun j hj => ?_, hb⟩
  have nil : Sl W none 0 [] := ⟨rfl, by decide, (fun x hx => by cases hx), .inl rfl⟩
  match j, hj with
  | 0, _ => exact ⟨none, 0, fun i hi => by match i, hi with | 0, _ => rfl | 1, _ => rfl | 2, _ => rfl | 3, _ => rfl | 4, _ => rfl | 5, _ => rfl | 6, _ => rfl, nil, fun x hx => absurd hx.1 (by simp [bndF, bndH])⟩
  | 1, _ => exact ⟨none, 0, fun i hi => by match i, hi with | 0, _ => rfl | 1, _ => rfl | 2, _ => rfl | 3, _ => rfl | 4, _ => rfl | 5, _ => rfl | 6, _ => rfl, nil, fun x hx => absurd hx.1 (by simp [bndF, bndH])⟩
  | 2, _ => exact ⟨none, 0, fun i hi => by match i, hi with | 0, _ => rfl | 1, _ => rfl | 2, _ => rfl | 3, _ => rfl | 4, _ => rfl | 5, _ => rfl | 6, _ => rfl, nil, fun x hx => absurd hx.1 (by simp [bndF, bndH])⟩
  | 3, _ =>
    refine ⟨a, c, fun i hi => by match i, hi with | 0, _ => rfl | 1, _ => rfl | 2, _ => rfl | 3, _ => rfl | 4, _ => rfl | 5, _ => rfl | 6, _ => rfl, hs, fun x hx e => ?_⟩
    simp [Value.ownBlock] at e
    exact hg x hx e.symm
set_option maxHeartbeats 8000000 in
set_option maxRecDepth 4000 in
theorem boundOf_no (a : Option Addr) (n cap : Nat) (ns : List Nd) (v u : Int) (w : World) (hs : SlF w a n ns) (hq : bndC ns v u ≠ 0) : Calls Tryd.prog 14 #[.slice a n cap, .int .i64 v, .int .i64 u] w (NodesI w (bndL ns v u) (bndC ns v u)) := by
  have HCK := hide (formFault_of a n cap ns w hs nodeFault_any)
  have HNIL : Hid (∀ (W : World), SlF W none 0 []) := fun W => ⟨rfl, by decide, (fun x hx => by cases hx), .inl rfl⟩
  have hL := hs.1
  have hmx := hs.2.1
  unfold maxLen at hmx
  rw [bndL_no hq]
  by_cases hz : (formP ns).2 = 0
  · have hbc := bndC_is (v := v) (u := u) hz
    rw [hz] at HCK
    clear hs hz
    have fin : ∀ (C : Int), C = bndC ns v u → (1 = C ∧ (v < 0 ∨ ¬ v < 0 ∧ (v ≥ 5 ∨ ¬ v ≥ 5 ∧ (u < 0 ∨ ¬ u < 0 ∧ u ≥ 5)))) ∨ (6 = C ∧ ¬ v < 0 ∧ ¬ v ≥ 5 ∧ ¬ u < 0 ∧ ¬ u ≥ 5 ∧ v = u) ∨ (3 = C ∧ ¬ v < 0 ∧ ¬ v ≥ 5 ∧ ¬ u < 0 ∧ ¬ u ≥ 5 ∧ ¬ v = u ∧ (n : Int) > 36) := fun C hC => by
      rw [hC, hbc]
      by_cases h1 : (0 ≤ v ∧ v < 5) ∧ 0 ≤ u ∧ u < 5
      · rw [if_pos h1]
        by_cases h2 : v = u
        · rw [if_pos h2]; exact .inr (.inl ⟨rfl, by omega, by omega, by omega, by omega, h2⟩)
        · rw [if_neg h2]
          by_cases h3 : 36 < ns.length
          · rw [if_pos h3]; exact .inr (.inr ⟨rfl, by omega, by omega, by omega, by omega, h2, by omega⟩)
          · rw [hbc, if_pos h1, if_neg h2, if_neg h3] at hq; exact absurd rfl hq
      · rw [if_neg h1]; exact .inl ⟨rfl, by omega⟩
    generalize hB : bndC ns v u = BC at hq hbc fin ⊢
    have hcs := fin BC rfl
    clear fin hbc hq hB
    rcases hcs with ⟨rfl, h⟩ | ⟨rfl, h1, h2, h3, h4, h5⟩ | ⟨rfl, h1, h2, h3, h4, h5, h6⟩
    · rcases h with h | ⟨h1, h | ⟨h2, h | ⟨h3, h⟩⟩⟩
      all_goals
        go_enter Tryd.func14, Tryd.ntmps14
        go_wp2_with fail
        refine HCK.out.mono ?_
        rintro e w1 ⟨rfl, hb1⟩
        have HB1 := hide hb1
        clear hb1
        generalize (formP ns).1 = f1
        go_wp2
        go_ret2
        exact ⟨none, 0, rfl, HNIL.out _, HB1.out⟩
    · have e5 : (v == u) = true := by simpa using h5
      clear h5
      go_enter Tryd.func14, Tryd.ntmps14
      go_wp2_with fail
      refine HCK.out.mono ?_
      rintro e w1 ⟨rfl, hb1⟩
      have HB1 := hide hb1
      clear hb1
      generalize (formP ns).1 = f1
      go_wp2
      go_ret2
      exact ⟨none, 0, rfl, HNIL.out _, HB1.out⟩
    · have e5 : (v == u) = false := by simpa using h5
      clear h5
      go_enter Tryd.func14, Tryd.ntmps14
      go_wp2_with fail
      refine HCK.out.mono ?_
      rintro e w1 ⟨rfl, hb1⟩
      have HB1 := hide hb1
      clear hb1
      generalize (formP ns).1 = f1
      go_wp2
      go_ret2
      exact ⟨none, 0, rfl, HNIL.out _, HB1.out⟩
  · have hbc : bndC ns v u = (formP ns).2 := by unfold bndC; rw [if_neg hz]
    rw [hbc]
    have hzb : ((formP ns).2 == 0) = false := by simpa using hz
    have hzn : ((formP ns).2 != 0) = true := by simpa using hz
    clear hs hq hz hbc
    generalize formP ns = fp at *
    obtain ⟨f1, f2⟩ := fp
    simp only at HCK hzb hzn ⊢
    go_enter Tryd.func14, Tryd.ntmps14
    go_wp2_with fail
    refine HCK.out.mono ?_
    rintro e w1 ⟨rfl, hb1⟩
    have HB1 := hide hb1
    clear hb1
    go_wp2
    go_ret2
    exact ⟨none, 0, rfl, HNIL.out _, HB1.out⟩
end Go.Proofs.YtempjeckngamdaaDoor

/- The reference's BoundOf, of a formula that is right: contract. -/
namespace Go.Proofs.YtempjeckngamdaaDoor
open Go.RowKit

def bndO2 (v : Int) (a : Option Addr) (l c : Nat) : List Value := [.int .i64 9, .int .i64 v, .int .i64 0, .int .i64 0, .int .i64 0, .int .i64 0, .slice none 0 0, .int .i64 7, .int .i64 0, .int .i64 0, .int .i64 0, .int .i64 0, .int .i64 0, .slice none 0 0, .int .i64 5, .int .i64 0, .int .i64 0, .int .i64 0, .int .i64 0, .int .i64 0, .slice none 0 0, .int .i64 2, .int .i64 0, .int .i64 0, .int .i64 0, .int .i64 0, .int .i64 0, .slice a l c]
theorem bndO2_is {v u : Int} {a : Option Addr} {l c : Nat} (h : (cuts5 v u).length = l) : bndO2 v a l c = bndO v u a c := by subst h; rfl
theorem bndO2_one (v : Int) (a : Option Addr) (l c : Nat) : ∀ x ∈ bndO2 v a l c, x.oneCell' = true := fun x hx => by
  simp only [bndO2, List.mem_cons, List.not_mem_nil, or_false] at hx
  rcases hx with rfl | rfl | rfl | rfl | rfl | rfl | rfl | rfl | rfl | rfl | rfl | rfl | rfl | rfl | rfl | rfl | rfl | rfl | rfl | rfl | rfl | rfl | rfl | rfl | rfl | rfl | rfl | rfl <;> rfl
theorem sl_blkO {W : World} {x : Nat} {l : List Int} {t : TypeId} (h : W.heap[x]? = some (.cells (iArr l) t)) (hm : l.length ≤ maxLen) (hw : ∀ x ∈ l, (Lit.int .i64 x).wf = true) : Sl W (some ⟨x, 0, none⟩) l.length l := by
  refine ⟨rfl, hm, hw, Or.inr ⟨_, _, rfl, fun i hi => ?_⟩⟩
  rw [cell_of_row _ _ (0 + i) _ t (0, 0) h, Nat.zero_add, iArr_get _ _ hi]
set_option maxHeartbeats 8000000 in
set_option maxRecDepth 4000 in
theorem boundOf_ok (a : Option Addr) (n cap : Nat) (ns : List Nd) (q r : Nat) (w : World) (hs : SlF w a n ns) (hz : (formP ns).2 = 0) (hq : q < 5) (hr : r < 5) (hqr : q ≠ r) (h36 : n ≤ 36) : Calls Tryd.prog 14 #[.slice a n cap, .int .i64 (q : Int), .int .i64 (r : Int)] w (NodesI w (bndL ns (q : Int) (r : Int)) (bndC ns (q : Int) (r : Int))) := by
  have HCK := hide (formFault_of a n cap ns w hs nodeFault_any)
  rw [hz] at HCK
  have hL := hs.1
  have hbc := bndC_is (v := (q : Int)) (u := (r : Int)) hz
  rw [if_pos ⟨by omega, by omega⟩, if_neg (by omega), if_neg (by omega)] at hbc
  obtain ⟨-, -, -, -, hpos⟩ := form_tree hz
  obtain ⟨b, o, rfl⟩ : ∃ b o, a = some ⟨b, o, none⟩ := by
    obtain ⟨b, o, _, _, e, _⟩ := slF_cell hs 0 (by omega)
    exact ⟨b, o, e⟩
  have HFIN : Hid (∀ v wr, NwAt w (bndF ns (q : Int) (r : Int)) (4 + n) v wr → NodesI w (bndL ns (q : Int) (r : Int)) (bndC ns (q : Int) (r : Int)) (.returned (.tuple #[v, .int .i64 0])) wr) := fun v wr h => by
    have hb := nwAt_b h
    have hlen : (bndH (q : Int) (r : Int) ++ ns).length = 4 + n := by rw [List.length_append, hL]; rfl
    obtain ⟨a', c', e1, e2⟩ := nwAt_end h (by unfold maxLen; omega) (bndH (q : Int) (r : Int) ++ ns) hlen (fun j _ => rfl) (bnd_wf (by omega) hs.2.2.1)
    rw [bndL_is hbc, hbc]
    exact ⟨a', c', by rw [hlen, e1], by rw [hlen]; exact e2, hb⟩
  have HMA := hide (fun v wr (h : NwAt w (bndF ns (q : Int) (r : Int)) 4 v wr) => nwAt_many h hs (fun j _ => bndF_more ns (q : Int) (r : Int) j))
  have HCM := cuts_made ⟨q, hq⟩ ⟨r, hr⟩ (fun e => hqr (by injection e))
  simp only at HCM
  obtain ⟨M, hM, hMc, hq1, hr1⟩ : ∃ M, (if r > q then r else q) = M ∧ M < 5 ∧ q ≤ M ∧ r ≤ M := ⟨_, rfl, by split <;> omega, by split <;> omega, by split <;> omega⟩
  rw [hM] at HCM
  have HWF : Hid (∀ x ∈ cuts5 (q : Int) (r : Int), (Lit.int .i64 x).wf = true) := fun x hx => cuts_wf x (List.mem_of_mem_take hx)
  have hlc : (cuts5 (q : Int) (r : Int)).length = M + 1 := by rw [← HCM]; simp
  have HROW := hide (fun (W : World) (ac : Option Addr) (cc g cp : Nat) (hb : Below w.heap.size w W) hown hsl hg => nwAt_row (w := w) (W := W) (a := ac) (c := cc) (g := g) (cap := cp) ns (q : Int) (r : Int) hb hown hsl hg)
  have hmk : ∀ W : World, (Instr.makeSlice 23 (.int .i64 ((M : Int) + 1)) (.int .i64 ((M : Int) + 1))).run Tryd.prog W = .ok (.slice (some ⟨W.heap.size, 0, none⟩) (M + 1) (M + 1)) (W.alloc (.cells (iArr (List.replicate (M + 1) 0)) 3)) := fun W => by
    have h := make_ints (M + 1) (by omega) W
    rw [made_iArr] at h
    rw [← h]
    congr 2
  have HPOS := hide hpos
  have h1 : ¬ (q : Int) < 0 := by omega
  have h2 : ¬ (q : Int) ≥ 5 := by omega
  have h3 : ¬ (r : Int) < 0 := by omega
  have h4 : ¬ (r : Int) ≥ 5 := by omega
  have h5 : ((q : Int) == (r : Int)) = false := by simp; omega
  have h6 : ¬ (n : Int) > 36 := by omega
  have hqm : (q : Int) < ((M + 1 : Nat) : Int) := by omega
  have hrm : (r : Int) < ((M + 1 : Nat) : Int) := by omega
  have hqn : q < M + 1 := by omega
  have hrn : r < M + 1 := by omega
  have HLC := hide hlc
  have HL := hide hL
  clear hs hz hbc hL hlc
  generalize bndL ns (q : Int) (r : Int) = BL at HFIN ⊢
  generalize bndC ns (q : Int) (r : Int) = BC at HFIN ⊢
  have hgt : ((r : Int) > (q : Int) ∧ M = r) ∨ (¬ (r : Int) > (q : Int) ∧ M = q) := by
    by_cases h : r > q
    · rw [if_pos h] at hM; exact .inl ⟨by omega, by omega⟩
    · rw [if_neg h] at hM; exact .inr ⟨by omega, by omega⟩
  clear hM
  go_enter Tryd.func14, Tryd.ntmps14
  go_wp2_with fail
  refine HCK.out.mono ?_
  rintro e w1 ⟨rfl, hb1⟩
  have HB1 := hide hb1
  clear hb1 HCK
  generalize (formP ns).1 = f1
  have hBa := (Below.refl w1.heap.size w1).alloc (Nat.le_refl _) (.cells (iArr (List.replicate (M + 1) 0)) 3)
  have hx0 := heap_alloc_last w1 (.cells (iArr (List.replicate (M + 1) 0)) 3)
  have hsa : (w1.alloc (.cells (iArr (List.replicate (M + 1) 0)) 3)).heap.size = w1.heap.size + 1 := by simp
  generalize hWa : w1.alloc (.cells (iArr (List.replicate (M + 1) 0)) 3) = Wa at hBa hx0 hmk hsa
  have hx1 := heap_setCell_at (k := q) (v := .int .i64 1) hx0
  rw [iArr_set] at hx1
  have hx2 := heap_setCell_at (k := r) (v := .int .i64 (-1)) hx1
  rw [iArr_set, HCM] at hx2
  have c0 : Wa.cell? ⟨w1.heap.size, q, none⟩ = some (.int .i64 ((List.replicate (M + 1) (0 : Int)).getD q 0)) := by rw [cell_of_row _ _ q _ _ _ hx0, iArr_get _ _ (by simpa using hqn)]
  have f0 : Wa.frozen? ⟨w1.heap.size, q, none⟩ = false := by simp [World.frozen?, hx0]
  have c1 : (Wa.setCell ⟨w1.heap.size, q, none⟩ (.int .i64 1)).cell? ⟨w1.heap.size, r, none⟩ = some (.int .i64 (((List.replicate (M + 1) (0 : Int)).set q 1).getD r 0)) := by rw [cell_of_row _ _ r _ _ _ hx1, iArr_get _ _ (by simpa using hrn)]
  have f1' : (Wa.setCell ⟨w1.heap.size, q, none⟩ (.int .i64 1)).frozen? ⟨w1.heap.size, r, none⟩ = false := by simp [World.frozen?, hx1]
  have hB2 : Below w1.heap.size w1 ((Wa.setCell ⟨w1.heap.size, q, none⟩ (.int .i64 1)).setCell ⟨w1.heap.size, r, none⟩ (.int .i64 (-1))) := (hBa.setCell (Nat.le_refl _) _).setCell (Nat.le_refl _) _
  have hs3 : ((Wa.setCell ⟨w1.heap.size, q, none⟩ (.int .i64 1)).setCell ⟨w1.heap.size, r, none⟩ (.int .i64 (-1))).heap.size = w1.heap.size + 1 := by rw [setCell_size, setCell_size]; exact hsa
  generalize hW3 : (Wa.setCell ⟨w1.heap.size, q, none⟩ (.int .i64 1)).setCell ⟨w1.heap.size, r, none⟩ (.int .i64 (-1)) = W3 at hx2 hB2 hs3
  have HSC := hide (sl_blkO hx2 (by rw [HLC.out]; unfold maxLen; omega) HWF.out)
  have HB3 := hide (below_step HB1.out hB2)
  have HS3 := hide hs3
  clear hx0 hx1 hx2 hBa hB2 hsa hs3 HCM
  generalize (List.replicate (M + 1) (0 : Int)).getD q 0 = zz0 at c0
  generalize ((List.replicate (M + 1) (0 : Int)).set q 1).getD r 0 = zz1 at c1
  have HA1 : Hid (∀ (w4 : World) (g cp : Nat), w4.ownsRow w.heap.size 52 7 (.slice (some ⟨g, 0, none⟩) (0 + 4) cp) (0 + 4) ([] ++ bndO2 (q : Int) (some ⟨w1.heap.size, 0, none⟩) (M + 1) (M + 1)) → (W3.alloc (.cells (bndO2 (q : Int) (some ⟨w1.heap.size, 0, none⟩) (M + 1) (M + 1)).toArray 52)).grownBy w4 none → ((none : Option Nat) = some g ∨ g = (W3.alloc (.cells (bndO2 (q : Int) (some ⟨w1.heap.size, 0, none⟩) (M + 1) (M + 1)).toArray 52)).heap.size) → NwAt w (bndF ns (q : Int) (r : Int)) 4 (.slice (some ⟨g, 0, none⟩) 4 cp) w4 ∧ Below w.heap.size w w4) := fun w4 g cp hown hgrow hat => by
    have hba := (Below.refl W3.heap.size W3).alloc (Nat.le_refl _) (.cells (bndO2 (q : Int) (some ⟨w1.heap.size, 0, none⟩) (M + 1) (M + 1)).toArray 52)
    have hbg : Below (W3.alloc (.cells (bndO2 (q : Int) (some ⟨w1.heap.size, 0, none⟩) (M + 1) (M + 1)).toArray 52)).heap.size (W3.alloc (.cells (bndO2 (q : Int) (some ⟨w1.heap.size, 0, none⟩) (M + 1) (M + 1)).toArray 52)) w4 := Below.grown (Below.refl _ _) hgrow (Nat.le_refl _) (fun k h => by cases h)
    have hb := below_step HB3.out (below_step hba hbg)
    have hsl := sl_below (sl_below HSC.out hba) hbg
    rw [List.nil_append, Nat.zero_add, bndO2_is HLC.out] at hown
    refine ⟨HROW.out w4 _ _ g cp hb hown hsl (fun x hx e => ?_), hb⟩
    have hlt := slB_lt HSC.out hx
    rcases hat with h | h
    · cases h
    · have : (W3.alloc (.cells (bndO2 (q : Int) (some ⟨w1.heap.size, 0, none⟩) (M + 1) (M + 1)).toArray 52)).heap.size = W3.heap.size + 1 := by simp
      omega
  clear HROW
  rcases hgt with ⟨hgt, hMe⟩ | ⟨hgt, hMe⟩
  · subst hMe
    go_wp2_with (first
      | (at_builtin; refine wpList_append_nodes (W3.alloc (.cells (bndO2 (q : Int) (some ⟨w1.heap.size, 0, none⟩) (M + 1) (M + 1)).toArray 52)) rfl _ _ rfl w.heap.size (.slice none 0 0) 0 [] rfl (World.ownsRow_nil _ _ _ _) ⟨W3.heap.size, 0, none⟩ 4 4 (bndO2 (q : Int) (some ⟨w1.heap.size, 0, none⟩) (M + 1) (M + 1)) rfl rfl (news_new W3 _ _) (bndO2_one _ _ _ _) (by decide) (by decide) (by have := HB3.out.size; simp; omega) ?_; intro g cp w4 hown4 hgrow4 hat4; obtain ⟨hN4, hb4⟩ := HA1.out w4 g cp hown4 hgrow4 hat4; obtain ⟨vals, hown5, hnews5, hone5, hnx5⟩ := HMA.out _ w4 hN4; have HO5 := hide hown5; have HN5 := hide hnews5; have HP5 := hide hone5; have HX5 := hide hnx5; have HB4 := hide hb4; clear hown4 hgrow4 hat4 hN4 hb4 hown5 hnews5 hone5 hnx5)
      | (at_builtin; refine wpList_append_nodes w4 rfl _ _ rfl w.heap.size (.slice (some ⟨g, 0, none⟩) 4 cp) 4 vals rfl HO5.out ⟨b, o, none⟩ n cap (ndsL w4 b o n) rfl (ndsL_len _ _ _ _) HN5.out HP5.out (by have := HPOS.out; have := HL.out; omega) (by omega) HB4.out.size ?_; intro g6 cp6 w6 hown6 hgrow6 hat6; have HN6 := hide (HX5.out w6 g6 cp6 hown6 hgrow6 hat6); clear hown6 hgrow6 hat6))
    go_ret2
    exact HFIN.out _ _ HN6.out
  · subst hMe
    go_wp2_with (first
      | (at_builtin; refine wpList_append_nodes (W3.alloc (.cells (bndO2 (M : Int) (some ⟨w1.heap.size, 0, none⟩) (M + 1) (M + 1)).toArray 52)) rfl _ _ rfl w.heap.size (.slice none 0 0) 0 [] rfl (World.ownsRow_nil _ _ _ _) ⟨W3.heap.size, 0, none⟩ 4 4 (bndO2 (M : Int) (some ⟨w1.heap.size, 0, none⟩) (M + 1) (M + 1)) rfl rfl (news_new W3 _ _) (bndO2_one _ _ _ _) (by decide) (by decide) (by have := HB3.out.size; simp; omega) ?_; intro g cp w4 hown4 hgrow4 hat4; obtain ⟨hN4, hb4⟩ := HA1.out w4 g cp hown4 hgrow4 hat4; obtain ⟨vals, hown5, hnews5, hone5, hnx5⟩ := HMA.out _ w4 hN4; have HO5 := hide hown5; have HN5 := hide hnews5; have HP5 := hide hone5; have HX5 := hide hnx5; have HB4 := hide hb4; clear hown4 hgrow4 hat4 hN4 hb4 hown5 hnews5 hone5 hnx5)
      | (at_builtin; refine wpList_append_nodes w4 rfl _ _ rfl w.heap.size (.slice (some ⟨g, 0, none⟩) 4 cp) 4 vals rfl HO5.out ⟨b, o, none⟩ n cap (ndsL w4 b o n) rfl (ndsL_len _ _ _ _) HN5.out HP5.out (by have := HPOS.out; have := HL.out; omega) (by omega) HB4.out.size ?_; intro g6 cp6 w6 hown6 hgrow6 hat6; have HN6 := hide (HX5.out w6 g6 cp6 hown6 hgrow6 hat6); clear hown6 hgrow6 hat6))
    go_ret2
    exact HFIN.out _ _ HN6.out
end Go.Proofs.YtempjeckngamdaaDoor

/- The reference's RenamedOf: its names; contract from that of its nodes. -/
namespace Go.Proofs.YtempjeckngamdaaDoor
open Go.RowKit

theorem nameC_hit {tl : List Int} {i k : Nat} (h : 0 ≤ tl.getD i 0 ∧ tl.getD i 0 < 5) (hk : k < i) (e : tl.getD k 0 = tl.getD i 0) : nameC tl i = 6 := by
  unfold nameC; rw [if_pos h, if_pos ⟨k, hk, e⟩]
theorem nameC_free {tl : List Int} {i : Nat} (h : 0 ≤ tl.getD i 0 ∧ tl.getD i 0 < 5) (hk : ∀ k, k < i → tl.getD k 0 ≠ tl.getD i 0) : nameC tl i = 0 := by
  unfold nameC; rw [if_pos h, if_neg (fun ⟨k, h1, h2⟩ => hk k h1 h2)]
theorem ren_is {n : Nd} (h : ndF n = 0) (tl : List Int) : renN tl n = ⟨n.op, if n.op = 3 ∨ n.op = 4 ∨ n.op = 8 ∨ n.op = 9 then tl.getD n.var.toNat 0 else 0, if n.op = 4 then tl.getD n.oth.toNat 0 else 0, n.wd, n.wd2, n.num, trimL (movL tl n.cf)⟩ := by
  obtain ⟨-, s1, s2, -⟩ := ndF_zero h
  unfold varsP at s1
  unfold renN
  by_cases q : n.op = 3 ∨ n.op = 4 ∨ n.op = 8 ∨ n.op = 9
  · rw [if_pos q, if_pos q]
    by_cases q4 : n.op = 4
    · rw [if_pos q4, if_pos q4]
    · rw [if_neg q4, if_neg q4, (s2 q4).1]
  · rw [if_neg q, if_neg q, s1 q]
    have q4 : ¬ n.op = 4 := by omega
    rw [if_neg q4, if_neg q4, (s2 q4).1]
set_option maxHeartbeats 8000000 in
set_option maxRecDepth 4000 in
theorem renamedOf_no (a : Option Addr) (n cap : Nat) (ns : List Nd) (a2 : Option Addr) (m cap2 : Nat) (tl : List Int) (w : World) (hs : SlF w a n ns) (h2 : Sl w a2 m tl) (hq : renC ns tl ≠ 0) : Calls Tryd.prog 11 #[.slice a n cap, .slice a2 m cap2] w (NodesI w (renL ns tl) (renC ns tl)) := by
  have HCK := hide (formFault_of a n cap ns w hs nodeFault_any)
  have HNIL : Hid (∀ (W : World), SlF W none 0 []) := fun W => ⟨rfl, by decide, (fun x hx => by cases hx), .inl rfl⟩
  have HRC : Hid (renC ns tl = if (formP ns).2 = 0 then namesC tl else (formP ns).2) := rfl
  have hL2 := h2.1
  have hmx := h2.2.1
  unfold maxLen at hmx
  rw [renL_no hq]
  by_cases hz : (formP ns).2 = 0
  · have hrc := HRC.out
    rw [if_pos hz] at hrc
    rw [hrc] at hq ⊢
    rw [hz] at HCK
    clear hrc HRC hs hz
    by_cases h5 : m = 5
    · subst h5
      have HPR := hide (fun k (hk : k < 5) h hc => @namesC_pre tl hL2 k hk h hc)
      have HAL := hide (fun h => @namesC_all tl hL2 h)
      have HS2 := hide h2
      have HQ := hide hq
      clear h2 hL2 hq
      generalize namesC tl = R at HPR HAL HQ ⊢
      go_enter Tryd.func11, Tryd.ntmps11
      go_wp2_with fail
      refine HCK.out.mono ?_
      rintro e w1 ⟨rfl, hb1⟩
      have HB1 := hide hb1
      clear hb1 HCK
      generalize (formP ns).1 = f1
      go_wp2
      go_loopw [8] (fun iv wx => ∃ i : Nat, i ≤ 5 ∧ iv = .int .i64 i ∧ (∀ j, j < i → nameC tl j = 0) ∧ Below w.heap.size w wx) (fun iv _ => 5 - (intOf iv).toNat)
      case atStart => exact ⟨0, by omega, rfl, fun j hj => by omega, HB1.out⟩
      case round =>
        obtain ⟨i, hi, rfl, hz, hb⟩ := hrel
        have HZ := hide hz
        have HBW := hide hb
        clear hz hb
        by_cases hlt : i < 5
        · have hlti : (i : Int) < 5 := by omega
          obtain ⟨bo, oo, rfl, hc⟩ := sl_cell (sl_below HS2.out HBW.out) i hlt
          have HP := hide (HPR.out i hlt HZ.out)
          have HNR : Hid (¬ (0 ≤ tl.getD i 0 ∧ tl.getD i 0 < 5) → nameC tl i = 1) := nameC_range
          have HNH : Hid (0 ≤ tl.getD i 0 ∧ tl.getD i 0 < 5 → ∀ k, k < i → tl.getD k 0 = tl.getD i 0 → nameC tl i = 6) := fun h k hk e => nameC_hit h hk e
          have HNF : Hid (0 ≤ tl.getD i 0 ∧ tl.getD i 0 < 5 → (∀ k, k < i → tl.getD k 0 ≠ tl.getD i 0) → nameC tl i = 0) := fun h hk => nameC_free h hk
          generalize hT : tl.getD i 0 = ti at hc HNR HNH HNF
          have HT := hide hT
          clear hT
          by_cases q1 : ti < 0
          · have hrz := HP.out (by rw [HNR.out (by omega)]; decide)
            rw [HNR.out (by omega)] at hrz
            have HRZ := hide hrz
            clear hrz HP HNR HNH HNF
            go_wp2
            go_ret2
            exact ⟨none, 0, by rw [HRZ.out]; rfl, HNIL.out _, HBW.out⟩
          · by_cases q2 : ti ≥ 5
            · have hrz := HP.out (by rw [HNR.out (by omega)]; decide)
              rw [HNR.out (by omega)] at hrz
              have HRZ := hide hrz
              clear hrz HP HNR HNH HNF
              go_wp2
              go_ret2
              exact ⟨none, 0, by rw [HRZ.out]; rfl, HNIL.out _, HBW.out⟩
            · have HH := hide (HNH.out (by omega))
              have HF := hide (HNF.out (by omega))
              clear HNR HNH HNF
              obtain ⟨wo, hwo⟩ : ∃ wo : World, wo = wr := ⟨_, rfl⟩
              rw [← hwo] at HBW hc ⊢
              clear hwo wr
              go_wp2
              clear hc
              go_loopw [9] (fun kv wx => ∃ k : Nat, k ≤ i ∧ kv = .int .i64 k ∧ (∀ j, j < k → tl.getD j 0 ≠ ti) ∧ Below w.heap.size w wx) (fun kv _ => i - (intOf kv).toNat)
              case atStart => exact ⟨0, by omega, rfl, fun j hj => by omega, HBW.out⟩
              case round =>
                obtain ⟨k, hk, rfl, hz2, hb2⟩ := hrel
                have HZ2 := hide hz2
                have HB2 := hide hb2
                clear hz2 hb2
                by_cases hlt2 : k < i
                · have hlti2 : (k : Int) < (i : Int) := by omega
                  have hk5 : (k : Int) < 5 := by omega
                  obtain ⟨b', o', e', hck⟩ := sl_cell (sl_below HS2.out HB2.out) k (by omega)
                  cases e'
                  obtain ⟨b'', o'', e'', hci⟩ := sl_cell (sl_below HS2.out HB2.out) i hlt
                  cases e''
                  rw [HT.out] at hci
                  have HK := hide (HH.out k hlt2)
                  have HN : Hid (tl.getD k 0 ≠ ti → ∀ j, j < k + 1 → tl.getD j 0 ≠ ti) := fun h j hj => by
                    by_cases e : j = k
                    · subst e; exact h
                    · exact HZ2.out j (by omega)
                  generalize tl.getD k 0 = tk at hck HK HN
                  by_cases q3 : tk = ti
                  · have e3 : (tk == ti) = true := by simpa using q3
                    have hn6 := HK.out q3
                    have hrz := HP.out (by rw [hn6]; decide)
                    rw [hn6] at hrz
                    have HRZ := hide hrz
                    clear hrz HP HK HN q3 hn6
                    go_wp2
                    go_quiet (fail)
                    go_wp2
                    go_ret2
                    exact ⟨none, 0, by rw [HRZ.out]; rfl, HNIL.out _, below_drewN HB2.out _⟩
                  · have e3 : (tk == ti) = false := by simpa using q3
                    have HN2 := hide (HN.out q3)
                    clear HK HN q3
                    go_wp2
                    go_quiet (fail)
                    go_wp2
                    go_roundw
                    case rel => exact ⟨k + 1, by omega, by go_num, HN2.out, below_drewN HB2.out _⟩
                    case measure => simp [intOf]; omega
                · have hlti2 : ¬ (k : Int) < (i : Int) := by omega
                  obtain rfl : k = i := by omega
                  have hn0 := HF.out (fun j hj => by exact HZ2.out j hj)
                  have HNX : Hid (∀ j, j < k + 1 → nameC tl j = 0) := fun j hj => by
                    by_cases e : j = k
                    · subst e; exact hn0
                    · exact HZ.out j (by omega)
                  clear hn0 HF HH HP HZ2
                  go_wp2
                  go_roundw
                  case rel => exact ⟨k + 1, by omega, by go_num, HNX.out, HB2.out⟩
                  case measure => simp [intOf]; omega
        · obtain rfl : i = 5 := by omega
          exact absurd (HAL.out HZ.out) HQ.out
    · have e : namesC tl = 2 := by unfold namesC; rw [if_neg (by omega)]
      rw [e]
      have h5b : ((m : Int) == 5) = false := by simp; omega
      have h5n : ((m : Int) != 5) = true := by simp; omega
      clear h2 hL2 e h5 hq
      go_enter Tryd.func11, Tryd.ntmps11
      go_wp2_with fail
      refine HCK.out.mono ?_
      rintro e w1 ⟨rfl, hb1⟩
      have HB1 := hide hb1
      clear hb1
      generalize (formP ns).1 = f1
      go_wp2
      go_ret2
      exact ⟨none, 0, rfl, HNIL.out _, HB1.out⟩
  · have hrc := HRC.out
    rw [if_neg hz] at hrc
    rw [hrc]
    have hzb : ((formP ns).2 == 0) = false := by simpa using hz
    have hzn : ((formP ns).2 != 0) = true := by simpa using hz
    clear hs hq hz hrc HRC h2 hL2
    generalize formP ns = fp at *
    obtain ⟨f1, f2⟩ := fp
    simp only at HCK hzb hzn ⊢
    go_enter Tryd.func11, Tryd.ntmps11
    go_wp2_with fail
    refine HCK.out.mono ?_
    rintro e w1 ⟨rfl, hb1⟩
    have HB1 := hide hb1
    clear hb1
    go_wp2
    go_ret2
    exact ⟨none, 0, rfl, HNIL.out _, HB1.out⟩
end Go.Proofs.YtempjeckngamdaaDoor

/- The reference's RenamedOf, of a formula that is right: contract. -/
namespace Go.Proofs.YtempjeckngamdaaDoor
open Go.RowKit

abbrev mO (op wd wd2 num var oth : Int) (a : Option Addr) (l c : Nat) : Obj := .cells #[.int .i64 op, .int .i64 var, .int .i64 oth, .int .i64 wd, .int .i64 wd2, .int .i64 num, .slice a l c] 52
set_option maxHeartbeats 16000000 in
set_option maxRecDepth 8000 in
theorem renamedOf_ok (a : Option Addr) (n cap : Nat) (ns : List Nd) (a2 : Option Addr) (cap2 : Nat) (tl : List Int) (w : World) (hs : SlF w a n ns) (h2 : Sl w a2 5 tl) (hz : (formP ns).2 = 0) (hN : Names5 tl) (hrc : renC ns tl = 0) : Calls Tryd.prog 11 #[.slice a n cap, .slice a2 5 cap2] w (NodesI w (renL ns tl) (renC ns tl)) := by
  have HCK := hide (formFault_of a n cap ns w hs nodeFault_any)
  rw [hz] at HCK
  obtain ⟨t, he, hok, hn40, -⟩ := form_tree hz
  have hL := hs.1
  have hn : n ≤ 40 := by omega
  have hall : ∀ x ∈ ns, ndF x = 0 := by rw [he]; exact ok_ndF t hok
  rw [renL_ok hrc, hrc]
  have HEND : Hid (∀ v wr, NwAt w (fun j => renN tl (ns.getD j zNd)) n v wr → NodesI w (ns.map (renN tl)) 0 (.returned (.tuple #[v, .int .i64 0])) wr) := fun v wr h => by
    have hb := nwAt_b h
    have hLL : (ns.map (renN tl)).length = n := by simpa using hL
    obtain ⟨a, cap, e1, e2⟩ := nwAt_end h (by unfold maxLen; omega) (ns.map (renN tl)) hLL (fun j hj => by simp [List.getD, show j < ns.length by omega]) (fun x hx => by
      obtain ⟨y, hy, rfl⟩ := List.mem_map.1 hx
      exact ren_wf (hall y hy) hN)
    exact ⟨a, cap, by rw [hLL, e1], by rw [hLL]; exact e2, hb⟩
  have HAL : Hid (∀ k, k < n → ndF (ns.getD k zNd) = 0) := fun k hk => hall _ (by simp [List.getD, show k < ns.length by omega])
  have HS := hide hs
  have HS2 := hide h2
  have HNM := hide hN
  have hmk : ∀ W : World, (Instr.makeSlice 23 (.int .i64 5) (.int .i64 5)).run Tryd.prog W = .ok (.slice (some ⟨W.heap.size, 0, none⟩) 5 5) (W.alloc (.cells (iArr zer5) 3)) := fun W => by
    have h := make_ints 5 (by decide) W
    rw [made_iArr] at h
    exact h
  clear hs h2 hz he hok hn40 hL hall hrc hN
  generalize ns.map (renN tl) = RL at HEND ⊢
  go_enter Tryd.func11, Tryd.ntmps11
  go_wp2_with fail
  refine HCK.out.mono ?_
  rintro e w1 ⟨rfl, hb1⟩
  have HB1 := hide hb1
  clear hb1 HCK
  generalize (formP ns).1 = f1
  go_wp2
  go_loopw [8] (fun iv wx => ∃ i : Nat, i ≤ 5 ∧ iv = .int .i64 i ∧ Below w.heap.size w wx) (fun iv _ => 5 - (intOf iv).toNat)
  case atStart => exact ⟨0, by omega, rfl, HB1.out⟩
  case round =>
    obtain ⟨i, hi, rfl, hb⟩ := hrel
    have HBW := hide hb
    clear hb
    by_cases hlt : i < 5
    · have hlti : (i : Int) < 5 := by omega
      obtain ⟨bo, oo, rfl, hc⟩ := sl_cell (sl_below HS2.out HBW.out) i hlt
      have hrg := HNM.out.2.1 i hlt
      have HIJ : Hid (∀ k, k < i → tl.getD k 0 ≠ tl.getD i 0) := fun k hk e => by have := HNM.out.2.2 k i (by omega) hlt e; omega
      generalize hT : tl.getD i 0 = ti at hc hrg HIJ
      have HT := hide hT
      clear hT
      have q1 : ¬ ti < 0 := by omega
      have q2 : ¬ ti ≥ 5 := by omega
      clear hrg
      obtain ⟨wo, hwo⟩ : ∃ wo : World, wo = wr := ⟨_, rfl⟩
      rw [← hwo] at HBW hc ⊢
      clear hwo wr
      go_wp2
      clear hc
      go_loopw [9] (fun kv wx => ∃ k : Nat, k ≤ i ∧ kv = .int .i64 k ∧ Below w.heap.size w wx) (fun kv _ => i - (intOf kv).toNat)
      case atStart => exact ⟨0, by omega, rfl, HBW.out⟩
      case round =>
        obtain ⟨k, hk, rfl, hb2⟩ := hrel
        have HB2 := hide hb2
        clear hb2
        by_cases hlt2 : k < i
        · have hlti2 : (k : Int) < (i : Int) := by omega
          have hk5 : (k : Int) < 5 := by omega
          obtain ⟨b', o', e', hck⟩ := sl_cell (sl_below HS2.out HB2.out) k (by omega)
          cases e'
          obtain ⟨b'', o'', e'', hci⟩ := sl_cell (sl_below HS2.out HB2.out) i hlt
          cases e''
          rw [HT.out] at hci
          have q3 := HIJ.out k hlt2
          generalize tl.getD k 0 = tk at hck q3
          have e3 : (tk == ti) = false := by simpa using q3
          clear q3
          go_wp2
          go_quiet (fail)
          go_wp2
          go_roundw
          case rel => exact ⟨k + 1, by omega, by go_num, below_drewN HB2.out _⟩
          case measure => simp [intOf]; omega
        · have hlti2 : ¬ (k : Int) < (i : Int) := by omega
          obtain rfl : k = i := by omega
          clear HIJ
          go_wp2
          go_roundw
          case rel => exact ⟨k + 1, by omega, by go_num, HB2.out⟩
          case measure => simp [intOf]; omega
    · have hlti : ¬ (i : Int) < 5 := by omega
      obtain rfl : i = 5 := by omega
      obtain ⟨w2, hw2⟩ : ∃ w2 : World, w2 = wr := ⟨_, rfl⟩
      rw [← hw2] at HBW ⊢
      clear hw2 wr
      have HN0 := hide (nwAt_below (nwAt_below (nwAt_nil w (fun j => renN tl (ns.getD j zNd))) HBW.out) (Below.refl _ _))
      go_wp2
      go_loopw [10, 11] (fun v kv wx => ∃ k : Nat, k ≤ n ∧ kv = .int .i64 k ∧ NwAt w (fun j => renN tl (ns.getD j zNd)) k v wx) (fun _ kv _ => n - (intOf kv).toNat)
      case atStart => exact ⟨0, by omega, rfl, HN0.out⟩
      case round =>
        obtain ⟨k, hk, rfl, hNW⟩ := hrel
        have HNW := hide hNW
        by_cases hlt : k < n
        · obtain ⟨wq, hwq⟩ : ∃ wq : World, wq = wr := ⟨_, rfl⟩
          rw [← hwq] at HNW hNW ⊢
          clear hwq wr
          have hlti : (k : Int) < (n : Int) := by omega
          have hbw := nwAt_b hNW
          obtain ⟨bb, oo, a', c', rfl, x0, x1, x2, x3, x4, x5, x6, hsl⟩ := slF_cell (slF_below HS.out hbw) k hlt
          have HPU := hide (fun (w2 : World) (a5 : Option Addr) (c5 : Nat) (hb : Below wq.heap.size wq w2) (hs5 : SlN wq.heap.size w2 a5 (renN tl (ns.getD k zNd)).cf.length (renN tl (ns.getD k zNd)).cf) => nwAt_push (cap := c5) hNW hb hs5)
          have hnd := HAL.out k hlt
          have hri := ren_is hnd tl
          have h5c := nd_parts hnd
          have hvr := (ndF_zero hnd).1.2.1
          have hvo := (ndF_zero hnd).1.2.2.1
          unfold varsP at hvr
          have HSW := hide hsl
          have HBw := hide hbw
          have HS2w := hide (sl_below HS2.out hbw)
          generalize ns.getD k zNd = nd at x0 x1 x2 x3 x4 x5 x6 hsl HPU hri h5c hvr hvo hnd HSW
          rw [hri] at HPU
          obtain ⟨op, var, oth, wd, wd2, num, cf⟩ := nd
          simp only at x0 x1 x2 x3 x4 x5 x6 HPU h5c hvr hvo HSW
          clear hsl hbw hNW hri hnd
          by_cases q389 : op = 3 ∨ op = 8 ∨ op = 9
          · have hvv := hvr (by omega)
            rw [if_pos (by omega), if_neg (by omega)] at HPU
            obtain ⟨u, rfl⟩ : ∃ u : Nat, var = (u : Int) := ⟨var.toNat, by omega⟩
            rw [Int.toNat_natCast] at HPU
            have hu5 : u < 5 := by omega
            have hu5i : (u : Int) < 5 := by omega
            have hq1 := (Below.refl wq.heap.size wq).alloc (Nat.le_refl _) (ndO ⟨op, (u : Int), oth, wd, wd2, num, cf⟩ a' c')
            have hq2 := hq1.alloc hq1.size (mO op wd wd2 num 0 0 none 0 0)
            obtain ⟨bx, ox, ex, hcx⟩ := sl_cell (sl_below HS2w.out hq2) u hu5
            subst ex
            have e4 : (op == 4) = false := by simp; omega
            have e389 : (op == 3) = true ∨ ((op == 3) = false ∧ (op == 8) = true) ∨ ((op == 3) = false ∧ (op == 8) = false ∧ (op == 9) = true) := by
              rcases q389 with h | h | h
              · exact .inl (by simp [h])
              · exact .inr (.inl ⟨by simp [h], by simp [h]⟩)
              · exact .inr (.inr ⟨by simp [h], by simp [h], by simp [h]⟩)
            clear q389 hvr hvo hvv hq1 hq2
            generalize tl.getD u 0 = nv at hcx HPU
            rcases e389 with e3 | ⟨e3, e8⟩ | ⟨e3, e8, e9⟩
            all_goals
              have hB1 := (Below.refl wq.heap.size wq).alloc (Nat.le_refl _) (ndO ⟨op, (u : Int), oth, wd, wd2, num, cf⟩ a' c')
              have hB2 := hB1.alloc hB1.size (mO op wd wd2 num nv 0 none 0 0)
              have HB3 := hide (hB2.alloc hB2.size (.cells (iArr zer5) 3))
              have HX0 := hide (heap_alloc3_fst wq (ndO ⟨op, (u : Int), oth, wd, wd2, num, cf⟩ a' c') (mO op wd wd2 num nv 0 none 0 0) (.cells (iArr zer5) 3))
              have HX1 := hide (heap3_snd wq (ndO ⟨op, (u : Int), oth, wd, wd2, num, cf⟩ a' c') (mO op wd wd2 num nv 0 none 0 0) (.cells (iArr zer5) 3))
              have HX2 : Hid ((((wq.alloc (ndO ⟨op, (u : Int), oth, wd, wd2, num, cf⟩ a' c')).alloc (mO op wd wd2 num nv 0 none 0 0)).alloc (.cells (iArr zer5) 3)).heap[wq.heap.size + 1 + 1]? = some (.cells (iArr (movK tl cf 0)) 3 (0, 0))) := heap_alloc3_last wq _ _ _
              clear hB1 hB2
              go_wp2
              generalize hW3 : ((wq.alloc (ndO ⟨op, (u : Int), oth, wd, wd2, num, cf⟩ a' c')).alloc (mO op wd wd2 num nv 0 none 0 0)).alloc (.cells (iArr zer5) 3) = W3 at HX0 HX1 HX2 HB3 ⊢
              clear hW3 hcx x0 x1 x2 x3 x4 x5 x6
              go_loopw [15, 16] (fun lv jv wx => ∃ j : Nat, j ≤ cf.length ∧ jv = .int .i64 j ∧ lv = .int .i64 ((lastN (movK tl cf j) 5 : Nat) : Int) ∧ wx.heap[wq.heap.size]? = some (ndO ⟨op, (u : Int), oth, wd, wd2, num, cf⟩ a' c') ∧ wx.heap[wq.heap.size + 1]? = some (mO op wd wd2 num nv 0 none 0 0) ∧ wx.heap[wq.heap.size + 1 + 1]? = some (.cells (iArr (movK tl cf j)) 3 (0, 0)) ∧ Below wq.heap.size wq wx) (fun _ jv _ => cf.length - (intOf jv).toNat)
              case atStart => exact ⟨0, by omega, rfl, rfl, HX0.out, HX1.out, HX2.out, HB3.out⟩
              case round =>
                obtain ⟨j, hj, rfl, rfl, g0, g1, g2, hb⟩ := hrel
                have HG0 := hide g0
                have HG1 := hide g1
                have HG2 := hide g2
                have HBJ := hide hb
                clear g1 hb
                by_cases hltj : j < cf.length
                · have hltji : (j : Int) < (cf.length : Int) := by omega
                  have hj5 : (j : Int) < 5 := by omega
                  have hrg := HNM.out.2.1 j (by omega)
                  obtain ⟨q, hq⟩ : ∃ q : Nat, tl.getD j 0 = ((q : Nat) : Int) := ⟨(tl.getD j 0).toNat, by omega⟩
                  have hq5 : q < 5 := by omega
                  have hq5i : (q : Int) < 5 := by omega
                  have HST : Hid (movK tl cf (j + 1) = (movK tl cf j).set q (cf.getD j 0)) := by show _ = _; rw [movK, hq, Int.toNat_natCast]
                  have HLS : Hid (lastN (movK tl cf (j + 1)) 5 = if cf.getD j 0 ≠ 0 ∧ lastN (movK tl cf j) 5 ≤ q then q + 1 else lastN (movK tl cf j) 5) := by
                    show _ = _
                    have h := lastN_set (l := movK tl cf j) (j := q) (cf.getD j 0) (by rw [movK_len]; exact hq5) (by have := movK_fresh HNM.out cf j (by omega); rw [hq, Int.toNat_natCast] at this; exact this)
                    rw [movK_len] at h
                    rw [HST.out]
                    exact h
                  have HCE : Hid (∀ W, Below wq.heap.size wq W → W.heap[wq.heap.size]? = some (ndO ⟨op, (u : Int), oth, wd, wd2, num, cf⟩ a' c') → ∃ b1 o1 b2 o2, a' = some ⟨b1, o1, none⟩ ∧ (some ⟨bx, ox, none⟩ : Option Addr) = some ⟨b2, o2, none⟩ ∧ W.cell? ⟨b1, o1 + j, none⟩ = some (.int .i64 (cf.getD j 0)) ∧ W.cell? ⟨b2, o2 + j, none⟩ = some (.int .i64 ((q : Nat) : Int)) ∧ W.cell? ⟨wq.heap.size, 6, none⟩ = some (.slice a' cf.length c')) := fun W hb h0 => by
                    obtain ⟨b1, o1, e1, h1⟩ := sl_cell (sl_below HSW.out hb) j hltj
                    obtain ⟨b2, o2, e2, h2⟩ := sl_cell (sl_below HS2w.out hb) j (by omega)
                    rw [hq] at h2
                    exact ⟨b1, o1, b2, o2, e1, e2, h1, h2, (box7_cells h0).1.2.2.2.2.2.2⟩
                  have hll := lastN_le (movK tl cf j) 5
                  obtain ⟨b1, o1, b2, o2, ea1, ea2, hc1, hc2, hc6⟩ := HCE.out wr HBJ.out g0
                  have hcm : wr.drew.cell? ⟨wq.heap.size + 1 + 1, q, none⟩ = some (.int .i64 ((movK tl cf j).getD q 0)) := by
                    rw [cell_of_row wr.drew _ q _ _ _ HG2.out, iArr_get _ _ (by rw [movK_len]; exact hq5)]
                  have hfm : wr.drew.frozen? ⟨wq.heap.size + 1 + 1, q, none⟩ = false := by
                    have h : wr.drew.heap[wq.heap.size + 1 + 1]? = _ := HG2.out
                    simp [World.frozen?, h]
                  have hd1 : wr.drew.cell? ⟨b1, o1 + j, none⟩ = some (.int .i64 (cf.getD j 0)) := hc1
                  have hd2 : wr.drew.cell? ⟨b2, o2 + j, none⟩ = some (.int .i64 ((q : Nat) : Int)) := hc2
                  have hd6 : wr.drew.cell? ⟨wq.heap.size, 6, none⟩ = some (.slice a' cf.length c') := hc6
                  have k0 : ((wr.setCell ⟨wq.heap.size + 1 + 1, q, none⟩ (.int .i64 (cf.getD j 0))).drew).heap[wq.heap.size]? = some (ndO ⟨op, (u : Int), oth, wd, wd2, num, cf⟩ a' c') := (Below.heap_setCell _ _ _ _ (show wq.heap.size ≠ wq.heap.size + 1 + 1 by omega)).trans HG0.out
                  have k1 : ((wr.setCell ⟨wq.heap.size + 1 + 1, q, none⟩ (.int .i64 (cf.getD j 0))).drew).heap[wq.heap.size + 1]? = some (mO op wd wd2 num nv 0 none 0 0) := (Below.heap_setCell _ _ _ _ (show wq.heap.size + 1 ≠ wq.heap.size + 1 + 1 by omega)).trans HG1.out
                  have k2 : ((wr.setCell ⟨wq.heap.size + 1 + 1, q, none⟩ (.int .i64 (cf.getD j 0))).drew).heap[wq.heap.size + 1 + 1]? = some (.cells (iArr (movK tl cf (j + 1))) 3 (0, 0)) := by
                    have h := heap_setCell_at (k := q) (v := .int .i64 (cf.getD j 0)) HG2.out
                    rw [iArr_set, ← HST.out] at h
                    exact h
                  have kb : Below wq.heap.size wq ((wr.setCell ⟨wq.heap.size + 1 + 1, q, none⟩ (.int .i64 (cf.getD j 0))).drew) := (HBJ.out.setCell (show wq.heap.size ≤ wq.heap.size + 1 + 1 by omega) _).drew
                  cases ea1
                  cases ea2
                  clear hrg hq g0 g2 HST hc1 hc2
                  generalize cf.getD j 0 = z at *
                  generalize (movK tl cf j).getD q 0 = y at hcm
                  generalize lastN (movK tl cf j) 5 = lN at HLS hll ⊢
                  go_wp2
                  go_region
                  generalize (wr.setCell ⟨wq.heap.size + 1 + 1, q, none⟩ (.int .i64 z)).drew = Wd at k0 k1 k2 kb ⊢
                  clear hcm hfm hd1 hd2 hd6 hc6
                  obtain ⟨b1', o1', b2', o2', ea1, ea2, hc1, hc2, hc6⟩ := HCE.out Wd kb k0
                  cases ea1
                  cases ea2
                  have HK0 := hide k0
                  have HK1 := hide k1
                  have HK2 := hide k2
                  have HKB := hide kb
                  clear k0 k1 k2 kb HCE
                  by_cases hz0 : z = 0
                  · have ez : (z == 0) = true := by simpa using hz0
                    have nz : (z != 0) = false := by simpa using hz0
                    have hl := HLS.out
                    rw [if_neg (fun h => h.1 hz0)] at hl
                    have HL2 := hide hl
                    clear hz0 hl HLS
                    go_wp2
                    go_roundw
                    case rel => exact ⟨j + 1, by omega, by go_num, by rw [HL2.out], HK0.out, HK1.out, HK2.out, HKB.out⟩
                    case measure => simp [intOf]; omega
                  · have ez : (z == 0) = false := by simpa using hz0
                    have nz : (z != 0) = true := by simpa using hz0
                    by_cases hge : (q : Int) ≥ (lN : Int)
                    · have hl := HLS.out
                      rw [if_pos ⟨hz0, by omega⟩] at hl
                      have HL2 := hide hl
                      clear hz0 hl HLS
                      go_wp2
                      go_roundw
                      case rel => exact ⟨j + 1, by omega, by go_num, by rw [HL2.out]; simp, HK0.out, HK1.out, HK2.out, HKB.out⟩
                      case measure => simp [intOf]; omega
                    · have hl := HLS.out
                      rw [if_neg (by omega)] at hl
                      have HL2 := hide hl
                      clear hz0 hl HLS
                      go_wp2
                      go_roundw
                      case rel => exact ⟨j + 1, by omega, by go_num, by rw [HL2.out], HK0.out, HK1.out, HK2.out, HKB.out⟩
                      case measure => simp [intOf]; omega
                · have hltji : ¬ (j : Int) < (cf.length : Int) := by omega
                  obtain rfl : j = cf.length := by omega
                  have htl : (trimL (movL tl cf)).length = lastN (movK tl cf cf.length) 5 := by rw [trim_len]; unfold movL; rw [movK_len]
                  have hT5 := lastN_le (movK tl cf cf.length) 5
                  have htk : trimL (movL tl cf) = (movK tl cf cf.length).take (lastN (movK tl cf cf.length) 5) := by unfold trimL movL; rw [movK_len]
                  have hsr := sl_blkO HG2.out (by rw [movK_len]; unfold maxLen; omega) (movK_wf (tl := tl) HSW.out.2.2.1 cf.length)
                  rw [movK_len] at hsr
                  have hst := sl_front hsr hT5
                  rw [← htk] at hst
                  generalize trimL (movL tl cf) = tr at HPU htl hst
                  clear htk hsr
                  rw [← htl] at hT5 hst ⊢
                  clear htl
                  have hT5i : (tr.length : Int) ≤ 5 := by omega
                  have k1' : (wr.setCell ⟨wq.heap.size + 1, 6, none⟩ (.slice (some ⟨wq.heap.size + 1 + 1, 0, none⟩) tr.length 5)).heap[wq.heap.size + 1]? = some (mO op wd wd2 num nv 0 (some ⟨wq.heap.size + 1 + 1, 0, none⟩) tr.length 5) := heap_setCell_at (k := 6) (v := .slice (some ⟨wq.heap.size + 1 + 1, 0, none⟩) tr.length 5) HG1.out
                  have hb5 : Below wq.heap.size wq (wr.setCell ⟨wq.heap.size + 1, 6, none⟩ (.slice (some ⟨wq.heap.size + 1 + 1, 0, none⟩) tr.length 5)) := HBJ.out.setCell (show wq.heap.size ≤ wq.heap.size + 1 by omega) _
                  have hs5 : SlN wq.heap.size (wr.setCell ⟨wq.heap.size + 1, 6, none⟩ (.slice (some ⟨wq.heap.size + 1 + 1, 0, none⟩) tr.length 5)) (some ⟨wq.heap.size + 1 + 1, 0, none⟩) tr.length tr := by
                    refine ⟨sl_keep hst (fun x hx => ?_), fun ad e => by cases e; show wq.heap.size ≤ wq.heap.size + 1 + 1; omega⟩
                    obtain ⟨_, ad, e, rfl⟩ := hx
                    cases e
                    exact Below.heap_setCell _ _ _ _ (show wq.heap.size + 1 + 1 ≠ wq.heap.size + 1 by omega)
                  obtain ⟨⟨z0, z1, z2, z3, z4, z5, z6⟩, -⟩ := box7_cells HG1.out
                  obtain ⟨f0, f1', f2, f3, f4, f5, f6⟩ := box7_froz HG1.out
                  obtain ⟨c0, c1, c2, c3, c4, c5, c6⟩ := (box7_cells g0).1
                  obtain ⟨vals, hown5, hsz5, hnx5⟩ := HPU.out _ _ 5 hb5 hs5
                  generalize hW5 : wr.setCell ⟨wq.heap.size + 1, 6, none⟩ (.slice (some ⟨wq.heap.size + 1 + 1, 0, none⟩) tr.length 5) = W5 at k1' hb5 hs5 hown5 hsz5 hnx5
                  obtain ⟨⟨t0, t1, t2, t3, t4, t5, t6⟩, -⟩ := box7_cells k1'
                  have HOWN := hide hown5
                  have HSZ5 := hide hsz5
                  have HNX := hide hnx5
                  clear hown5 hsz5 hnx5 hs5 hb5 k1' g0 g2 hst
                  go_wp2_with (at_builtin; refine wpList_append_node W5 rfl _ _ rfl w.heap.size u10 k vals rfl HOWN.out ⟨op, nv, 0, wd, wd2, num, tr⟩ (some ⟨wq.heap.size + 1 + 1, 0, none⟩) 5 rfl (by omega) HSZ5.out ?_; intro g' cap' w7 hown7 hgrow7 hat7; have HN7 := hide (HNX.out w7 _ g' cap' hown7 hgrow7 hat7); clear hown7 hgrow7 hat7)
                  go_roundw
                  case rel => exact ⟨k + 1, by omega, by go_num, HN7.out⟩
                  case measure => simp [intOf]; omega
          · by_cases q4 : op = 4
            · have hvv := hvr (by omega)
              have hoo := hvo q4
              rw [if_pos (by omega), if_pos q4] at HPU
              obtain ⟨u, rfl⟩ : ∃ u : Nat, var = (u : Int) := ⟨var.toNat, by omega⟩
              obtain ⟨u2, rfl⟩ : ∃ u : Nat, oth = (u : Int) := ⟨oth.toNat, by omega⟩
              rw [Int.toNat_natCast, Int.toNat_natCast] at HPU
              have hu5 : u < 5 := by omega
              have hu5i : (u : Int) < 5 := by omega
              have hu6 : u2 < 5 := by omega
              have hu6i : (u2 : Int) < 5 := by omega
              have hq1 := (Below.refl wq.heap.size wq).alloc (Nat.le_refl _) (ndO ⟨op, (u : Int), (u2 : Int), wd, wd2, num, cf⟩ a' c')
              have hq2 := hq1.alloc hq1.size (mO op wd wd2 num 0 0 none 0 0)
              have hq3 := hq1.alloc hq1.size (mO op wd wd2 num (tl.getD u 0) 0 none 0 0)
              obtain ⟨bx, ox, ex, hcx⟩ := sl_cell (sl_below HS2w.out hq2) u hu5
              subst ex
              obtain ⟨by_, oy, ey, hcy⟩ := sl_cell (sl_below HS2w.out hq3) u2 hu6
              cases ey
              have e3 : (op == 3) = false := by simp; omega
              have e4 : (op == 4) = true := by simpa using q4
              clear q389 q4 hvr hvo hvv hoo hq1 hq2 hq3
              generalize tl.getD u 0 = nv at hcx hcy HPU
              generalize tl.getD u2 0 = no at hcy HPU
              have hB1 := (Below.refl wq.heap.size wq).alloc (Nat.le_refl _) (ndO ⟨op, (u : Int), (u2 : Int), wd, wd2, num, cf⟩ a' c')
              have hB2 := hB1.alloc hB1.size (mO op wd wd2 num nv no none 0 0)
              have HB3 := hide (hB2.alloc hB2.size (.cells (iArr zer5) 3))
              have HX0 := hide (heap_alloc3_fst wq (ndO ⟨op, (u : Int), (u2 : Int), wd, wd2, num, cf⟩ a' c') (mO op wd wd2 num nv no none 0 0) (.cells (iArr zer5) 3))
              have HX1 := hide (heap3_snd wq (ndO ⟨op, (u : Int), (u2 : Int), wd, wd2, num, cf⟩ a' c') (mO op wd wd2 num nv no none 0 0) (.cells (iArr zer5) 3))
              have HX2 : Hid ((((wq.alloc (ndO ⟨op, (u : Int), (u2 : Int), wd, wd2, num, cf⟩ a' c')).alloc (mO op wd wd2 num nv no none 0 0)).alloc (.cells (iArr zer5) 3)).heap[wq.heap.size + 1 + 1]? = some (.cells (iArr (movK tl cf 0)) 3 (0, 0))) := heap_alloc3_last wq _ _ _
              clear hB1 hB2
              go_wp2
              generalize hW3 : ((wq.alloc (ndO ⟨op, (u : Int), (u2 : Int), wd, wd2, num, cf⟩ a' c')).alloc (mO op wd wd2 num nv no none 0 0)).alloc (.cells (iArr zer5) 3) = W3 at HX0 HX1 HX2 HB3 ⊢
              clear hW3 hcx hcy x0 x1 x2 x3 x4 x5 x6
              go_loopw [15, 16] (fun lv jv wx => ∃ j : Nat, j ≤ cf.length ∧ jv = .int .i64 j ∧ lv = .int .i64 ((lastN (movK tl cf j) 5 : Nat) : Int) ∧ wx.heap[wq.heap.size]? = some (ndO ⟨op, (u : Int), (u2 : Int), wd, wd2, num, cf⟩ a' c') ∧ wx.heap[wq.heap.size + 1]? = some (mO op wd wd2 num nv no none 0 0) ∧ wx.heap[wq.heap.size + 1 + 1]? = some (.cells (iArr (movK tl cf j)) 3 (0, 0)) ∧ Below wq.heap.size wq wx) (fun _ jv _ => cf.length - (intOf jv).toNat)
              case atStart => exact ⟨0, by omega, rfl, rfl, HX0.out, HX1.out, HX2.out, HB3.out⟩
              case round =>
                obtain ⟨j, hj, rfl, rfl, g0, g1, g2, hb⟩ := hrel
                have HG0 := hide g0
                have HG1 := hide g1
                have HG2 := hide g2
                have HBJ := hide hb
                clear g1 hb
                by_cases hltj : j < cf.length
                · have hltji : (j : Int) < (cf.length : Int) := by omega
                  have hj5 : (j : Int) < 5 := by omega
                  have hrg := HNM.out.2.1 j (by omega)
                  obtain ⟨q, hq⟩ : ∃ q : Nat, tl.getD j 0 = ((q : Nat) : Int) := ⟨(tl.getD j 0).toNat, by omega⟩
                  have hq5 : q < 5 := by omega
                  have hq5i : (q : Int) < 5 := by omega
                  have HST : Hid (movK tl cf (j + 1) = (movK tl cf j).set q (cf.getD j 0)) := by show _ = _; rw [movK, hq, Int.toNat_natCast]
                  have HLS : Hid (lastN (movK tl cf (j + 1)) 5 = if cf.getD j 0 ≠ 0 ∧ lastN (movK tl cf j) 5 ≤ q then q + 1 else lastN (movK tl cf j) 5) := by
                    show _ = _
                    have h := lastN_set (l := movK tl cf j) (j := q) (cf.getD j 0) (by rw [movK_len]; exact hq5) (by have := movK_fresh HNM.out cf j (by omega); rw [hq, Int.toNat_natCast] at this; exact this)
                    rw [movK_len] at h
                    rw [HST.out]
                    exact h
                  have HCE : Hid (∀ W, Below wq.heap.size wq W → W.heap[wq.heap.size]? = some (ndO ⟨op, (u : Int), (u2 : Int), wd, wd2, num, cf⟩ a' c') → ∃ b1 o1 b2 o2, a' = some ⟨b1, o1, none⟩ ∧ (some ⟨bx, ox, none⟩ : Option Addr) = some ⟨b2, o2, none⟩ ∧ W.cell? ⟨b1, o1 + j, none⟩ = some (.int .i64 (cf.getD j 0)) ∧ W.cell? ⟨b2, o2 + j, none⟩ = some (.int .i64 ((q : Nat) : Int)) ∧ W.cell? ⟨wq.heap.size, 6, none⟩ = some (.slice a' cf.length c')) := fun W hb h0 => by
                    obtain ⟨b1, o1, e1, h1⟩ := sl_cell (sl_below HSW.out hb) j hltj
                    obtain ⟨b2, o2, e2, h2⟩ := sl_cell (sl_below HS2w.out hb) j (by omega)
                    rw [hq] at h2
                    exact ⟨b1, o1, b2, o2, e1, e2, h1, h2, (box7_cells h0).1.2.2.2.2.2.2⟩
                  have hll := lastN_le (movK tl cf j) 5
                  obtain ⟨b1, o1, b2, o2, ea1, ea2, hc1, hc2, hc6⟩ := HCE.out wr HBJ.out g0
                  have hcm : wr.drew.cell? ⟨wq.heap.size + 1 + 1, q, none⟩ = some (.int .i64 ((movK tl cf j).getD q 0)) := by
                    rw [cell_of_row wr.drew _ q _ _ _ HG2.out, iArr_get _ _ (by rw [movK_len]; exact hq5)]
                  have hfm : wr.drew.frozen? ⟨wq.heap.size + 1 + 1, q, none⟩ = false := by
                    have h : wr.drew.heap[wq.heap.size + 1 + 1]? = _ := HG2.out
                    simp [World.frozen?, h]
                  have hd1 : wr.drew.cell? ⟨b1, o1 + j, none⟩ = some (.int .i64 (cf.getD j 0)) := hc1
                  have hd2 : wr.drew.cell? ⟨b2, o2 + j, none⟩ = some (.int .i64 ((q : Nat) : Int)) := hc2
                  have hd6 : wr.drew.cell? ⟨wq.heap.size, 6, none⟩ = some (.slice a' cf.length c') := hc6
                  have k0 : ((wr.setCell ⟨wq.heap.size + 1 + 1, q, none⟩ (.int .i64 (cf.getD j 0))).drew).heap[wq.heap.size]? = some (ndO ⟨op, (u : Int), (u2 : Int), wd, wd2, num, cf⟩ a' c') := (Below.heap_setCell _ _ _ _ (show wq.heap.size ≠ wq.heap.size + 1 + 1 by omega)).trans HG0.out
                  have k1 : ((wr.setCell ⟨wq.heap.size + 1 + 1, q, none⟩ (.int .i64 (cf.getD j 0))).drew).heap[wq.heap.size + 1]? = some (mO op wd wd2 num nv no none 0 0) := (Below.heap_setCell _ _ _ _ (show wq.heap.size + 1 ≠ wq.heap.size + 1 + 1 by omega)).trans HG1.out
                  have k2 : ((wr.setCell ⟨wq.heap.size + 1 + 1, q, none⟩ (.int .i64 (cf.getD j 0))).drew).heap[wq.heap.size + 1 + 1]? = some (.cells (iArr (movK tl cf (j + 1))) 3 (0, 0)) := by
                    have h := heap_setCell_at (k := q) (v := .int .i64 (cf.getD j 0)) HG2.out
                    rw [iArr_set, ← HST.out] at h
                    exact h
                  have kb : Below wq.heap.size wq ((wr.setCell ⟨wq.heap.size + 1 + 1, q, none⟩ (.int .i64 (cf.getD j 0))).drew) := (HBJ.out.setCell (show wq.heap.size ≤ wq.heap.size + 1 + 1 by omega) _).drew
                  cases ea1
                  cases ea2
                  clear hrg hq g0 g2 HST hc1 hc2
                  generalize cf.getD j 0 = z at *
                  generalize (movK tl cf j).getD q 0 = y at hcm
                  generalize lastN (movK tl cf j) 5 = lN at HLS hll ⊢
                  go_wp2
                  go_region
                  generalize (wr.setCell ⟨wq.heap.size + 1 + 1, q, none⟩ (.int .i64 z)).drew = Wd at k0 k1 k2 kb ⊢
                  clear hcm hfm hd1 hd2 hd6 hc6
                  obtain ⟨b1', o1', b2', o2', ea1, ea2, hc1, hc2, hc6⟩ := HCE.out Wd kb k0
                  cases ea1
                  cases ea2
                  have HK0 := hide k0
                  have HK1 := hide k1
                  have HK2 := hide k2
                  have HKB := hide kb
                  clear k0 k1 k2 kb HCE
                  by_cases hz0 : z = 0
                  · have ez : (z == 0) = true := by simpa using hz0
                    have nz : (z != 0) = false := by simpa using hz0
                    have hl := HLS.out
                    rw [if_neg (fun h => h.1 hz0)] at hl
                    have HL2 := hide hl
                    clear hz0 hl HLS
                    go_wp2
                    go_roundw
                    case rel => exact ⟨j + 1, by omega, by go_num, by rw [HL2.out], HK0.out, HK1.out, HK2.out, HKB.out⟩
                    case measure => simp [intOf]; omega
                  · have ez : (z == 0) = false := by simpa using hz0
                    have nz : (z != 0) = true := by simpa using hz0
                    by_cases hge : (q : Int) ≥ (lN : Int)
                    · have hl := HLS.out
                      rw [if_pos ⟨hz0, by omega⟩] at hl
                      have HL2 := hide hl
                      clear hz0 hl HLS
                      go_wp2
                      go_roundw
                      case rel => exact ⟨j + 1, by omega, by go_num, by rw [HL2.out]; simp, HK0.out, HK1.out, HK2.out, HKB.out⟩
                      case measure => simp [intOf]; omega
                    · have hl := HLS.out
                      rw [if_neg (by omega)] at hl
                      have HL2 := hide hl
                      clear hz0 hl HLS
                      go_wp2
                      go_roundw
                      case rel => exact ⟨j + 1, by omega, by go_num, by rw [HL2.out], HK0.out, HK1.out, HK2.out, HKB.out⟩
                      case measure => simp [intOf]; omega
                · have hltji : ¬ (j : Int) < (cf.length : Int) := by omega
                  obtain rfl : j = cf.length := by omega
                  have htl : (trimL (movL tl cf)).length = lastN (movK tl cf cf.length) 5 := by rw [trim_len]; unfold movL; rw [movK_len]
                  have hT5 := lastN_le (movK tl cf cf.length) 5
                  have htk : trimL (movL tl cf) = (movK tl cf cf.length).take (lastN (movK tl cf cf.length) 5) := by unfold trimL movL; rw [movK_len]
                  have hsr := sl_blkO HG2.out (by rw [movK_len]; unfold maxLen; omega) (movK_wf (tl := tl) HSW.out.2.2.1 cf.length)
                  rw [movK_len] at hsr
                  have hst := sl_front hsr hT5
                  rw [← htk] at hst
                  generalize trimL (movL tl cf) = tr at HPU htl hst
                  clear htk hsr
                  rw [← htl] at hT5 hst ⊢
                  clear htl
                  have hT5i : (tr.length : Int) ≤ 5 := by omega
                  have k1' : (wr.setCell ⟨wq.heap.size + 1, 6, none⟩ (.slice (some ⟨wq.heap.size + 1 + 1, 0, none⟩) tr.length 5)).heap[wq.heap.size + 1]? = some (mO op wd wd2 num nv no (some ⟨wq.heap.size + 1 + 1, 0, none⟩) tr.length 5) := heap_setCell_at (k := 6) (v := .slice (some ⟨wq.heap.size + 1 + 1, 0, none⟩) tr.length 5) HG1.out
                  have hb5 : Below wq.heap.size wq (wr.setCell ⟨wq.heap.size + 1, 6, none⟩ (.slice (some ⟨wq.heap.size + 1 + 1, 0, none⟩) tr.length 5)) := HBJ.out.setCell (show wq.heap.size ≤ wq.heap.size + 1 by omega) _
                  have hs5 : SlN wq.heap.size (wr.setCell ⟨wq.heap.size + 1, 6, none⟩ (.slice (some ⟨wq.heap.size + 1 + 1, 0, none⟩) tr.length 5)) (some ⟨wq.heap.size + 1 + 1, 0, none⟩) tr.length tr := by
                    refine ⟨sl_keep hst (fun x hx => ?_), fun ad e => by cases e; show wq.heap.size ≤ wq.heap.size + 1 + 1; omega⟩
                    obtain ⟨_, ad, e, rfl⟩ := hx
                    cases e
                    exact Below.heap_setCell _ _ _ _ (show wq.heap.size + 1 + 1 ≠ wq.heap.size + 1 by omega)
                  obtain ⟨⟨z0, z1, z2, z3, z4, z5, z6⟩, -⟩ := box7_cells HG1.out
                  obtain ⟨f0, f1', f2, f3, f4, f5, f6⟩ := box7_froz HG1.out
                  obtain ⟨c0, c1, c2, c3, c4, c5, c6⟩ := (box7_cells g0).1
                  obtain ⟨vals, hown5, hsz5, hnx5⟩ := HPU.out _ _ 5 hb5 hs5
                  generalize hW5 : wr.setCell ⟨wq.heap.size + 1, 6, none⟩ (.slice (some ⟨wq.heap.size + 1 + 1, 0, none⟩) tr.length 5) = W5 at k1' hb5 hs5 hown5 hsz5 hnx5
                  obtain ⟨⟨t0, t1, t2, t3, t4, t5, t6⟩, -⟩ := box7_cells k1'
                  have HOWN := hide hown5
                  have HSZ5 := hide hsz5
                  have HNX := hide hnx5
                  clear hown5 hsz5 hnx5 hs5 hb5 k1' g0 g2 hst
                  go_wp2_with (at_builtin; refine wpList_append_node W5 rfl _ _ rfl w.heap.size u10 k vals rfl HOWN.out ⟨op, nv, no, wd, wd2, num, tr⟩ (some ⟨wq.heap.size + 1 + 1, 0, none⟩) 5 rfl (by omega) HSZ5.out ?_; intro g' cap' w7 hown7 hgrow7 hat7; have HN7 := hide (HNX.out w7 _ g' cap' hown7 hgrow7 hat7); clear hown7 hgrow7 hat7)
                  go_roundw
                  case rel => exact ⟨k + 1, by omega, by go_num, HN7.out⟩
                  case measure => simp [intOf]; omega
            · rw [if_neg (by omega), if_neg q4] at HPU
              have e3 : (op == 3) = false := by simp; omega
              have e4 : (op == 4) = false := by simp; omega
              have e8 : (op == 8) = false := by simp; omega
              have e9 : (op == 9) = false := by simp; omega
              clear q389 q4 hvr hvo
              have hB1 := (Below.refl wq.heap.size wq).alloc (Nat.le_refl _) (ndO ⟨op, var, oth, wd, wd2, num, cf⟩ a' c')
              have hB2 := hB1.alloc hB1.size (mO op wd wd2 num 0 0 none 0 0)
              have HB3 := hide (hB2.alloc hB2.size (.cells (iArr zer5) 3))
              have HX0 := hide (heap_alloc3_fst wq (ndO ⟨op, var, oth, wd, wd2, num, cf⟩ a' c') (mO op wd wd2 num 0 0 none 0 0) (.cells (iArr zer5) 3))
              have HX1 := hide (heap3_snd wq (ndO ⟨op, var, oth, wd, wd2, num, cf⟩ a' c') (mO op wd wd2 num 0 0 none 0 0) (.cells (iArr zer5) 3))
              have HX2 : Hid ((((wq.alloc (ndO ⟨op, var, oth, wd, wd2, num, cf⟩ a' c')).alloc (mO op wd wd2 num 0 0 none 0 0)).alloc (.cells (iArr zer5) 3)).heap[wq.heap.size + 1 + 1]? = some (.cells (iArr (movK tl cf 0)) 3 (0, 0))) := heap_alloc3_last wq _ _ _
              clear hB1 hB2
              go_wp2
              generalize hW3 : ((wq.alloc (ndO ⟨op, var, oth, wd, wd2, num, cf⟩ a' c')).alloc (mO op wd wd2 num 0 0 none 0 0)).alloc (.cells (iArr zer5) 3) = W3 at HX0 HX1 HX2 HB3 ⊢
              clear hW3 x0 x1 x2 x3 x4 x5 x6
              go_loopw [15, 16] (fun lv jv wx => ∃ j : Nat, j ≤ cf.length ∧ jv = .int .i64 j ∧ lv = .int .i64 ((lastN (movK tl cf j) 5 : Nat) : Int) ∧ wx.heap[wq.heap.size]? = some (ndO ⟨op, var, oth, wd, wd2, num, cf⟩ a' c') ∧ wx.heap[wq.heap.size + 1]? = some (mO op wd wd2 num 0 0 none 0 0) ∧ wx.heap[wq.heap.size + 1 + 1]? = some (.cells (iArr (movK tl cf j)) 3 (0, 0)) ∧ Below wq.heap.size wq wx) (fun _ jv _ => cf.length - (intOf jv).toNat)
              case atStart => exact ⟨0, by omega, rfl, rfl, HX0.out, HX1.out, HX2.out, HB3.out⟩
              case round =>
                obtain ⟨j, hj, rfl, rfl, g0, g1, g2, hb⟩ := hrel
                have HG0 := hide g0
                have HG1 := hide g1
                have HG2 := hide g2
                have HBJ := hide hb
                clear g1 hb
                by_cases hltj : j < cf.length
                · have hltji : (j : Int) < (cf.length : Int) := by omega
                  have hj5 : (j : Int) < 5 := by omega
                  have hrg := HNM.out.2.1 j (by omega)
                  obtain ⟨q, hq⟩ : ∃ q : Nat, tl.getD j 0 = ((q : Nat) : Int) := ⟨(tl.getD j 0).toNat, by omega⟩
                  have hq5 : q < 5 := by omega
                  have hq5i : (q : Int) < 5 := by omega
                  have HST : Hid (movK tl cf (j + 1) = (movK tl cf j).set q (cf.getD j 0)) := by show _ = _; rw [movK, hq, Int.toNat_natCast]
                  have HLS : Hid (lastN (movK tl cf (j + 1)) 5 = if cf.getD j 0 ≠ 0 ∧ lastN (movK tl cf j) 5 ≤ q then q + 1 else lastN (movK tl cf j) 5) := by
                    show _ = _
                    have h := lastN_set (l := movK tl cf j) (j := q) (cf.getD j 0) (by rw [movK_len]; exact hq5) (by have := movK_fresh HNM.out cf j (by omega); rw [hq, Int.toNat_natCast] at this; exact this)
                    rw [movK_len] at h
                    rw [HST.out]
                    exact h
                  have HCE : Hid (∀ W, Below wq.heap.size wq W → W.heap[wq.heap.size]? = some (ndO ⟨op, var, oth, wd, wd2, num, cf⟩ a' c') → ∃ b1 o1 b2 o2, a' = some ⟨b1, o1, none⟩ ∧ a2 = some ⟨b2, o2, none⟩ ∧ W.cell? ⟨b1, o1 + j, none⟩ = some (.int .i64 (cf.getD j 0)) ∧ W.cell? ⟨b2, o2 + j, none⟩ = some (.int .i64 ((q : Nat) : Int)) ∧ W.cell? ⟨wq.heap.size, 6, none⟩ = some (.slice a' cf.length c')) := fun W hb h0 => by
                    obtain ⟨b1, o1, e1, h1⟩ := sl_cell (sl_below HSW.out hb) j hltj
                    obtain ⟨b2, o2, e2, h2⟩ := sl_cell (sl_below HS2w.out hb) j (by omega)
                    rw [hq] at h2
                    exact ⟨b1, o1, b2, o2, e1, e2, h1, h2, (box7_cells h0).1.2.2.2.2.2.2⟩
                  have hll := lastN_le (movK tl cf j) 5
                  obtain ⟨b1, o1, b2, o2, ea1, ea2, hc1, hc2, hc6⟩ := HCE.out wr HBJ.out g0
                  have hcm : wr.drew.cell? ⟨wq.heap.size + 1 + 1, q, none⟩ = some (.int .i64 ((movK tl cf j).getD q 0)) := by
                    rw [cell_of_row wr.drew _ q _ _ _ HG2.out, iArr_get _ _ (by rw [movK_len]; exact hq5)]
                  have hfm : wr.drew.frozen? ⟨wq.heap.size + 1 + 1, q, none⟩ = false := by
                    have h : wr.drew.heap[wq.heap.size + 1 + 1]? = _ := HG2.out
                    simp [World.frozen?, h]
                  have hd1 : wr.drew.cell? ⟨b1, o1 + j, none⟩ = some (.int .i64 (cf.getD j 0)) := hc1
                  have hd2 : wr.drew.cell? ⟨b2, o2 + j, none⟩ = some (.int .i64 ((q : Nat) : Int)) := hc2
                  have hd6 : wr.drew.cell? ⟨wq.heap.size, 6, none⟩ = some (.slice a' cf.length c') := hc6
                  have k0 : ((wr.setCell ⟨wq.heap.size + 1 + 1, q, none⟩ (.int .i64 (cf.getD j 0))).drew).heap[wq.heap.size]? = some (ndO ⟨op, var, oth, wd, wd2, num, cf⟩ a' c') := (Below.heap_setCell _ _ _ _ (show wq.heap.size ≠ wq.heap.size + 1 + 1 by omega)).trans HG0.out
                  have k1 : ((wr.setCell ⟨wq.heap.size + 1 + 1, q, none⟩ (.int .i64 (cf.getD j 0))).drew).heap[wq.heap.size + 1]? = some (mO op wd wd2 num 0 0 none 0 0) := (Below.heap_setCell _ _ _ _ (show wq.heap.size + 1 ≠ wq.heap.size + 1 + 1 by omega)).trans HG1.out
                  have k2 : ((wr.setCell ⟨wq.heap.size + 1 + 1, q, none⟩ (.int .i64 (cf.getD j 0))).drew).heap[wq.heap.size + 1 + 1]? = some (.cells (iArr (movK tl cf (j + 1))) 3 (0, 0)) := by
                    have h := heap_setCell_at (k := q) (v := .int .i64 (cf.getD j 0)) HG2.out
                    rw [iArr_set, ← HST.out] at h
                    exact h
                  have kb : Below wq.heap.size wq ((wr.setCell ⟨wq.heap.size + 1 + 1, q, none⟩ (.int .i64 (cf.getD j 0))).drew) := (HBJ.out.setCell (show wq.heap.size ≤ wq.heap.size + 1 + 1 by omega) _).drew
                  cases ea1
                  cases ea2
                  clear hrg hq g0 g2 HST hc1 hc2
                  generalize cf.getD j 0 = z at *
                  generalize (movK tl cf j).getD q 0 = y at hcm
                  generalize lastN (movK tl cf j) 5 = lN at HLS hll ⊢
                  go_wp2
                  go_region
                  generalize (wr.setCell ⟨wq.heap.size + 1 + 1, q, none⟩ (.int .i64 z)).drew = Wd at k0 k1 k2 kb ⊢
                  clear hcm hfm hd1 hd2 hd6 hc6
                  obtain ⟨b1', o1', b2', o2', ea1, ea2, hc1, hc2, hc6⟩ := HCE.out Wd kb k0
                  cases ea1
                  cases ea2
                  have HK0 := hide k0
                  have HK1 := hide k1
                  have HK2 := hide k2
                  have HKB := hide kb
                  clear k0 k1 k2 kb HCE
                  by_cases hz0 : z = 0
                  · have ez : (z == 0) = true := by simpa using hz0
                    have nz : (z != 0) = false := by simpa using hz0
                    have hl := HLS.out
                    rw [if_neg (fun h => h.1 hz0)] at hl
                    have HL2 := hide hl
                    clear hz0 hl HLS
                    go_wp2
                    go_roundw
                    case rel => exact ⟨j + 1, by omega, by go_num, by rw [HL2.out], HK0.out, HK1.out, HK2.out, HKB.out⟩
                    case measure => simp [intOf]; omega
                  · have ez : (z == 0) = false := by simpa using hz0
                    have nz : (z != 0) = true := by simpa using hz0
                    by_cases hge : (q : Int) ≥ (lN : Int)
                    · have hl := HLS.out
                      rw [if_pos ⟨hz0, by omega⟩] at hl
                      have HL2 := hide hl
                      clear hz0 hl HLS
                      go_wp2
                      go_roundw
                      case rel => exact ⟨j + 1, by omega, by go_num, by rw [HL2.out]; simp, HK0.out, HK1.out, HK2.out, HKB.out⟩
                      case measure => simp [intOf]; omega
                    · have hl := HLS.out
                      rw [if_neg (by omega)] at hl
                      have HL2 := hide hl
                      clear hz0 hl HLS
                      go_wp2
                      go_roundw
                      case rel => exact ⟨j + 1, by omega, by go_num, by rw [HL2.out], HK0.out, HK1.out, HK2.out, HKB.out⟩
                      case measure => simp [intOf]; omega
                · have hltji : ¬ (j : Int) < (cf.length : Int) := by omega
                  obtain rfl : j = cf.length := by omega
                  have htl : (trimL (movL tl cf)).length = lastN (movK tl cf cf.length) 5 := by rw [trim_len]; unfold movL; rw [movK_len]
                  have hT5 := lastN_le (movK tl cf cf.length) 5
                  have htk : trimL (movL tl cf) = (movK tl cf cf.length).take (lastN (movK tl cf cf.length) 5) := by unfold trimL movL; rw [movK_len]
                  have hsr := sl_blkO HG2.out (by rw [movK_len]; unfold maxLen; omega) (movK_wf (tl := tl) HSW.out.2.2.1 cf.length)
                  rw [movK_len] at hsr
                  have hst := sl_front hsr hT5
                  rw [← htk] at hst
                  generalize trimL (movL tl cf) = tr at HPU htl hst
                  clear htk hsr
                  rw [← htl] at hT5 hst ⊢
                  clear htl
                  have hT5i : (tr.length : Int) ≤ 5 := by omega
                  have k1' : (wr.setCell ⟨wq.heap.size + 1, 6, none⟩ (.slice (some ⟨wq.heap.size + 1 + 1, 0, none⟩) tr.length 5)).heap[wq.heap.size + 1]? = some (mO op wd wd2 num 0 0 (some ⟨wq.heap.size + 1 + 1, 0, none⟩) tr.length 5) := heap_setCell_at (k := 6) (v := .slice (some ⟨wq.heap.size + 1 + 1, 0, none⟩) tr.length 5) HG1.out
                  have hb5 : Below wq.heap.size wq (wr.setCell ⟨wq.heap.size + 1, 6, none⟩ (.slice (some ⟨wq.heap.size + 1 + 1, 0, none⟩) tr.length 5)) := HBJ.out.setCell (show wq.heap.size ≤ wq.heap.size + 1 by omega) _
                  have hs5 : SlN wq.heap.size (wr.setCell ⟨wq.heap.size + 1, 6, none⟩ (.slice (some ⟨wq.heap.size + 1 + 1, 0, none⟩) tr.length 5)) (some ⟨wq.heap.size + 1 + 1, 0, none⟩) tr.length tr := by
                    refine ⟨sl_keep hst (fun x hx => ?_), fun ad e => by cases e; show wq.heap.size ≤ wq.heap.size + 1 + 1; omega⟩
                    obtain ⟨_, ad, e, rfl⟩ := hx
                    cases e
                    exact Below.heap_setCell _ _ _ _ (show wq.heap.size + 1 + 1 ≠ wq.heap.size + 1 by omega)
                  obtain ⟨⟨z0, z1, z2, z3, z4, z5, z6⟩, -⟩ := box7_cells HG1.out
                  obtain ⟨f0, f1', f2, f3, f4, f5, f6⟩ := box7_froz HG1.out
                  obtain ⟨c0, c1, c2, c3, c4, c5, c6⟩ := (box7_cells g0).1
                  obtain ⟨vals, hown5, hsz5, hnx5⟩ := HPU.out _ _ 5 hb5 hs5
                  generalize hW5 : wr.setCell ⟨wq.heap.size + 1, 6, none⟩ (.slice (some ⟨wq.heap.size + 1 + 1, 0, none⟩) tr.length 5) = W5 at k1' hb5 hs5 hown5 hsz5 hnx5
                  obtain ⟨⟨t0, t1, t2, t3, t4, t5, t6⟩, -⟩ := box7_cells k1'
                  have HOWN := hide hown5
                  have HSZ5 := hide hsz5
                  have HNX := hide hnx5
                  clear hown5 hsz5 hnx5 hs5 hb5 k1' g0 g2 hst
                  go_wp2_with (at_builtin; refine wpList_append_node W5 rfl _ _ rfl w.heap.size u10 k vals rfl HOWN.out ⟨op, 0, 0, wd, wd2, num, tr⟩ (some ⟨wq.heap.size + 1 + 1, 0, none⟩) 5 rfl (by omega) HSZ5.out ?_; intro g' cap' w7 hown7 hgrow7 hat7; have HN7 := hide (HNX.out w7 _ g' cap' hown7 hgrow7 hat7); clear hown7 hgrow7 hat7)
                  go_roundw
                  case rel => exact ⟨k + 1, by omega, by go_num, HN7.out⟩
                  case measure => simp [intOf]; omega
        · have hlti : ¬ (k : Int) < (n : Int) := by omega
          obtain rfl : k = n := by omega
          have HE := hide (HEND.out _ _ hNW)
          clear hNW HNW
          go_wp2
          go_ret2
          exact HE.out
end Go.Proofs.YtempjeckngamdaaDoor

/- FormChecks: its walk. -/
namespace Go.Proofs.YtempjeckngamdaaDoor
open Go.RowKit

theorem renamedOf_any (a : Option Addr) (n cap : Nat) (ns : List Nd) (a2 : Option Addr) (m cap2 : Nat) (tl : List Int) (w : World) (hs : SlF w a n ns) (h2 : Sl w a2 m tl) : Calls Tryd.prog 11 #[.slice a n cap, .slice a2 m cap2] w (NodesI w (renL ns tl) (renC ns tl)) := by
  by_cases hq : renC ns tl = 0
  · have hq' := hq
    unfold renC at hq'
    by_cases hz : (formP ns).2 = 0
    · rw [if_pos hz] at hq'
      have hN := namesC_ok hq'
      obtain rfl : m = 5 := by rw [← h2.1]; exact hN.1
      exact renamedOf_ok a n cap ns a2 cap2 tl w hs h2 hz hN hq
    · rw [if_neg hz] at hq'; exact absurd hq' hz
  · exact renamedOf_no a n cap ns a2 m cap2 tl w hs h2 hq
theorem bnd_parts {ns : List Nd} {v u : Int} (h : bndC ns v u = 0) : (formP ns).2 = 0 ∧ (0 ≤ v ∧ v < 5) ∧ (0 ≤ u ∧ u < 5) ∧ v ≠ u ∧ ns.length ≤ 36 := by
  by_cases hz : (formP ns).2 = 0
  · have hb := bndC_is (v := v) (u := u) hz
    rw [h] at hb
    by_cases h1 : (0 ≤ v ∧ v < 5) ∧ 0 ≤ u ∧ u < 5
    · rw [if_pos h1] at hb
      by_cases h2 : v = u
      · rw [if_pos h2] at hb; omega
      · rw [if_neg h2] at hb
        by_cases h3 : 36 < ns.length
        · rw [if_pos h3] at hb; omega
        · exact ⟨hz, h1.1, h1.2, h2, by omega⟩
    · rw [if_neg h1] at hb; omega
  · unfold bndC at h; rw [if_neg hz] at h; exact absurd h hz
theorem boundOf_any (a : Option Addr) (n cap : Nat) (ns : List Nd) (v u : Int) (w : World) (hs : SlF w a n ns) : Calls Tryd.prog 14 #[.slice a n cap, .int .i64 v, .int .i64 u] w (NodesI w (bndL ns v u) (bndC ns v u)) := by
  by_cases hq : bndC ns v u = 0
  · obtain ⟨hz, h1, h2, h3, h4⟩ := bnd_parts hq
    obtain ⟨q, rfl⟩ : ∃ q : Nat, v = (q : Int) := ⟨v.toNat, by omega⟩
    obtain ⟨r, rfl⟩ : ∃ r : Nat, u = (r : Int) := ⟨u.toNat, by omega⟩
    exact boundOf_ok a n cap ns q r w hs hz (by omega) (by omega) (by omega) (by rw [← hs.1]; exact h4)
  · exact boundOf_no a n cap ns v u w hs hq
theorem devBound_any (a : Option Addr) (n cap : Nat) (ns : List Nd) (v u : Int) (w : World) (hs : SlF w a n ns) : Calls Tryd.prog 15 #[.slice a n cap, .int .i64 v, .int .i64 u] w (NodesR w (bndL ns v u) (bndC ns v u)) := by
  by_cases hz : (formP ns).2 = 0
  · by_cases h1 : (0 ≤ v ∧ v < 5) ∧ 0 ≤ u ∧ u < 5
    · by_cases h2 : v = u
      · exact devBound_no a n cap ns v u w hs (.inr (.inr h2))
      · obtain ⟨q, rfl⟩ : ∃ q : Nat, v = (q : Int) := ⟨v.toNat, by omega⟩
        obtain ⟨r, rfl⟩ : ∃ r : Nat, u = (r : Int) := ⟨u.toNat, by omega⟩
        exact devBound_ok a n cap ns q r w hs hz (by omega) (by omega) (by omega)
    · exact devBound_no a n cap ns v u w hs (.inr (.inl h1))
  · exact devBound_no a n cap ns v u w hs (.inl hz)
set_option maxHeartbeats 16000000 in
set_option maxRecDepth 8000 in
theorem formchecks_ok (a : Option Addr) (n cap : Nat) (ns : List Nd) (a2 : Option Addr) (m cap2 : Nat) (tl : List Int) (v u : Int) (w : World) (hs : SlF w a n ns) (h2 : Sl w a2 m tl) (hg : Handle w) (hz : (formP ns).2 = 0) : Calls Tryd.prog 3 #[.slice a n cap, .slice a2 m cap2, .int .i64 v, .int .i64 u] w fun e w' => e = .returned (.bool true) ∧ Below w.heap.size w w' := by
  have HS := hide hs
  have HS2 := hide h2
  have HG : Hid (∀ W, Below w.heap.size w W → Handle W) := fun W h => hg.below h
  have HES := hide (fun c W (h : Handle W) => error_same c W h)
  have HR1 := hide (formFault_of a n cap ns w hs nodeFault_any)
  have HD1 := hide (fun W (h : SlF W a n ns) => devCheck_any a n cap ns W h)
  have HRO := hide (fun W (g1 : SlF W a n ns) (g2 : Sl W a2 m tl) => renamedOf_any a n cap ns a2 m cap2 tl W g1 g2)
  have HRD := hide (fun W (g1 : SlF W a n ns) (g2 : Sl W a2 m tl) => devRename_any a n cap ns a2 m cap2 tl W g1 g2)
  have HBO := hide (fun W (g1 : SlF W a n ns) => boundOf_any a n cap ns v u W g1)
  have HBD := hide (fun W (g1 : SlF W a n ns) => devBound_any a n cap ns v u W g1)
  have HNE := hide (fun L ax ay cx cy W (g1 : SlF W ax L.length L) (g2 : SlF W ay L.length L) => nodes_eq ax ay L.length cx cy L W g1 g2)
  have HIE := hide (fun (L : List Int) ax ay cx cy W (g1 : Sl W ax L.length L) (g2 : Sl W ay L.length L) => ints_eq ax ay L.length cx cy L W g1 g2)
  obtain ⟨t, he, hok, hn40, -⟩ := form_tree hz
  have hn : n ≤ 40 := by rw [← hs.1]; exact hn40
  have HFO := hide (fun W (g : SlF W a n ns) => freeOf_any a n cap ns W g hn [] [] t hok (by simp [he]))
  have HFD := hide (fun W (g : SlF W a n ns) => devFree_any a n cap ns W g (freL t) 0 ⟨hz.symm, fun h => absurd rfl h, fun t' h1 h2 => by rw [tree_one hok h2 (by rw [← he, h1])]⟩)
  rw [hz] at HR1
  rw [hz] at HD1
  rw [show (([] : List Nd).length : Int) = 0 from rfl] at HFO
  clear hs h2 hg hz he hok hn40
  generalize freL t = FL at HFO HFD
  generalize (formP ns).1 = f1 at *
  go_enter Tryd.func3, Tryd.ntmps3
  go_wp2_with fail
  refine HR1.out.mono ?_
  rintro e w1 ⟨rfl, hb1⟩
  have HB1 := hide hb1
  clear hb1 HR1
  have HC := hide (HD1.out w1 (slF_below HS.out HB1.out))
  go_wp2_with fail
  refine HC.out.mono ?_
  rintro e w2 ⟨rfl, hb2⟩
  have HB2 := hide (below_step HB1.out hb2)
  clear hb2 HC
  have HC := hide (HES.out 0 w2 (HG.out w2 HB2.out))
  go_wp2_with fail
  refine HC.out.mono ?_
  rintro e w3 ⟨rfl, hb3⟩
  have HB3 := hide (below_step HB2.out hb3)
  clear hb3 HC
  have HC := hide (HFO.out w3 (slF_below HS.out HB3.out))
  go_wp2_with fail
  refine HC.out.mono ?_
  rintro e w4 ⟨af, cf, rfl, hsf, hb4⟩
  have HB4 := hide (below_step HB3.out hb4)
  have HSF := hide hsf.1
  clear hsf
  clear hb4 HC
  have HC := hide (HFD.out w4 (slF_below HS.out HB4.out))
  go_wp2_with fail
  refine HC.out.mono ?_
  rintro e w5 ⟨al, cl, rfl, hsl, hb5⟩
  have HB5 := hide (below_step HB4.out hb5)
  have HSF5 := hide (sl_below HSF.out hb5)
  have HSL := hide hsl
  clear hsl HSF
  clear hb5 HC
  have HC := hide (HES.out 0 w5 (HG.out w5 HB5.out))
  go_wp2_with fail
  refine HC.out.mono ?_
  rintro e w6 ⟨rfl, hb6⟩
  have HB6 := hide (below_step HB5.out hb6)
  have HSF6 := hide (sl_below HSF5.out hb6)
  have HSL6 := hide (sl_below HSL.out hb6)
  clear HSF5 HSL
  clear hb6 HC
  have HC := hide (HIE.out FL al af cl cf w6 HSL6.out HSF6.out)
  go_wp2_with fail
  refine HC.out.mono ?_
  rintro e w7 ⟨rfl, hb7⟩
  have HB7 := hide (below_step HB6.out hb7)
  clear HSF6 HSL6
  clear hb7 HC
  have HC := hide (HRO.out w7 (slF_below HS.out HB7.out) (sl_below HS2.out HB7.out))
  go_wp2_with fail
  refine HC.out.mono ?_
  rintro e w8 ⟨ar, cr, rfl, hsr, hb8⟩
  have HB8 := hide (below_step HB7.out hb8)
  have HSR := hide hsr
  clear hsr
  clear hb8 HC
  have HC := hide (HRD.out w8 (slF_below HS.out HB8.out) (sl_below HS2.out HB8.out))
  go_wp2_with fail
  refine HC.out.mono ?_
  rintro e w9 ⟨ad, cd, rfl, hsd, hb9⟩
  have HB9 := hide (below_step HB8.out hb9)
  have HSR2 := hide (slF_below HSR.out hb9)
  have HSD := hide hsd
  clear hsd HSR
  clear hb9 HC
  have HC := hide (HES.out (renC ns tl) w9 (HG.out w9 HB9.out))
  go_wp2_with fail
  refine HC.out.mono ?_
  rintro e w10 ⟨rfl, hb10⟩
  have HB10 := hide (below_step HB9.out hb10)
  have HSR3 := hide (slF_below HSR2.out hb10)
  have HSD3 := hide (slF_below HSD.out hb10)
  clear HSR2 HSD
  clear hb10 HC
  have HC := hide (HNE.out (renL ns tl) ad ar cd cr w10 HSD3.out HSR3.out)
  go_wp2_with fail
  refine HC.out.mono ?_
  rintro e w11 ⟨rfl, hb11⟩
  have HB11 := hide (below_step HB10.out hb11)
  clear HSR3 HSD3
  clear hb11 HC
  have HC := hide (HBO.out w11 (slF_below HS.out HB11.out))
  go_wp2_with fail
  refine HC.out.mono ?_
  rintro e w12 ⟨ap, cp, rfl, hsp, hb12⟩
  have HB12 := hide (below_step HB11.out hb12)
  have HSP := hide hsp
  clear hsp
  clear hb12 HC
  have HC := hide (HBD.out w12 (slF_below HS.out HB12.out))
  go_wp2_with fail
  refine HC.out.mono ?_
  rintro e w13 ⟨aq, cq, rfl, hsq, hb13⟩
  have HB13 := hide (below_step HB12.out hb13)
  have HSP2 := hide (slF_below HSP.out hb13)
  have HSQ := hide hsq
  clear hsq HSP
  clear hb13 HC
  have HC := hide (HES.out (bndC ns v u) w13 (HG.out w13 HB13.out))
  go_wp2_with fail
  refine HC.out.mono ?_
  rintro e w14 ⟨rfl, hb14⟩
  have HB14 := hide (below_step HB13.out hb14)
  have HSP3 := hide (slF_below HSP2.out hb14)
  have HSQ3 := hide (slF_below HSQ.out hb14)
  clear HSP2 HSQ
  clear hb14 HC
  have HC := hide (HNE.out (bndL ns v u) aq ap cq cp w14 HSQ3.out HSP3.out)
  go_wp2_with fail
  refine HC.out.mono ?_
  rintro e w15 ⟨rfl, hb15⟩
  have HB15 := hide (below_step HB14.out hb15)
  clear hb15 HC
  go_wp2
  go_ret
  exact ⟨rfl, HB15.out⟩
set_option maxHeartbeats 4000000 in
set_option maxRecDepth 4000 in
theorem devFree_bad (a : Option Addr) (n cap : Nat) (ns : List Nd) (w : World) (hs : SlF w a n ns) (hz : (formP ns).2 ≠ 0) : Calls Tryd.prog 9 #[.slice a n cap] w (HeadR w [] (formP ns).2) := by
  have HCK := hide (devCheck_any a n cap ns w hs)
  have hze : errV (formP ns).2 = .iface 24 (.int .i64 (formP ns).2) := by unfold errV; rw [if_neg hz]
  rw [hze] at HCK
  have HZE := hide hze
  clear hs hz hze
  go_enter Tryd.func9, Tryd.ntmps9
  go_wp2_with fail
  refine HCK.out.mono ?_
  rintro e w1 ⟨rfl, hb1⟩
  have HB1 := hide hb1
  clear hb1
  go_wp2
  go_ret2
  exact ⟨none, 0, by rw [HZE.out]; rfl, ⟨rfl, by decide, (fun x hx => by cases hx), .inl rfl⟩, HB1.out⟩
set_option maxHeartbeats 16000000 in
set_option maxRecDepth 8000 in
theorem formchecks_no (a : Option Addr) (n cap : Nat) (ns : List Nd) (a2 : Option Addr) (m cap2 : Nat) (tl : List Int) (v u : Int) (w : World) (hs : SlF w a n ns) (h2 : Sl w a2 m tl) (hg : Handle w) (hz : (formP ns).2 ≠ 0) : Calls Tryd.prog 3 #[.slice a n cap, .slice a2 m cap2, .int .i64 v, .int .i64 u] w fun e w' => e = .returned (.bool true) ∧ Below w.heap.size w w' := by
  have HS := hide hs
  have HS2 := hide h2
  have HG : Hid (∀ W, Below w.heap.size w W → Handle W) := fun W h => hg.below h
  have HES := hide (fun c W (h : Handle W) => error_same c W h)
  have HR1 := hide (formFault_of a n cap ns w hs nodeFault_any)
  have HD1 := hide (fun W (h : SlF W a n ns) => devCheck_any a n cap ns W h)
  have HRO := hide (fun W (g1 : SlF W a n ns) (g2 : Sl W a2 m tl) => renamedOf_any a n cap ns a2 m cap2 tl W g1 g2)
  have HRD := hide (fun W (g1 : SlF W a n ns) (g2 : Sl W a2 m tl) => devRename_any a n cap ns a2 m cap2 tl W g1 g2)
  have HBO := hide (fun W (g1 : SlF W a n ns) => boundOf_any a n cap ns v u W g1)
  have HBD := hide (fun W (g1 : SlF W a n ns) => devBound_any a n cap ns v u W g1)
  have HNE := hide (fun L ax ay cx cy W (g1 : SlF W ax L.length L) (g2 : SlF W ay L.length L) => nodes_eq ax ay L.length cx cy L W g1 g2)
  have HIE := hide (fun (L : List Int) ax ay cx cy W (g1 : Sl W ax L.length L) (g2 : Sl W ay L.length L) => ints_eq ax ay L.length cx cy L W g1 g2)
  have HFD := hide (fun W (g : SlF W a n ns) => devFree_bad a n cap ns W g hz)
  have hcb : ((formP ns).2 == 0) = false := by simpa using hz
  have HNIL : Hid (∀ W : World, Sl W none 0 []) := fun W => ⟨rfl, by decide, (fun x hx => by cases hx), .inl rfl⟩
  clear hs h2 hg hz
  generalize (formP ns).2 = c at *
  generalize (formP ns).1 = f1 at *
  go_enter Tryd.func3, Tryd.ntmps3
  go_wp2_with fail
  refine HR1.out.mono ?_
  rintro e w1 ⟨rfl, hb1⟩
  have HB1 := hide hb1
  clear hb1 HR1
  have HC := hide (HD1.out w1 (slF_below HS.out HB1.out))
  go_wp2_with fail
  refine HC.out.mono ?_
  rintro e w2 ⟨rfl, hb2⟩
  have HB2 := hide (below_step HB1.out hb2)
  clear hb2 HC
  have HC := hide (HES.out c w2 (HG.out w2 HB2.out))
  go_wp2_with fail
  refine HC.out.mono ?_
  rintro e w3 ⟨rfl, hb3⟩
  have HB3 := hide (below_step HB2.out hb3)
  clear hb3 HC
  have HC := hide (HFD.out w3 (slF_below HS.out HB3.out))
  go_wp2_with fail
  refine HC.out.mono ?_
  rintro e w4 ⟨al, cl, rfl, hsl, hb4⟩
  have HB4 := hide (below_step HB3.out hb4)
  have HSL := hide hsl
  clear hsl
  clear hb4 HC
  have HC := hide (HES.out c w4 (HG.out w4 HB4.out))
  go_wp2_with fail
  refine HC.out.mono ?_
  rintro e w5 ⟨rfl, hb5⟩
  have HB5 := hide (below_step HB4.out hb5)
  have HSL5 := hide (sl_below HSL.out hb5)
  clear HSL
  clear hb5 HC
  have HC := hide (HIE.out [] al none cl 0 w5 HSL5.out (HNIL.out _))
  go_wp2_with fail
  refine HC.out.mono ?_
  rintro e w6 ⟨rfl, hb6⟩
  have HB6 := hide (below_step HB5.out hb6)
  clear HSL5
  clear hb6 HC
  have HC := hide (HRO.out w6 (slF_below HS.out HB6.out) (sl_below HS2.out HB6.out))
  go_wp2_with fail
  refine HC.out.mono ?_
  rintro e w7 ⟨ar, cr, rfl, hsr, hb7⟩
  have HB7 := hide (below_step HB6.out hb7)
  have HSR := hide hsr
  clear hsr
  clear hb7 HC
  have HC := hide (HRD.out w7 (slF_below HS.out HB7.out) (sl_below HS2.out HB7.out))
  go_wp2_with fail
  refine HC.out.mono ?_
  rintro e w8 ⟨ad, cd, rfl, hsd, hb8⟩
  have HB8 := hide (below_step HB7.out hb8)
  have HSR2 := hide (slF_below HSR.out hb8)
  have HSD := hide hsd
  clear hsd HSR
  clear hb8 HC
  have HC := hide (HES.out (renC ns tl) w8 (HG.out w8 HB8.out))
  go_wp2_with fail
  refine HC.out.mono ?_
  rintro e w9 ⟨rfl, hb9⟩
  have HB9 := hide (below_step HB8.out hb9)
  have HSR3 := hide (slF_below HSR2.out hb9)
  have HSD3 := hide (slF_below HSD.out hb9)
  clear HSR2 HSD
  clear hb9 HC
  have HC := hide (HNE.out (renL ns tl) ad ar cd cr w9 HSD3.out HSR3.out)
  go_wp2_with fail
  refine HC.out.mono ?_
  rintro e w10 ⟨rfl, hb10⟩
  have HB10 := hide (below_step HB9.out hb10)
  clear HSR3 HSD3
  clear hb10 HC
  have HC := hide (HBO.out w10 (slF_below HS.out HB10.out))
  go_wp2_with fail
  refine HC.out.mono ?_
  rintro e w11 ⟨ap, cp, rfl, hsp, hb11⟩
  have HB11 := hide (below_step HB10.out hb11)
  have HSP := hide hsp
  clear hsp
  clear hb11 HC
  have HC := hide (HBD.out w11 (slF_below HS.out HB11.out))
  go_wp2_with fail
  refine HC.out.mono ?_
  rintro e w12 ⟨aq, cq, rfl, hsq, hb12⟩
  have HB12 := hide (below_step HB11.out hb12)
  have HSP2 := hide (slF_below HSP.out hb12)
  have HSQ := hide hsq
  clear hsq HSP
  clear hb12 HC
  have HC := hide (HES.out (bndC ns v u) w12 (HG.out w12 HB12.out))
  go_wp2_with fail
  refine HC.out.mono ?_
  rintro e w13 ⟨rfl, hb13⟩
  have HB13 := hide (below_step HB12.out hb13)
  have HSP3 := hide (slF_below HSP2.out hb13)
  have HSQ3 := hide (slF_below HSQ.out hb13)
  clear HSP2 HSQ
  clear hb13 HC
  have HC := hide (HNE.out (bndL ns v u) aq ap cq cp w13 HSQ3.out HSP3.out)
  go_wp2_with fail
  refine HC.out.mono ?_
  rintro e w14 ⟨rfl, hb14⟩
  have HB14 := hide (below_step HB13.out hb14)
  clear hb14 HC
  go_wp2
  go_ret
  exact ⟨rfl, HB14.out⟩
theorem formchecks_any (a : Option Addr) (n cap : Nat) (ns : List Nd) (a2 : Option Addr) (m cap2 : Nat) (tl : List Int) (v u : Int) (w : World) (hs : SlF w a n ns) (h2 : Sl w a2 m tl) (hg : Handle w) : Calls Tryd.prog 3 #[.slice a n cap, .slice a2 m cap2, .int .i64 v, .int .i64 u] w fun e w' => e = .returned (.bool true) ∧ Below w.heap.size w w' := by
  by_cases hz : (formP ns).2 = 0
  · exact formchecks_ok a n cap ns a2 m cap2 tl v u w hs h2 hg hz
  · exact formchecks_no a n cap ns a2 m cap2 tl v u w hs h2 hg hz
end Go.Proofs.YtempjeckngamdaaDoor
