/- 2 texts in one. -/
import Derived.Test.YtgbmemkoggogdaaNu
import Derived.Test.YtgbmemkoggogdaaZYf
/- Package formula: a node is appended. -/
namespace Go.Proofs.Ytgbmemkoggogdaa
open Go.RowKit

/-- One node is appended. -/
theorem wpList_append_node {ops : Array Oper} {rest : List Oper} {o : Oper} {a : Act} {Q : Exit → Act → World → Prop} (w : World) (hgd : o.guard = none) (s x : Operand)
    (ho : o.op = .call { callee := .builtin .append, args := #[s, x], argTypes := #[41, 41] })
    (base : Nat) (v : Value) (k : Nat) (xs : List Value) (hs : a.eval s = v) (hown : w.ownsRow base 68 7 v k xs) (n : Nd) (ax : Option Addr) (cx : Nat) (hx : a.eval x = .slice (some ⟨w.heap.size, 0, none⟩) 1 1) (hk : k ≤ 1000) (hbase : base ≤ w.heap.size)
    (h : ∀ g cap w', w'.ownsRow base 68 7 (.slice (some ⟨g, 0, none⟩) (k + 1) cap) (k + 1) (xs ++ ndL n ax cx) → (w.alloc (.cells #[.int .i64 n.op, .int .i64 n.var, .int .i64 n.oth, .int .i64 n.wd, .int .i64 n.wd2, .int .i64 n.num, .slice ax n.cf.length cx] 68)).grownBy w' v.ownBlock → (v.ownBlock = some g ∨ g = (w.alloc (.cells #[.int .i64 n.op, .int .i64 n.var, .int .i64 n.oth, .int .i64 n.wd, .int .i64 n.wd2, .int .i64 n.num, .slice ax n.cf.length cx] 68)).heap.size) → wpList Try.prog ops Q rest (a.put o.dst (.slice (some ⟨g, 0, none⟩) (k + 1) cap)) w') : wpList Try.prog ops Q (o :: rest) a (w.alloc (.cells #[.int .i64 n.op, .int .i64 n.var, .int .i64 n.oth, .int .i64 n.wd, .int .i64 n.wd2, .int .i64 n.num, .slice ax n.cf.length cx] 68)) := by
  obtain ⟨l0, hl0, hv0, hv1, hv2⟩ := info_parts infoNd
  exact wpList_append_lies _ hgd s x 41 ho base 68 l0 (.agg #[.int .i64 0, .int .i64 0, .int .i64 0, .int .i64 0, .int .i64 0, .int .i64 0, .slice none 0 0]) 7 72 Try.underlying41 hl0 hv0 hv1 hv2 zNode_size (by decide) v k xs hs (hown.alloc _) ⟨w.heap.size, 0, none⟩ 1 1 (ndL n ax cx) hx rfl (news_new w (ndL n ax cx) 68) (ndL_one n ax cx) (by omega) (by unfold maxLen; omega) (by omega) (by simp; omega) _ rfl (fun g cap w' h1 h2 h3 _ => h g cap w' h1 h2 h3)
end Go.Proofs.Ytgbmemkoggogdaa

/- Package formula: Rename: contract. -/
namespace Go.Proofs.Ytgbmemkoggogdaa
open Go.RowKit

theorem renL_ok {ns : List Nd} {tl : List Int} (h : renC ns tl = 0) : renL ns tl = ns.map (renN tl) := by unfold renL; rw [if_pos h]
theorem renL_no {ns : List Nd} {tl : List Int} (h : renC ns tl ≠ 0) : renL ns tl = [] := by unfold renL; rw [if_neg h]
set_option maxHeartbeats 8000000 in
set_option maxRecDepth 4000 in
theorem devRename_any (a : Option Addr) (n cap : Nat) (ns : List Nd) (a2 : Option Addr) (m cap2 : Nat) (tl : List Int) (w : World) (hs : SlF w a n ns) (h2 : Sl w a2 m tl) : Calls Try.prog 13 #[.slice a n cap, .slice a2 m cap2] w (NodesR w (renL ns tl) (renC ns tl)) := by
  have HCK := hide (devCheck_any a n cap ns w hs)
  have HRC : Hid (renC ns tl = if (formP ns).2 = 0 then namesC tl else (formP ns).2) := rfl
  have HNIL : Hid (∀ (W : World), SlF W none 0 []) := fun W => ⟨rfl, by decide, (fun x hx => by cases hx), .inl rfl⟩
  by_cases hz : (formP ns).2 = 0
  · obtain ⟨t, he, hok, hn40, -⟩ := form_tree hz
    have hn : n ≤ 40 := by rw [← hs.1]; exact hn40
    have hrc := HRC.out
    rw [if_pos hz] at hrc
    rw [hz, show errV 0 = .nilIface from rfl] at HCK
    have HCN := hide (fun W (h : Sl W a2 m tl) => checkNames_any a2 m cap2 tl W h)
    by_cases hnz : namesC tl = 0
    · have hN := namesC_ok hnz
      obtain rfl : m = 5 := by rw [← h2.1]; exact hN.1
      rw [hnz] at hrc
      rw [renL_ok hrc, hrc]
      rw [hnz, show errV 0 = .nilIface from rfl] at HCN
      have hall : ∀ x ∈ ns, ndF x = 0 := by rw [he]; exact ok_ndF t hok
      have hL := hs.1
      have HRE := hide (fun (k : Nat) (hk : k < n) a' c' W (g1 : Sl W a' (ns.getD k zNd).cf.length (ns.getD k zNd).cf) (g2 : Sl W a2 5 tl) => rename_any (ns.getD k zNd) a' c' a2 cap2 tl W g1 g2 (hall _ (by simp [List.getD, show k < ns.length by omega])) hN)
      have HEND : Hid (∀ v wr, NwAt w (fun j => renN tl (ns.getD j zNd)) n v wr → ∃ a cap, v = .slice a (ns.map (renN tl)).length cap ∧ SlF wr a (ns.map (renN tl)).length (ns.map (renN tl)) ∧ Below w.heap.size w wr) := fun v wr h => by
        have hb : Below w.heap.size w wr := by obtain ⟨_, _, _, hb⟩ := h; exact hb
        obtain ⟨a, cap, e1, e2⟩ := nwAt_end h (by unfold maxLen; omega) (ns.map (renN tl)) (by simpa using hL) (fun j hj => by simp [List.getD, show j < ns.length by omega]) (fun x hx => by
          obtain ⟨y, hy, rfl⟩ := List.mem_map.1 hx
          exact ren_wf (hall y hy) hN)
        have hLL : (ns.map (renN tl)).length = n := by simpa using hL
        rw [hLL]
        exact ⟨a, cap, e1, e2, hb⟩
      have HS := hide hs
      have HS2 := hide h2
      clear hs h2 hz he hok hrc hnz hN hall hL HRC
      generalize ns.map (renN tl) = RL at HEND ⊢
      go_enter Try.func13, Try.ntmps13
      go_wp2_with fail
      refine HCK.out.mono ?_
      rintro e w1 ⟨rfl, hb1⟩
      have HB1 := hide hb1
      have HC1 := hide (HCN.out w1 (sl_below HS2.out hb1))
      clear hb1 HCK HCN
      generalize (formP ns).1 = f1
      go_wp2_with fail
      refine HC1.out.mono ?_
      rintro e w2 ⟨rfl, hb2⟩
      have HN0 := hide (nwAt_below (nwAt_nil w (fun j => renN tl (ns.getD j zNd))) (below_step HB1.out hb2))
      clear hb2 HC1 HB1
      go_wp2
      go_loopw [9, 27] (fun v kv wx => ∃ k : Nat, k ≤ n ∧ kv = .int .i64 k ∧ NwAt w (fun j => renN tl (ns.getD j zNd)) k v wx) (fun _ kv _ => n - (intOf kv).toNat)
      case atStart => exact ⟨0, by omega, rfl, HN0.out⟩
      case round =>
        obtain ⟨k, hk, rfl, hNW⟩ := hrel
        have HNW := hide hNW
        by_cases hlt : k < n
        · have hlti : (k : Int) < (n : Int) := by omega
          have hbw : Below w.heap.size w wr := by obtain ⟨_, _, _, hb⟩ := hNW; exact hb
          obtain ⟨bb, oo, a', c', rfl, x0, x1, x2, x3, x4, x5, x6, hsl⟩ := slF_cell (slF_below HS.out hbw) k hlt
          have hBa := (Below.refl wr.heap.size wr).alloc (Nat.le_refl _) (ndO (ns.getD k zNd) a' c')
          have HCL := hide (HRE.out k hlt a' c' (wr.alloc (ndO (ns.getD k zNd) a' c')) (sl_below hsl hBa) (sl_below HS2.out (below_step hbw hBa)))
          have HBa := hide hBa
          have HXa := hide (heap_alloc_last wr (ndO (ns.getD k zNd) a' c'))
          have HPU := hide (fun (w2 : World) (a5 : Option Addr) (c5 : Nat) (hb : Below wr.heap.size wr w2) (hs5 : SlN wr.heap.size w2 a5 (renN tl (ns.getD k zNd)).cf.length (renN tl (ns.getD k zNd)).cf) => nwAt_push (cap := c5) hNW hb hs5)
          unfold ndV at HCL
          generalize ns.getD k zNd = nd at x0 x1 x2 x3 x4 x5 x6 hsl HCL HBa HXa HPU
          generalize renN tl nd = rn at HCL HPU
          clear hsl hbw hBa hNW
          generalize hWa : wr.alloc (ndO nd a' c') = Wa at HCL HBa HXa
          obtain ⟨⟨z0, z1, z2, z3, z4, z5, z6⟩, -⟩ := box7_cells HXa.out
          go_wp2_with (first
            | (go_at_call 30; refine HCL.out.mono ?_; rintro e w5 ⟨a5, c5, rfl, hs5, hb5⟩; unfold ndV; obtain ⟨vals, hown5, hsz5, hnx5⟩ := HPU.out w5 a5 c5 (below_step HBa.out hb5) (hs5.mono HBa.out.size); have HOWN := hide hown5; have HSZ5 := hide hsz5; have HNX := hide hnx5; clear hown5 hsz5 hnx5 hs5 hb5 x0 x1 x2 x3 x4 x5 x6 z0 z1 z2 z3 z4 z5 z6)
            | (at_builtin; refine wpList_append_node w5 rfl _ _ rfl w.heap.size u9 k vals rfl HOWN.out rn a5 c5 rfl (by omega) HSZ5.out ?_; intro g' cap' w3 hown3 hgrow3 hat3; have HN3 := hide (HNX.out w3 _ g' cap' hown3 hgrow3 hat3); clear hown3 hgrow3 hat3))
          go_roundw
          case rel => exact ⟨k + 1, by omega, by go_num, HN3.out⟩
          case measure => simp [intOf]; omega
        · have hlti : ¬ (k : Int) < (n : Int) := by omega
          obtain rfl : k = n := by omega
          obtain ⟨ae, ce, hee, hse, hbe⟩ := HEND.out _ _ hNW
          subst hee
          have HE := hide (⟨hse, hbe⟩ : _ ∧ _)
          clear hse hbe hNW HNW
          go_wp2
          go_ret2
          exact ⟨_, _, rfl, HE.out.1, HE.out.2⟩
    · rw [renL_no (by rw [hrc]; exact hnz), hrc]
      have hze : errV (namesC tl) = .iface 54 (.int .i64 (namesC tl)) := by unfold errV; rw [if_neg hnz]
      rw [hze] at HCN
      have HZE := hide hze
      have HS2 := hide h2
      clear hs h2 hz he hok hrc hnz hze HRC
      go_enter Try.func13, Try.ntmps13
      go_wp2_with fail
      refine HCK.out.mono ?_
      rintro e w1 ⟨rfl, hb1⟩
      have HB1 := hide hb1
      have HC1 := hide (HCN.out w1 (sl_below HS2.out hb1))
      clear hb1 HCK HCN
      generalize (formP ns).1 = f1
      go_wp2_with fail
      refine HC1.out.mono ?_
      rintro e w2 ⟨rfl, hb2⟩
      have HB2 := hide (below_step HB1.out hb2)
      clear hb2
      go_wp2
      go_ret2
      exact ⟨none, 0, by rw [HZE.out]; rfl, HNIL.out _, HB2.out⟩
  · have hrc := HRC.out
    rw [if_neg hz] at hrc
    rw [renL_no (by rw [hrc]; exact hz), hrc]
    have hze : errV (formP ns).2 = .iface 54 (.int .i64 (formP ns).2) := by unfold errV; rw [if_neg hz]
    rw [hze] at HCK
    have HZE := hide hze
    clear hs h2 hz hrc hze HRC
    go_enter Try.func13, Try.ntmps13
    go_wp2_with fail
    refine HCK.out.mono ?_
    rintro e w1 ⟨rfl, hb1⟩
    have HB1 := hide hb1
    clear hb1
    go_wp2
    go_ret2
    exact ⟨none, 0, by rw [HZE.out]; rfl, HNIL.out _, HB1.out⟩
end Go.Proofs.Ytgbmemkoggogdaa
