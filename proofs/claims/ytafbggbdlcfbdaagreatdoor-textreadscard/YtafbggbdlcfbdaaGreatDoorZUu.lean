/- 3 texts in one. -/
import Derived.Test.YtafbggbdlcfbdaaGreatDoorZG
import Derived.Test.YtafbggbdlcfbdaaGreatDoorZUo
import Derived.Test.YtafbggbdlcfbdaaGreatDoorUt
import Derived.Test.YtafbggbdlcfbdaaGreatDoorZFd
import Derived.Test.YtafbggbdlcfbdaaGreatDoorZYa
import Derived.Test.YtafbggbdlcfbdaaGreatDoorIh
import Derived.Test.YtafbggbdlcfbdaaGreatDoorZWo
import Derived.Test.YtafbggbdlcfbdaaGreatDoorZXd
/- Package text: read: contract. -/
namespace Go.Proofs.YtafbggbdlcfbdaaGreatDoor
open Go.RowKit

/-- A text read, ahead of Check. -/
def readA (s : List UInt8) : Option (List Nd) × Nat :=
  match formA s (s.length + 1) 0 with
  | (none, e) => (none, e)
  | (some f, e) => if e < s.length then (none, e) else (some f, 0)
/-- What read hands back. -/
def ReR (W : World) (o : Option (List Nd) × Nat) (e : Ending) (w' : World) : Prop := (∀ f, o.1 = some f → ∃ a c, e = .returned (.tuple #[.slice a f.length c, .int .i64 0, .nilIface]) ∧ SlF w' a f.length f ∧ Below W.heap.size W w') ∧ (o.1 = none → e = .returned (.tuple #[.slice none 0 0, .int .i64 (o.2 : Int), .iface 23 (.int .i64 5)]) ∧ Below W.heap.size W w')
theorem ndR_sl {rb : Nat} {W : World} {v : Value} {L : List Nd} (h : NdR rb W v L) (hL : L.length ≤ 5000) : ∃ a c, v = .slice a L.length c ∧ SlF W a L.length L := by
  obtain ⟨vals, h1, h2, h3⟩ := h
  rcases h1.2 with ⟨e, h0⟩ | ⟨g, cap, cur, e, hg, hh, hc, hcm, hcs, ht⟩
  · exact ⟨none, 0, by rw [e, h0], rfl, by unfold maxLen; omega, h2, .inl h0⟩
  · refine ⟨_, cap, e, rfl, by unfold maxLen; omega, h2, .inr ⟨g, 0, rfl, fun i hi => ?_⟩⟩
    obtain ⟨a', cap', e1, e2, _⟩ := h3 i hi
    have key : ∀ j, j < 7 → W.cell? ⟨g, 0 + i * 7 + j, none⟩ = (ndL (L.getD i zNd) a' cap')[j]? := fun j hj => by
      rw [cell_of_row W g (0 + i * 7 + j) cur 41 (0, 0) hh, Nat.zero_add]
      have h3 : (cur.toList.take (L.length * 7))[i * 7 + j]? = vals[i * 7 + j]? := by rw [ht]
      rw [List.getElem?_take, if_pos (by omega), Array.getElem?_toList] at h3
      rw [h3]
      exact e1 j hj
    exact ⟨a', cap', key 0 (by decide), key 1 (by decide), key 2 (by decide), key 3 (by decide), key 4 (by decide), key 5 (by decide), key 6 (by decide), e2⟩
theorem ndR_low {rb : Nat} {W W' : World} {X : List Nat} {v : Value} {L : List Nd} (h : NdR rb W v L) (hb : But X W W') (hX : ∀ x ∈ X, x ≤ rb) : NdR rb W' v L := by
  obtain ⟨vals, h1, h2, h3⟩ := h
  refine ⟨vals, ownsRow_of_block h1 (fun x hx => ?_), h2, fun j hj => ?_⟩
  · have := h1.lt x hx
    exact hb.2 x this.2 (fun hm => by have := hX x hm; omega)
  · obtain ⟨a, cap, e1, e2, e3⟩ := h3 j hj
    exact ⟨a, cap, e1, sl_keep e2 (fun x hx => hb.2 x (slB_lt e2 hx) (fun hm => by have := (e3 x hx).1; have := hX x hm; omega)), e3⟩
/-- Three boxes side by side, each stored into. -/
theorem three_set {W : World} {A : Nat} {T0 T1 T2 : TypeId} {u0 u1 u2 : Value} (h0 : W.heap[A]? = some (.cells #[u0] T0 (0, 0))) (h1 : W.heap[A + 1]? = some (.cells #[u1] T1 (0, 0))) (h2 : W.heap[A + 2]? = some (.cells #[u2] T2 (0, 0))) (v0 v1 v2 : Value) :
    (W.cell? ⟨A, 0, none⟩ = some u0 ∧ W.frozen? ⟨A, 0, none⟩ = false ∧ (W.setCell ⟨A, 0, none⟩ v0).cell? ⟨A + 1, 0, none⟩ = some u1 ∧ (W.setCell ⟨A, 0, none⟩ v0).frozen? ⟨A + 1, 0, none⟩ = false ∧ ((W.setCell ⟨A, 0, none⟩ v0).setCell ⟨A + 1, 0, none⟩ v1).cell? ⟨A + 2, 0, none⟩ = some u2 ∧ ((W.setCell ⟨A, 0, none⟩ v0).setCell ⟨A + 1, 0, none⟩ v1).frozen? ⟨A + 2, 0, none⟩ = false) ∧
    ∃ Wf, ((W.setCell ⟨A, 0, none⟩ v0).setCell ⟨A + 1, 0, none⟩ v1).setCell ⟨A + 2, 0, none⟩ v2 = Wf ∧ Wf.cell? ⟨A, 0, none⟩ = some v0 ∧ Wf.cell? ⟨A + 1, 0, none⟩ = some v1 ∧ Wf.cell? ⟨A + 2, 0, none⟩ = some v2 ∧ But [A, A + 1, A + 2] W Wf := by
  have s1 := (Below.heap_setCell W ⟨A, 0, none⟩ v0 (A + 1) (by simp)).trans h1
  have s2 := (Below.heap_setCell W ⟨A, 0, none⟩ v0 (A + 2) (by simp)).trans h2
  have t2 := (Below.heap_setCell (W.setCell ⟨A, 0, none⟩ v0) ⟨A + 1, 0, none⟩ v1 (A + 2) (by simp)).trans s2
  have z0 := heap_setCell_at (k := 0) (v := v0) h0
  have z1 := heap_setCell_at (k := 0) (v := v1) s1
  have z2 := heap_setCell_at (k := 0) (v := v2) t2
  have y0 := (Below.heap_setCell ((W.setCell ⟨A, 0, none⟩ v0).setCell ⟨A + 1, 0, none⟩ v1) ⟨A + 2, 0, none⟩ v2 A (by simp)).trans ((Below.heap_setCell (W.setCell ⟨A, 0, none⟩ v0) ⟨A + 1, 0, none⟩ v1 A (by simp)).trans z0)
  have y1 := (Below.heap_setCell ((W.setCell ⟨A, 0, none⟩ v0).setCell ⟨A + 1, 0, none⟩ v1) ⟨A + 2, 0, none⟩ v2 (A + 1) (by simp)).trans z1
  refine ⟨⟨by simp [World.cell?, h0], by simp [World.frozen?, h0], ?_, ?_, ?_, ?_⟩, _, rfl, ?_, ?_, ?_, ?_⟩
  · simp only [World.cell?, s1]; simp
  · simp only [World.frozen?, s1]; simp
  · simp only [World.cell?, t2]; simp
  · simp only [World.frozen?, t2]; simp
  · simp only [World.cell?, y0]; simp
  · simp only [World.cell?, y1]; simp
  · simp only [World.cell?, z2]; simp
  · exact (((But.refl _ W).set (.inl (by simp)) _).set (.inl (by simp)) _).set (.inl (by simp)) _
abbrev rvO0 : Obj := .cells #[.slice none 0 0] 22
abbrev rvO1 : Obj := .cells #[.int .i64 0] 3
abbrev rvO2 : Obj := .cells #[.nilIface] 28
set_option maxHeartbeats 8000000 in
set_option maxRecDepth 8000 in
theorem read_any (s : List UInt8) (W : World) (hs : s.length ≤ 2000) (hg : Handle W) : Calls Tryz.prog 21 #[.string (bs s)] W (ReR W (readA s)) := by
  have hmf : ∀ (fn : Fn) (first cap : Array Value) (w : World), (Instr.makeFunc fn first cap).run Tryz.prog w = .ok (.func fn first cap) w := fun _ _ _ _ => rfl
  have hB1 := (((Below.refl W.heap.size W).alloc (Nat.le_refl _) rvO0).alloc (by simp) rvO1).alloc (by simp; omega) rvO2
  have hB2 := hB1.alloc (by simp; omega) (.cells #[.string (bs s), .int .i64 0, .slice none 0 0] 71)
  have x0 : ((((W.alloc rvO0).alloc rvO1).alloc rvO2).alloc (.cells #[.string (bs s), .int .i64 0, .slice none 0 0] 71)).heap[W.heap.size]? = some rvO0 := by rw [Below.heap_alloc _ _ _ (by simp; omega), Below.heap_alloc _ _ _ (by simp; omega), Below.heap_alloc _ _ _ (by simp)]; exact heap_alloc_last W _
  have x1 : ((((W.alloc rvO0).alloc rvO1).alloc rvO2).alloc (.cells #[.string (bs s), .int .i64 0, .slice none 0 0] 71)).heap[W.heap.size + 1]? = some rvO1 := by rw [Below.heap_alloc _ _ _ (by simp), Below.heap_alloc _ _ _ (by simp)]; exact heap_alloc2_snd W _ _
  have x2 : ((((W.alloc rvO0).alloc rvO1).alloc rvO2).alloc (.cells #[.string (bs s), .int .i64 0, .slice none 0 0] 71)).heap[W.heap.size + 2]? = some rvO2 := by
    rw [Below.heap_alloc _ _ _ (by simp)]
    have := heap_alloc_last ((W.alloc rvO0).alloc rvO1) rvO2
    simpa using this
  have x3 : RdAt ((((W.alloc rvO0).alloc rvO1).alloc rvO2).alloc (.cells #[.string (bs s), .int .i64 0, .slice none 0 0] 71)) (W.heap.size + 3) s 0 (.slice none 0 0) := by
    have := heap_alloc_last (((W.alloc rvO0).alloc rvO1).alloc rvO2) (.cells #[.string (bs s), .int .i64 0, .slice none 0 0] 71)
    unfold RdAt rdO
    simpa using this
  have HCL := hide (claim_any s (W.heap.size + 3) hs (s.length + 1) 0 (Nat.zero_le _) (by omega) (.slice none 0 0) [] _ x3 (ndR_nil _ _) (Nat.zero_le _))
  have HLN := hide (formA_len s (s.length + 1) 0 (Nat.zero_le _))
  have HBD := hide (formA_bd s (s.length + 1) 0 (Nat.zero_le _))
  have HGS := hide hg
  have HX0 := hide x0
  have HX1 := hide x1
  have HX2 := hide x2
  have HB2 := hide hB2
  clear hB1 hB2 x0 x1 x2 x3 hg
  generalize hW1 : (((W.alloc rvO0).alloc rvO1).alloc rvO2).alloc (.cells #[.string (bs s), .int .i64 0, .slice none 0 0] 71) = W1 at HCL HX0 HX1 HX2 HB2
  have HSZ : Hid (W1.heap.size = W.heap.size + 4) := by show _ = _; rw [← hW1]; simp
  have HW1 := hide hW1
  clear hW1
  unfold readA
  generalize formA s (s.length + 1) 0 = o at HCL HLN HBD ⊢
  obtain ⟨ox, e1⟩ := o
  simp only [] at HLN HBD
  have HRC : Hid (∀ (i : Nat) w', Below (W.heap.size + 3) W1 w' → CallsD Tryz.prog 34 #[.pointer (some ⟨W.heap.size, 0, none⟩), .pointer (some ⟨W.heap.size + 1, 0, none⟩), .pointer (some ⟨W.heap.size + 2, 0, none⟩)] (.panicking [{ v := stopV i, recovered := false }]) w' fun e u' w2 => e = .returned (.tuple #[]) ∧ u' = .panicking [{ v := stopV i, recovered := true }] ∧ w2.cell? ⟨W.heap.size, 0, none⟩ = some (.slice none 0 0) ∧ w2.cell? ⟨W.heap.size + 1, 0, none⟩ = some (.int .i64 (i : Int)) ∧ w2.cell? ⟨W.heap.size + 2, 0, none⟩ = some (.iface 23 (.int .i64 5)) ∧ Below W.heap.size w' w2) := fun i w' hb =>
    catch_stop i W.heap.size _ _ _ w' (HGS.out.below (HB2.out.trans (hb.mono (by omega)))) ((hb.block _ (by omega)).trans HX0.out) ((hb.block _ (by omega)).trans HX1.out) ((hb.block _ (by omega)).trans HX2.out)
  rcases ox with _ | f
  · simp only []
    go_enter_defers Tryz.func21, Tryz.ntmps21
    go_wp2_with fail
    rw [HW1.out, show W.heap.size + 1 + 1 + 1 = W.heap.size + 3 from rfl]
    refine HCL.out.mono ?_
    intro e w2 hf
    obtain ⟨rfl, hb⟩ := hf.2 rfl
    refine leaves_cons (f := 34) (args := #[.pointer (some ⟨W.heap.size, 0, none⟩), .pointer (some ⟨W.heap.size + 1, 0, none⟩), .pointer (some ⟨W.heap.size + 2, 0, none⟩)]) (by simp) (by simp [go_sem]) ?_
    refine (HRC.out e1 w2 hb).mono ?_
    rintro e u' w3 ⟨rfl, rfl, c0, c1, c2, hb3⟩
    have HFB := hide ((HB2.out.trans (hb.mono (by omega))).trans hb3)
    simp [Leaves, settle, results, Tryz.results21, go_sem, c0, c1, c2]
    exact ⟨(fun f h => by cases h), fun _ => ⟨rfl, HFB.out⟩⟩
  · simp only []
    have hfl := HLN.out f rfl
    have HEN := hide (fun v Wx (hx : RdAt Wx (W.heap.size + 3) s e1 v) (hi : e1 < s.length) => end_no s e1 (W.heap.size + 3) v Wx hx hi)
    have HEO := hide (fun v Wx (hx : RdAt Wx (W.heap.size + 3) s e1 v) (hi : ¬ e1 < s.length) => end_ok s e1 (W.heap.size + 3) v Wx hx hi)
    have HFL : Hid (f.length ≤ 5000) := by
      show _ ≤ _
      have := HBD.out.2
      omega
    clear hfl HLN HBD hs
    by_cases he : e1 < s.length
    · rw [if_pos he]
      have C2 := hide (fun v Wx hx => HEN.out v Wx hx he)
      clear HEN HEO he
      go_enter_defers Tryz.func21, Tryz.ntmps21
      go_wp2_with fail
      rw [HW1.out, show W.heap.size + 1 + 1 + 1 = W.heap.size + 3 from rfl]
      refine HCL.out.mono ?_
      intro e w2 hf
      obtain ⟨rfl, v2, hr, hn, hb⟩ := hf.1 f rfl
      have K2 := hide (C2.out v2 w2 hr)
      have HLT := hide (rd_lt hr)
      have HB3 := hide hb
      clear hf hr hn hb
      go_wp2_with fail
      refine K2.out.mono ?_
      rintro e w3 ⟨rfl, hb⟩
      have hb : Below (W.heap.size + 3) W1 w3 := HB3.out.trans (hb.mono (Nat.le_of_lt HLT.out))
      refine leaves_cons (f := 34) (args := #[.pointer (some ⟨W.heap.size, 0, none⟩), .pointer (some ⟨W.heap.size + 1, 0, none⟩), .pointer (some ⟨W.heap.size + 2, 0, none⟩)]) (by simp) (by simp [go_sem]) ?_
      refine (HRC.out e1 w3 hb).mono ?_
      rintro e u' w4 ⟨rfl, rfl, c0, c1, c2, hb3⟩
      have HFB := hide ((HB2.out.trans (hb.mono (by omega))).trans hb3)
      simp [Leaves, settle, results, Tryz.results21, go_sem, c0, c1, c2]
      exact ⟨(fun f h => by cases h), fun _ => ⟨rfl, HFB.out⟩⟩
    · rw [if_neg he]
      have C2 := hide (fun v Wx hx => HEO.out v Wx hx he)
      clear HEN HEO he
      go_enter_defers Tryz.func21, Tryz.ntmps21
      go_wp2_with fail
      rw [HW1.out, show W.heap.size + 1 + 1 + 1 = W.heap.size + 3 from rfl]
      refine HCL.out.mono ?_
      intro e w2 hf
      obtain ⟨rfl, v2, hr, hn, hb⟩ := hf.1 f rfl
      have K2 := hide (C2.out v2 w2 hr)
      have HR2 := hide hr
      have HN2 := hide hn
      have HB3 := hide hb
      clear hf hr hn hb
      go_wp2_with fail
      refine K2.out.mono ?_
      rintro e w3 ⟨rfl, hb⟩
      obtain ⟨⟨y0, y1, y2⟩, -⟩ := rd_cells (rd_below HR2.out hb)
      have hb4 : Below (W.heap.size + 3) W1 w3 := HB3.out.trans (hb.mono (Nat.le_of_lt (rd_lt HR2.out)))
      have hn3 := ndR_below HN2.out hb
      obtain ⟨a3, c3, hv⟩ := ndR_form hn3
      subst hv
      have hx0 := (hb4.block _ (show W.heap.size < W.heap.size + 3 by omega)).trans HX0.out
      have hx1 := (hb4.block _ (show W.heap.size + 1 < W.heap.size + 3 by omega)).trans HX1.out
      have hx2 := (hb4.block _ (show W.heap.size + 2 < W.heap.size + 3 by omega)).trans HX2.out
      obtain ⟨⟨p0, p1, p2, p3, p4, p5⟩, Wf, hWf, q0, q1, q2, hbu⟩ := three_set hx0 hx1 hx2 (.slice a3 ([] ++ f).length c3) (.int .i64 0) .nilIface
      obtain ⟨a4, c4, hv, hsl⟩ := ndR_sl (ndR_low hn3 hbu (by simp)) HFL.out
      injection hv with hv1 hv2 hv3
      have HSL := hide hsl
      have HFB : Hid (Below W.heap.size W Wf) := (HB2.out.trans (hb4.mono (by omega))).trans (hbu.below (by have := hb4.size; have := HSZ.out; omega) (by simp))
      have HA := hide hv1
      have HQ := hide (And.intro q0 (And.intro q1 q2))
      clear hn3 hx0 hx1 hx2 hb hb4 hsl hbu hv1 hv2 hv3 q0 q1 q2
      rw [List.nil_append] at *
      go_wp2
      refine leaves_cons (f := 34) (args := #[.pointer (some ⟨W.heap.size, 0, none⟩), .pointer (some ⟨W.heap.size + 1, 0, none⟩), .pointer (some ⟨W.heap.size + 2, 0, none⟩)]) (by simp) (by simp [go_sem]) ?_
      refine (catch_idle _ _ _ _).mono ?_
      rintro e u' w5 ⟨rfl, rfl, rfl⟩
      obtain ⟨c0, c1, c2⟩ := HQ.out
      simp [Leaves, settle, results, Tryz.results21, go_sem, c0, c1, c2]
      refine ⟨fun g hg => ?_, (fun h => by cases h)⟩
      injection hg with hg
      subst hg
      exact ⟨a3, c3, rfl, (by rw [HA.out]; exact HSL.out), HFB.out⟩
end Go.Proofs.YtafbggbdlcfbdaaGreatDoor

/- Package text: Parse: contract. -/
namespace Go.Proofs.YtafbggbdlcfbdaaGreatDoor
open Go.RowKit

theorem parsA_full {s : List UInt8} (h : 2000 < s.length) : parsA s = ⟨[], 0, 3⟩ := by unfold parsA; rw [if_pos h]
theorem parsA_read {s : List UInt8} (h : ¬ 2000 < s.length) : parsA s = (match readA s with | (none, e) => ⟨[], e, 5⟩ | (some f, _) => if (formP f).2 = 0 then ⟨f, 0, 0⟩ else ⟨[], s.length, (formP f).2⟩) := by
  unfold parsA readA
  rw [if_neg h]
  rcases formA s (s.length + 1) 0 with ⟨_ | f, e⟩
  · rfl
  · simp only []
    by_cases h2 : e < s.length
    · rw [if_pos h2, if_pos h2]
    · rw [if_neg h2, if_neg h2]
theorem paR_none {W w' : World} {e : Nat} {c : Int} (hb : Below W.heap.size W w') : PaR W ⟨[], e, c⟩ (.returned (.tuple #[.slice none 0 0, .int .i64 (e : Int), errV c])) w' := ⟨none, 0, rfl, ⟨rfl, (by unfold maxLen; simp), (fun n hn => by cases hn), .inl rfl⟩, hb⟩
set_option maxHeartbeats 8000000 in
set_option maxRecDepth 8000 in
theorem parse_saysU : ParseSays Handle := by
  intro s W hg
  have hsz := bs_size s
  have he3 : errV 3 = .iface 23 (.int .i64 3) := rfl
  have he5 : errV 5 = .iface 23 (.int .i64 5) := rfl
  have he0 : errV 0 = .nilIface := rfl
  by_cases h : 2000 < s.length
  · rw [parsA_full h]
    have hi : (s.length : Int) > 2000 := by omega
    have HB := hide (Below.refl W.heap.size W)
    clear h hg
    go_enter Tryz.func9, Tryz.ntmps9
    go_wp2
    refine bodyPost_ret (v := .tuple #[.slice none 0 0, .int .i64 ((0 : Nat) : Int), errV 3]) (by simp [results, Tryz.results9, errV]) rfl (paR_none HB.out)
  · rw [parsA_read h]
    have hi : ¬ (s.length : Int) > 2000 := by omega
    have HRD := hide (read_any s W (by omega) hg)
    have HCK := hide (fun a n c ns Wx (hx : SlF Wx a n ns) => devCheck_any a n c ns Wx hx)
    clear h hg
    generalize readA s = o at HRD ⊢
    rcases o with ⟨_ | f, e⟩
    · simp only []
      go_enter Tryz.func9, Tryz.ntmps9
      go_wp2_with fail
      refine HRD.out.mono ?_
      intro en w2 hr
      obtain ⟨rfl, hb⟩ := hr.2 rfl
      have HB := hide hb
      clear hr hb
      go_wp2
      refine bodyPost_ret (v := .tuple #[.slice none 0 0, .int .i64 (e : Int), errV 5]) (by simp [results, Tryz.results9, errV]) rfl (paR_none HB.out)
    · simp only []
      by_cases hz : (formP f).2 = 0
      · rw [if_pos hz]
        go_enter Tryz.func9, Tryz.ntmps9
        go_wp2_with fail
        refine HRD.out.mono ?_
        intro en w2 hr
        obtain ⟨a2, c2, rfl, hs2, hb2⟩ := hr.1 f rfl
        have K2 := hide (HCK.out a2 f.length c2 f w2 hs2)
        rw [hz, he0] at K2
        have HB := hide hb2
        have HS := hide hs2
        clear hr hs2 hb2 hz HCK
        generalize (formP f).1 = f1 at K2
        go_wp2_with fail
        refine K2.out.mono ?_
        rintro en w3 ⟨rfl, hb3⟩
        have HB3 := hide (below_step HB.out hb3)
        have HS3 := hide (slF_below HS.out hb3)
        clear hb3 K2
        go_wp2
        refine bodyPost_ret (v := .tuple #[.slice a2 f.length c2, .int .i64 ((0 : Nat) : Int), errV 0]) (by simp [results, Tryz.results9, errV]) rfl ⟨a2, c2, rfl, HS3.out, HB3.out⟩
      · rw [if_neg hz]
        have hez : errV (formP f).2 = .iface 23 (.int .i64 (formP f).2) := by unfold errV; rw [if_neg hz]
        go_enter Tryz.func9, Tryz.ntmps9
        go_wp2_with fail
        refine HRD.out.mono ?_
        intro en w2 hr
        obtain ⟨a2, c2, rfl, hs2, hb2⟩ := hr.1 f rfl
        have K2 := hide (HCK.out a2 f.length c2 f w2 hs2)
        have HEZ := hide hez
        rw [hez] at K2
        have HB := hide hb2
        clear hr hs2 hb2 hz HCK hez
        generalize (formP f).1 = f1 at K2
        generalize hZZ : (formP f).2 = z at K2 HEZ
        have HZZ := hide hZZ
        clear hZZ
        go_wp2_with fail
        refine K2.out.mono ?_
        rintro en w3 ⟨rfl, hb3⟩
        have HB3 := hide (below_step HB.out hb3)
        clear hb3 K2
        go_wp2
        refine bodyPost_ret (v := .tuple #[.slice none 0 0, .int .i64 (s.length : Int), errV z]) (by rw [HEZ.out]; simp [results, Tryz.results9]) rfl (by rw [HZZ.out]; exact paR_none HB3.out)
end Go.Proofs.YtafbggbdlcfbdaaGreatDoor

/- TextReads: its whole walk, over package text as it stands. -/
namespace Go.Proofs.YtafbggbdlcfbdaaGreatDoor
open Go.RowKit

theorem textreads_any (a : Option Addr) (n cap : Nat) (ns : List Nd) (s : ByteArray) (w : World) (hs : SlF w a n ns) (hcap : n ≤ cap) (hg : Handle w) : Calls Tryz.prog 3 #[.slice a n cap, .string s] w fun e w' => e = .returned (.bool true) ∧ Below w.heap.size w w' := by
  obtain ⟨l, rfl⟩ := bs_of s
  exact textreads_of print_saysU parse_saysU nodeFault_any a n cap ns l w hs hcap hg
end Go.Proofs.YtafbggbdlcfbdaaGreatDoor
