/- 4 texts in one. -/
import Derived.Test.YtlgjadnkokmjoaaZCtd
import Derived.Test.YtlgjadnkokmjoaaCtn
import Derived.Test.YtlgjadnkokmjoaaZNr
import Derived.Test.YtlgjadnkokmjoaaZEg
import Derived.Test.YtlgjadnkokmjoaaZHk
/- count.Rep: contract. -/
namespace Go.Proofs.Ytlgjadnkokmjoaa
open Go.RowKit

def repS (b : Int) (tr tk m mu : Nat) (N : List (List Int)) : List (List (List Int)) := (List.range mu).map fun l => leadsL N (leftL b tr tk m l)
theorem repS_len (b : Int) (tr tk m mu : Nat) (N : List (List Int)) : (repS b tr tk m mu N).length = mu := by simp [repS]
theorem repS_get {b : Int} {tr tk m mu l : Nat} {N : List (List Int)} (h : l < mu) : (repS b tr tk m mu N).getD l [] = leadsL N (leftL b tr tk m l) := by simp [repS, List.getD, h]
def lastL (E : List Bool) (n : Nat) : List Int := (List.range n).map fun s => if E.getD s false then 1 else 0
theorem lastL_len (E : List Bool) (n : Nat) : (lastL E n).length = n := by simp [lastL]
theorem lastL_get {E : List Bool} {n s : Nat} (h : s < n) : (lastL E n).getD s 0 = if E.getD s false then 1 else 0 := by
  have e : (lastL E n).getD s 0 = (lastL E n)[s]'(by rw [lastL_len]; exact h) := getD_at _ s _
  rw [e]
  unfold lastL
  rw [List.getElem_map, List.getElem_range]
theorem lastL_succ (E : List Bool) (k : Nat) : lastL E (k + 1) = lastL E k ++ [if E.getD k false then 1 else 0] := by simp [lastL, List.range_succ]
def RepNew (w : World) (b t : Int) (F : List Int) (S : List (List (List Int))) (L : List Int) (e : Ending) (w' : World) : Prop :=
  ∃ aF cF aS cS aL cL, e = .returned (.tuple #[.agg #[.int .i64 b, .int .i64 t, .slice aF F.length cF, .slice aS S.length cS, .slice aL L.length cL], .nilIface]) ∧ (Sl w' aF F.length F ∧ Sl3 w' aS S.length S ∧ Sl w' aL L.length L) ∧ Below w.heap.size w w'
theorem infoS22 : (Try.prog.info? 22).map (fun i => (i.zero, i.size, i.bytes)) = some (some (.slice none 0 0), 1, 24) := by kernel_rfl
def zRep : Obj := .cells #[.int .i64 0, .int .i64 0, .slice none 0 0, .slice none 0 0, .slice none 0 0] 29
/-- Between the operations that make its box and its first row. -/
def JRep (wb : World) (n : Nat) (x y : Bool) (c : Nat × Nat) (W : World) : Prop := Below wb.heap.size wb W ∧ (x = true → wb.heap.size ≤ c.2 ∧ W.rowIs c.2 3 n fun i => .int .i64 ((fst0L n).getD i 0)) ∧ (y = true → wb.heap.size ≤ c.1 ∧ W.heap[c.1]? = some zRep) ∧ (x = true → y = true → c.1 ≠ c.2)
def rpS (i : Nat) : Nat := ([33, 34, 35, 36, 37, 38, 39, 40, 9] : List Nat).getD i 0
theorem rpS_inj : ∀ i : Fin 9, ∀ j : Fin 9, rpS i.val = rpS j.val → i = j := by decide +kernel
theorem rpS_lt : ∀ i : Fin 9, rpS i.val < 72 := by decide +kernel
def rqS (i : Nat) : Nat := ([47, 48, 49, 50, 51, 52, 53, 54] : List Nat).getD i 0
theorem rqS_inj : ∀ i : Fin 8, ∀ j : Fin 8, rqS i.val = rqS j.val → i = j := by decide +kernel
theorem rqS_lt : ∀ i : Fin 8, rqS i.val < 72 := by decide +kernel
def rrS (i : Nat) : Nat := ([63, 64, 65, 66, 67, 68, 69] : List Nat).getD i 0
theorem rrS_inj : ∀ i : Fin 7, ∀ j : Fin 7, rrS i.val = rrS j.val → i = j := by decide +kernel
theorem rrS_lt : ∀ i : Fin 7, rrS i.val < 72 := by decide +kernel
abbrev rpO (b : Int) (tr n g : Nat) (v v4 : Value) : Obj := .cells #[.int .i64 b, .int .i64 (tr : Int), .slice (some ⟨g, 0, none⟩) n n, v, v4] 29
/-- Between the operations that append a square. -/
def JSq (wr w2 : World) (B : Nat) (mk : Value → Obj) (X : World → Prop) (L : Nat → List (List Int)) (n l : Nat) (v : Value) (D : Nat → Prop) (c : Nat × Nat × Nat × Nat) (W : World) : Prop :=
  (¬ D 4 → W = wr.drew) ∧ (D 4 → ¬ D 5 → Below wr.heap.size wr W ∧ KpW wr.heap.size W.heap.size (fun W => Sl2 W (some ⟨c.1, 0, none⟩) n (L l)) W) ∧
  (D 5 → ¬ D 6 → ∃ W2 : World, W = W2.alloc (.cells #[.slice (some ⟨c.1, 0, none⟩) n n] 22) ∧ c.2.1 = W2.heap.size ∧ Below wr.heap.size wr W2 ∧ KpW wr.heap.size W2.heap.size (fun W => Sl2 W (some ⟨c.1, 0, none⟩) n (L l)) W2) ∧
  (D 6 → W.heap[B]? = some (mk v) ∧ ∃ vals, GrK w2 B 3 mk 22 X (SqP L) (l + 1) vals (.slice (some ⟨c.2.2.1, 0, none⟩) (l + 1) c.2.2.2) (W.setCell ⟨B, 3, none⟩ (.slice (some ⟨c.2.2.1, 0, none⟩) (l + 1) c.2.2.2)))
theorem jSq_below {wr w2 W : World} {B : Nat} {mk : Value → Obj} {X : World → Prop} {L : Nat → List (List Int)} {n l : Nat} {v : Value} {D : Nat → Prop} {c : Nat × Nat × Nat × Nat} (h : JSq wr w2 B mk X L n l v D c W) (h6 : ¬ D 6) : Below wr.heap.size wr W := by
  obtain ⟨j1, j2, j3, -⟩ := h
  by_cases h4 : D 4
  · by_cases h5 : D 5
    · obtain ⟨W2, rfl, -, hb, -⟩ := j3 h5 h6
      exact hb.alloc hb.size _
    · exact (j2 h4 h5).1
  · rw [j1 h4]; exact (Below.refl _ _).drew
theorem jSq_iff {wr w2 : World} {B : Nat} {mk : Value → Obj} {X : World → Prop} {L : Nat → List (List Int)} {n l : Nat} {v : Value} (D D' : Nat → Prop) (c : Nat × Nat × Nat × Nat) (W : World) (e4 : D 4 ↔ D' 4) (e5 : D 5 ↔ D' 5) (e6 : D 6 ↔ D' 6) (h : JSq wr w2 B mk X L n l v D c W) : JSq wr w2 B mk X L n l v D' c W := by
  unfold JSq at h ⊢
  rw [← e4, ← e5, ← e6]
  exact h
/-- Between the operations that append a number. -/
def JLs (wr w2 wq : World) (B : Nat) (mk : Value → Obj) (l : List Int) (q : Nat) (x : Int) (v : Value) (D : Nat → Prop) (c : Nat × Nat × Nat) (W : World) : Prop :=
  (¬ D 4 → W = wr.drew) ∧ (D 4 → ¬ D 5 → W = wr.drew.alloc (.cells #[.int .i64 x] 3) ∧ c.1 = wr.heap.size) ∧
  (D 5 → W.heap[B]? = some (mk v) ∧ LsI w2 wq B 4 mk (l ++ [x]) (.slice (some ⟨c.2.1, 0, none⟩) (q + 1) c.2.2) (W.setCell ⟨B, 4, none⟩ (.slice (some ⟨c.2.1, 0, none⟩) (q + 1) c.2.2)))
theorem jLs_below {wr w2 wq W : World} {B : Nat} {mk : Value → Obj} {l : List Int} {q : Nat} {x : Int} {v : Value} {D : Nat → Prop} {c : Nat × Nat × Nat} (h : JLs wr w2 wq B mk l q x v D c W) (h5 : ¬ D 5) : Below wr.heap.size wr W := by
  obtain ⟨j1, j2, -⟩ := h
  by_cases h4 : D 4
  · rw [(j2 h4 h5).1]; exact (Below.refl _ _).drew.alloc (Nat.le_refl _) _
  · rw [j1 h4]; exact (Below.refl _ _).drew
theorem jLs_iff {wr w2 wq : World} {B : Nat} {mk : Value → Obj} {l : List Int} {q : Nat} {x : Int} {v : Value} (D D' : Nat → Prop) (c : Nat × Nat × Nat) (W : World) (e4 : D 4 ↔ D' 4) (e5 : D 5 ↔ D' 5) (h : JLs wr w2 wq B mk l q x v D c W) : JLs wr w2 wq B mk l q x v D' c W := by
  unfold JLs at h ⊢
  rw [← e4, ← e5]
  exact h
theorem okLs_left {b : Int} {tr tk m l n : Nat} {N : List (List Int)} (hG : GoodN m n N) : OkLs N n (leftL b tr tk m l) := fun s hs j hj => by
  have hm : (leftL b tr tk m l).getD j 0 ∈ leftL b tr tk m l := by rw [getD_at _ j hj]; exact List.getElem_mem _
  have hb := (mem_leftL.1 hm).1
  obtain ⟨h1, h2⟩ := hG.2.2.2.2.2 s hs
  rw [h1]
  have h3 := h2 ((leftL b tr tk m l).getD j 0).toNat (by omega)
  exact ⟨hb.1, by omega, h3.1, h3.2⟩
set_option maxHeartbeats 32000000 in
set_option maxRecDepth 8000 in
theorem rep_ok (b : Int) (tn tr tk m mu : Nat) (a : Option Addr) (n cap : Nat) (a' : Option Addr) (cap' : Nat) (N : List (List Int)) (E : List Bool) (w : World) (hs : Sl2 w a n N) (he : SlB w a' n E) (htn : tn = tr + 1) (htk : tk ≤ tr) (hA : autoC b (tn : Int) N n = 0) (hU1 : manyU b (tn : Int) = (m : Int)) (hf : pw (kindsI b) tr = (mu : Int)) :
    Calls Try.prog 4 #[.agg #[.int .i64 b, .int .i64 (tn : Int), .slice a n cap, .slice a' n cap'], .int .i64 (tk : Int)] w (RepNew w b (tr : Int) (fst0L n) (repS b tr tk m mu N) (lastL E n)) := by
  obtain ⟨l0, hl0, hv0, hv1, hv2⟩ := info_parts infoS22
  obtain ⟨i0, hi0, hz0, hz1, hz2⟩ := info_parts info3
  obtain ⟨hC1, -, hG, hmu⟩ := autoC_zero hA
  have hn80 := autoC_80 hA
  rw [hs.1] at hG hn80
  rw [hU1, Int.toNat_natCast] at hG
  have hCt : codeM b ((tr : Int) + 1) = 0 := by rw [htn] at hC1; rw [← hC1]; congr 1
  obtain ⟨hC, hM', -, hmu36, -, ht4, h1, h2⟩ := many_less hCt
  have h36 : mu ≤ 36 := by rw [hM', hf] at hmu36; omega
  have hm36 := hG.2.2.2.1
  have hn1 := hG.2.1
  have hNl := hG.1
  have hB0 := below_two w (.cells #[.int .i64 b, .int .i64 (tn : Int), .slice a n cap, .slice a' n cap'] 25) (.cells #[.int .i64 0, .int .i64 0, .slice none 0 0, .slice none 0 0, .slice none 0 0] 29)
  have HB0 := hide hB0
  have HX1 := hide (heap_alloc2_fst w (.cells #[.int .i64 b, .int .i64 (tn : Int), .slice a n cap, .slice a' n cap'] 25) (.cells #[.int .i64 0, .int .i64 0, .slice none 0 0, .slice none 0 0, .slice none 0 0] 29))
  have HX2 := hide (heap_alloc2_snd w (.cells #[.int .i64 b, .int .i64 (tn : Int), .slice a n cap, .slice a' n cap'] 25) (.cells #[.int .i64 0, .int .i64 0, .slice none 0 0, .slice none 0 0, .slice none 0 0] 29))
  have HCK := hide (check_u b (tn : Int) a a' n cap n cap' N _ (sl2_below hs hB0) he.2.1)
  rw [hA, errV_zero] at HCK
  have HLW := hide (fun W => lettersWithout_any b tn tr tk m mu W htn h2 ht4 htk hf hC hC1 hU1 h36)
  unfold GivesRws at HLW
  simp only [leftR_len] at HLW
  have HAF := hide (fun W => atFirst_any b (tn : Int) a n cap a' n cap' W hn1 (by omega))
  unfold NewRow at HAF
  simp only [fst0L_len] at HAF
  have HLC : Hid (∀ (W : World) (al : Option Addr) (cl l : Nat), Below w.heap.size w W → l < mu → Sl W al (leftL b tr tk m l).length (leftL b tr tk m l) → Calls Try.prog 14 #[.agg #[.int .i64 b, .int .i64 (tn : Int), .slice a n cap, .slice a' n cap'], .slice al (leftL b tr tk m l).length cl] W fun e w' => e = .returned (.slice (some ⟨W.heap.size + 1, 0, none⟩) n n) ∧ KpW W.heap.size w'.heap.size (fun W2 => Sl2 W2 (some ⟨W.heap.size + 1, 0, none⟩) n (leadsL N (leftL b tr tk m l))) w' ∧ Below W.heap.size W w') := fun W al cl l h1 _ h2 =>
    (leads_any b (tn : Int) a n cap a' n cap' N al _ cl (leftL b tr tk m l) W (sl2_below hs h1) h2 (by omega) (Nat.le_trans (leftL_len _ _ _ _ _) hm36) (okLs_left hG)).mono fun e w' h => leads_kp h hNl (by omega) (Nat.le_trans (leftL_len _ _ _ _ _) hm36)
  have HRG := hide (fun l (h : l < mu) => leftR_get (b := b) (tr := tr) (tk := tk) (m := m) h)
  have HLL := hide (fun l => leadsL_len N (leftL b tr tk m l))
  rw [hNl] at HLL
  have HE := hide he
  have hsub : (tn : Int) - 1 = (tr : Int) := by omega
  have HFW : Hid (∀ W g, W.rowIs g 3 n (fun i => .int .i64 ((fst0L n).getD i 0)) → Sl W (some ⟨g, 0, none⟩) n (fst0L n)) := fun W g h => sl_of_rowIs (fst0L_len n) (by unfold maxLen; omega) (bdL_wf (fst0L_bd n)) h
  clear hs he hA hU1 hf hC hC1 hCt hM' hmu36 hmu hB0 hNl htn
  generalize hwb : (w.alloc (.cells #[.int .i64 b, .int .i64 (tn : Int), .slice a n cap, .slice a' n cap'] 25)).alloc (.cells #[.int .i64 0, .int .i64 0, .slice none 0 0, .slice none 0 0, .slice none 0 0] 29) = wb at HB0 HX1 HX2 HCK
  have HSZ : Hid (wb.heap.size = w.heap.size + 2) := by show _ = _; rw [← hwb]; simp
  obtain ⟨⟨p0, p1, p2, p3⟩, -⟩ := box_cells HX1.out
  go_enter Try.func4, Try.ntmps4
  go_wp2_with fail
  clear hwb p0 p1 p2 p3
  refine HCK.out.mono ?_
  rintro e w1 ⟨rfl, hb1⟩
  have HB1 := hide hb1
  obtain ⟨⟨p0, p1, p2, p3⟩, -⟩ := box_cells ((hb1.block _ (by rw [HSZ.out]; omega)).trans HX1.out)
  have HC1 := hide (HLW.out w1)
  clear hb1 HLW HCK
  go_wp2_with (go_at_call 12; refine HC1.out.mono ?_; rintro e w2 ⟨g2, rfl, hs2, hb2⟩; have HS2 := hide hs2; have HB2 := hide (below_step HB1.out hb2); clear hs2 hb2)
  clear p0 p1 p2 p3
  obtain ⟨⟨p0, p1, p2, p3⟩, -⟩ := box_cells ((HB2.out.block _ (by rw [HSZ.out]; omega)).trans HX1.out)
  have hwtr : IntKind.i64.wrap (tr : Int) = (tr : Int) := wrap_i64_id (by omega)
  have HJ0 : Hid (JRep w2 n false false (0, 0) w2.drew) := ⟨(Below.refl _ _).drew, fun h => (by cases h), fun h => (by cases h), fun h => (by cases h)⟩
  have HCB : Hid (∀ W, Below w2.heap.size w2 W → W.cell? ⟨w.heap.size, 0, none⟩ = some (.int .i64 b) ∧ W.cell? ⟨w.heap.size, 1, none⟩ = some (.int .i64 (tn : Int)) ∧ W.cell? ⟨w.heap.size, 2, none⟩ = some (.slice a n cap) ∧ W.cell? ⟨w.heap.size, 3, none⟩ = some (.slice a' n cap')) := fun W h => (box_cells (((below_step HB2.out h).block _ (by rw [HSZ.out]; omega)).trans HX1.out)).1
  clear p0 p1 p2 p3
  refine region_two (C := Nat × Nat) (by kernel_rfl) (rvOn_spec (by decide +kernel)) 9 6 8 rfl (by decide) (by decide) (by decide) rpS (fun c i => ([.pointer (some ⟨w.heap.size, 0, none⟩), .int .i64 b, .pointer (some ⟨w.heap.size, 1, none⟩), .int .i64 (tn : Int), .int .i64 (tr : Int), .agg #[.int .i64 b, .int .i64 (tn : Int), .slice a n cap, .slice a' n cap'], .slice (some ⟨c.2, 0, none⟩) n n, .agg #[.int .i64 b, .int .i64 (tr : Int), .slice (some ⟨c.2, 0, none⟩) n n, .slice none 0 0, .slice none 0 0], .pointer (some ⟨c.1, 0, none⟩)] : List Value).getD i undef) (fun i j hi hj e => by have := rpS_inj ⟨i, hi⟩ ⟨j, hj⟩ e; injection this) (fun i hi => rpS_lt ⟨i, hi⟩) (by decide +kernel) (JRep w2 n) (0, 0) (HJ0.out) ?_ ?_ ?_ ?_
  · intro T W i o x y c hi hi1 hi2 ho hsz hdep hst hJ
    have e2 : T[2]? = some (.pointer (some ⟨w.heap.size, 0, none⟩)) := hst 2 (by decide +kernel)
    obtain ⟨p0, p1, p2, p3⟩ := HCB.out W hJ.1
    clear hsz hst hJ
    rcases (by omega : i = 0 ∨ i = 1 ∨ i = 2 ∨ i = 3 ∨ i = 4 ∨ i = 5 ∨ i = 6 ∨ i = 7 ∨ i = 8) with rfl | rfl | rfl | rfl | rfl | rfl | rfl | rfl | rfl
    · injection ho with ho
      subst ho
      clear hdep hi1 hi2
      refine wpOp_step (o := _) rfl fun K2 hK => ?_
      rw [if_pos (by rfl)]
      have HK := hide hK
      clear hK
      go_simp
      exact HK.out _ _ ⟨rfl, rfl⟩
    · injection ho with ho
      subst ho
      have d0 : T[33]? = some (.pointer (some ⟨w.heap.size, 0, none⟩)) := hdep { on := 0, ground := .data } (by simp) rfl
      clear hdep hi1 hi2
      refine wpOp_step (o := _) rfl fun K2 hK => ?_
      rw [if_pos (by rfl)]
      have HK := hide hK
      clear hK
      go_simp
      exact HK.out _ _ ⟨rfl, rfl⟩
    · injection ho with ho
      subst ho
      clear hdep hi1 hi2
      refine wpOp_step (o := _) rfl fun K2 hK => ?_
      rw [if_pos (by rfl)]
      have HK := hide hK
      clear hK
      go_simp
      exact HK.out _ _ ⟨rfl, rfl⟩
    · injection ho with ho
      subst ho
      have d2 : T[35]? = some (.pointer (some ⟨w.heap.size, 1, none⟩)) := hdep { on := 2, ground := .data } (by simp) rfl
      clear hdep hi1 hi2
      refine wpOp_step (o := _) rfl fun K2 hK => ?_
      rw [if_pos (by rfl)]
      have HK := hide hK
      clear hK
      go_simp
      exact HK.out _ _ ⟨rfl, rfl⟩
    · injection ho with ho
      subst ho
      have d3 : T[36]? = some (.int .i64 (tn : Int)) := hdep { on := 3, ground := .data } (by simp) rfl
      clear hdep hi1 hi2
      refine wpOp_step (o := _) rfl fun K2 hK => ?_
      rw [if_pos (by rfl)]
      have HK := hide hK
      clear hK
      go_simp
      exact HK.out _ _ ⟨rfl, rfl⟩
    · injection ho with ho
      subst ho
      clear hdep hi1 hi2
      refine wpOp_step (o := _) rfl fun K2 hK => ?_
      rw [if_pos (by rfl)]
      have HK := hide hK
      clear hK
      go_simp
      exact HK.out _ _ ⟨rfl, rfl⟩
    · exact absurd rfl hi1
    · injection ho with ho
      subst ho
      have d1 : T[34]? = some (.int .i64 b) := hdep { on := 1, ground := .data } (by simp) rfl
      have d4 : T[37]? = some (.int .i64 (tr : Int)) := hdep { on := 4, ground := .data } (by simp) rfl
      have d6 : T[39]? = some (.slice (some ⟨c.2, 0, none⟩) n n) := hdep { on := 6, ground := .data } (by simp) rfl
      clear hdep hi1 hi2
      refine wpOp_step (o := _) rfl fun K2 hK => ?_
      rw [if_pos (by rfl)]
      have HK := hide hK
      clear hK
      go_simp
      exact HK.out _ _ ⟨rfl, rfl⟩
    · exact absurd rfl hi2
  · intro T W o y c ho hsz hdep hst hJ
    have e2 : T[2]? = some (.pointer (some ⟨w.heap.size, 0, none⟩)) := hst 2 (by decide +kernel)
    injection ho with ho
    subst ho
    have d5 : T[38]? = some (.agg #[.int .i64 b, .int .i64 (tn : Int), .slice a n cap, .slice a' n cap']) := hdep { on := 5, ground := .data } (by simp) rfl
    have HJ := hide hJ
    clear hst hdep hsz hJ
    refine wpOp_step (o := _) rfl fun K2 hK => ?_
    rw [if_pos (by rfl)]
    have HK := hide hK
    clear hK
    go_simp
    refine (HAF.out W).mono ?_
    rintro e w3 ⟨g3, rfl, hg3, hr3, hb3⟩
    refine HK.out _ _ ⟨(c.1, g3), rfl, ⟨below_step HJ.out.1 hb3, fun _ => ⟨by have h8 := HJ.out.1.size; show w2.heap.size ≤ g3; omega, hr3⟩, fun h => ⟨(HJ.out.2.2.1 h).1, (hb3.block c.1 (Array.getElem?_eq_some_iff.1 (HJ.out.2.2.1 h).2).1).trans (HJ.out.2.2.1 h).2⟩, fun _ h => by have h7 := (Array.getElem?_eq_some_iff.1 (HJ.out.2.2.1 h).2).1; show c.1 ≠ g3; omega⟩, ?_⟩
    intro j hj hjk hr
    rcases (by omega : j = 0 ∨ j = 1 ∨ j = 2 ∨ j = 3 ∨ j = 4 ∨ j = 5 ∨ j = 6 ∨ j = 7 ∨ j = 8) with rfl | rfl | rfl | rfl | rfl | rfl | rfl | rfl | rfl
    · rfl
    · rfl
    · rfl
    · rfl
    · rfl
    · rfl
    · exact absurd rfl hjk
    · exact absurd hr (by decide +kernel)
    · rfl
  · intro T W o x c ho hsz hdep hst hJ
    have e2 : T[2]? = some (.pointer (some ⟨w.heap.size, 0, none⟩)) := hst 2 (by decide +kernel)
    injection ho with ho
    subst ho
    have HJ := hide hJ
    clear hst hdep hsz hJ
    refine wpOp_step (o := _) rfl fun K2 hK => ?_
    rw [if_pos (by rfl)]
    have HK := hide hK
    clear hK
    go_simp
    refine HK.out _ _ ⟨(W.heap.size, c.2), rfl, ⟨HJ.out.1.alloc HJ.out.1.size _, fun h => ⟨(HJ.out.2.1 h).1, (HJ.out.2.1 h).2.of_block (((Below.refl W.heap.size W).alloc (Nat.le_refl _) _).block _ (HJ.out.2.1 h).2.lt)⟩, fun _ => ⟨HJ.out.1.size, heap_alloc_last W zRep⟩, fun h _ => by have h7 := (HJ.out.2.1 h).2.lt; show W.heap.size ≠ c.2; omega⟩, ?_⟩
    intro j hj hjk hr
    rcases (by omega : j = 0 ∨ j = 1 ∨ j = 2 ∨ j = 3 ∨ j = 4 ∨ j = 5 ∨ j = 6 ∨ j = 7 ∨ j = 8) with rfl | rfl | rfl | rfl | rfl | rfl | rfl | rfl | rfl
    · rfl
    · rfl
    · rfl
    · rfl
    · rfl
    · rfl
    · rfl
    · rfl
    · exact absurd rfl hjk
  · intro T W o c ho hsz hval hst hJ
    have e2 : T[2]? = some (.pointer (some ⟨w.heap.size, 0, none⟩)) := hst 2 (by decide +kernel)
    have hzb := (hJ.2.2.1 rfl).2
    unfold zRep at hzb
    obtain ⟨⟨u0, u1, u2, u3, u4⟩, uf⟩ := box5R_cells hzb
    injection ho with ho
    subst ho
    have d8 : T[9]? = some (.pointer (some ⟨c.1, 0, none⟩)) := hval 8 (by decide +kernel)
    have d7 : T[40]? = some (.agg #[.int .i64 b, .int .i64 (tr : Int), .slice (some ⟨c.2, 0, none⟩) n n, .slice none 0 0, .slice none 0 0]) := hval 7 (by decide +kernel)
    have HJ := hide hJ
    have HST := hide hst
    have HVA := hide hval
    have HSZT := hide hsz
    clear hval hst hJ hsz
    refine wpOp_step (o := _) rfl fun K2 hK => ?_
    rw [if_pos (by rfl)]
    have HK := hide hK
    clear hK
    go_simp
    refine HK.out _ _ ?_
    have hT := rv_list (fun i hi => rpS_lt ⟨i, hi⟩) HSZT.out HVA.out HST.out [8, 7, 6, 5, 4, 3, 2, 1, 0] rfl
    simp only [rvSet, rpS, List.getD_cons_zero, List.getD_cons_succ, List.setIfInBounds_toArray, List.set_cons_zero, List.set_cons_succ] at hT
    rw [hT]
    clear hT HK HVA HST HSZT e2 d7 d8 u0 u1 u2 u3 u4 uf
    obtain ⟨B, g⟩ := c
    obtain ⟨hj1, hj2, hj3, hj4⟩ := HJ.out
    obtain ⟨hg, hrow⟩ := hj2 rfl
    obtain ⟨hB, -⟩ := hj3 rfl
    have hBg := hj4 rfl rfl
    simp only [] at hg hrow hB hBg hzb ⊢
    obtain ⟨⟨hset, hsize, hoth⟩, hbel⟩ := box5R_set (v0 := .int .i64 b) (v1 := .int .i64 (tr : Int)) (v2 := .slice (some ⟨g, 0, none⟩) n n) (v3 := .slice none 0 0) (v4 := .slice none 0 0) hzb rfl
    have hbw := hbel w2 w2.heap.size hj1 hB
    have hrow2 := hrow.of_block (hoth g (fun e => hBg e.symm))
    clear hj1 hj2 hj3 hj4 HJ hzb hbel hoth hrow hsize
    generalize ((((W.setCell ⟨B, 0, none⟩ (.int .i64 b)).setCell ⟨B, 1, none⟩ (.int .i64 (tr : Int))).setCell ⟨B, 2, none⟩ (.slice (some ⟨g, 0, none⟩) n n)).setCell ⟨B, 3, none⟩ (.slice none 0 0)).setCell ⟨B, 4, none⟩ (.slice none 0 0) = W4 at hset hbw hrow2 ⊢
    clear W
    have HSET := hide hset
    have HBW := hide hbw
    have HSW2 : Hid (w.heap.size + 2 ≤ w2.heap.size) := by show _ ≤ _; have := HB2.out.size; have := HSZ.out; omega
    have hG0 : GrK w2 B 3 (fun v => rpO b tr n g v (.slice none 0 0)) 22 (fun W => Sl W (some ⟨g, 0, none⟩) n (fst0L n)) (SqP (fun l => leadsL N (leftL b tr tk m l))) 0 [] (.slice none 0 0) W4 :=
      ⟨hset, World.ownsRow_nil _ _ _ _, rfl, hbw, hB, fun W v v' h => by simp [World.setCell, Array.getElem?_modify, h], ⟨g, g + 1, ⟨⟨hg, by omega⟩, hrow2.lt, fun x e => by cases e⟩, fun W' hW' => HFW.out W' g (hrow2.of_block (hW' g (Nat.le_refl _) (Nat.lt_succ_self _)))⟩, fun j hj => by omega⟩
    have HG0 := hide hG0
    clear hset hbw hrow2 hG0 hwtr HJ0
    go_wp2
    go_loopw [43] (fun u wx => ∃ l : Nat, l ≤ mu ∧ u = .int .i64 l ∧ ∃ vals v, GrK w2 B 3 (fun v => rpO b tr n g v (.slice none 0 0)) 22 (fun W => Sl W (some ⟨g, 0, none⟩) n (fst0L n)) (SqP (fun l => leadsL N (leftL b tr tk m l))) l vals v wx) (fun u _ => mu - (intOf u).toNat)
    case atStart => exact ⟨0, by omega, rfl, _, _, HG0.out⟩
    case round =>
      obtain ⟨l, hl, rfl, vals, v, hgr⟩ := hrel
      have HGR := hide hgr
      by_cases hlt : l < mu
      · have hlti : (l : Int) < (mu : Int) := by omega
        obtain ⟨_, _, al, cl, e1, hcl, hsl⟩ := sl2_cell (sl2_below HS2.out hgr.bel) l hlt
        cases e1
        rw [HRG.out l hlt] at hcl hsl
        have HSL := hide hsl
        have HCL := hide (fun (W : World) (h : Below wr.heap.size wr W) => HLC.out W al cl l (below_step (below_step HB0.out HB2.out) (below_step hgr.bel h)) hlt (sl_below hsl h))
        have HLLL := hide (HLL.out l)
        rw [Nat.zero_add] at hcl
        clear hsl hgr
        go_upto_region 11 with fail
        clear hcl
        refine region_turns (C := Nat × Nat × Nat × Nat) (by kernel_rfl) (rvOn_spec (by decide +kernel)) 8 rfl (fun k => k == 4 || k == 5 || k == 6) rfl rqS (fun c i => ([.pointer (some ⟨B, 3, none⟩), v, .agg #[.int .i64 b, .int .i64 (tn : Int), .slice a n cap, .slice a' n cap'], .slice al (leftL b tr tk m l).length cl, .slice (some ⟨c.1, 0, none⟩) n n, .slice (some ⟨c.2.1, 0, none⟩) 1 1, .slice (some ⟨c.2.2.1, 0, none⟩) (l + 1) c.2.2.2, .pointer (some ⟨B, 3, none⟩)] : List Value).getD i undef) (fun i j hi hj e => by have := rqS_inj ⟨i, hi⟩ ⟨j, hj⟩ e; injection this) (fun i hi => rqS_lt ⟨i, hi⟩) (by decide +kernel) (JSq wr w2 B (fun v => rpO b tr n g v (.slice none 0 0)) (fun W => Sl W (some ⟨g, 0, none⟩) n (fst0L n)) (fun l => leadsL N (leftL b tr tk m l)) n l v) (fun D D' c W h => jSq_iff D D' c W (h 4 rfl (by decide)) (h 5 rfl (by decide)) (h 6 rfl (by decide))) (0, 0, 0, 0) (⟨fun _ => rfl, fun h => h.elim, fun h => h.elim, fun h => h.elim⟩) ?_ ?_ ?_
        · intro T W i o D c hi hti ho hsz hdep hst hni hcl hup hJ
          have e2 : T[2]? = some (.pointer (some ⟨w.heap.size, 0, none⟩)) := hst 2 (by decide +kernel)
          have e9 : T[9]? = some (.pointer (some ⟨B, 0, none⟩)) := hst 9 (by decide +kernel)
          have e11 : T[11]? = some (.slice al (leftL b tr tk m l).length cl) := hst 11 (by decide +kernel)
          rcases (by omega : i = 0 ∨ i = 1 ∨ i = 2 ∨ i = 3 ∨ i = 4 ∨ i = 5 ∨ i = 6 ∨ i = 7) with rfl | rfl | rfl | rfl | rfl | rfl | rfl | rfl
          · injection ho with ho
            subst ho
            clear hdep hsz hst hni hcl hup hJ hti
            refine wpOp_step (o := _) rfl fun K2 hK => ?_
            rw [if_pos (by rfl)]
            have HK := hide hK
            clear hK
            go_simp
            exact HK.out _ _ ⟨rfl, rfl⟩
          · injection ho with ho
            subst ho
            have d0 : T[47]? = some (.pointer (some ⟨B, 3, none⟩)) := hdep { on := 0, ground := .data } (by simp) rfl
            have hb := jSq_below hJ (fun h6 => hni (hcl 6 1 h6 (by decide +kernel)))
            have k3 := (box5R_cells ((grK_below HGR.out hb).box)).1.2.2.2.1
            clear hb
            clear hdep hsz hst hni hcl hup hJ hti
            refine wpOp_step (o := _) rfl fun K2 hK => ?_
            rw [if_pos (by rfl)]
            have HK := hide hK
            clear hK
            go_simp
            exact HK.out _ _ ⟨rfl, rfl⟩
          · injection ho with ho
            subst ho
            have hb := jSq_below hJ (fun h6 => hni (hcl 6 2 h6 (by decide +kernel)))
            obtain ⟨p0, p1, p2, p3⟩ := HCB.out W (below_step HGR.out.bel hb)
            clear hb
            clear hdep hsz hst hni hcl hup hJ hti
            refine wpOp_step (o := _) rfl fun K2 hK => ?_
            rw [if_pos (by rfl)]
            have HK := hide hK
            clear hK
            go_simp
            exact HK.out _ _ ⟨rfl, rfl⟩
          · injection ho with ho
            subst ho
            clear hdep hsz hst hni hcl hup hJ hti
            refine wpOp_step (o := _) rfl fun K2 hK => ?_
            rw [if_pos (by rfl)]
            have HK := hide hK
            clear hK
            go_simp
            exact HK.out _ _ ⟨rfl, rfl⟩
          · cases hti
          · cases hti
          · cases hti
          · injection ho with ho
            subst ho
            clear hdep hsz hst hni hcl hup hJ hti
            refine wpOp_step (o := _) rfl fun K2 hK => ?_
            rw [if_pos (by rfl)]
            have HK := hide hK
            clear hK
            go_simp
            exact HK.out _ _ ⟨rfl, rfl⟩
        · intro T W k o D c hk htk ho hsz hdep hst hup hni hcl hJ
          have e2 : T[2]? = some (.pointer (some ⟨w.heap.size, 0, none⟩)) := hst 2 (by decide +kernel)
          have e9 : T[9]? = some (.pointer (some ⟨B, 0, none⟩)) := hst 9 (by decide +kernel)
          have e11 : T[11]? = some (.slice al (leftL b tr tk m l).length cl) := hst 11 (by decide +kernel)
          rcases (by omega : k = 0 ∨ k = 1 ∨ k = 2 ∨ k = 3 ∨ k = 4 ∨ k = 5 ∨ k = 6 ∨ k = 7) with rfl | rfl | rfl | rfl | rfl | rfl | rfl | rfl
          · cases htk
          · cases htk
          · cases htk
          · cases htk
          · injection ho with ho
            subst ho
            have d2 : T[49]? = some (.agg #[.int .i64 b, .int .i64 (tn : Int), .slice a n cap, .slice a' n cap']) := hdep { on := 2, ground := .data } (by simp) rfl
            have d3 : T[50]? = some (.slice al (leftL b tr tk m l).length cl) := hdep { on := 3, ground := .data } (by simp) rfl
            have HJ := hide hJ
            have HUP := hide hup
            have HNI := hide hni
            have HCLO := hide hcl
            clear hdep hsz hst hni hup hcl hJ htk
            refine wpOp_step (o := _) rfl fun K2 hK => ?_
            rw [if_pos (by rfl)]
            have HK := hide hK
            clear hK
            go_simp
            have hW : W = wr.drew := HJ.out.1 HNI.out
            subst hW
            refine (HCL.out wr.drew (Below.refl _ _).drew).mono ?_
            rintro e w5 ⟨rfl, hk5, hb5⟩
            refine HK.out _ _ ⟨(wr.drew.heap.size + 1, c.2), rfl, ⟨fun h => absurd (Or.inl rfl) h, fun _ _ => ⟨below_step (Below.refl wr.heap.size wr).drew hb5, hk5⟩, fun h => absurd (HCLO.out 5 4 (h.resolve_left (by decide)) (by decide +kernel)) HNI.out, fun h => absurd (HCLO.out 6 4 (h.resolve_left (by decide)) (by decide +kernel)) HNI.out⟩, ?_⟩
            intro j hj hjk hr
            rcases (by omega : j = 0 ∨ j = 1 ∨ j = 2 ∨ j = 3 ∨ j = 4 ∨ j = 5 ∨ j = 6 ∨ j = 7) with rfl | rfl | rfl | rfl | rfl | rfl | rfl | rfl
            · rfl
            · rfl
            · rfl
            · rfl
            · exact absurd rfl hjk
            · exact absurd hr (by decide +kernel)
            · exact absurd hr (by decide +kernel)
            · rfl
          · injection ho with ho
            subst ho
            have d4 : T[51]? = some (.slice (some ⟨c.1, 0, none⟩) n n) := hdep { on := 4, ground := .data } (by simp) rfl
            have HJ := hide hJ
            have HUP := hide hup
            have HNI := hide hni
            have HCLO := hide hcl
            clear hdep hsz hst hni hup hcl hJ htk
            refine wpOp_step (o := _) rfl fun K2 hK => ?_
            rw [if_pos (by rfl)]
            have HK := hide hK
            clear hK
            go_simp
            have h4 := HUP.out 4 (by decide +kernel)
            obtain ⟨hb4, hk4⟩ := HJ.out.2.1 h4 HNI.out
            refine HK.out _ _ ⟨(c.1, W.heap.size, c.2.2), rfl, ⟨fun h => absurd (Or.inr h4) h, fun _ h => absurd (Or.inl rfl) h, fun _ _ => ⟨W, rfl, rfl, hb4, hk4⟩, fun h => absurd (HCLO.out 6 5 (h.resolve_left (by decide)) (by decide +kernel)) HNI.out⟩, ?_⟩
            intro j hj hjk hr
            rcases (by omega : j = 0 ∨ j = 1 ∨ j = 2 ∨ j = 3 ∨ j = 4 ∨ j = 5 ∨ j = 6 ∨ j = 7) with rfl | rfl | rfl | rfl | rfl | rfl | rfl | rfl
            · rfl
            · rfl
            · rfl
            · rfl
            · rfl
            · exact absurd rfl hjk
            · exact absurd hr (by decide +kernel)
            · rfl
          · injection ho with ho
            subst ho
            have d1 : T[48]? = some (v) := hdep { on := 1, ground := .data } (by simp) rfl
            have d5 : T[52]? = some (.slice (some ⟨c.2.1, 0, none⟩) 1 1) := hdep { on := 5, ground := .data } (by simp) rfl
            have HJ := hide hJ
            have HUP := hide hup
            have HNI := hide hni
            have HCLO := hide hcl
            clear hdep hsz hst hni hup hcl hJ htk
            refine wpOp_step (o := _) rfl fun K2 hK => ?_
            rw [if_pos (by rfl)]
            have HK := hide hK
            clear hK
            obtain ⟨W2, hW2, hc2, hb2, hk2⟩ := HJ.out.2.2.1 (HUP.out 5 (by decide +kernel)) HNI.out
            subst hW2
            have h4 := HUP.out 4 (by decide +kernel)
            have h5 := HUP.out 5 (by decide +kernel)
            have hg2 := grK_below HGR.out hb2
            have hz2 := hg2.bel.size
            have hz3 := hb2.size
            have hBl := (Array.getElem?_eq_some_iff.1 hg2.box).1
            rw [hc2] at d5
            refine wp_append_lies _ (.tmp 48) (.tmp 52) 27 rfl (B + 1) 22 l0 (.slice none 0 0) 1 24 Try.underlying27 hl0 hv0 hv1 hv2 rfl (by decide) v l vals (by show T.getD 48 undef = v; simp [Array.getD_eq_getD_getElem?, d1]) (hg2.own.alloc _) ⟨W2.heap.size, 0, none⟩ 1 1 [.slice (some ⟨c.1, 0, none⟩) n n] (by show T.getD 52 undef = _; simp [Array.getD_eq_getD_getElem?, d5]) rfl (one_new _ _ _) (fun u hu => by simp at hu; subst hu; rfl) (by omega) (by unfold maxLen; omega) (by omega) (by simp; omega) (W2.heap.size + 1) (by simp) ?_
            intro g9 cap9 w9 hown9 hgrow9 hat9 _
            obtain ⟨hbx, hgk⟩ := grK_push HGR.out hb2 (u := .slice (some ⟨c.1, 0, none⟩) n n) (fun W' hW' => ⟨some ⟨c.1, 0, none⟩, n, by rw [HLLL.out], by rw [HLLL.out]; exact hk2 W' hW'⟩) hown9 hgrow9 hat9
            refine HK.out _ _ ⟨(c.1, c.2.1, g9, cap9), rfl, ⟨fun h => absurd (Or.inr h4) h, fun _ h => absurd (Or.inr h5) h, fun _ h => absurd (Or.inl rfl) h, fun _ => ⟨hbx, _, hgk⟩⟩, ?_⟩
            intro j hj hjk hr
            rcases (by omega : j = 0 ∨ j = 1 ∨ j = 2 ∨ j = 3 ∨ j = 4 ∨ j = 5 ∨ j = 6 ∨ j = 7) with rfl | rfl | rfl | rfl | rfl | rfl | rfl | rfl
            · rfl
            · rfl
            · rfl
            · rfl
            · rfl
            · rfl
            · exact absurd rfl hjk
            · rfl
          · cases htk
        · intro T W o c ho hsz hval hst hJ
          have e2 : T[2]? = some (.pointer (some ⟨w.heap.size, 0, none⟩)) := hst 2 (by decide +kernel)
          have e9 : T[9]? = some (.pointer (some ⟨B, 0, none⟩)) := hst 9 (by decide +kernel)
          have e11 : T[11]? = some (.slice al (leftL b tr tk m l).length cl) := hst 11 (by decide +kernel)
          have hb9 := (hJ.2.2.2 trivial).1
          obtain ⟨⟨u0, u1, u2, u3, u4⟩, uf⟩ := box5R_cells hb9
          clear hb9
          injection ho with ho
          subst ho
          have d6 : T[53]? = some (.slice (some ⟨c.2.2.1, 0, none⟩) (l + 1) c.2.2.2) := hval 6 (by decide +kernel)
          have d7 : T[54]? = some (.pointer (some ⟨B, 3, none⟩)) := hval 7 (by decide +kernel)
          have HJ := hide hJ
          have HST := hide hst
          have HVA := hide hval
          have HSZT := hide hsz
          clear hval hst hJ hsz
          refine wpOp_step (o := _) rfl fun K2 hK => ?_
          rw [if_pos (by rfl)]
          have HK := hide hK
          clear hK
          go_simp
          refine HK.out _ _ ?_
          have hT := rv_list (fun i hi => rqS_lt ⟨i, hi⟩) HSZT.out HVA.out HST.out [7, 6, 5, 4, 3, 2, 1, 0] rfl
          simp only [rvSet, rqS, List.getD_cons_zero, List.getD_cons_succ, List.setIfInBounds_toArray, List.set_cons_zero, List.set_cons_succ] at hT
          rw [hT]
          clear hT HK HVA HST HSZT e2 e9 e11 d6 d7 u0 u1 u2 u3 u4 uf
          obtain ⟨vals9, hgk⟩ := (HJ.out.2.2.2 trivial).2
          have HGK := hide hgk
          clear hgk HJ
          generalize W.setCell ⟨B, 3, none⟩ (.slice (some ⟨c.2.2.1, 0, none⟩) (l + 1) c.2.2.2) = W5 at HGK ⊢
          clear W
          go_wp2
          go_roundw
          case rel => exact ⟨l + 1, by omega, by go_num, _, _, HGK.out⟩
          case measure => simp [intOf]; omega
      · have hlti : ¬ (l : Int) < (mu : Int) := by omega
        obtain rfl : l = mu := by omega
        obtain ⟨aS, cS, rfl, hS3⟩ := grK_end hgr (by unfold maxLen; omega) (repS b tr tk m l N) (repS_len _ _ _ _ _ _) (fun j hj => repS_get hj)
        have HS3 := hide hS3
        have HX0 := hide (fun (W' : World) (h : ∀ x, x ≠ B → w2.heap.size ≤ x → x < wr.heap.size → W'.heap[x]? = wr.heap[x]?) => (grK_keep hgr h).1)
        obtain ⟨p0, p1, p2, p3⟩ := HCB.out wr hgr.bel
        have hL0 : LsI w2 wr B 4 (fun v4 => rpO b tr n g (.slice aS l cS) v4) (lastL E 0) (.slice none 0 0) wr := ⟨hgr.box, World.ownsRow_nil _ _ _ _, fun _ _ _ => rfl, Nat.le_refl _, hgr.bel, (Array.getElem?_eq_some_iff.1 hgr.box).1, hgr.base, fun W v v' h => by simp [World.setCell, Array.getElem?_modify, h]⟩
        have HL0 := hide hL0
        have hBw := hgr.base
        clear hS3 hgr hL0 HGR HG0 HLC HRG HLL HSET
        go_wp2
        clear p0 p1 p2 p3
        obtain ⟨wq, hwq⟩ : ∃ wq : World, wq = wr := ⟨_, rfl⟩
        have HLW : Hid (LsI w2 wq B 4 (fun v4 => rpO b tr n g (.slice aS l cS) v4) (lastL E 0) (.slice none 0 0) wr) := by show LsI _ _ _ _ _ _ _ _; rw [hwq]; exact HL0.out
        rw [← hwq] at HS3 HX0
        clear hwq HL0
        go_loopw [59] (fun u wx => ∃ q : Nat, q ≤ n ∧ u = .int .i64 q ∧ ∃ v, LsI w2 wq B 4 (fun v4 => rpO b tr n g (.slice aS l cS) v4) (lastL E q) v wx) (fun u _ => n - (intOf u).toNat)
        case atStart => exact ⟨0, by omega, rfl, _, HLW.out⟩
        case round =>
          obtain ⟨q, hq, rfl, v, hls⟩ := hrel
          have HLS := hide hls
          by_cases hqn : q < n
          · have hqni : (q : Int) < (n : Int) := by omega
            obtain ⟨be, oe, rfl, hce⟩ := slB_cell (slB_below HE.out (below_step (below_step HB0.out HB2.out) hls.bel)) q hqn
            have HXE := hide (lastL_succ E q)
            have HLQ := hide (lastL_len E q)
            have HON := hide (fun W => cone_any (E.getD q false) W)
            unfold retI at HON
            generalize E.getD q false = eb at hce HXE HON
            obtain ⟨x, hx⟩ : ∃ x : Int, (if eb = true then (1 : Int) else 0) = x := ⟨_, rfl⟩
            rw [hx] at HXE HON
            clear hls hx
            go_upto_region 16 with fail
            clear hce
            refine region_turns (C := Nat × Nat × Nat) (by kernel_rfl) (rvOn_spec (by decide +kernel)) 7 rfl (fun k => k == 4 || k == 5) rfl rrS (fun c i => ([.pointer (some ⟨B, 4, none⟩), v, .bool eb, .int .i64 x, .slice (some ⟨c.1, 0, none⟩) 1 1, .slice (some ⟨c.2.1, 0, none⟩) (q + 1) c.2.2, .pointer (some ⟨B, 4, none⟩)] : List Value).getD i undef) (fun i j hi hj e => by have := rrS_inj ⟨i, hi⟩ ⟨j, hj⟩ e; injection this) (fun i hi => rrS_lt ⟨i, hi⟩) (by decide +kernel) (JLs wr w2 wq B (fun v4 => rpO b tr n g (.slice aS l cS) v4) (lastL E q) q x v) (fun D D' c W h => jLs_iff D D' c W (h 4 rfl (by decide)) (h 5 rfl (by decide))) (0, 0, 0) (⟨fun _ => rfl, fun h => h.elim, fun h => h.elim⟩) ?_ ?_ ?_
            · intro T W i o D c hi hti ho hsz hdep hst hni hcl hup hJ
              have e9 : T[9]? = some (.pointer (some ⟨B, 0, none⟩)) := hst 9 (by decide +kernel)
              have e13 : T[13]? = some (.bool eb) := hst 13 (by decide +kernel)
              rcases (by omega : i = 0 ∨ i = 1 ∨ i = 2 ∨ i = 3 ∨ i = 4 ∨ i = 5 ∨ i = 6) with rfl | rfl | rfl | rfl | rfl | rfl | rfl
              · injection ho with ho
                subst ho
                clear hdep hsz hst hni hcl hup hJ hti
                refine wpOp_step (o := _) rfl fun K2 hK => ?_
                rw [if_pos (by rfl)]
                have HK := hide hK
                clear hK
                go_simp
                exact HK.out _ _ ⟨rfl, rfl⟩
              · injection ho with ho
                subst ho
                have d0 : T[63]? = some (.pointer (some ⟨B, 4, none⟩)) := hdep { on := 0, ground := .data } (by simp) rfl
                have hb := jLs_below hJ (fun h6 => hni (hcl 5 1 h6 (by decide +kernel)))
                have k4 := (box5R_cells ((hb.block B (Array.getElem?_eq_some_iff.1 HLS.out.box).1).trans HLS.out.box)).1.2.2.2.2
                clear hb
                clear hdep hsz hst hni hcl hup hJ hti
                refine wpOp_step (o := _) rfl fun K2 hK => ?_
                rw [if_pos (by rfl)]
                have HK := hide hK
                clear hK
                go_simp
                exact HK.out _ _ ⟨rfl, rfl⟩
              · injection ho with ho
                subst ho
                clear hdep hsz hst hni hcl hup hJ hti
                refine wpOp_step (o := _) rfl fun K2 hK => ?_
                rw [if_pos (by rfl)]
                have HK := hide hK
                clear hK
                go_simp
                exact HK.out _ _ ⟨rfl, rfl⟩
              · injection ho with ho
                subst ho
                have d2 : T[65]? = some (.bool eb) := hdep { on := 2, ground := .data } (by simp) rfl
                clear hdep hsz hst hni hcl hup hJ hti
                refine wpOp_step (o := _) rfl fun K2 hK => ?_
                rw [if_pos (by rfl)]
                have HK := hide hK
                clear hK
                go_simp
                refine (HON.out W).mono ?_
                rintro e w9 ⟨rfl, hw9⟩
                rw [hw9]
                exact HK.out _ _ ⟨rfl, rfl⟩
              · cases hti
              · cases hti
              · injection ho with ho
                subst ho
                clear hdep hsz hst hni hcl hup hJ hti
                refine wpOp_step (o := _) rfl fun K2 hK => ?_
                rw [if_pos (by rfl)]
                have HK := hide hK
                clear hK
                go_simp
                exact HK.out _ _ ⟨rfl, rfl⟩
            · intro T W k o D c hk htk ho hsz hdep hst hup hni hcl hJ
              have e9 : T[9]? = some (.pointer (some ⟨B, 0, none⟩)) := hst 9 (by decide +kernel)
              have e13 : T[13]? = some (.bool eb) := hst 13 (by decide +kernel)
              rcases (by omega : k = 0 ∨ k = 1 ∨ k = 2 ∨ k = 3 ∨ k = 4 ∨ k = 5 ∨ k = 6) with rfl | rfl | rfl | rfl | rfl | rfl | rfl
              · cases htk
              · cases htk
              · cases htk
              · cases htk
              · injection ho with ho
                subst ho
                have d3 : T[66]? = some (.int .i64 x) := hdep { on := 3, ground := .data } (by simp) rfl
                have HJ := hide hJ
                have HUP := hide hup
                have HNI := hide hni
                have HCLO := hide hcl
                clear hdep hsz hst hni hup hcl hJ htk
                refine wpOp_step (o := _) rfl fun K2 hK => ?_
                rw [if_pos (by rfl)]
                have HK := hide hK
                clear hK
                go_simp
                have hW : W = wr.drew := HJ.out.1 HNI.out
                subst hW
                refine HK.out _ _ ⟨(wr.heap.size, c.2), rfl, ⟨fun h => absurd (Or.inl rfl) h, fun _ _ => ⟨rfl, rfl⟩, fun h => absurd (HCLO.out 5 4 (h.resolve_left (by decide)) (by decide +kernel)) HNI.out⟩, ?_⟩
                intro j hj hjk hr
                rcases (by omega : j = 0 ∨ j = 1 ∨ j = 2 ∨ j = 3 ∨ j = 4 ∨ j = 5 ∨ j = 6) with rfl | rfl | rfl | rfl | rfl | rfl | rfl
                · rfl
                · rfl
                · rfl
                · rfl
                · exact absurd rfl hjk
                · exact absurd hr (by decide +kernel)
                · rfl
              · injection ho with ho
                subst ho
                have d1 : T[64]? = some (v) := hdep { on := 1, ground := .data } (by simp) rfl
                have d4 : T[67]? = some (.slice (some ⟨c.1, 0, none⟩) 1 1) := hdep { on := 4, ground := .data } (by simp) rfl
                have HJ := hide hJ
                have HUP := hide hup
                have HNI := hide hni
                have HCLO := hide hcl
                clear hdep hsz hst hni hup hcl hJ htk
                refine wpOp_step (o := _) rfl fun K2 hK => ?_
                rw [if_pos (by rfl)]
                have HK := hide hK
                clear hK
                have h4 := HUP.out 4 (by decide +kernel)
                obtain ⟨hW, hc1⟩ := HJ.out.2.1 h4 HNI.out
                subst hW
                have hsz9 := HLS.out.size
                rw [hc1] at d4
                have hown := HLS.out.own
                rw [HLQ.out] at hown
                have hown0 : wr.drew.ownsRow wq.heap.size 3 1 v q ((lastL E q).map (Value.int .i64)) := ownsRow_of_block hown (fun y _ => rfl)
                refine wp_append_lies _ (.tmp 64) (.tmp 67) 26 rfl wq.heap.size 3 i0 (.int .i64 0) 1 8 Try.underlying26 hi0 hz0 hz1 hz2 rfl (by decide) v q ((lastL E q).map (Value.int .i64)) (by show T.getD 64 undef = v; simp [Array.getD_eq_getD_getElem?, d1]) (hown0.alloc _) ⟨wr.heap.size, 0, none⟩ 1 1 [.int .i64 x] (by show T.getD 67 undef = _; simp [Array.getD_eq_getD_getElem?, d4]) rfl (one_new _ _ _) (fun u hu => by simp at hu; subst hu; rfl) (by omega) (by unfold maxLen; omega) (by omega) (by simp; omega) (wr.heap.size + 1) (by simp) ?_
                intro g9 cap9 w9 hown9 hgrow9 hat9 _
                obtain ⟨hbx, hgk⟩ := lsI_push HLS.out (x := x) (W2 := wr.drew) rfl HLS.out.bel.drew HLQ.out hown9 hgrow9
                refine HK.out _ _ ⟨(c.1, g9, cap9), rfl, ⟨fun h => absurd (Or.inr h4) h, fun _ h => absurd (Or.inl rfl) h, fun _ => ⟨hbx, hgk⟩⟩, ?_⟩
                intro j hj hjk hr
                rcases (by omega : j = 0 ∨ j = 1 ∨ j = 2 ∨ j = 3 ∨ j = 4 ∨ j = 5 ∨ j = 6) with rfl | rfl | rfl | rfl | rfl | rfl | rfl
                · rfl
                · rfl
                · rfl
                · rfl
                · rfl
                · exact absurd rfl hjk
                · rfl
              · cases htk
            · intro T W o c ho hsz hval hst hJ
              have e9 : T[9]? = some (.pointer (some ⟨B, 0, none⟩)) := hst 9 (by decide +kernel)
              have e13 : T[13]? = some (.bool eb) := hst 13 (by decide +kernel)
              have hb9 := (hJ.2.2 trivial).1
              obtain ⟨⟨u0, u1, u2, u3, u4⟩, uf⟩ := box5R_cells hb9
              clear hb9
              injection ho with ho
              subst ho
              have d5 : T[68]? = some (.slice (some ⟨c.2.1, 0, none⟩) (q + 1) c.2.2) := hval 5 (by decide +kernel)
              have d6 : T[69]? = some (.pointer (some ⟨B, 4, none⟩)) := hval 6 (by decide +kernel)
              have HJ := hide hJ
              have HST := hide hst
              have HVA := hide hval
              have HSZT := hide hsz
              clear hval hst hJ hsz
              refine wpOp_step (o := _) rfl fun K2 hK => ?_
              rw [if_pos (by rfl)]
              have HK := hide hK
              clear hK
              go_simp
              refine HK.out _ _ ?_
              have hT := rv_list (fun i hi => rrS_lt ⟨i, hi⟩) HSZT.out HVA.out HST.out [6, 5, 4, 3, 2, 1, 0] rfl
              simp only [rvSet, rrS, List.getD_cons_zero, List.getD_cons_succ, List.setIfInBounds_toArray, List.set_cons_zero, List.set_cons_succ] at hT
              rw [hT]
              clear hT HK HVA HST HSZT e9 e13 d5 d6 u0 u1 u2 u3 u4 uf
              have hgk := (HJ.out.2.2 trivial).2
              rw [← HXE.out] at hgk
              have HGK := hide hgk
              clear hgk HJ
              generalize W.setCell ⟨B, 4, none⟩ (.slice (some ⟨c.2.1, 0, none⟩) (q + 1) c.2.2) = W5 at HGK ⊢
              clear W
              go_wp2
              go_roundw
              case rel => exact ⟨q + 1, by omega, by go_num, _, HGK.out⟩
              case measure => simp [intOf]; omega
          · have hqni : ¬ (q : Int) < (n : Int) := by omega
            obtain rfl : q = n := by omega
            obtain ⟨aL, cL, rfl, hsl⟩ := sl_of_owns (lastL_len E q) (by unfold maxLen; omega) (fun x hx => by
              obtain ⟨i, hi, rfl⟩ := List.getElem_of_mem hx
              rw [lastL_len] at hi
              have := lastL_get (E := E) hi
              rw [getD_at _ i (by rw [lastL_len]; exact hi)] at this
              rw [this]
              split <;> decide) (by have := hls.own; rw [lastL_len] at this; exact this)
            have hres := ((below_step HB2.out hls.bel).block (w.heap.size + 1) (by rw [HSZ.out]; omega)).trans HX2.out
            have HRES := hide hres
            have HSL9 := hide hsl
            obtain ⟨⟨r0, r1, r2, r3, r4⟩, rf⟩ := box5R_cells hres
            obtain ⟨⟨s0, s1, s2, s3, s4⟩, -⟩ := box5R_cells hls.box
            clear hres hsl hls
            go_wp2
            obtain ⟨⟨hset, hsz9, hoth⟩, hbel⟩ := box5R_set (v0 := .int .i64 b) (v1 := .int .i64 (tr : Int)) (v2 := .slice (some ⟨g, 0, none⟩) q q) (v3 := .slice aS l cS) (v4 := .slice aL q cL) HRES.out rfl
            have hb := hbel w w.heap.size (below_step (below_step HB0.out HB2.out) HLS.out.bel) (by omega)
            obtain ⟨⟨z0, z1, z2, z3, z4⟩, -⟩ := box5R_cells hset
            have hw2 := HSW2.out
            have hlw := HLS.out.size
            have hbl := HLS.out.base
            have hlt9 := HLS.out.lt
            have hkp : ∀ x, x ≠ B → w2.heap.size ≤ x → x < wq.heap.size → _ := fun x hx h1 h2 => (hoth x (by omega)).trans (HLS.out.old x hx h2)
            have hc3 := HS3.out _ hkp
            have hc1 := HX0.out _ hkp
            have hc2 := sl_keep HSL9.out.1 (fun x hx => hoth x (by obtain ⟨_, ad, e, rfl⟩ := hx; have := HSL9.out.2 ad e; omega))
            exact bodyPost_ret (v := .tuple #[.agg #[.int .i64 b, .int .i64 (tr : Int), .slice (some ⟨g, 0, none⟩) q q, .slice aS l cS, .slice aL q cL], .nilIface]) (by simp [results, Try.results4, go_sem, z0, z1, z2, z3, z4]) rfl ⟨some ⟨g, 0, none⟩, q, aS, cS, aL, cL, by rw [fst0L_len, repS_len, lastL_len], ⟨by rw [fst0L_len]; exact hc1, by rw [repS_len]; exact hc3, by rw [lastL_len]; exact hc2⟩, hb⟩
end Go.Proofs.Ytlgjadnkokmjoaa

/- count.Rep at whatever it is given: contract. -/
namespace Go.Proofs.Ytlgjadnkokmjoaa
open Go.RowKit

abbrev repZ : Value := .agg #[.int .i64 0, .int .i64 0, .slice none 0 0, .slice none 0 0, .slice none 0 0]
/-- Rep's code. -/
def repRC (b t : Int) (N : List (List Int)) (e : Nat) (tk : Int) : Int := if autoC b t N e = 0 then (if 0 ≤ tk ∧ tk < t then 0 else 1) else autoC b t N e
def RepR (w : World) (b t : Int) (F : List Int) (S : List (List (List Int))) (L : List Int) (c : Int) (e : Ending) (w' : World) : Prop :=
  (c = 0 → RepNew w b t F S L e w') ∧ (c ≠ 0 → e = .returned (.tuple #[repZ, errV c]) ∧ Below w.heap.size w w')
set_option maxHeartbeats 4000000 in
set_option maxRecDepth 8000 in
theorem rep_no (b t : Int) (a : Option Addr) (n cap : Nat) (a' : Option Addr) (k cap' : Nat) (N : List (List Int)) (tk : Int) (w : World) (hs : Sl2 w a n N) (hk : k ≤ maxLen) (hA : autoC b t N k ≠ 0) :
    Calls Try.prog 4 #[.agg #[.int .i64 b, .int .i64 t, .slice a n cap, .slice a' k cap'], .int .i64 tk] w fun e w' => e = .returned (.tuple #[repZ, errV (autoC b t N k)]) ∧ Below w.heap.size w w' := by
  have hB0 := below_two w (.cells #[.int .i64 b, .int .i64 t, .slice a n cap, .slice a' k cap'] 25) (.cells #[.int .i64 0, .int .i64 0, .slice none 0 0, .slice none 0 0, .slice none 0 0] 29)
  have HB0 := hide hB0
  have HX1 := hide (heap_alloc2_fst w (.cells #[.int .i64 b, .int .i64 t, .slice a n cap, .slice a' k cap'] 25) (.cells #[.int .i64 0, .int .i64 0, .slice none 0 0, .slice none 0 0, .slice none 0 0] 29))
  have HX2 := hide (heap_alloc2_snd w (.cells #[.int .i64 b, .int .i64 t, .slice a n cap, .slice a' k cap'] 25) (.cells #[.int .i64 0, .int .i64 0, .slice none 0 0, .slice none 0 0, .slice none 0 0] 29))
  have HCK := hide (check_u b t a a' n cap k cap' N _ (sl2_below hs hB0) hk)
  rw [errV_no hA] at HCK ⊢
  clear hs hB0
  generalize autoC b t N k = c at HCK ⊢
  clear hA
  generalize hwb : (w.alloc (.cells #[.int .i64 b, .int .i64 t, .slice a n cap, .slice a' k cap'] 25)).alloc (.cells #[.int .i64 0, .int .i64 0, .slice none 0 0, .slice none 0 0, .slice none 0 0] 29) = wb at HB0 HX1 HX2 HCK
  have HSZ : Hid (wb.heap.size = w.heap.size + 2) := by show _ = _; rw [← hwb]; simp
  obtain ⟨⟨p0, p1, p2, p3⟩, -⟩ := box_cells HX1.out
  go_enter Try.func4, Try.ntmps4
  go_wp2_with fail
  clear hwb p0 p1 p2 p3
  refine HCK.out.mono ?_
  rintro e w1 ⟨rfl, hb1⟩
  have hr := (hb1.block (w.heap.size + 1) (by rw [HSZ.out]; omega)).trans HX2.out
  obtain ⟨⟨r0, r1, r2, r3, r4⟩, rf⟩ := box5R_cells hr
  have HR := hide hr
  have HB5 := hide (below_step HB0.out hb1)
  clear hr hb1
  go_wp2
  obtain ⟨⟨hset, hsz, hoth⟩, hbel⟩ := box5R_set (v0 := .int .i64 0) (v1 := .int .i64 0) (v2 := .slice none 0 0) (v3 := .slice none 0 0) (v4 := .slice none 0 0) HR.out rfl
  have hb := hbel w w.heap.size HB5.out (by omega)
  obtain ⟨⟨z0, z1, z2, z3, z4⟩, -⟩ := box5R_cells hset
  exact bodyPost_ret (v := .tuple #[repZ, .iface 52 (.int .i64 c)]) (by simp [results, Try.results4, go_sem, z0, z1, z2, z3, z4]) rfl ⟨rfl, hb⟩
set_option maxHeartbeats 4000000 in
set_option maxRecDepth 8000 in
theorem rep_far (b t : Int) (a : Option Addr) (n cap : Nat) (a' : Option Addr) (k cap' : Nat) (N : List (List Int)) (tk : Int) (w : World) (hs : Sl2 w a n N) (hk : k ≤ maxLen) (hA : autoC b t N k = 0) (ht : ¬ (0 ≤ tk ∧ tk < t)) :
    Calls Try.prog 4 #[.agg #[.int .i64 b, .int .i64 t, .slice a n cap, .slice a' k cap'], .int .i64 tk] w fun e w' => e = .returned (.tuple #[repZ, errV 1]) ∧ Below w.heap.size w w' := by
  have hB0 := below_two w (.cells #[.int .i64 b, .int .i64 t, .slice a n cap, .slice a' k cap'] 25) (.cells #[.int .i64 0, .int .i64 0, .slice none 0 0, .slice none 0 0, .slice none 0 0] 29)
  have HB0 := hide hB0
  have HX1 := hide (heap_alloc2_fst w (.cells #[.int .i64 b, .int .i64 t, .slice a n cap, .slice a' k cap'] 25) (.cells #[.int .i64 0, .int .i64 0, .slice none 0 0, .slice none 0 0, .slice none 0 0] 29))
  have HX2 := hide (heap_alloc2_snd w (.cells #[.int .i64 b, .int .i64 t, .slice a n cap, .slice a' k cap'] 25) (.cells #[.int .i64 0, .int .i64 0, .slice none 0 0, .slice none 0 0, .slice none 0 0] 29))
  have HCK := hide (check_u b t a a' n cap k cap' N _ (sl2_below hs hB0) hk)
  rw [hA, errV_zero] at HCK
  have HFA := hide (fun W => lettersWithout_far b t tk W (autoC_zero hA).1 ht)
  rw [errV_no (show (1 : Int) ≠ 0 by decide)] at HFA ⊢
  clear hs hB0 hA ht
  generalize hwb : (w.alloc (.cells #[.int .i64 b, .int .i64 t, .slice a n cap, .slice a' k cap'] 25)).alloc (.cells #[.int .i64 0, .int .i64 0, .slice none 0 0, .slice none 0 0, .slice none 0 0] 29) = wb at HB0 HX1 HX2 HCK
  have HSZ : Hid (wb.heap.size = w.heap.size + 2) := by show _ = _; rw [← hwb]; simp
  obtain ⟨⟨p0, p1, p2, p3⟩, -⟩ := box_cells HX1.out
  go_enter Try.func4, Try.ntmps4
  go_wp2_with fail
  clear hwb p0 p1 p2 p3
  refine HCK.out.mono ?_
  rintro e w1 ⟨rfl, hb1⟩
  have hr := (hb1.block (w.heap.size + 1) (by rw [HSZ.out]; omega)).trans HX2.out
  obtain ⟨⟨r0, r1, r2, r3, r4⟩, rf⟩ := box5R_cells hr
  obtain ⟨⟨p0, p1, p2, p3⟩, -⟩ := box_cells ((hb1.block _ (by rw [HSZ.out]; omega)).trans HX1.out)
  have HR := hide hr
  have HB5 := hide (below_step HB0.out hb1)
  clear hr hb1
  go_wp2_with (go_at_call 12; refine (HFA.out _).mono ?_; rintro e w' ⟨rfl, hw⟩; rw [hw]; clear hw w')
  obtain ⟨⟨hset, hsz, hoth⟩, hbel⟩ := box5R_set (v0 := .int .i64 0) (v1 := .int .i64 0) (v2 := .slice none 0 0) (v3 := .slice none 0 0) (v4 := .slice none 0 0) HR.out rfl
  have hb := hbel w w.heap.size HB5.out (by omega)
  obtain ⟨⟨z0, z1, z2, z3, z4⟩, -⟩ := box5R_cells hset
  exact bodyPost_ret (v := .tuple #[repZ, .iface 52 (.int .i64 1)]) (by simp [results, Try.results4, go_sem, z0, z1, z2, z3, z4]) rfl ⟨rfl, hb⟩
theorem rep_any (b t : Int) (a : Option Addr) (n cap : Nat) (a' : Option Addr) (k cap' : Nat) (N : List (List Int)) (E : List Bool) (tk : Int) (w : World) (hs : Sl2 w a n N) (he : SlB w a' k E) :
    Calls Try.prog 4 #[.agg #[.int .i64 b, .int .i64 t, .slice a n cap, .slice a' k cap'], .int .i64 tk] w (RepR w b (t - 1) (fst0L n) (repS b (t.toNat - 1) tk.toNat (manyU b t).toNat (manyU b (t - 1)).toNat N) (lastL E n) (repRC b t N k tk)) := by
  by_cases hA : autoC b t N k = 0
  · by_cases ht : 0 ≤ tk ∧ tk < t
    · have hc : repRC b t N k tk = 0 := by unfold repRC; rw [if_pos hA, if_pos ht]
      have hkn : k = n := by rw [(autoC_zero hA).2.1, hs.1]
      subst hkn
      obtain ⟨tr, rfl⟩ : ∃ tr : Nat, t = (tr : Int) + 1 := ⟨(t - 1).toNat, by omega⟩
      obtain ⟨tkn, rfl⟩ : ∃ x : Nat, tk = x := ⟨tk.toNat, by omega⟩
      obtain ⟨hM, -, -, hmm⟩ := autoC_zero hA
      obtain ⟨-, hm1, hm2, -, -, -⟩ := many_less hM
      have e1 : ((tr : Int) + 1).toNat - 1 = tr := by omega
      have e2 : (tr : Int) + 1 - 1 = (tr : Int) := by omega
      have hN : ((tr + 1 : Nat) : Int) = (tr : Int) + 1 := by omega
      have h := rep_ok b (tr + 1) tr tkn (manyU b ((tr : Int) + 1)).toNat (manyU b (tr : Int)).toNat a k cap a' cap' N E w hs he rfl (by omega) (by rw [hN]; exact hA) (by rw [hN]; exact hmm.symm) (by rw [← hm1]; omega)
      rw [hN] at h
      rw [hc, e1, e2, Int.toNat_natCast]
      exact h.mono fun e w' h => ⟨fun _ => h, fun h' => absurd rfl h'⟩
    · have hc : repRC b t N k tk = 1 := by unfold repRC; rw [if_pos hA, if_neg ht]
      rw [hc]
      exact (rep_far b t a n cap a' k cap' N tk w hs he.2.1 hA ht).mono fun e w' h => ⟨fun h' => absurd h' (by decide), fun _ => h⟩
  · have hc : repRC b t N k tk = autoC b t N k := by unfold repRC; rw [if_neg hA]
    rw [hc]
    exact (rep_no b t a n cap a' k cap' N tk w hs he.2.1 hA).mono fun e w' h => ⟨fun h' => absurd h' hA, fun _ => h⟩
end Go.Proofs.Ytlgjadnkokmjoaa

/- By matrices as one by one: mathematics. -/
namespace Go.Proofs.Ytlgjadnkokmjoaa
open Go.RowKit

theorem csum_app (f : Nat → Int) (a : Nat) : ∀ b, csum f (a + b) = csum f a + csum (fun i => f (a + i)) b := by
  intro b
  induction b with
  | zero => exact (Int.add_zero _).symm
  | succ b ih =>
    show csum f (a + b) + f (a + b) = csum f a + (csum (fun i => f (a + i)) b + f (a + b))
    rw [ih]; omega
/-- All numbers below K * M, by what is left of them and how often K goes into them. -/
theorem csum_divmod (g : Nat → Nat → Int) (K : Nat) (hK : 0 < K) : ∀ M, csum (fun x => g (x % K) (x / K)) (K * M) = csum (fun d => csum (fun y => g d y) M) K := by
  intro M
  induction M with
  | zero => exact (csum_zero K).symm
  | succ M ih =>
    rw [Nat.mul_succ, csum_app, ih]
    have h : ∀ d, csum (fun y => g d y) (M + 1) = csum (fun y => g d y) M + g d M := fun d => rfl
    rw [csum_congr (h := fun d => csum (fun y => g d y) M + g d M) (n := K) fun d _ => h d, csum_add]
    congr 1
    exact csum_congr fun d hd => by
      rw [Nat.mul_add_mod, Nat.mod_eq_of_lt hd, Nat.mul_add_div hK, Nat.div_eq_of_lt hd, Nat.add_zero]
/-- A sum over a list. -/
def lsm (f : Int → Int) : List Int → Int
  | [] => 0
  | x :: l => f x + lsm f l
theorem lsm_csum (f : Int → Int) : ∀ l : List Int, csum (fun j => f (l.getD j 0)) l.length = lsm f l := by
  intro l
  induction l with
  | nil => rfl
  | cons x l ih =>
    rw [List.length_cons, Nat.add_comm l.length 1, csum_app]
    show 0 + f x + csum (fun i => f ((x :: l).getD (1 + i) 0)) l.length = f x + lsm f l
    rw [← ih, Int.zero_add]
    congr 1
    exact csum_congr fun i _ => by rw [Nat.add_comm 1 i]; rfl
theorem lsm_perm (f : Int → Int) {l l' : List Int} (h : l.Perm l') : lsm f l = lsm f l' := by
  induction h with
  | nil => rfl
  | cons x _ ih => show f x + _ = f x + _; rw [ih]
  | swap x y l => show f y + (f x + lsm f l) = f x + (f y + lsm f l); omega
  | trans _ _ ih1 ih2 => exact ih1.trans ih2
theorem way_cons (N : List (List Int)) (E : List Bool) (ls : List Int) (v : List (List Int)) (s : Nat) : wayL N E (ls :: v) s = lsm (fun x => wayL N E v (nxA N s x)) ls :=
  lsm_csum (fun x => wayL N E v (nxA N s x)) ls
theorem way_perm {N : List (List Int)} {E : List Bool} {v v' : List (List Int)} (hl : v.length = v'.length) (h : ∀ i, i < v.length → (v.getD i []).Perm (v'.getD i [])) : ∀ s, wayL N E v s = wayL N E v' s := by
  induction v generalizing v' with
  | nil =>
    cases v' with
    | nil => exact fun s => rfl
    | cons a v' => cases hl
  | cons ls v ih =>
    cases v' with
    | nil => cases hl
    | cons ls' v' =>
      intro s
      have h0 : ls.Perm ls' := h 0 (by simp)
      rw [way_cons, way_cons, lsm_perm _ h0]
      congr 1
      funext x
      exact ih (by simpa using hl) (fun i hi => h (i + 1) (by simpa using hi)) _
/-- The letters that one stands beside, digit by digit; which they are as they are numbered. -/
def fillW (W : Int → List Int) (K : Nat) : Nat → List Int → List Int
  | _, [] => []
  | x, a :: v => (W a).getD (x % K) 0 :: fillW W K (x / K) v
theorem fill_way (N : List (List Int)) (E : List Bool) (W : Int → List Int) (K : Nat) (hK : 0 < K) : ∀ (l : List Int) (s : Nat), (∀ a ∈ l, (W a).length = K) → csum (fun x => if E.getD ((fillW W K x l).foldl (stepL N) s) false then 1 else 0) (K ^ l.length) = wayL N E (l.map W) s := by
  intro l
  induction l with
  | nil =>
    intro s _
    show 0 + (if E.getD s false then (1 : Int) else 0) = if E.getD s false then 1 else 0
    rw [Int.zero_add]
  | cons a v ih =>
    intro s hW
    have hd := csum_divmod (fun d y => if E.getD ((fillW W K y v).foldl (stepL N) (stepL N s ((W a).getD d 0))) false then 1 else 0) K hK (K ^ v.length)
    have e : K ^ (a :: v).length = K * K ^ v.length := by rw [List.length_cons, Nat.pow_succ, Nat.mul_comm]
    rw [e]
    refine hd.trans ?_
    show _ = csum (fun j => wayL N E (v.map W) (nxA N s ((W a).getD j 0))) (W a).length
    rw [hW a List.mem_cons_self]
    exact csum_congr fun d _ => ih _ (fun a ha => hW a (List.mem_cons_of_mem _ ha))
theorem evGo_rws {b : Int} {tr tk m mu : Nat} {N : List (List Int)} : ∀ (l row r : List Int), (∀ x ∈ l, 0 ≤ x ∧ x < (mu : Int)) → evGo (repS b tr tk m mu N) row l = some r → r = rwsT N row (l.map fun x => leftL b tr tk m x.toNat) := by
  intro l
  induction l with
  | nil => intro row r _ h; injection h with h; exact h.symm
  | cons x v ih =>
    intro row r hx h
    have hx0 := hx x List.mem_cons_self
    simp only [evGo] at h
    rw [repS_get (by omega)] at h
    split at h
    · exact ih _ r (fun y hy => hx y (List.mem_cons_of_mem _ hy)) h
    · cases h
/-- What is counted by matrices is how many ways there are. -/
theorem evlX_way {b : Int} {tr tk m mu n : Nat} {N : List (List Int)} {E : List Bool} (hG : GoodN m n N) {l : List Int} (hl : ∀ x ∈ l, 0 ≤ x ∧ x < (mu : Int)) {v : Int} (h : evlX (fst0L n) (repS b tr tk m mu N) (lastL E n) l = some v) : v = wayL N E (l.map fun x => leftL b tr tk m x.toNat) 0 ∧ v ≤ 1152921504606846976 := by
  have hNl := hG.1
  unfold evlX at h
  split at h
  · cases h
  · rename_i row hr
    have e := evGo_rws l _ _ hl hr
    split at h
    · rename_i hv
      injection h with h
      have hw : evS row (lastL E n) = capI (wayL N E (l.map fun x => leftL b tr tk m x.toNat) 0) := by
        unfold evS
        have hrl : row.length = n := by rw [e, rwsT_len, fst0L_len]
        rw [hrl, csum_congr (h := fun s => row.getD s 0 * (if E.getD s false then 1 else 0)) fun s hs => by rw [lastL_get hs], e, ← hNl]
        exact first_way _ (by have := hG.2.1; omega) fun ls h s hs j hj => by
          obtain ⟨x, -, rfl⟩ := List.mem_map.1 h
          have h9 := okLs_lt (okLs_left (b := b) (tr := tr) (tk := tk) (l := x.toNat) hG) (by rw [← hNl]; exact hs) hj
          omega
      rw [h] at hw hv
      refine ⟨?_, hv⟩
      rw [hw] at hv
      rw [hw, capI_small (capI_le.1 hv)]
    · cases h
end Go.Proofs.Ytlgjadnkokmjoaa

/- CountReps: mathematics: the letters that one stands beside, in whichever order. -/
namespace Go.Proofs.Ytlgjadnkokmjoaa
open Go.RowKit

theorem put_inj {b : Int} (h2 : b ≤ 6) {tr t : Nat} (ht : t ≤ tr) {x y : Int} (hx : 0 ≤ x ∧ x < kindsI b) (hy : 0 ≤ y ∧ y < kindsI b) {l : Int} (e : packL b (putD b tr t x l) = packL b (putD b tr t y l)) : x = y := by
  have hd : ∀ z, 0 ≤ z ∧ z < kindsI b → splitL b (tr + 1) (packL b (putD b tr t z l)) = putD b tr t z l := fun z hz => by
    have h := digB_put b h2 (tr := tr) (t := t) hz l
    unfold digB at h
    rw [List.all_eq_true] at h
    have hp := split_pack b h2 (putD b tr t z l) (fun j hj => by
      have := h _ (List.getElem_mem hj)
      rw [getD_at _ j hj]
      simpa using this)
    rwa [putD_len ht] at hp
  have e2 := congrArg (splitL b (tr + 1)) e
  rw [hd x hx, hd y hy] at e2
  have hl : ((splitL b tr l).take t).length = t := by rw [List.length_take, splitL_length]; omega
  have hg : ∀ z, (putD b tr t z l)[t]? = some z := fun z => by
    unfold putD
    rw [List.append_assoc, List.getElem?_append_right (by omega), hl, Nat.sub_self]
    rfl
  have e3 := congrArg (fun d : List Int => d[t]?) e2
  simp only [hg] at e3
  exact Option.some.inj e3
theorem withL_nodup {b : Int} (h2 : b ≤ 6) {tr tk : Nat} (ht : tk ≤ tr) (l : Int) : (withL b tr tk l).Nodup := by
  have hk := kinds_bd2 b h2
  unfold withL
  refine List.Pairwise.map (R := fun a c : Nat => a < c ∧ a < (kindsI b).toNat ∧ c < (kindsI b).toNat) _ (fun a c h e => ?_) (List.Pairwise.imp_of_mem (fun ha hc h => ⟨h, List.mem_range.1 ha, List.mem_range.1 hc⟩) List.pairwise_lt_range)
  have := put_inj h2 ht (x := (a : Int)) (y := (c : Int)) ⟨by omega, by omega⟩ ⟨by omega, by omega⟩ e
  omega
theorem leftL_nodup (b : Int) (tr tk m l : Nat) : (leftL b tr tk m l).Nodup := by
  unfold leftL
  refine List.Pairwise.map (R := fun a c : Nat => a < c) _ (fun a c h e => ?_) (List.Pairwise.filter _ List.pairwise_lt_range)
  omega
theorem left_perm {b : Int} (h2 : b ≤ 6) {tr tk m mu : Nat} (ht : tk ≤ tr) (hm : pw (kindsI b) (tr + 1) = (m : Int)) (hf : pw (kindsI b) tr = (mu : Int)) {l : Nat} (hl : l < mu) : (leftL b tr tk m l).Perm (withL b tr tk (l : Int)) :=
  (List.perm_ext_iff_of_nodup (leftL_nodup b tr tk m l) (withL_nodup h2 ht _)).2 fun x => leftL_with h2 ht hm hf hl x
/-- One by one. -/
theorem reps_fill {b : Int} (h2 : b ≤ 6) {tr tk m mu : Nat} {N : List (List Int)} (E : List Bool) (ht : tk ≤ tr) (hm : pw (kindsI b) (tr + 1) = (m : Int)) (hf : pw (kindsI b) tr = (mu : Int)) {l : List Int} (hl : ∀ x ∈ l, 0 ≤ x ∧ x < (mu : Int)) :
    csum (fun x => if E.getD (runL N (fillW (withL b tr tk) (kindsI b).toNat x l)) false then 1 else 0) ((kindsI b).toNat ^ l.length) = wayL N E (l.map fun x => leftL b tr tk m x.toNat) 0 := by
  have hk := kinds_bd2 b h2
  rw [show (fun x => if E.getD (runL N (fillW (withL b tr tk) (kindsI b).toNat x l)) false then (1 : Int) else 0) = fun x => if E.getD ((fillW (withL b tr tk) (kindsI b).toNat x l).foldl (stepL N) 0) false then (1 : Int) else 0 from rfl, fill_way N E (withL b tr tk) (kindsI b).toNat (by omega) l 0 (fun a _ => withL_len b tr tk a)]
  refine way_perm (by simp) (fun i hi => ?_) 0
  rw [List.length_map] at hi
  have hx := hl _ (List.getElem_mem hi)
  have e1 : (l.map (withL b tr tk)).getD i [] = withL b tr tk l[i] := by simp [List.getD, hi]
  have e2 : (l.map fun x => leftL b tr tk m x.toNat).getD i [] = leftL b tr tk m l[i].toNat := by simp [List.getD, hi]
  rw [e1, e2]
  have hp := left_perm h2 ht hm hf (l := l[i].toNat) (by omega)
  rw [Int.toNat_of_nonneg hx.1] at hp
  exact hp.symm
theorem leftL_one {b : Int} (m : Nat) : leftL b 0 0 m 0 = rngL m := by
  unfold leftL rngL
  rw [List.filter_eq_self.2 (fun y _ => ?_)]
  have hs : (splitL b (0 + 1) (y : Int)).length = 1 := splitL_length _ _ _
  have he : (splitL b (0 + 1) (y : Int)).eraseIdx 0 = [] := by
    match splitL b (0 + 1) (y : Int), hs with
    | [z], _ => rfl
  unfold delT
  rw [he]
  rfl
/-- Of one track alone they are all words. -/
theorem reps_one {b : Int} {m : Nat} {N : List (List Int)} (E : List Bool) {l : List Int} (hl : ∀ x ∈ l, 0 ≤ x ∧ x < (1 : Int)) : wayL N E (l.map fun x => leftL b 0 0 m x.toNat) 0 = wayL N E (List.replicate l.length (rngL m)) 0 := by
  congr 1
  rw [List.eq_replicate_iff]
  refine ⟨by simp, fun y hy => ?_⟩
  obtain ⟨x, hx, rfl⟩ := List.mem_map.1 hy
  have := hl x hx
  rw [show x.toNat = 0 by omega]
  exact leftL_one m
end Go.Proofs.Ytlgjadnkokmjoaa
