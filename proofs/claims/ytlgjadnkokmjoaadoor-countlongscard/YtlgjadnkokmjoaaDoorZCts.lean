/- 5 texts in one. -/
import Derived.BigQuiet
import Derived.Deep.DeepCutAuto
import Derived.Test.YtlgjadnkokmjoaaDoorZCtd
import Derived.Test.YtlgjadnkokmjoaaDoorCtn
import Derived.Test.YtlgjadnkokmjoaaDoorZNr
import Derived.Test.YtlgjadnkokmjoaaDoorZEg
import Derived.Test.YtlgjadnkokmjoaaDoorZHk
import Derived.Test.YtlgjadnkokmjoaaDoorZNx
import Derived.Test.YtlgjadnkokmjoaaDoorZLp
/- count.Rep: contract. -/
namespace Go.Proofs.YtlgjadnkokmjoaaDoor
open Go.RowKit

def repS (b : Int) (tr tk m mu : Nat) (N : List (List Int)) : List (List (List Int)) := (List.range mu).map fun l => leadsL N (leftL b tr tk m l)
theorem repS_len (b : Int) (tr tk m mu : Nat) (N : List (List Int)) : (repS b tr tk m mu N).length = mu := by simp [repS]
theorem repS_get {b : Int} {tr tk m mu l : Nat} {N : List (List Int)} (h : l < mu) : (repS b tr tk m mu N).getD l [] = leadsL N (leftL b tr tk m l) := by simp [repS, List.getD, h]
def lastL (E : List Bool) (n : Nat) : List Int := (List.range n).map fun s => if E.getD s false then 1 else 0
theorem lastL_len (E : List Bool) (n : Nat) : (lastL E n).length = n := by simp [lastL]
theorem lastL_get {E : List Bool} {n s : Nat} (h : s < n) : (lastL E n).getD s 0 = if E.getD s false then 1 else 0 := by
  have e : (lastL E n).getD s 0 = (lastL E n)[s]'(by rw [lastL_len]; exact h) := getD_at _ s _
  rw [e]
  unfold lastL
  rw [List.getElem_map, List.getElem_range]
theorem lastL_succ (E : List Bool) (k : Nat) : lastL E (k + 1) = lastL E k ++ [if E.getD k false then 1 else 0] := by simp [lastL, List.range_succ]
def RepNew (w : World) (b t : Int) (F : List Int) (S : List (List (List Int))) (L : List Int) (e : Ending) (w' : World) : Prop :=
  ∃ aF cF aS cS aL cL, e = .returned (.tuple #[.agg #[.int .i64 b, .int .i64 t, .slice aF F.length cF, .slice aS S.length cS, .slice aL L.length cL], .nilIface]) ∧ (Sl w' aF F.length F ∧ Sl3 w' aS S.length S ∧ Sl w' aL L.length L) ∧ Below w.heap.size w w'
theorem infoS22 : (Tryd.prog.info? 22).map (fun i => (i.zero, i.size, i.bytes)) = some (some (.slice none 0 0), 1, 24) := by kernel_rfl
def zRep : Obj := .cells #[.int .i64 0, .int .i64 0, .slice none 0 0, .slice none 0 0, .slice none 0 0] 38
/-- Between the operations that make its box and its first row. -/
def JRep (wb : World) (n : Nat) (x y : Bool) (c : Nat × Nat) (W : World) : Prop := Below wb.heap.size wb W ∧ (x = true → wb.heap.size ≤ c.2 ∧ W.rowIs c.2 3 n fun i => .int .i64 ((fst0L n).getD i 0)) ∧ (y = true → wb.heap.size ≤ c.1 ∧ W.heap[c.1]? = some zRep) ∧ (x = true → y = true → c.1 ≠ c.2)
def rpS (i : Nat) : Nat := ([33, 34, 35, 36, 37, 38, 39, 40, 9] : List Nat).getD i 0
theorem rpS_inj : ∀ i : Fin 9, ∀ j : Fin 9, rpS i.val = rpS j.val → i = j := by decide +kernel
theorem rpS_lt : ∀ i : Fin 9, rpS i.val < 72 := by decide +kernel
def rqS (i : Nat) : Nat := ([47, 48, 49, 50, 51, 52, 53, 54] : List Nat).getD i 0
theorem rqS_inj : ∀ i : Fin 8, ∀ j : Fin 8, rqS i.val = rqS j.val → i = j := by decide +kernel
theorem rqS_lt : ∀ i : Fin 8, rqS i.val < 72 := by decide +kernel
def rrS (i : Nat) : Nat := ([63, 64, 65, 66, 67, 68, 69] : List Nat).getD i 0
theorem rrS_inj : ∀ i : Fin 7, ∀ j : Fin 7, rrS i.val = rrS j.val → i = j := by decide +kernel
theorem rrS_lt : ∀ i : Fin 7, rrS i.val < 72 := by decide +kernel
abbrev rpO (b : Int) (tr n g : Nat) (v v4 : Value) : Obj := .cells #[.int .i64 b, .int .i64 (tr : Int), .slice (some ⟨g, 0, none⟩) n n, v, v4] 38
/-- Between the operations that append a square. -/
def JSq (wr w2 : World) (B : Nat) (mk : Value → Obj) (X : World → Prop) (L : Nat → List (List Int)) (n l : Nat) (v : Value) (D : Nat → Prop) (c : Nat × Nat × Nat × Nat) (W : World) : Prop :=
  (¬ D 4 → W = wr.drew) ∧ (D 4 → ¬ D 5 → Below wr.heap.size wr W ∧ KpW wr.heap.size W.heap.size (fun W => Sl2 W (some ⟨c.1, 0, none⟩) n (L l)) W) ∧
  (D 5 → ¬ D 6 → ∃ W2 : World, W = W2.alloc (.cells #[.slice (some ⟨c.1, 0, none⟩) n n] 22) ∧ c.2.1 = W2.heap.size ∧ Below wr.heap.size wr W2 ∧ KpW wr.heap.size W2.heap.size (fun W => Sl2 W (some ⟨c.1, 0, none⟩) n (L l)) W2) ∧
  (D 6 → W.heap[B]? = some (mk v) ∧ ∃ vals, GrK w2 B 3 mk 22 X (SqP L) (l + 1) vals (.slice (some ⟨c.2.2.1, 0, none⟩) (l + 1) c.2.2.2) (W.setCell ⟨B, 3, none⟩ (.slice (some ⟨c.2.2.1, 0, none⟩) (l + 1) c.2.2.2)))
theorem jSq_below {wr w2 W : World} {B : Nat} {mk : Value → Obj} {X : World → Prop} {L : Nat → List (List Int)} {n l : Nat} {v : Value} {D : Nat → Prop} {c : Nat × Nat × Nat × Nat} (h : JSq wr w2 B mk X L n l v D c W) (h6 : ¬ D 6) : Below wr.heap.size wr W := by
  obtain ⟨j1, j2, j3, -⟩ := h
  by_cases h4 : D 4
  · by_cases h5 : D 5
    · obtain ⟨W2, rfl, -, hb, -⟩ := j3 h5 h6
      exact hb.alloc hb.size _
    · exact (j2 h4 h5).1
  · rw [j1 h4]; exact (Below.refl _ _).drew
theorem jSq_iff {wr w2 : World} {B : Nat} {mk : Value → Obj} {X : World → Prop} {L : Nat → List (List Int)} {n l : Nat} {v : Value} (D D' : Nat → Prop) (c : Nat × Nat × Nat × Nat) (W : World) (e4 : D 4 ↔ D' 4) (e5 : D 5 ↔ D' 5) (e6 : D 6 ↔ D' 6) (h : JSq wr w2 B mk X L n l v D c W) : JSq wr w2 B mk X L n l v D' c W := by
  unfold JSq at h ⊢
  rw [← e4, ← e5, ← e6]
  exact h
/-- Between the operations that append a number. -/
def JLs (wr w2 wq : World) (B : Nat) (mk : Value → Obj) (l : List Int) (q : Nat) (x : Int) (v : Value) (D : Nat → Prop) (c : Nat × Nat × Nat) (W : World) : Prop :=
  (¬ D 4 → W = wr.drew) ∧ (D 4 → ¬ D 5 → W = wr.drew.alloc (.cells #[.int .i64 x] 3) ∧ c.1 = wr.heap.size) ∧
  (D 5 → W.heap[B]? = some (mk v) ∧ LsI w2 wq B 4 mk (l ++ [x]) (.slice (some ⟨c.2.1, 0, none⟩) (q + 1) c.2.2) (W.setCell ⟨B, 4, none⟩ (.slice (some ⟨c.2.1, 0, none⟩) (q + 1) c.2.2)))
theorem jLs_below {wr w2 wq W : World} {B : Nat} {mk : Value → Obj} {l : List Int} {q : Nat} {x : Int} {v : Value} {D : Nat → Prop} {c : Nat × Nat × Nat} (h : JLs wr w2 wq B mk l q x v D c W) (h5 : ¬ D 5) : Below wr.heap.size wr W := by
  obtain ⟨j1, j2, -⟩ := h
  by_cases h4 : D 4
  · rw [(j2 h4 h5).1]; exact (Below.refl _ _).drew.alloc (Nat.le_refl _) _
  · rw [j1 h4]; exact (Below.refl _ _).drew
theorem jLs_iff {wr w2 wq : World} {B : Nat} {mk : Value → Obj} {l : List Int} {q : Nat} {x : Int} {v : Value} (D D' : Nat → Prop) (c : Nat × Nat × Nat) (W : World) (e4 : D 4 ↔ D' 4) (e5 : D 5 ↔ D' 5) (h : JLs wr w2 wq B mk l q x v D c W) : JLs wr w2 wq B mk l q x v D' c W := by
  unfold JLs at h ⊢
  rw [← e4, ← e5]
  exact h
theorem okLs_left {b : Int} {tr tk m l n : Nat} {N : List (List Int)} (hG : GoodN m n N) : OkLs N n (leftL b tr tk m l) := fun s hs j hj => by
  have hm : (leftL b tr tk m l).getD j 0 ∈ leftL b tr tk m l := by rw [getD_at _ j hj]; exact List.getElem_mem _
  have hb := (mem_leftL.1 hm).1
  obtain ⟨h1, h2⟩ := hG.2.2.2.2.2 s hs
  rw [h1]
  have h3 := h2 ((leftL b tr tk m l).getD j 0).toNat (by omega)
  exact ⟨hb.1, by omega, h3.1, h3.2⟩
set_option maxHeartbeats 32000000 in
set_option maxRecDepth 8000 in
theorem rep_ok (b : Int) (tn tr tk m mu : Nat) (a : Option Addr) (n cap : Nat) (a' : Option Addr) (cap' : Nat) (N : List (List Int)) (E : List Bool) (w : World) (hs : Sl2 w a n N) (he : SlB w a' n E) (htn : tn = tr + 1) (htk : tk ≤ tr) (hA : autoC b (tn : Int) N n = 0) (hU1 : manyU b (tn : Int) = (m : Int)) (hf : pw (kindsI b) tr = (mu : Int)) :
    Calls Tryd.prog 11 #[.agg #[.int .i64 b, .int .i64 (tn : Int), .slice a n cap, .slice a' n cap'], .int .i64 (tk : Int)] w (RepNew w b (tr : Int) (fst0L n) (repS b tr tk m mu N) (lastL E n)) := by
  obtain ⟨l0, hl0, hv0, hv1, hv2⟩ := info_parts infoS22
  obtain ⟨i0, hi0, hz0, hz1, hz2⟩ := info_parts info3
  obtain ⟨hC1, -, hG, hmu⟩ := autoC_zero hA
  have hn80 := autoC_80 hA
  rw [hs.1] at hG hn80
  rw [hU1, Int.toNat_natCast] at hG
  have hCt : codeM b ((tr : Int) + 1) = 0 := by rw [htn] at hC1; rw [← hC1]; congr 1
  obtain ⟨hC, hM', -, hmu36, -, ht4, h1, h2⟩ := many_less hCt
  have h36 : mu ≤ 36 := by rw [hM', hf] at hmu36; omega
  have hm36 := hG.2.2.2.1
  have hn1 := hG.2.1
  have hNl := hG.1
  have hB0 := below_two w (.cells #[.int .i64 b, .int .i64 (tn : Int), .slice a n cap, .slice a' n cap'] 25) (.cells #[.int .i64 0, .int .i64 0, .slice none 0 0, .slice none 0 0, .slice none 0 0] 38)
  have HB0 := hide hB0
  have HX1 := hide (heap_alloc2_fst w (.cells #[.int .i64 b, .int .i64 (tn : Int), .slice a n cap, .slice a' n cap'] 25) (.cells #[.int .i64 0, .int .i64 0, .slice none 0 0, .slice none 0 0, .slice none 0 0] 38))
  have HX2 := hide (heap_alloc2_snd w (.cells #[.int .i64 b, .int .i64 (tn : Int), .slice a n cap, .slice a' n cap'] 25) (.cells #[.int .i64 0, .int .i64 0, .slice none 0 0, .slice none 0 0, .slice none 0 0] 38))
  have HCK := hide (check_u b (tn : Int) a a' n cap n cap' N _ (sl2_below hs hB0) he.2.1)
  rw [hA, errV_zero] at HCK
  have HLW := hide (fun W => lettersWithout_any b tn tr tk m mu W htn h2 ht4 htk hf hC hC1 hU1 h36)
  unfold GivesRws at HLW
  simp only [leftR_len] at HLW
  have HAF := hide (fun W => atFirst_any b (tn : Int) a n cap a' n cap' W hn1 (by omega))
  unfold NewRow at HAF
  simp only [fst0L_len] at HAF
  have HLC : Hid (∀ (W : World) (al : Option Addr) (cl l : Nat), Below w.heap.size w W → l < mu → Sl W al (leftL b tr tk m l).length (leftL b tr tk m l) → Calls Tryd.prog 21 #[.agg #[.int .i64 b, .int .i64 (tn : Int), .slice a n cap, .slice a' n cap'], .slice al (leftL b tr tk m l).length cl] W fun e w' => e = .returned (.slice (some ⟨W.heap.size + 1, 0, none⟩) n n) ∧ KpW W.heap.size w'.heap.size (fun W2 => Sl2 W2 (some ⟨W.heap.size + 1, 0, none⟩) n (leadsL N (leftL b tr tk m l))) w' ∧ Below W.heap.size W w') := fun W al cl l h1 _ h2 =>
    (leads_any b (tn : Int) a n cap a' n cap' N al _ cl (leftL b tr tk m l) W (sl2_below hs h1) h2 (by omega) (Nat.le_trans (leftL_len _ _ _ _ _) hm36) (okLs_left hG)).mono fun e w' h => leads_kp h hNl (by omega) (Nat.le_trans (leftL_len _ _ _ _ _) hm36)
  have HRG := hide (fun l (h : l < mu) => leftR_get (b := b) (tr := tr) (tk := tk) (m := m) h)
  have HLL := hide (fun l => leadsL_len N (leftL b tr tk m l))
  rw [hNl] at HLL
  have HE := hide he
  have hsub : (tn : Int) - 1 = (tr : Int) := by omega
  have HFW : Hid (∀ W g, W.rowIs g 3 n (fun i => .int .i64 ((fst0L n).getD i 0)) → Sl W (some ⟨g, 0, none⟩) n (fst0L n)) := fun W g h => sl_of_rowIs (fst0L_len n) (by unfold maxLen; omega) (bdL_wf (fst0L_bd n)) h
  clear hs he hA hU1 hf hC hC1 hCt hM' hmu36 hmu hB0 hNl htn
  generalize hwb : (w.alloc (.cells #[.int .i64 b, .int .i64 (tn : Int), .slice a n cap, .slice a' n cap'] 25)).alloc (.cells #[.int .i64 0, .int .i64 0, .slice none 0 0, .slice none 0 0, .slice none 0 0] 38) = wb at HB0 HX1 HX2 HCK
  have HSZ : Hid (wb.heap.size = w.heap.size + 2) := by show _ = _; rw [← hwb]; simp
  obtain ⟨⟨p0, p1, p2, p3⟩, -⟩ := box_cells HX1.out
  go_enter Tryd.func11, Tryd.ntmps11
  go_wp2_with fail
  clear hwb p0 p1 p2 p3
  refine HCK.out.mono ?_
  rintro e w1 ⟨rfl, hb1⟩
  have HB1 := hide hb1
  obtain ⟨⟨p0, p1, p2, p3⟩, -⟩ := box_cells ((hb1.block _ (by rw [HSZ.out]; omega)).trans HX1.out)
  have HC1 := hide (HLW.out w1)
  clear hb1 HLW HCK
  go_wp2_with (go_at_call 30; refine HC1.out.mono ?_; rintro e w2 ⟨g2, rfl, hs2, hb2⟩; have HS2 := hide hs2; have HB2 := hide (below_step HB1.out hb2); clear hs2 hb2)
  clear p0 p1 p2 p3
  obtain ⟨⟨p0, p1, p2, p3⟩, -⟩ := box_cells ((HB2.out.block _ (by rw [HSZ.out]; omega)).trans HX1.out)
  have hwtr : IntKind.i64.wrap (tr : Int) = (tr : Int) := wrap_i64_id (by omega)
  have HJ0 : Hid (JRep w2 n false false (0, 0) w2.drew) := ⟨(Below.refl _ _).drew, fun h => (by cases h), fun h => (by cases h), fun h => (by cases h)⟩
  have HCB : Hid (∀ W, Below w2.heap.size w2 W → W.cell? ⟨w.heap.size, 0, none⟩ = some (.int .i64 b) ∧ W.cell? ⟨w.heap.size, 1, none⟩ = some (.int .i64 (tn : Int)) ∧ W.cell? ⟨w.heap.size, 2, none⟩ = some (.slice a n cap) ∧ W.cell? ⟨w.heap.size, 3, none⟩ = some (.slice a' n cap')) := fun W h => (box_cells (((below_step HB2.out h).block _ (by rw [HSZ.out]; omega)).trans HX1.out)).1
  clear p0 p1 p2 p3
  refine region_two (C := Nat × Nat) (by kernel_rfl) (rvOn_spec (by decide +kernel)) 9 6 8 rfl (by decide) (by decide) (by decide) rpS (fun c i => ([.pointer (some ⟨w.heap.size, 0, none⟩), .int .i64 b, .pointer (some ⟨w.heap.size, 1, none⟩), .int .i64 (tn : Int), .int .i64 (tr : Int), .agg #[.int .i64 b, .int .i64 (tn : Int), .slice a n cap, .slice a' n cap'], .slice (some ⟨c.2, 0, none⟩) n n, .agg #[.int .i64 b, .int .i64 (tr : Int), .slice (some ⟨c.2, 0, none⟩) n n, .slice none 0 0, .slice none 0 0], .pointer (some ⟨c.1, 0, none⟩)] : List Value).getD i undef) (fun i j hi hj e => by have := rpS_inj ⟨i, hi⟩ ⟨j, hj⟩ e; injection this) (fun i hi => rpS_lt ⟨i, hi⟩) (by decide +kernel) (JRep w2 n) (0, 0) (HJ0.out) ?_ ?_ ?_ ?_
  · intro T W i o x y c hi hi1 hi2 ho hsz hdep hst hJ
    have e2 : T[2]? = some (.pointer (some ⟨w.heap.size, 0, none⟩)) := hst 2 (by decide +kernel)
    obtain ⟨p0, p1, p2, p3⟩ := HCB.out W hJ.1
    clear hsz hst hJ
    rcases (by omega : i = 0 ∨ i = 1 ∨ i = 2 ∨ i = 3 ∨ i = 4 ∨ i = 5 ∨ i = 6 ∨ i = 7 ∨ i = 8) with rfl | rfl | rfl | rfl | rfl | rfl | rfl | rfl | rfl
    · injection ho with ho
      subst ho
      clear hdep hi1 hi2
      refine wpOp_step (o := _) rfl fun K2 hK => ?_
      rw [if_pos (by rfl)]
      have HK := hide hK
      clear hK
      go_simp
      exact HK.out _ _ ⟨rfl, rfl⟩
    · injection ho with ho
      subst ho
      have d0 : T[33]? = some (.pointer (some ⟨w.heap.size, 0, none⟩)) := hdep { on := 0, ground := .data } (by simp) rfl
      clear hdep hi1 hi2
      refine wpOp_step (o := _) rfl fun K2 hK => ?_
      rw [if_pos (by rfl)]
      have HK := hide hK
      clear hK
      go_simp
      exact HK.out _ _ ⟨rfl, rfl⟩
    · injection ho with ho
      subst ho
      clear hdep hi1 hi2
      refine wpOp_step (o := _) rfl fun K2 hK => ?_
      rw [if_pos (by rfl)]
      have HK := hide hK
      clear hK
      go_simp
      exact HK.out _ _ ⟨rfl, rfl⟩
    · injection ho with ho
      subst ho
      have d2 : T[35]? = some (.pointer (some ⟨w.heap.size, 1, none⟩)) := hdep { on := 2, ground := .data } (by simp) rfl
      clear hdep hi1 hi2
      refine wpOp_step (o := _) rfl fun K2 hK => ?_
      rw [if_pos (by rfl)]
      have HK := hide hK
      clear hK
      go_simp
      exact HK.out _ _ ⟨rfl, rfl⟩
    · injection ho with ho
      subst ho
      have d3 : T[36]? = some (.int .i64 (tn : Int)) := hdep { on := 3, ground := .data } (by simp) rfl
      clear hdep hi1 hi2
      refine wpOp_step (o := _) rfl fun K2 hK => ?_
      rw [if_pos (by rfl)]
      have HK := hide hK
      clear hK
      go_simp
      exact HK.out _ _ ⟨rfl, rfl⟩
    · injection ho with ho
      subst ho
      clear hdep hi1 hi2
      refine wpOp_step (o := _) rfl fun K2 hK => ?_
      rw [if_pos (by rfl)]
      have HK := hide hK
      clear hK
      go_simp
      exact HK.out _ _ ⟨rfl, rfl⟩
    · exact absurd rfl hi1
    · injection ho with ho
      subst ho
      have d1 : T[34]? = some (.int .i64 b) := hdep { on := 1, ground := .data } (by simp) rfl
      have d4 : T[37]? = some (.int .i64 (tr : Int)) := hdep { on := 4, ground := .data } (by simp) rfl
      have d6 : T[39]? = some (.slice (some ⟨c.2, 0, none⟩) n n) := hdep { on := 6, ground := .data } (by simp) rfl
      clear hdep hi1 hi2
      refine wpOp_step (o := _) rfl fun K2 hK => ?_
      rw [if_pos (by rfl)]
      have HK := hide hK
      clear hK
      go_simp
      exact HK.out _ _ ⟨rfl, rfl⟩
    · exact absurd rfl hi2
  · intro T W o y c ho hsz hdep hst hJ
    have e2 : T[2]? = some (.pointer (some ⟨w.heap.size, 0, none⟩)) := hst 2 (by decide +kernel)
    injection ho with ho
    subst ho
    have d5 : T[38]? = some (.agg #[.int .i64 b, .int .i64 (tn : Int), .slice a n cap, .slice a' n cap']) := hdep { on := 5, ground := .data } (by simp) rfl
    have HJ := hide hJ
    clear hst hdep hsz hJ
    refine wpOp_step (o := _) rfl fun K2 hK => ?_
    rw [if_pos (by rfl)]
    have HK := hide hK
    clear hK
    go_simp
    refine (HAF.out W).mono ?_
    rintro e w3 ⟨g3, rfl, hg3, hr3, hb3⟩
    refine HK.out _ _ ⟨(c.1, g3), rfl, ⟨below_step HJ.out.1 hb3, fun _ => ⟨by have h8 := HJ.out.1.size; show w2.heap.size ≤ g3; omega, hr3⟩, fun h => ⟨(HJ.out.2.2.1 h).1, (hb3.block c.1 (Array.getElem?_eq_some_iff.1 (HJ.out.2.2.1 h).2).1).trans (HJ.out.2.2.1 h).2⟩, fun _ h => by have h7 := (Array.getElem?_eq_some_iff.1 (HJ.out.2.2.1 h).2).1; show c.1 ≠ g3; omega⟩, ?_⟩
    intro j hj hjk hr
    rcases (by omega : j = 0 ∨ j = 1 ∨ j = 2 ∨ j = 3 ∨ j = 4 ∨ j = 5 ∨ j = 6 ∨ j = 7 ∨ j = 8) with rfl | rfl | rfl | rfl | rfl | rfl | rfl | rfl | rfl
    · rfl
    · rfl
    · rfl
    · rfl
    · rfl
    · rfl
    · exact absurd rfl hjk
    · exact absurd hr (by decide +kernel)
    · rfl
  · intro T W o x c ho hsz hdep hst hJ
    have e2 : T[2]? = some (.pointer (some ⟨w.heap.size, 0, none⟩)) := hst 2 (by decide +kernel)
    injection ho with ho
    subst ho
    have HJ := hide hJ
    clear hst hdep hsz hJ
    refine wpOp_step (o := _) rfl fun K2 hK => ?_
    rw [if_pos (by rfl)]
    have HK := hide hK
    clear hK
    go_simp
    refine HK.out _ _ ⟨(W.heap.size, c.2), rfl, ⟨HJ.out.1.alloc HJ.out.1.size _, fun h => ⟨(HJ.out.2.1 h).1, (HJ.out.2.1 h).2.of_block (((Below.refl W.heap.size W).alloc (Nat.le_refl _) _).block _ (HJ.out.2.1 h).2.lt)⟩, fun _ => ⟨HJ.out.1.size, heap_alloc_last W zRep⟩, fun h _ => by have h7 := (HJ.out.2.1 h).2.lt; show W.heap.size ≠ c.2; omega⟩, ?_⟩
    intro j hj hjk hr
    rcases (by omega : j = 0 ∨ j = 1 ∨ j = 2 ∨ j = 3 ∨ j = 4 ∨ j = 5 ∨ j = 6 ∨ j = 7 ∨ j = 8) with rfl | rfl | rfl | rfl | rfl | rfl | rfl | rfl | rfl
    · rfl
    · rfl
    · rfl
    · rfl
    · rfl
    · rfl
    · rfl
    · rfl
    · exact absurd rfl hjk
  · intro T W o c ho hsz hval hst hJ
    have e2 : T[2]? = some (.pointer (some ⟨w.heap.size, 0, none⟩)) := hst 2 (by decide +kernel)
    have hzb := (hJ.2.2.1 rfl).2
    unfold zRep at hzb
    obtain ⟨⟨u0, u1, u2, u3, u4⟩, uf⟩ := box5R_cells hzb
    injection ho with ho
    subst ho
    have d8 : T[9]? = some (.pointer (some ⟨c.1, 0, none⟩)) := hval 8 (by decide +kernel)
    have d7 : T[40]? = some (.agg #[.int .i64 b, .int .i64 (tr : Int), .slice (some ⟨c.2, 0, none⟩) n n, .slice none 0 0, .slice none 0 0]) := hval 7 (by decide +kernel)
    have HJ := hide hJ
    have HST := hide hst
    have HVA := hide hval
    have HSZT := hide hsz
    clear hval hst hJ hsz
    refine wpOp_step (o := _) rfl fun K2 hK => ?_
    rw [if_pos (by rfl)]
    have HK := hide hK
    clear hK
    go_simp
    refine HK.out _ _ ?_
    have hT := rv_list (fun i hi => rpS_lt ⟨i, hi⟩) HSZT.out HVA.out HST.out [8, 7, 6, 5, 4, 3, 2, 1, 0] rfl
    simp only [rvSet, rpS, List.getD_cons_zero, List.getD_cons_succ, List.setIfInBounds_toArray, List.set_cons_zero, List.set_cons_succ] at hT
    rw [hT]
    clear hT HK HVA HST HSZT e2 d7 d8 u0 u1 u2 u3 u4 uf
    obtain ⟨B, g⟩ := c
    obtain ⟨hj1, hj2, hj3, hj4⟩ := HJ.out
    obtain ⟨hg, hrow⟩ := hj2 rfl
    obtain ⟨hB, -⟩ := hj3 rfl
    have hBg := hj4 rfl rfl
    simp only [] at hg hrow hB hBg hzb ⊢
    obtain ⟨⟨hset, hsize, hoth⟩, hbel⟩ := box5R_set (v0 := .int .i64 b) (v1 := .int .i64 (tr : Int)) (v2 := .slice (some ⟨g, 0, none⟩) n n) (v3 := .slice none 0 0) (v4 := .slice none 0 0) hzb rfl
    have hbw := hbel w2 w2.heap.size hj1 hB
    have hrow2 := hrow.of_block (hoth g (fun e => hBg e.symm))
    clear hj1 hj2 hj3 hj4 HJ hzb hbel hoth hrow hsize
    generalize ((((W.setCell ⟨B, 0, none⟩ (.int .i64 b)).setCell ⟨B, 1, none⟩ (.int .i64 (tr : Int))).setCell ⟨B, 2, none⟩ (.slice (some ⟨g, 0, none⟩) n n)).setCell ⟨B, 3, none⟩ (.slice none 0 0)).setCell ⟨B, 4, none⟩ (.slice none 0 0) = W4 at hset hbw hrow2 ⊢
    clear W
    have HSET := hide hset
    have HBW := hide hbw
    have HSW2 : Hid (w.heap.size + 2 ≤ w2.heap.size) := by show _ ≤ _; have := HB2.out.size; have := HSZ.out; omega
    have hG0 : GrK w2 B 3 (fun v => rpO b tr n g v (.slice none 0 0)) 22 (fun W => Sl W (some ⟨g, 0, none⟩) n (fst0L n)) (SqP (fun l => leadsL N (leftL b tr tk m l))) 0 [] (.slice none 0 0) W4 :=
      ⟨hset, World.ownsRow_nil _ _ _ _, rfl, hbw, hB, fun W v v' h => by simp [World.setCell, Array.getElem?_modify, h], ⟨g, g + 1, ⟨⟨hg, by omega⟩, hrow2.lt, fun x e => by cases e⟩, fun W' hW' => HFW.out W' g (hrow2.of_block (hW' g (Nat.le_refl _) (Nat.lt_succ_self _)))⟩, fun j hj => by omega⟩
    have HG0 := hide hG0
    clear hset hbw hrow2 hG0 hwtr HJ0
    go_wp2
    go_loopw [43] (fun u wx => ∃ l : Nat, l ≤ mu ∧ u = .int .i64 l ∧ ∃ vals v, GrK w2 B 3 (fun v => rpO b tr n g v (.slice none 0 0)) 22 (fun W => Sl W (some ⟨g, 0, none⟩) n (fst0L n)) (SqP (fun l => leadsL N (leftL b tr tk m l))) l vals v wx) (fun u _ => mu - (intOf u).toNat)
    case atStart => exact ⟨0, by omega, rfl, _, _, HG0.out⟩
    case round =>
      obtain ⟨l, hl, rfl, vals, v, hgr⟩ := hrel
      have HGR := hide hgr
      by_cases hlt : l < mu
      · have hlti : (l : Int) < (mu : Int) := by omega
        obtain ⟨_, _, al, cl, e1, hcl, hsl⟩ := sl2_cell (sl2_below HS2.out hgr.bel) l hlt
        cases e1
        rw [HRG.out l hlt] at hcl hsl
        have HSL := hide hsl
        have HCL := hide (fun (W : World) (h : Below wr.heap.size wr W) => HLC.out W al cl l (below_step (below_step HB0.out HB2.out) (below_step hgr.bel h)) hlt (sl_below hsl h))
        have HLLL := hide (HLL.out l)
        rw [Nat.zero_add] at hcl
        clear hsl hgr
        go_upto_region 11 with fail
        clear hcl
        refine region_turns (C := Nat × Nat × Nat × Nat) (by kernel_rfl) (rvOn_spec (by decide +kernel)) 8 rfl (fun k => k == 4 || k == 5 || k == 6) rfl rqS (fun c i => ([.pointer (some ⟨B, 3, none⟩), v, .agg #[.int .i64 b, .int .i64 (tn : Int), .slice a n cap, .slice a' n cap'], .slice al (leftL b tr tk m l).length cl, .slice (some ⟨c.1, 0, none⟩) n n, .slice (some ⟨c.2.1, 0, none⟩) 1 1, .slice (some ⟨c.2.2.1, 0, none⟩) (l + 1) c.2.2.2, .pointer (some ⟨B, 3, none⟩)] : List Value).getD i undef) (fun i j hi hj e => by have := rqS_inj ⟨i, hi⟩ ⟨j, hj⟩ e; injection this) (fun i hi => rqS_lt ⟨i, hi⟩) (by decide +kernel) (JSq wr w2 B (fun v => rpO b tr n g v (.slice none 0 0)) (fun W => Sl W (some ⟨g, 0, none⟩) n (fst0L n)) (fun l => leadsL N (leftL b tr tk m l)) n l v) (fun D D' c W h => jSq_iff D D' c W (h 4 rfl (by decide)) (h 5 rfl (by decide)) (h 6 rfl (by decide))) (0, 0, 0, 0) (⟨fun _ => rfl, fun h => h.elim, fun h => h.elim, fun h => h.elim⟩) ?_ ?_ ?_
        · intro T W i o D c hi hti ho hsz hdep hst hni hcl hup hJ
          have e2 : T[2]? = some (.pointer (some ⟨w.heap.size, 0, none⟩)) := hst 2 (by decide +kernel)
          have e9 : T[9]? = some (.pointer (some ⟨B, 0, none⟩)) := hst 9 (by decide +kernel)
          have e11 : T[11]? = some (.slice al (leftL b tr tk m l).length cl) := hst 11 (by decide +kernel)
          rcases (by omega : i = 0 ∨ i = 1 ∨ i = 2 ∨ i = 3 ∨ i = 4 ∨ i = 5 ∨ i = 6 ∨ i = 7) with rfl | rfl | rfl | rfl | rfl | rfl | rfl | rfl
          · injection ho with ho
            subst ho
            clear hdep hsz hst hni hcl hup hJ hti
            refine wpOp_step (o := _) rfl fun K2 hK => ?_
            rw [if_pos (by rfl)]
            have HK := hide hK
            clear hK
            go_simp
            exact HK.out _ _ ⟨rfl, rfl⟩
          · injection ho with ho
            subst ho
            have d0 : T[47]? = some (.pointer (some ⟨B, 3, none⟩)) := hdep { on := 0, ground := .data } (by simp) rfl
            have hb := jSq_below hJ (fun h6 => hni (hcl 6 1 h6 (by decide +kernel)))
            have k3 := (box5R_cells ((grK_below HGR.out hb).box)).1.2.2.2.1
            clear hb
            clear hdep hsz hst hni hcl hup hJ hti
            refine wpOp_step (o := _) rfl fun K2 hK => ?_
            rw [if_pos (by rfl)]
            have HK := hide hK
            clear hK
            go_simp
            exact HK.out _ _ ⟨rfl, rfl⟩
          · injection ho with ho
            subst ho
            have hb := jSq_below hJ (fun h6 => hni (hcl 6 2 h6 (by decide +kernel)))
            obtain ⟨p0, p1, p2, p3⟩ := HCB.out W (below_step HGR.out.bel hb)
            clear hb
            clear hdep hsz hst hni hcl hup hJ hti
            refine wpOp_step (o := _) rfl fun K2 hK => ?_
            rw [if_pos (by rfl)]
            have HK := hide hK
            clear hK
            go_simp
            exact HK.out _ _ ⟨rfl, rfl⟩
          · injection ho with ho
            subst ho
            clear hdep hsz hst hni hcl hup hJ hti
            refine wpOp_step (o := _) rfl fun K2 hK => ?_
            rw [if_pos (by rfl)]
            have HK := hide hK
            clear hK
            go_simp
            exact HK.out _ _ ⟨rfl, rfl⟩
          · cases hti
          · cases hti
          · cases hti
          · injection ho with ho
            subst ho
            clear hdep hsz hst hni hcl hup hJ hti
            refine wpOp_step (o := _) rfl fun K2 hK => ?_
            rw [if_pos (by rfl)]
            have HK := hide hK
            clear hK
            go_simp
            exact HK.out _ _ ⟨rfl, rfl⟩
        · intro T W k o D c hk htk ho hsz hdep hst hup hni hcl hJ
          have e2 : T[2]? = some (.pointer (some ⟨w.heap.size, 0, none⟩)) := hst 2 (by decide +kernel)
          have e9 : T[9]? = some (.pointer (some ⟨B, 0, none⟩)) := hst 9 (by decide +kernel)
          have e11 : T[11]? = some (.slice al (leftL b tr tk m l).length cl) := hst 11 (by decide +kernel)
          rcases (by omega : k = 0 ∨ k = 1 ∨ k = 2 ∨ k = 3 ∨ k = 4 ∨ k = 5 ∨ k = 6 ∨ k = 7) with rfl | rfl | rfl | rfl | rfl | rfl | rfl | rfl
          · cases htk
          · cases htk
          · cases htk
          · cases htk
          · injection ho with ho
            subst ho
            have d2 : T[49]? = some (.agg #[.int .i64 b, .int .i64 (tn : Int), .slice a n cap, .slice a' n cap']) := hdep { on := 2, ground := .data } (by simp) rfl
            have d3 : T[50]? = some (.slice al (leftL b tr tk m l).length cl) := hdep { on := 3, ground := .data } (by simp) rfl
            have HJ := hide hJ
            have HUP := hide hup
            have HNI := hide hni
            have HCLO := hide hcl
            clear hdep hsz hst hni hup hcl hJ htk
            refine wpOp_step (o := _) rfl fun K2 hK => ?_
            rw [if_pos (by rfl)]
            have HK := hide hK
            clear hK
            go_simp
            have hW : W = wr.drew := HJ.out.1 HNI.out
            subst hW
            refine (HCL.out wr.drew (Below.refl _ _).drew).mono ?_
            rintro e w5 ⟨rfl, hk5, hb5⟩
            refine HK.out _ _ ⟨(wr.drew.heap.size + 1, c.2), rfl, ⟨fun h => absurd (Or.inl rfl) h, fun _ _ => ⟨below_step (Below.refl wr.heap.size wr).drew hb5, hk5⟩, fun h => absurd (HCLO.out 5 4 (h.resolve_left (by decide)) (by decide +kernel)) HNI.out, fun h => absurd (HCLO.out 6 4 (h.resolve_left (by decide)) (by decide +kernel)) HNI.out⟩, ?_⟩
            intro j hj hjk hr
            rcases (by omega : j = 0 ∨ j = 1 ∨ j = 2 ∨ j = 3 ∨ j = 4 ∨ j = 5 ∨ j = 6 ∨ j = 7) with rfl | rfl | rfl | rfl | rfl | rfl | rfl | rfl
            · rfl
            · rfl
            · rfl
            · rfl
            · exact absurd rfl hjk
            · exact absurd hr (by decide +kernel)
            · exact absurd hr (by decide +kernel)
            · rfl
          · injection ho with ho
            subst ho
            have d4 : T[51]? = some (.slice (some ⟨c.1, 0, none⟩) n n) := hdep { on := 4, ground := .data } (by simp) rfl
            have HJ := hide hJ
            have HUP := hide hup
            have HNI := hide hni
            have HCLO := hide hcl
            clear hdep hsz hst hni hup hcl hJ htk
            refine wpOp_step (o := _) rfl fun K2 hK => ?_
            rw [if_pos (by rfl)]
            have HK := hide hK
            clear hK
            go_simp
            have h4 := HUP.out 4 (by decide +kernel)
            obtain ⟨hb4, hk4⟩ := HJ.out.2.1 h4 HNI.out
            refine HK.out _ _ ⟨(c.1, W.heap.size, c.2.2), rfl, ⟨fun h => absurd (Or.inr h4) h, fun _ h => absurd (Or.inl rfl) h, fun _ _ => ⟨W, rfl, rfl, hb4, hk4⟩, fun h => absurd (HCLO.out 6 5 (h.resolve_left (by decide)) (by decide +kernel)) HNI.out⟩, ?_⟩
            intro j hj hjk hr
            rcases (by omega : j = 0 ∨ j = 1 ∨ j = 2 ∨ j = 3 ∨ j = 4 ∨ j = 5 ∨ j = 6 ∨ j = 7) with rfl | rfl | rfl | rfl | rfl | rfl | rfl | rfl
            · rfl
            · rfl
            · rfl
            · rfl
            · rfl
            · exact absurd rfl hjk
            · exact absurd hr (by decide +kernel)
            · rfl
          · injection ho with ho
            subst ho
            have d1 : T[48]? = some (v) := hdep { on := 1, ground := .data } (by simp) rfl
            have d5 : T[52]? = some (.slice (some ⟨c.2.1, 0, none⟩) 1 1) := hdep { on := 5, ground := .data } (by simp) rfl
            have HJ := hide hJ
            have HUP := hide hup
            have HNI := hide hni
            have HCLO := hide hcl
            clear hdep hsz hst hni hup hcl hJ htk
            refine wpOp_step (o := _) rfl fun K2 hK => ?_
            rw [if_pos (by rfl)]
            have HK := hide hK
            clear hK
            obtain ⟨W2, hW2, hc2, hb2, hk2⟩ := HJ.out.2.2.1 (HUP.out 5 (by decide +kernel)) HNI.out
            subst hW2
            have h4 := HUP.out 4 (by decide +kernel)
            have h5 := HUP.out 5 (by decide +kernel)
            have hg2 := grK_below HGR.out hb2
            have hz2 := hg2.bel.size
            have hz3 := hb2.size
            have hBl := (Array.getElem?_eq_some_iff.1 hg2.box).1
            rw [hc2] at d5
            refine wp_append_lies _ (.tmp 48) (.tmp 52) 36 rfl (B + 1) 22 l0 (.slice none 0 0) 1 24 Tryd.underlying36 hl0 hv0 hv1 hv2 rfl (by decide) v l vals (by show T.getD 48 undef = v; simp [Array.getD_eq_getD_getElem?, d1]) (hg2.own.alloc _) ⟨W2.heap.size, 0, none⟩ 1 1 [.slice (some ⟨c.1, 0, none⟩) n n] (by show T.getD 52 undef = _; simp [Array.getD_eq_getD_getElem?, d5]) rfl (one_new _ _ _) (fun u hu => by simp at hu; subst hu; rfl) (by omega) (by unfold maxLen; omega) (by omega) (by simp; omega) (W2.heap.size + 1) (by simp) ?_
            intro g9 cap9 w9 hown9 hgrow9 hat9 _
            obtain ⟨hbx, hgk⟩ := grK_push HGR.out hb2 (u := .slice (some ⟨c.1, 0, none⟩) n n) (fun W' hW' => ⟨some ⟨c.1, 0, none⟩, n, by rw [HLLL.out], by rw [HLLL.out]; exact hk2 W' hW'⟩) hown9 hgrow9 hat9
            refine HK.out _ _ ⟨(c.1, c.2.1, g9, cap9), rfl, ⟨fun h => absurd (Or.inr h4) h, fun _ h => absurd (Or.inr h5) h, fun _ h => absurd (Or.inl rfl) h, fun _ => ⟨hbx, _, hgk⟩⟩, ?_⟩
            intro j hj hjk hr
            rcases (by omega : j = 0 ∨ j = 1 ∨ j = 2 ∨ j = 3 ∨ j = 4 ∨ j = 5 ∨ j = 6 ∨ j = 7) with rfl | rfl | rfl | rfl | rfl | rfl | rfl | rfl
            · rfl
            · rfl
            · rfl
            · rfl
            · rfl
            · rfl
            · exact absurd rfl hjk
            · rfl
          · cases htk
        · intro T W o c ho hsz hval hst hJ
          have e2 : T[2]? = some (.pointer (some ⟨w.heap.size, 0, none⟩)) := hst 2 (by decide +kernel)
          have e9 : T[9]? = some (.pointer (some ⟨B, 0, none⟩)) := hst 9 (by decide +kernel)
          have e11 : T[11]? = some (.slice al (leftL b tr tk m l).length cl) := hst 11 (by decide +kernel)
          have hb9 := (hJ.2.2.2 trivial).1
          obtain ⟨⟨u0, u1, u2, u3, u4⟩, uf⟩ := box5R_cells hb9
          clear hb9
          injection ho with ho
          subst ho
          have d6 : T[53]? = some (.slice (some ⟨c.2.2.1, 0, none⟩) (l + 1) c.2.2.2) := hval 6 (by decide +kernel)
          have d7 : T[54]? = some (.pointer (some ⟨B, 3, none⟩)) := hval 7 (by decide +kernel)
          have HJ := hide hJ
          have HST := hide hst
          have HVA := hide hval
          have HSZT := hide hsz
          clear hval hst hJ hsz
          refine wpOp_step (o := _) rfl fun K2 hK => ?_
          rw [if_pos (by rfl)]
          have HK := hide hK
          clear hK
          go_simp
          refine HK.out _ _ ?_
          have hT := rv_list (fun i hi => rqS_lt ⟨i, hi⟩) HSZT.out HVA.out HST.out [7, 6, 5, 4, 3, 2, 1, 0] rfl
          simp only [rvSet, rqS, List.getD_cons_zero, List.getD_cons_succ, List.setIfInBounds_toArray, List.set_cons_zero, List.set_cons_succ] at hT
          rw [hT]
          clear hT HK HVA HST HSZT e2 e9 e11 d6 d7 u0 u1 u2 u3 u4 uf
          obtain ⟨vals9, hgk⟩ := (HJ.out.2.2.2 trivial).2
          have HGK := hide hgk
          clear hgk HJ
          generalize W.setCell ⟨B, 3, none⟩ (.slice (some ⟨c.2.2.1, 0, none⟩) (l + 1) c.2.2.2) = W5 at HGK ⊢
          clear W
          go_wp2
          go_roundw
          case rel => exact ⟨l + 1, by omega, by go_num, _, _, HGK.out⟩
          case measure => simp [intOf]; omega
      · have hlti : ¬ (l : Int) < (mu : Int) := by omega
        obtain rfl : l = mu := by omega
        obtain ⟨aS, cS, rfl, hS3⟩ := grK_end hgr (by unfold maxLen; omega) (repS b tr tk m l N) (repS_len _ _ _ _ _ _) (fun j hj => repS_get hj)
        have HS3 := hide hS3
        have HX0 := hide (fun (W' : World) (h : ∀ x, x ≠ B → w2.heap.size ≤ x → x < wr.heap.size → W'.heap[x]? = wr.heap[x]?) => (grK_keep hgr h).1)
        obtain ⟨p0, p1, p2, p3⟩ := HCB.out wr hgr.bel
        have hL0 : LsI w2 wr B 4 (fun v4 => rpO b tr n g (.slice aS l cS) v4) (lastL E 0) (.slice none 0 0) wr := ⟨hgr.box, World.ownsRow_nil _ _ _ _, fun _ _ _ => rfl, Nat.le_refl _, hgr.bel, (Array.getElem?_eq_some_iff.1 hgr.box).1, hgr.base, fun W v v' h => by simp [World.setCell, Array.getElem?_modify, h]⟩
        have HL0 := hide hL0
        have hBw := hgr.base
        clear hS3 hgr hL0 HGR HG0 HLC HRG HLL HSET
        go_wp2
        clear p0 p1 p2 p3
        obtain ⟨wq, hwq⟩ : ∃ wq : World, wq = wr := ⟨_, rfl⟩
        have HLW : Hid (LsI w2 wq B 4 (fun v4 => rpO b tr n g (.slice aS l cS) v4) (lastL E 0) (.slice none 0 0) wr) := by show LsI _ _ _ _ _ _ _ _; rw [hwq]; exact HL0.out
        rw [← hwq] at HS3 HX0
        clear hwq HL0
        go_loopw [59] (fun u wx => ∃ q : Nat, q ≤ n ∧ u = .int .i64 q ∧ ∃ v, LsI w2 wq B 4 (fun v4 => rpO b tr n g (.slice aS l cS) v4) (lastL E q) v wx) (fun u _ => n - (intOf u).toNat)
        case atStart => exact ⟨0, by omega, rfl, _, HLW.out⟩
        case round =>
          obtain ⟨q, hq, rfl, v, hls⟩ := hrel
          have HLS := hide hls
          by_cases hqn : q < n
          · have hqni : (q : Int) < (n : Int) := by omega
            obtain ⟨be, oe, rfl, hce⟩ := slB_cell (slB_below HE.out (below_step (below_step HB0.out HB2.out) hls.bel)) q hqn
            have HXE := hide (lastL_succ E q)
            have HLQ := hide (lastL_len E q)
            have HON := hide (fun W => cone_any (E.getD q false) W)
            unfold retI at HON
            generalize E.getD q false = eb at hce HXE HON
            obtain ⟨x, hx⟩ : ∃ x : Int, (if eb = true then (1 : Int) else 0) = x := ⟨_, rfl⟩
            rw [hx] at HXE HON
            clear hls hx
            go_upto_region 16 with fail
            clear hce
            refine region_turns (C := Nat × Nat × Nat) (by kernel_rfl) (rvOn_spec (by decide +kernel)) 7 rfl (fun k => k == 4 || k == 5) rfl rrS (fun c i => ([.pointer (some ⟨B, 4, none⟩), v, .bool eb, .int .i64 x, .slice (some ⟨c.1, 0, none⟩) 1 1, .slice (some ⟨c.2.1, 0, none⟩) (q + 1) c.2.2, .pointer (some ⟨B, 4, none⟩)] : List Value).getD i undef) (fun i j hi hj e => by have := rrS_inj ⟨i, hi⟩ ⟨j, hj⟩ e; injection this) (fun i hi => rrS_lt ⟨i, hi⟩) (by decide +kernel) (JLs wr w2 wq B (fun v4 => rpO b tr n g (.slice aS l cS) v4) (lastL E q) q x v) (fun D D' c W h => jLs_iff D D' c W (h 4 rfl (by decide)) (h 5 rfl (by decide))) (0, 0, 0) (⟨fun _ => rfl, fun h => h.elim, fun h => h.elim⟩) ?_ ?_ ?_
            · intro T W i o D c hi hti ho hsz hdep hst hni hcl hup hJ
              have e9 : T[9]? = some (.pointer (some ⟨B, 0, none⟩)) := hst 9 (by decide +kernel)
              have e13 : T[13]? = some (.bool eb) := hst 13 (by decide +kernel)
              rcases (by omega : i = 0 ∨ i = 1 ∨ i = 2 ∨ i = 3 ∨ i = 4 ∨ i = 5 ∨ i = 6) with rfl | rfl | rfl | rfl | rfl | rfl | rfl
              · injection ho with ho
                subst ho
                clear hdep hsz hst hni hcl hup hJ hti
                refine wpOp_step (o := _) rfl fun K2 hK => ?_
                rw [if_pos (by rfl)]
                have HK := hide hK
                clear hK
                go_simp
                exact HK.out _ _ ⟨rfl, rfl⟩
              · injection ho with ho
                subst ho
                have d0 : T[63]? = some (.pointer (some ⟨B, 4, none⟩)) := hdep { on := 0, ground := .data } (by simp) rfl
                have hb := jLs_below hJ (fun h6 => hni (hcl 5 1 h6 (by decide +kernel)))
                have k4 := (box5R_cells ((hb.block B (Array.getElem?_eq_some_iff.1 HLS.out.box).1).trans HLS.out.box)).1.2.2.2.2
                clear hb
                clear hdep hsz hst hni hcl hup hJ hti
                refine wpOp_step (o := _) rfl fun K2 hK => ?_
                rw [if_pos (by rfl)]
                have HK := hide hK
                clear hK
                go_simp
                exact HK.out _ _ ⟨rfl, rfl⟩
              · injection ho with ho
                subst ho
                clear hdep hsz hst hni hcl hup hJ hti
                refine wpOp_step (o := _) rfl fun K2 hK => ?_
                rw [if_pos (by rfl)]
                have HK := hide hK
                clear hK
                go_simp
                exact HK.out _ _ ⟨rfl, rfl⟩
              · injection ho with ho
                subst ho
                have d2 : T[65]? = some (.bool eb) := hdep { on := 2, ground := .data } (by simp) rfl
                clear hdep hsz hst hni hcl hup hJ hti
                refine wpOp_step (o := _) rfl fun K2 hK => ?_
                rw [if_pos (by rfl)]
                have HK := hide hK
                clear hK
                go_simp
                refine (HON.out W).mono ?_
                rintro e w9 ⟨rfl, hw9⟩
                rw [hw9]
                exact HK.out _ _ ⟨rfl, rfl⟩
              · cases hti
              · cases hti
              · injection ho with ho
                subst ho
                clear hdep hsz hst hni hcl hup hJ hti
                refine wpOp_step (o := _) rfl fun K2 hK => ?_
                rw [if_pos (by rfl)]
                have HK := hide hK
                clear hK
                go_simp
                exact HK.out _ _ ⟨rfl, rfl⟩
            · intro T W k o D c hk htk ho hsz hdep hst hup hni hcl hJ
              have e9 : T[9]? = some (.pointer (some ⟨B, 0, none⟩)) := hst 9 (by decide +kernel)
              have e13 : T[13]? = some (.bool eb) := hst 13 (by decide +kernel)
              rcases (by omega : k = 0 ∨ k = 1 ∨ k = 2 ∨ k = 3 ∨ k = 4 ∨ k = 5 ∨ k = 6) with rfl | rfl | rfl | rfl | rfl | rfl | rfl
              · cases htk
              · cases htk
              · cases htk
              · cases htk
              · injection ho with ho
                subst ho
                have d3 : T[66]? = some (.int .i64 x) := hdep { on := 3, ground := .data } (by simp) rfl
                have HJ := hide hJ
                have HUP := hide hup
                have HNI := hide hni
                have HCLO := hide hcl
                clear hdep hsz hst hni hup hcl hJ htk
                refine wpOp_step (o := _) rfl fun K2 hK => ?_
                rw [if_pos (by rfl)]
                have HK := hide hK
                clear hK
                go_simp
                have hW : W = wr.drew := HJ.out.1 HNI.out
                subst hW
                refine HK.out _ _ ⟨(wr.heap.size, c.2), rfl, ⟨fun h => absurd (Or.inl rfl) h, fun _ _ => ⟨rfl, rfl⟩, fun h => absurd (HCLO.out 5 4 (h.resolve_left (by decide)) (by decide +kernel)) HNI.out⟩, ?_⟩
                intro j hj hjk hr
                rcases (by omega : j = 0 ∨ j = 1 ∨ j = 2 ∨ j = 3 ∨ j = 4 ∨ j = 5 ∨ j = 6) with rfl | rfl | rfl | rfl | rfl | rfl | rfl
                · rfl
                · rfl
                · rfl
                · rfl
                · exact absurd rfl hjk
                · exact absurd hr (by decide +kernel)
                · rfl
              · injection ho with ho
                subst ho
                have d1 : T[64]? = some (v) := hdep { on := 1, ground := .data } (by simp) rfl
                have d4 : T[67]? = some (.slice (some ⟨c.1, 0, none⟩) 1 1) := hdep { on := 4, ground := .data } (by simp) rfl
                have HJ := hide hJ
                have HUP := hide hup
                have HNI := hide hni
                have HCLO := hide hcl
                clear hdep hsz hst hni hup hcl hJ htk
                refine wpOp_step (o := _) rfl fun K2 hK => ?_
                rw [if_pos (by rfl)]
                have HK := hide hK
                clear hK
                have h4 := HUP.out 4 (by decide +kernel)
                obtain ⟨hW, hc1⟩ := HJ.out.2.1 h4 HNI.out
                subst hW
                have hsz9 := HLS.out.size
                rw [hc1] at d4
                have hown := HLS.out.own
                rw [HLQ.out] at hown
                have hown0 : wr.drew.ownsRow wq.heap.size 3 1 v q ((lastL E q).map (Value.int .i64)) := ownsRow_of_block hown (fun y _ => rfl)
                refine wp_append_lies _ (.tmp 64) (.tmp 67) 35 rfl wq.heap.size 3 i0 (.int .i64 0) 1 8 Tryd.underlying35 hi0 hz0 hz1 hz2 rfl (by decide) v q ((lastL E q).map (Value.int .i64)) (by show T.getD 64 undef = v; simp [Array.getD_eq_getD_getElem?, d1]) (hown0.alloc _) ⟨wr.heap.size, 0, none⟩ 1 1 [.int .i64 x] (by show T.getD 67 undef = _; simp [Array.getD_eq_getD_getElem?, d4]) rfl (one_new _ _ _) (fun u hu => by simp at hu; subst hu; rfl) (by omega) (by unfold maxLen; omega) (by omega) (by simp; omega) (wr.heap.size + 1) (by simp) ?_
                intro g9 cap9 w9 hown9 hgrow9 hat9 _
                obtain ⟨hbx, hgk⟩ := lsI_push HLS.out (x := x) (W2 := wr.drew) rfl HLS.out.bel.drew HLQ.out hown9 hgrow9
                refine HK.out _ _ ⟨(c.1, g9, cap9), rfl, ⟨fun h => absurd (Or.inr h4) h, fun _ h => absurd (Or.inl rfl) h, fun _ => ⟨hbx, hgk⟩⟩, ?_⟩
                intro j hj hjk hr
                rcases (by omega : j = 0 ∨ j = 1 ∨ j = 2 ∨ j = 3 ∨ j = 4 ∨ j = 5 ∨ j = 6) with rfl | rfl | rfl | rfl | rfl | rfl | rfl
                · rfl
                · rfl
                · rfl
                · rfl
                · rfl
                · exact absurd rfl hjk
                · rfl
              · cases htk
            · intro T W o c ho hsz hval hst hJ
              have e9 : T[9]? = some (.pointer (some ⟨B, 0, none⟩)) := hst 9 (by decide +kernel)
              have e13 : T[13]? = some (.bool eb) := hst 13 (by decide +kernel)
              have hb9 := (hJ.2.2 trivial).1
              obtain ⟨⟨u0, u1, u2, u3, u4⟩, uf⟩ := box5R_cells hb9
              clear hb9
              injection ho with ho
              subst ho
              have d5 : T[68]? = some (.slice (some ⟨c.2.1, 0, none⟩) (q + 1) c.2.2) := hval 5 (by decide +kernel)
              have d6 : T[69]? = some (.pointer (some ⟨B, 4, none⟩)) := hval 6 (by decide +kernel)
              have HJ := hide hJ
              have HST := hide hst
              have HVA := hide hval
              have HSZT := hide hsz
              clear hval hst hJ hsz
              refine wpOp_step (o := _) rfl fun K2 hK => ?_
              rw [if_pos (by rfl)]
              have HK := hide hK
              clear hK
              go_simp
              refine HK.out _ _ ?_
              have hT := rv_list (fun i hi => rrS_lt ⟨i, hi⟩) HSZT.out HVA.out HST.out [6, 5, 4, 3, 2, 1, 0] rfl
              simp only [rvSet, rrS, List.getD_cons_zero, List.getD_cons_succ, List.setIfInBounds_toArray, List.set_cons_zero, List.set_cons_succ] at hT
              rw [hT]
              clear hT HK HVA HST HSZT e9 e13 d5 d6 u0 u1 u2 u3 u4 uf
              have hgk := (HJ.out.2.2 trivial).2
              rw [← HXE.out] at hgk
              have HGK := hide hgk
              clear hgk HJ
              generalize W.setCell ⟨B, 4, none⟩ (.slice (some ⟨c.2.1, 0, none⟩) (q + 1) c.2.2) = W5 at HGK ⊢
              clear W
              go_wp2
              go_roundw
              case rel => exact ⟨q + 1, by omega, by go_num, _, HGK.out⟩
              case measure => simp [intOf]; omega
          · have hqni : ¬ (q : Int) < (n : Int) := by omega
            obtain rfl : q = n := by omega
            obtain ⟨aL, cL, rfl, hsl⟩ := sl_of_owns (lastL_len E q) (by unfold maxLen; omega) (fun x hx => by
              obtain ⟨i, hi, rfl⟩ := List.getElem_of_mem hx
              rw [lastL_len] at hi
              have := lastL_get (E := E) hi
              rw [getD_at _ i (by rw [lastL_len]; exact hi)] at this
              rw [this]
              split <;> decide) (by have := hls.own; rw [lastL_len] at this; exact this)
            have hres := ((below_step HB2.out hls.bel).block (w.heap.size + 1) (by rw [HSZ.out]; omega)).trans HX2.out
            have HRES := hide hres
            have HSL9 := hide hsl
            obtain ⟨⟨r0, r1, r2, r3, r4⟩, rf⟩ := box5R_cells hres
            obtain ⟨⟨s0, s1, s2, s3, s4⟩, -⟩ := box5R_cells hls.box
            clear hres hsl hls
            go_wp2
            obtain ⟨⟨hset, hsz9, hoth⟩, hbel⟩ := box5R_set (v0 := .int .i64 b) (v1 := .int .i64 (tr : Int)) (v2 := .slice (some ⟨g, 0, none⟩) q q) (v3 := .slice aS l cS) (v4 := .slice aL q cL) HRES.out rfl
            have hb := hbel w w.heap.size (below_step (below_step HB0.out HB2.out) HLS.out.bel) (by omega)
            obtain ⟨⟨z0, z1, z2, z3, z4⟩, -⟩ := box5R_cells hset
            have hw2 := HSW2.out
            have hlw := HLS.out.size
            have hbl := HLS.out.base
            have hlt9 := HLS.out.lt
            have hkp : ∀ x, x ≠ B → w2.heap.size ≤ x → x < wq.heap.size → _ := fun x hx h1 h2 => (hoth x (by omega)).trans (HLS.out.old x hx h2)
            have hc3 := HS3.out _ hkp
            have hc1 := HX0.out _ hkp
            have hc2 := sl_keep HSL9.out.1 (fun x hx => hoth x (by obtain ⟨_, ad, e, rfl⟩ := hx; have := HSL9.out.2 ad e; omega))
            exact bodyPost_ret (v := .tuple #[.agg #[.int .i64 b, .int .i64 (tr : Int), .slice (some ⟨g, 0, none⟩) q q, .slice aS l cS, .slice aL q cL], .nilIface]) (by simp [results, Tryd.results11, go_sem, z0, z1, z2, z3, z4]) rfl ⟨some ⟨g, 0, none⟩, q, aS, cS, aL, cL, by rw [fst0L_len, repS_len, lastL_len], ⟨by rw [fst0L_len]; exact hc1, by rw [repS_len]; exact hc3, by rw [lastL_len]; exact hc2⟩, hb⟩
end Go.Proofs.YtlgjadnkokmjoaaDoor

/- Rows of things that a call builds by append in a variable; what counts by matrices, its first and last rows growing in its box. -/
namespace Go.Proofs.YtlgjadnkokmjoaaDoor
open Go.RowKit

/-- The same ways, in whichever order the letters stand. -/
theorem dgN_perm (N : List (List Int)) {ls ls' : List Int} (h : ls.Perm ls') (s t : Nat) : dgN N ls s t = dgN N ls' s t := by
  have e : ∀ l : List Int, dgN N l s t = (l.map fun x => if t = nxA N s x then (1 : Int) else 0).sum := by
    intro l
    unfold dgN
    induction l with
    | nil => rfl
    | cons x l ih =>
      have h2 : csum (fun j => if t = nxA N s ((x :: l).getD j 0) then (1 : Int) else 0) (l.length + 1) = (if t = nxA N s x then (1 : Int) else 0) + csum (fun j => if t = nxA N s (l.getD j 0) then 1 else 0) l.length := by
        have h3 : ∀ k, csum (fun j => if t = nxA N s ((x :: l).getD j 0) then (1 : Int) else 0) (k + 1) = (if t = nxA N s x then (1 : Int) else 0) + csum (fun j => if t = nxA N s (l.getD j 0) then 1 else 0) k := by
          intro k
          induction k with
          | zero => show (0 : Int) + (if t = nxA N s x then 1 else 0) = (if t = nxA N s x then 1 else 0) + 0; omega
          | succ k ihk =>
            show csum _ (k + 1) + (if t = nxA N s (l.getD k 0) then (1 : Int) else 0) = (if t = nxA N s x then 1 else 0) + (csum _ k + if t = nxA N s (l.getD k 0) then 1 else 0)
            rw [ihk]; omega
        exact h3 l.length
      rw [List.length_cons, h2, List.map_cons, List.sum_cons, ih]
  rw [e, e]
  have hp := h.map fun x => if t = nxA N s x then (1 : Int) else 0
  generalize (ls.map fun x => if t = nxA N s x then (1 : Int) else 0) = p at hp ⊢
  generalize (ls'.map fun x => if t = nxA N s x then (1 : Int) else 0) = q at hp ⊢
  induction hp with
  | nil => rfl
  | cons x _ ih => rw [List.sum_cons, List.sum_cons, ih]
  | swap x y l => simp only [List.sum_cons]; omega
  | trans _ _ ih1 ih2 => exact ih1.trans ih2
theorem leadsL_perm (N : List (List Int)) {ls ls' : List Int} (h : ls.Perm ls') : leadsL N ls = leadsL N ls' := by
  unfold leadsL
  exact List.map_congr_left fun s _ => List.map_congr_left fun t _ => dgN_perm N h s t
/-- A row in a variable, grown by append behind base; what its things say hangs on blocks of their own. -/
structure GrV (base : Nat) (ty : TypeId) (P : Nat → Value → World → Prop) (q : Nat) (vals : List Value) (v : Value) (W : World) : Prop where
  own : W.ownsRow base ty 1 v q vals
  len : vals.length = q
  els : ∀ j, j < q → ∃ u lo hi, vals[j]? = some u ∧ (base ≤ lo ∧ hi ≤ W.heap.size ∧ ∀ x, v.ownBlock = some x → x < lo ∨ hi ≤ x) ∧ KpW lo hi (P j u) W
section
variable {base : Nat} {W W2 : World} {ty : TypeId} {P : Nat → Value → World → Prop} {q : Nat} {vals : List Value} {v : Value}
theorem grV_below (h : GrV base ty P q vals v W) (hb : Below W.heap.size W W2) : GrV base ty P q vals v W2 := by
  have hsz := hb.size
  refine ⟨ownsRow_of_block h.own fun y hy => hb.block y (h.own.lt y hy).2, h.len, fun j hj => ?_⟩
  obtain ⟨u, lo, hi, e, ⟨a1, a2, a3⟩, k⟩ := h.els j hj
  exact ⟨u, lo, hi, e, ⟨a1, by omega, a3⟩, k.on fun x _ hx => hb.block x (by omega)⟩
theorem grV_push (h : GrV base ty P q vals v W) (hbs : base ≤ W.heap.size) (hb : Below W.heap.size W W2) {u : Value} (hn : KpW W.heap.size W2.heap.size (P q u) W2) {w3 : World} {o : Obj} {g' cap' : Nat} (hown : w3.ownsRow base ty 1 (.slice (some ⟨g', 0, none⟩) (q + 1) cap') (q + 1) (vals ++ [u])) (hgrow : (W2.alloc o).grownBy w3 v.ownBlock) (hat : v.ownBlock = some g' ∨ g' = W2.heap.size + 1) :
    GrV base ty P (q + 1) (vals ++ [u]) (.slice (some ⟨g', 0, none⟩) (q + 1) cap') w3 := by
  have hsz := hb.size
  have hsz3 := hgrow.size
  rw [World.size_alloc] at hsz3
  have hvo : ∀ x, v.ownBlock = some x → base ≤ x ∧ x < W.heap.size := fun x e => h.own.lt x e
  have hkeep : ∀ x, x < W2.heap.size → v.ownBlock ≠ some x → w3.heap[x]? = W2.heap[x]? := fun x hx hne => by
    rw [hgrow.block x (by rw [World.size_alloc]; omega) (fun e => hne e.symm), Below.heap_alloc _ _ _ hx]
  refine ⟨hown, by rw [List.length_append, h.len]; rfl, fun j hj => ?_⟩
  by_cases e : j = q
  · subst e
    refine ⟨u, W.heap.size, W2.heap.size, by rw [List.getElem?_append_right (by rw [h.len]; omega), h.len]; simp, ⟨hbs, by omega, fun x e => ?_⟩, hn.on fun x h1 h2 => ?_⟩
    · have e' : g' = x := by simpa [Value.ownBlock] using e
      subst e'
      rcases hat with e2 | e2
      · left; exact (hvo _ e2).2
      · right; omega
    · exact hkeep x h2 fun e => by have := (hvo x e).2; omega
  · obtain ⟨u', lo, hi, e1, ⟨a1, a2, a3⟩, k⟩ := h.els j (by omega)
    refine ⟨u', lo, hi, by rw [List.getElem?_append_left (by rw [h.len]; omega)]; exact e1, ⟨a1, by omega, fun x e => ?_⟩, k.on fun x h1 h2 => ?_⟩
    · have e' : g' = x := by simpa [Value.ownBlock] using e
      subst e'
      rcases hat with e2 | e2
      · exact a3 _ e2
      · right; omega
    · rw [hkeep x (by omega) (fun e => by rcases a3 x e with h | h <;> omega), hb.block x (by omega)]
end
/-- Rows of numbers. -/
def RowP (L : Nat → List Int) (j : Nat) (u : Value) (W : World) : Prop := ∃ a c, u = .slice a (L j).length c ∧ Sl W a (L j).length (L j)
theorem grV_end {base : Nat} {W : World} {L : Nat → List Int} {q : Nat} {vals : List Value} {v : Value} (h : GrV base 35 (RowP L) q vals v W) (hq : q ≤ maxLen) (S : List (List Int)) (hS : S.length = q) (hr : ∀ j, j < q → S.getD j [] = L j) : ∃ a c, v = .slice a q c ∧ KpW base W.heap.size (fun W => Sl2 W a q S) W := by
  obtain ⟨g0, g1⟩ := h.own
  rcases g1 with ⟨rfl, h1⟩ | ⟨g, cap, cur, rfl, hg, hh, hc, hcm, hcs, ht⟩
  · exact ⟨none, 0, by rw [h1], fun W' _ => ⟨hS, hq, Or.inl h1⟩⟩
  · refine ⟨_, cap, rfl, fun W' hW' => ⟨hS, hq, Or.inr ⟨g, 0, rfl, fun i hi => ?_⟩⟩⟩
    obtain ⟨u, lo, hi', e1, ⟨a1, a2, -⟩, k⟩ := h.els i hi
    obtain ⟨a', cap', e2, hs⟩ := k W' fun x h1 h2 => hW' x (by omega) (by omega)
    have hgl := (Array.getElem?_eq_some_iff.1 hh).1
    have hh' := (hW' g hg hgl).trans hh
    rw [hr i hi]
    refine ⟨a', cap', ?_, hs⟩
    rw [cell_of_row W' g (0 + i) cur 35 (0, 0) hh', Nat.zero_add]
    have h3 : (cur.toList.take (q * 1))[i]? = vals[i]? := by rw [ht]
    rw [List.getElem?_take, if_pos (by omega), Array.getElem?_toList] at h3
    rw [h3, e1, e2]
/-- The box between the rounds that make its first and last rows. -/
structure RoI (w2 : World) (B : Nat) (x0 x1 : Value) (lF lL : List Int) (vF vL : Value) (W : World) : Prop where
  box : W.heap[B]? = some (.cells #[x0, x1, vF, .slice none 0 0, vL] 38)
  ownF : W.ownsRow (B + 1) 3 1 vF lF.length (lF.map (Value.int .i64))
  ownL : W.ownsRow (B + 1) 3 1 vL lL.length (lL.map (Value.int .i64))
  ne : ∀ x, vF.ownBlock = some x → vL.ownBlock ≠ some x
  bel : Below w2.heap.size w2 W
  base : w2.heap.size ≤ B
section
variable {w2 W w3 : World} {B : Nat} {x0 x1 vF vL : Value} {lF lL : List Int} {o : Obj} {g' cap' q : Nat} {x : Int}
theorem roI_first (h : RoI w2 B x0 x1 lF lL vF vL W) (hq : lF.length = q) (hown : w3.ownsRow (B + 1) 3 1 (.slice (some ⟨g', 0, none⟩) (q + 1) cap') (q + 1) (lF.map (Value.int .i64) ++ [.int .i64 x])) (hgrow : (W.alloc o).grownBy w3 vF.ownBlock) (hat : vF.ownBlock = some g' ∨ g' = W.heap.size + 1) :
    w3.heap[B]? = some (.cells #[x0, x1, vF, .slice none 0 0, vL] 38) ∧ RoI w2 B x0 x1 (lF ++ [x]) lL (.slice (some ⟨g', 0, none⟩) (q + 1) cap') vL (w3.setCell ⟨B, 2, none⟩ (.slice (some ⟨g', 0, none⟩) (q + 1) cap')) := by
  subst hq
  have hl := (Array.getElem?_eq_some_iff.1 h.box).1
  have hF : ∀ y, vF.ownBlock = some y → B + 1 ≤ y ∧ y < W.heap.size := fun y e => h.ownF.lt y e
  have hL : ∀ y, vL.ownBlock = some y → B + 1 ≤ y ∧ y < W.heap.size := fun y e => h.ownL.lt y e
  have hkeep : ∀ y, y < W.heap.size → vF.ownBlock ≠ some y → w3.heap[y]? = W.heap[y]? := fun y hy hne => by
    rw [hgrow.block y (by rw [World.size_alloc]; omega) (fun e => hne e.symm), Below.heap_alloc _ _ _ hy]
  have h3 := (hkeep B hl (fun e => by have := (hF B e).1; omega)).trans h.box
  have hset : ∀ y, y ≠ B → (w3.setCell ⟨B, 2, none⟩ (.slice (some ⟨g', 0, none⟩) (lF.length + 1) cap')).heap[y]? = w3.heap[y]? := fun y hy => Below.heap_setCell _ _ _ _ hy
  have hb3 : Below w2.heap.size w2 w3 := Below.grown (h.bel.alloc h.bel.size o) hgrow (by have := h.bel.size; rw [World.size_alloc]; omega) (fun k hk => by have := (hF k hk).1; have := h.base; omega)
  refine ⟨h3, by simp [World.setCell, Array.getElem?_modify, h3], ?_, ?_, fun y e => ?_, hb3.setCell h.base _, h.base⟩
  · rw [List.length_append, List.length_singleton, List.map_append]
    exact ownsRow_of_block hown fun y hy => hset y (fun e => by have := (hown.lt y hy).1; omega)
  · exact ownsRow_of_block h.ownL fun y hy => by
      rw [hset y (fun e => by have := (hL y hy).1; omega), hkeep y (hL y hy).2 (fun e => h.ne y e hy)]
  · have e' : g' = y := by simpa [Value.ownBlock] using e
    subst e'
    rcases hat with e2 | e2
    · exact h.ne _ e2
    · intro e3; have := (hL _ e3).2; omega
theorem roI_last (h : RoI w2 B x0 x1 lF lL vF vL W) (hq : lL.length = q) (hown : w3.ownsRow (B + 1) 3 1 (.slice (some ⟨g', 0, none⟩) (q + 1) cap') (q + 1) (lL.map (Value.int .i64) ++ [.int .i64 x])) (hgrow : (W.alloc o).grownBy w3 vL.ownBlock) (hat : vL.ownBlock = some g' ∨ g' = W.heap.size + 1) :
    w3.heap[B]? = some (.cells #[x0, x1, vF, .slice none 0 0, vL] 38) ∧ RoI w2 B x0 x1 lF (lL ++ [x]) vF (.slice (some ⟨g', 0, none⟩) (q + 1) cap') (w3.setCell ⟨B, 4, none⟩ (.slice (some ⟨g', 0, none⟩) (q + 1) cap')) := by
  subst hq
  have hl := (Array.getElem?_eq_some_iff.1 h.box).1
  have hF : ∀ y, vF.ownBlock = some y → B + 1 ≤ y ∧ y < W.heap.size := fun y e => h.ownF.lt y e
  have hL : ∀ y, vL.ownBlock = some y → B + 1 ≤ y ∧ y < W.heap.size := fun y e => h.ownL.lt y e
  have hkeep : ∀ y, y < W.heap.size → vL.ownBlock ≠ some y → w3.heap[y]? = W.heap[y]? := fun y hy hne => by
    rw [hgrow.block y (by rw [World.size_alloc]; omega) (fun e => hne e.symm), Below.heap_alloc _ _ _ hy]
  have h3 := (hkeep B hl (fun e => by have := (hL B e).1; omega)).trans h.box
  have hset : ∀ y, y ≠ B → (w3.setCell ⟨B, 4, none⟩ (.slice (some ⟨g', 0, none⟩) (lL.length + 1) cap')).heap[y]? = w3.heap[y]? := fun y hy => Below.heap_setCell _ _ _ _ hy
  have hb3 : Below w2.heap.size w2 w3 := Below.grown (h.bel.alloc h.bel.size o) hgrow (by have := h.bel.size; rw [World.size_alloc]; omega) (fun k hk => by have := (hL k hk).1; have := h.base; omega)
  refine ⟨h3, by simp [World.setCell, Array.getElem?_modify, h3], ?_, ?_, fun y e e3 => ?_, hb3.setCell h.base _, h.base⟩
  · exact ownsRow_of_block h.ownF fun y hy => by
      rw [hset y (fun e => by have := (hF y hy).1; omega), hkeep y (hF y hy).2 (fun e => h.ne y hy e)]
  · rw [List.length_append, List.length_singleton, List.map_append]
    exact ownsRow_of_block hown fun y hy => hset y (fun e => by have := (hown.lt y hy).1; omega)
  · have e' : g' = y := by simpa [Value.ownBlock] using e3
    subst e'
    rcases hat with e2 | e2
    · exact h.ne _ e e2
    · have := (hF _ e).2; omega
end
end Go.Proofs.YtlgjadnkokmjoaaDoor

/- count.Rep at whatever it is given: contract. -/
namespace Go.Proofs.YtlgjadnkokmjoaaDoor
open Go.RowKit

abbrev repZ : Value := .agg #[.int .i64 0, .int .i64 0, .slice none 0 0, .slice none 0 0, .slice none 0 0]
/-- Rep's code. -/
def repRC (b t : Int) (N : List (List Int)) (e : Nat) (tk : Int) : Int := if autoC b t N e = 0 then (if 0 ≤ tk ∧ tk < t then 0 else 1) else autoC b t N e
def RepR (w : World) (b t : Int) (F : List Int) (S : List (List (List Int))) (L : List Int) (c : Int) (e : Ending) (w' : World) : Prop :=
  (c = 0 → RepNew w b t F S L e w') ∧ (c ≠ 0 → e = .returned (.tuple #[repZ, errV c]) ∧ Below w.heap.size w w')
set_option maxHeartbeats 4000000 in
set_option maxRecDepth 8000 in
theorem rep_no (b t : Int) (a : Option Addr) (n cap : Nat) (a' : Option Addr) (k cap' : Nat) (N : List (List Int)) (tk : Int) (w : World) (hs : Sl2 w a n N) (hk : k ≤ maxLen) (hA : autoC b t N k ≠ 0) :
    Calls Tryd.prog 11 #[.agg #[.int .i64 b, .int .i64 t, .slice a n cap, .slice a' k cap'], .int .i64 tk] w fun e w' => e = .returned (.tuple #[repZ, errV (autoC b t N k)]) ∧ Below w.heap.size w w' := by
  have hB0 := below_two w (.cells #[.int .i64 b, .int .i64 t, .slice a n cap, .slice a' k cap'] 25) (.cells #[.int .i64 0, .int .i64 0, .slice none 0 0, .slice none 0 0, .slice none 0 0] 38)
  have HB0 := hide hB0
  have HX1 := hide (heap_alloc2_fst w (.cells #[.int .i64 b, .int .i64 t, .slice a n cap, .slice a' k cap'] 25) (.cells #[.int .i64 0, .int .i64 0, .slice none 0 0, .slice none 0 0, .slice none 0 0] 38))
  have HX2 := hide (heap_alloc2_snd w (.cells #[.int .i64 b, .int .i64 t, .slice a n cap, .slice a' k cap'] 25) (.cells #[.int .i64 0, .int .i64 0, .slice none 0 0, .slice none 0 0, .slice none 0 0] 38))
  have HCK := hide (check_u b t a a' n cap k cap' N _ (sl2_below hs hB0) hk)
  rw [errV_no hA] at HCK ⊢
  clear hs hB0
  generalize autoC b t N k = c at HCK ⊢
  clear hA
  generalize hwb : (w.alloc (.cells #[.int .i64 b, .int .i64 t, .slice a n cap, .slice a' k cap'] 25)).alloc (.cells #[.int .i64 0, .int .i64 0, .slice none 0 0, .slice none 0 0, .slice none 0 0] 38) = wb at HB0 HX1 HX2 HCK
  have HSZ : Hid (wb.heap.size = w.heap.size + 2) := by show _ = _; rw [← hwb]; simp
  obtain ⟨⟨p0, p1, p2, p3⟩, -⟩ := box_cells HX1.out
  go_enter Tryd.func11, Tryd.ntmps11
  go_wp2_with fail
  clear hwb p0 p1 p2 p3
  refine HCK.out.mono ?_
  rintro e w1 ⟨rfl, hb1⟩
  have hr := (hb1.block (w.heap.size + 1) (by rw [HSZ.out]; omega)).trans HX2.out
  obtain ⟨⟨r0, r1, r2, r3, r4⟩, rf⟩ := box5R_cells hr
  have HR := hide hr
  have HB5 := hide (below_step HB0.out hb1)
  clear hr hb1
  go_wp2
  obtain ⟨⟨hset, hsz, hoth⟩, hbel⟩ := box5R_set (v0 := .int .i64 0) (v1 := .int .i64 0) (v2 := .slice none 0 0) (v3 := .slice none 0 0) (v4 := .slice none 0 0) HR.out rfl
  have hb := hbel w w.heap.size HB5.out (by omega)
  obtain ⟨⟨z0, z1, z2, z3, z4⟩, -⟩ := box5R_cells hset
  exact bodyPost_ret (v := .tuple #[repZ, .iface 26 (.int .i64 c)]) (by simp [results, Tryd.results11, go_sem, z0, z1, z2, z3, z4]) rfl ⟨rfl, hb⟩
set_option maxHeartbeats 4000000 in
set_option maxRecDepth 8000 in
theorem rep_far (b t : Int) (a : Option Addr) (n cap : Nat) (a' : Option Addr) (k cap' : Nat) (N : List (List Int)) (tk : Int) (w : World) (hs : Sl2 w a n N) (hk : k ≤ maxLen) (hA : autoC b t N k = 0) (ht : ¬ (0 ≤ tk ∧ tk < t)) :
    Calls Tryd.prog 11 #[.agg #[.int .i64 b, .int .i64 t, .slice a n cap, .slice a' k cap'], .int .i64 tk] w fun e w' => e = .returned (.tuple #[repZ, errV 1]) ∧ Below w.heap.size w w' := by
  have hB0 := below_two w (.cells #[.int .i64 b, .int .i64 t, .slice a n cap, .slice a' k cap'] 25) (.cells #[.int .i64 0, .int .i64 0, .slice none 0 0, .slice none 0 0, .slice none 0 0] 38)
  have HB0 := hide hB0
  have HX1 := hide (heap_alloc2_fst w (.cells #[.int .i64 b, .int .i64 t, .slice a n cap, .slice a' k cap'] 25) (.cells #[.int .i64 0, .int .i64 0, .slice none 0 0, .slice none 0 0, .slice none 0 0] 38))
  have HX2 := hide (heap_alloc2_snd w (.cells #[.int .i64 b, .int .i64 t, .slice a n cap, .slice a' k cap'] 25) (.cells #[.int .i64 0, .int .i64 0, .slice none 0 0, .slice none 0 0, .slice none 0 0] 38))
  have HCK := hide (check_u b t a a' n cap k cap' N _ (sl2_below hs hB0) hk)
  rw [hA, errV_zero] at HCK
  have HFA := hide (fun W => lettersWithout_far b t tk W (autoC_zero hA).1 ht)
  rw [errV_no (show (1 : Int) ≠ 0 by decide)] at HFA ⊢
  clear hs hB0 hA ht
  generalize hwb : (w.alloc (.cells #[.int .i64 b, .int .i64 t, .slice a n cap, .slice a' k cap'] 25)).alloc (.cells #[.int .i64 0, .int .i64 0, .slice none 0 0, .slice none 0 0, .slice none 0 0] 38) = wb at HB0 HX1 HX2 HCK
  have HSZ : Hid (wb.heap.size = w.heap.size + 2) := by show _ = _; rw [← hwb]; simp
  obtain ⟨⟨p0, p1, p2, p3⟩, -⟩ := box_cells HX1.out
  go_enter Tryd.func11, Tryd.ntmps11
  go_wp2_with fail
  clear hwb p0 p1 p2 p3
  refine HCK.out.mono ?_
  rintro e w1 ⟨rfl, hb1⟩
  have hr := (hb1.block (w.heap.size + 1) (by rw [HSZ.out]; omega)).trans HX2.out
  obtain ⟨⟨r0, r1, r2, r3, r4⟩, rf⟩ := box5R_cells hr
  obtain ⟨⟨p0, p1, p2, p3⟩, -⟩ := box_cells ((hb1.block _ (by rw [HSZ.out]; omega)).trans HX1.out)
  have HR := hide hr
  have HB5 := hide (below_step HB0.out hb1)
  clear hr hb1
  go_wp2_with (go_at_call 30; refine (HFA.out _).mono ?_; rintro e w' ⟨rfl, hw⟩; rw [hw]; clear hw w')
  obtain ⟨⟨hset, hsz, hoth⟩, hbel⟩ := box5R_set (v0 := .int .i64 0) (v1 := .int .i64 0) (v2 := .slice none 0 0) (v3 := .slice none 0 0) (v4 := .slice none 0 0) HR.out rfl
  have hb := hbel w w.heap.size HB5.out (by omega)
  obtain ⟨⟨z0, z1, z2, z3, z4⟩, -⟩ := box5R_cells hset
  exact bodyPost_ret (v := .tuple #[repZ, .iface 26 (.int .i64 1)]) (by simp [results, Tryd.results11, go_sem, z0, z1, z2, z3, z4]) rfl ⟨rfl, hb⟩
theorem rep_any (b t : Int) (a : Option Addr) (n cap : Nat) (a' : Option Addr) (k cap' : Nat) (N : List (List Int)) (E : List Bool) (tk : Int) (w : World) (hs : Sl2 w a n N) (he : SlB w a' k E) :
    Calls Tryd.prog 11 #[.agg #[.int .i64 b, .int .i64 t, .slice a n cap, .slice a' k cap'], .int .i64 tk] w (RepR w b (t - 1) (fst0L n) (repS b (t.toNat - 1) tk.toNat (manyU b t).toNat (manyU b (t - 1)).toNat N) (lastL E n) (repRC b t N k tk)) := by
  by_cases hA : autoC b t N k = 0
  · by_cases ht : 0 ≤ tk ∧ tk < t
    · have hc : repRC b t N k tk = 0 := by unfold repRC; rw [if_pos hA, if_pos ht]
      have hkn : k = n := by rw [(autoC_zero hA).2.1, hs.1]
      subst hkn
      obtain ⟨tr, rfl⟩ : ∃ tr : Nat, t = (tr : Int) + 1 := ⟨(t - 1).toNat, by omega⟩
      obtain ⟨tkn, rfl⟩ : ∃ x : Nat, tk = x := ⟨tk.toNat, by omega⟩
      obtain ⟨hM, -, -, hmm⟩ := autoC_zero hA
      obtain ⟨-, hm1, hm2, -, -, -⟩ := many_less hM
      have e1 : ((tr : Int) + 1).toNat - 1 = tr := by omega
      have e2 : (tr : Int) + 1 - 1 = (tr : Int) := by omega
      have hN : ((tr + 1 : Nat) : Int) = (tr : Int) + 1 := by omega
      have h := rep_ok b (tr + 1) tr tkn (manyU b ((tr : Int) + 1)).toNat (manyU b (tr : Int)).toNat a k cap a' cap' N E w hs he rfl (by omega) (by rw [hN]; exact hA) (by rw [hN]; exact hmm.symm) (by rw [← hm1]; omega)
      rw [hN] at h
      rw [hc, e1, e2, Int.toNat_natCast]
      exact h.mono fun e w' h => ⟨fun _ => h, fun h' => absurd rfl h'⟩
    · have hc : repRC b t N k tk = 1 := by unfold repRC; rw [if_pos hA, if_neg ht]
      rw [hc]
      exact (rep_far b t a n cap a' k cap' N tk w hs he.2.1 hA ht).mono fun e w' h => ⟨fun h' => absurd h' (by decide), fun _ => h⟩
  · have hc : repRC b t N k tk = autoC b t N k := by unfold repRC; rw [if_neg hA]
    rw [hc]
    exact (rep_no b t a n cap a' k cap' N tk w hs he.2.1 hA).mono fun e w' h => ⟨fun h' => absurd h' hA, fun _ => h⟩
end Go.Proofs.YtlgjadnkokmjoaaDoor

/- The reference's RepOf: contract. -/
namespace Go.Proofs.YtlgjadnkokmjoaaDoor
open Go.RowKit

theorem fst0L_succ (k : Nat) : fst0L (k + 1) = fst0L k ++ [if k = 0 then 1 else 0] := by simp [fst0L, List.range_succ]
theorem KpW.mono {lo lo' hi : Nat} {P : World → Prop} {W : World} (h : KpW lo hi P W) (hl : lo' ≤ lo) : KpW lo' hi P W := fun W' hW' => h W' fun x h1 h2 => hW' x (by omega) h2
theorem KpW.to {lo hi : Nat} {P Q : World → Prop} {W : World} (h : KpW lo hi P W) (f : ∀ W', P W' → Q W') : KpW lo hi Q W := fun W' hW' => f W' (h W' hW')
def RofR (w : World) (b t : Int) (F : List Int) (S : List (List (List Int))) (L : List Int) (e : Ending) (w' : World) : Prop :=
  ∃ aF cF aS cS aL cL, e = .returned (.agg #[.int .i64 b, .int .i64 t, .slice aF F.length cF, .slice aS S.length cS, .slice aL L.length cL]) ∧ KpW w.heap.size w'.heap.size (fun W => Sl W aF F.length F ∧ Sl3 W aS S.length S ∧ Sl W aL L.length L) w' ∧ Below w.heap.size w w'
set_option maxHeartbeats 32000000 in
set_option maxRecDepth 8000 in
theorem repOf_ok (b : Int) (tn tr tk m mu : Nat) (a : Option Addr) (n cap : Nat) (a' : Option Addr) (cap' : Nat) (N : List (List Int)) (E : List Bool) (w : World) (hs : Sl2 w a n N) (he : SlB w a' n E) (htn : tn = tr + 1) (htk : tk ≤ tr) (hA : autoC b (tn : Int) N n = 0) (hU1 : manyU b (tn : Int) = (m : Int)) (hf : pw (kindsI b) tr = (mu : Int)) :
    Calls Tryd.prog 10 #[.agg #[.int .i64 b, .int .i64 (tn : Int), .slice a n cap, .slice a' n cap'], .int .i64 (tk : Int)] w (RofR w b (tr : Int) (fst0L n) (repS b tr tk m mu N) (lastL E n)) := by
  obtain ⟨l0, hl0, hv0, hv1, hv2⟩ := info_parts infoS22
  obtain ⟨s0, hs0, hy0, hy1, hy2⟩ := info_parts infoS
  obtain ⟨i0, hi0, hz0, hz1, hz2⟩ := info_parts info3
  obtain ⟨hC1, -, hG, hmu⟩ := autoC_zero hA
  have hn80 := autoC_80 hA
  rw [hs.1] at hG hn80
  rw [hU1, Int.toNat_natCast] at hG
  have hCt : codeM b ((tr : Int) + 1) = 0 := by rw [htn] at hC1; rw [← hC1]; congr 1
  obtain ⟨hC, hM', -, hmu36, hm5, ht4, h1, h2⟩ := many_less hCt
  have h36 : mu ≤ 36 := by rw [hM', hf] at hmu36; omega
  have hm36 := hG.2.2.2.1
  have hn1 := hG.2.1
  have hNl := hG.1
  have hpm : pw (kindsI b) (tr + 1) = (m : Int) := by rw [hm5, ← hU1, htn]; congr 1
  have hkb := kinds_bd2 b h2
  obtain ⟨K, hKe⟩ : ∃ K : Nat, (kindsI b).toNat = K := ⟨_, rfl⟩
  have hmk := make_ints n (by omega)
  have hB0 := below_two w (.cells #[.int .i64 b, .int .i64 (tn : Int), .slice a n cap, .slice a' n cap'] 25) (.cells #[.int .i64 0, .int .i64 0, .slice none 0 0, .slice none 0 0, .slice none 0 0] 38)
  have HB0 := hide hB0
  have HX1 := hide (heap_alloc2_fst w (.cells #[.int .i64 b, .int .i64 (tn : Int), .slice a n cap, .slice a' n cap'] 25) (.cells #[.int .i64 0, .int .i64 0, .slice none 0 0, .slice none 0 0, .slice none 0 0] 38))
  have HX2 := hide (heap_alloc2_snd w (.cells #[.int .i64 b, .int .i64 (tn : Int), .slice a n cap, .slice a' n cap'] 25) (.cells #[.int .i64 0, .int .i64 0, .slice none 0 0, .slice none 0 0, .slice none 0 0] 38))
  have HMU := hide (fun W => letters_u b (tr : Int) W)
  rw [hC, hM', hf] at HMU
  have HS := hide hs
  have HE := hide he
  have HG := hide hG
  have HWO : Hid (∀ (W : World) (l : Nat), l < mu → Calls Tryd.prog 29 #[.int .i64 b, .int .i64 (tn : Int), .int .i64 (tk : Int), .int .i64 (l : Int)] W (GivesRow W (withL b tr tk (l : Int)))) := fun W l hl => by
    have h := withoutOf_any b tr tk (l : Int) W h1 h2 ht4 htk (by omega) (by omega)
    rwa [show (tr : Int) + 1 = (tn : Int) by omega] at h
  have HWN : Hid (∀ l : Nat, (withL b tr tk (l : Int)).length = K) := fun l => by rw [withL_len]; exact hKe
  have HWK : Hid (∀ l : Nat, ∀ x ∈ withL b tr tk (l : Int), 0 ≤ x ∧ x < (m : Int)) := fun l => withL_ok h2 htk hpm _
  have HLP : Hid (∀ l, l < mu → leadsL N (withL b tr tk (l : Int)) = leadsL N (leftL b tr tk m l)) := fun l hl => leadsL_perm N ((List.perm_ext_iff_of_nodup (withL_nodupR h2 htk _) (leftL_nodupR b tr tk m l)).2 fun x => (leftL_with h2 htk hpm hf hl x).symm)
  have hsub : (tn : Int) - 1 = (tr : Int) := by omega
  have hwtr : IntKind.i64.wrap (tr : Int) = (tr : Int) := wrap_i64_id (by omega)
  have hK6 : K ≤ 6 := by omega
  clear hs he hA hU1 hf hC hC1 hCt hM' hmu36 hmu hB0 htn hG hpm hm5
  generalize hwb : (w.alloc (.cells #[.int .i64 b, .int .i64 (tn : Int), .slice a n cap, .slice a' n cap'] 25)).alloc (.cells #[.int .i64 0, .int .i64 0, .slice none 0 0, .slice none 0 0, .slice none 0 0] 38) = wb at HB0 HX1 HX2
  have HSZ : Hid (wb.heap.size = w.heap.size + 2) := by show _ = _; rw [← hwb]; simp
  have HCB : Hid (∀ W, Below wb.heap.size wb W → W.cell? ⟨w.heap.size, 0, none⟩ = some (.int .i64 b) ∧ W.cell? ⟨w.heap.size, 1, none⟩ = some (.int .i64 (tn : Int)) ∧ W.cell? ⟨w.heap.size, 2, none⟩ = some (.slice a n cap) ∧ W.cell? ⟨w.heap.size, 3, none⟩ = some (.slice a' n cap')) := fun W h => (box_cells ((h.block _ (by rw [HSZ.out]; omega)).trans HX1.out)).1
  obtain ⟨p0, p1, p2, p3⟩ := HCB.out wb (Below.refl _ _)
  have hR0 : RoI wb wb.heap.size (.int .i64 b) (.int .i64 (tr : Int)) (fst0L 0) (lastL E 0) (.slice none 0 0) (.slice none 0 0) (wb.alloc (.cells #[.int .i64 b, .int .i64 (tr : Int), .slice none 0 0, .slice none 0 0, .slice none 0 0] 38)) :=
    ⟨heap_alloc_last wb _, World.ownsRow_nil _ _ _ _, World.ownsRow_nil _ _ _ _, fun x e => (by cases e), (Below.refl _ _).alloc (Nat.le_refl _) _, Nat.le_refl _⟩
  have HR0 := hide hR0
  clear hR0
  go_enter Tryd.func10, Tryd.ntmps10
  go_wp2_with (go_at_call 19; refine (HMU.out _).mono ?_; rintro e w' ⟨rfl, hw⟩; rw [hw]; clear hw w')
  clear hwb p0 p1 p2 p3 hwtr HMU
  generalize wb.alloc (.cells #[.int .i64 b, .int .i64 (tr : Int), .slice none 0 0, .slice none 0 0, .slice none 0 0] 38) = W1 at HR0 ⊢
  go_loopw [8] (fun sv wx => ∃ s : Nat, s ≤ n ∧ sv = .int .i64 s ∧ ∃ vF vL, RoI wb wb.heap.size (.int .i64 b) (.int .i64 (tr : Int)) (fst0L s) (lastL E s) vF vL wx) (fun sv _ => n - (intOf sv).toNat)
  case atStart => exact ⟨0, by omega, rfl, _, _, HR0.out⟩
  case round =>
    obtain ⟨s, hsn, rfl, vF, vL, hro⟩ := hrel
    have HRO := hide hro
    obtain ⟨p0, p1, p2, p3⟩ := HCB.out wr hro.bel
    by_cases hlt : s < n
    · have hlti : (s : Int) < (n : Int) := by omega
      obtain ⟨be, oe, rfl, hce⟩ := slB_cell (slB_below HE.out (below_step HB0.out hro.bel)) s hlt
      have HF1 := hide (fst0L_succ s)
      have HL1 := hide (lastL_succ E s)
      have HFL := hide (fst0L_len s)
      have HLL := hide (lastL_len E s)
      have hbl := (Array.getElem?_eq_some_iff.1 hro.box).1
      obtain ⟨⟨u0, u1, u2, u3, u4⟩, uf⟩ := box5R_cells hro.box
      have HOF : Hid (wr.ownsRow (wb.heap.size + 1) 3 1 vF s ((fst0L s).map (Value.int .i64))) := by have := hro.ownF; rwa [fst0L_len] at this
      obtain ⟨x1, hx1⟩ : ∃ x : Int, (if s = 0 then (1 : Int) else 0) = x := ⟨_, rfl⟩
      obtain ⟨x2, hx2⟩ : ∃ x : Int, (if E.getD s false = true then (1 : Int) else 0) = x := ⟨_, rfl⟩
      rw [hx1] at HF1
      rw [hx2] at HL1
      generalize E.getD s false = eb at hce hx2
      clear hro
      have hcase : (((s : Int) == 0) = true ∧ x1 = 1 ∨ ((s : Int) == 0) = false ∧ x1 = 0) ∧ (eb = true ∧ x2 = 1 ∨ eb = false ∧ x2 = 0) := by
        refine ⟨?_, ?_⟩
        · by_cases e : s = 0
          · left; rw [if_pos e] at hx1; exact ⟨by simp [e], hx1.symm⟩
          · right; rw [if_neg e] at hx1; exact ⟨by simp; omega, hx1.symm⟩
        · cases eb
          · right; exact ⟨rfl, hx2.symm⟩
          · left; exact ⟨rfl, hx2.symm⟩
      clear hx1 hx2
      obtain ⟨⟨hs0', rfl⟩ | ⟨hs0', rfl⟩, ⟨rfl, rfl⟩ | ⟨rfl, rfl⟩⟩ := hcase
      all_goals
        go_upto_region 13 with (at_builtin; refine wpList_append_lies _ rfl _ _ 35 rfl (wb.heap.size + 1) 3 i0 (.int .i64 0) 1 8 Tryd.underlying35 hi0 hz0 hz1 hz2 rfl (by decide) vF s _ rfl (HOF.out.alloc _) ⟨wr.heap.size, 0, none⟩ 1 1 [_] rfl rfl (one_new _ _ _) (fun u hu => by simp at hu; subst hu; rfl) (by omega) (by unfold maxLen; omega) (by omega) (by simp; omega) (wr.heap.size + 1) (by simp) ?_; intro g9 cap9 w9 hown9 hgrow9 hat9 _; obtain ⟨hbx, hro2⟩ := roI_first HRO.out HFL.out hown9 hgrow9 hat9; obtain ⟨⟨k0, k1, k2, k3, k4⟩, kf⟩ := box5R_cells hbx; have HRO2 := hide hro2; clear hbx hro2 hown9 hgrow9 hat9)
        clear u0 u1 u2 u3 u4 uf k0 k1 k2 k3 k4 kf p0 p1 p2 p3 hce
        rw [← HF1.out] at HRO2
        generalize w9.setCell ⟨wb.heap.size, 2, none⟩ (.slice (some ⟨g9, 0, none⟩) (s + 1) cap9) = W5 at HRO2 ⊢
        generalize Value.slice (some ⟨g9, 0, none⟩) (s + 1) cap9 = vF9 at HRO2
        have hbl2 := (Array.getElem?_eq_some_iff.1 HRO2.out.box).1
        have HOL : Hid (W5.ownsRow (wb.heap.size + 1) 3 1 vL s ((lastL E s).map (Value.int .i64))) := by have := HRO2.out.ownL; rwa [lastL_len] at this
        obtain ⟨⟨u0, u1, u2, u3, u4⟩, uf⟩ := box5R_cells HRO2.out.box
        go_wp2_with (at_builtin; refine wpList_append_lies _ rfl _ _ 35 rfl (wb.heap.size + 1) 3 i0 (.int .i64 0) 1 8 Tryd.underlying35 hi0 hz0 hz1 hz2 rfl (by decide) vL s _ rfl (HOL.out.alloc _) ⟨W5.heap.size, 0, none⟩ 1 1 [_] rfl rfl (one_new _ _ _) (fun u hu => by simp at hu; subst hu; rfl) (by omega) (by unfold maxLen; omega) (by omega) (by simp; omega) (W5.heap.size + 1) (by simp) ?_; intro g8 cap8 w8 hown8 hgrow8 hat8 _; obtain ⟨hbx, hro3⟩ := roI_last HRO2.out HLL.out hown8 hgrow8 hat8; obtain ⟨⟨k0, k1, k2, k3, k4⟩, kf⟩ := box5R_cells hbx; rw [← HL1.out] at hro3; have HRO3 := hide hro3; clear hbx hro3 hown8 hgrow8 hat8)
        go_roundw
        case rel => exact ⟨s + 1, by omega, by go_num, _, _, HRO3.out⟩
        case measure => simp [intOf]; omega
    · have hlti : ¬ (s : Int) < (n : Int) := by omega
      obtain rfl : n = s := by omega
      have hwfF : ∀ x ∈ fst0L n, (Lit.int .i64 x).wf = true := bdL_wf (fst0L_bd n)
      have hwfL : ∀ x ∈ lastL E n, (Lit.int .i64 x).wf = true := fun x hx => by
        obtain ⟨i, hi, rfl⟩ := List.getElem_of_mem hx
        rw [lastL_len] at hi
        have := lastL_get (E := E) hi
        rw [getD_at _ i (by rw [lastL_len]; exact hi)] at this
        rw [this]
        split <;> decide
      obtain ⟨aF, cF, rfl, hF⟩ := sl_of_owns (fst0L_len n) (by unfold maxLen; omega) hwfF (by have := hro.ownF; rw [fst0L_len] at this; exact this)
      obtain ⟨aL, cL, rfl, hL⟩ := sl_of_owns (lastL_len E n) (by unfold maxLen; omega) hwfL (by have := hro.ownL; rw [lastL_len] at this; exact this)
      have hbl := (Array.getElem?_eq_some_iff.1 hro.box).1
      have hG0 : GrK wb wb.heap.size 3 (fun v => .cells #[.int .i64 b, .int .i64 (tr : Int), .slice aF n cF, v, .slice aL n cL] 38) 22 (fun W => Sl W aF n (fst0L n) ∧ Sl W aL n (lastL E n)) (SqP (fun l => leadsL N (withL b tr tk (l : Int)))) 0 [] (.slice none 0 0) wr :=
        ⟨hro.box, World.ownsRow_nil _ _ _ _, rfl, hro.bel, Nat.le_refl _, fun W v v' h => by simp [World.setCell, Array.getElem?_modify, h], ⟨wb.heap.size + 1, wr.heap.size, ⟨⟨by omega, by omega⟩, Nat.le_refl _, fun x e => (by cases e)⟩, fun W' hW' => ⟨sl_keep hF.1 fun x hx => hW' x (by obtain ⟨_, ad, e, rfl⟩ := hx; exact hF.2 ad e) (slB_lt hF.1 hx), sl_keep hL.1 fun x hx => hW' x (by obtain ⟨_, ad, e, rfl⟩ := hx; exact hL.2 ad e) (slB_lt hL.1 hx)⟩⟩, fun j hj => by omega⟩
      have HG0 := hide hG0
      clear hro HRO hF hL hG0 hwfF hwfL hbl HR0
      go_wp2
      clear p0 p1 p2 p3
      go_loopw [11] (fun lv wx => ∃ l : Nat, l ≤ mu ∧ lv = .int .i64 l ∧ ∃ vals v, GrK wb wb.heap.size 3 (fun v => .cells #[.int .i64 b, .int .i64 (tr : Int), .slice aF n cF, v, .slice aL n cL] 38) 22 (fun W => Sl W aF n (fst0L n) ∧ Sl W aL n (lastL E n)) (SqP (fun l => leadsL N (withL b tr tk (l : Int)))) l vals v wx) (fun lv _ => mu - (intOf lv).toNat)
      case atStart => exact ⟨0, by omega, rfl, _, _, HG0.out⟩
      case round =>
        obtain ⟨l, hl, rfl, vals, v, hgr⟩ := hrel
        have HGR := hide hgr
        obtain ⟨p0, p1, p2, p3⟩ := HCB.out wr hgr.bel
        by_cases hlm : l < mu
        · have hlmi : (l : Int) < (mu : Int) := by omega
          have HWC := hide (HWO.out wr l hlm)
          unfold GivesRow at HWC
          have HLQ := hide (HWN.out l)
          rw [HLQ.out] at HWC
          have HWV := hide (HWK.out l)
          clear hgr
          go_wp2_with fail
          clear p0 p1 p2 p3
          refine HWC.out.mono ?_
          rintro e w5 ⟨aw, cw, rfl, ⟨hsw, -⟩, hb5⟩
          have HSW := hide hsw
          have HB5 := hide hb5
          have HV0 : Hid (GrV w5.heap.size 35 (RowP (fun s => (leadsL N (withL b tr tk (l : Int))).getD s [])) 0 [] (.slice none 0 0) w5) := ⟨World.ownsRow_nil _ _ _ _, rfl, fun j hj => by omega⟩
          have HB55 : Hid (Below w5.heap.size w5 w5) := Below.refl _ _
          clear hsw hb5 HWC
          obtain ⟨ls, hls⟩ : ∃ ls, withL b tr tk (l : Int) = ls := ⟨_, rfl⟩
          have HLS := hide hls
          rw [hls] at HLQ HWV HSW HV0
          clear hls
          go_wp2
          go_loopw [13, 14] (fun mv sv wx => ∃ s : Nat, s ≤ n ∧ sv = .int .i64 s ∧ ∃ vm, GrV w5.heap.size 35 (RowP (fun s => (leadsL N ls).getD s [])) s vm mv wx ∧ Below w5.heap.size w5 wx) (fun _ sv _ => n - (intOf sv).toNat)
          case atStart => exact ⟨0, by omega, rfl, _, HV0.out, HB55.out⟩
          case round =>
            obtain ⟨s, hsn, rfl, vm, hgv, hb⟩ := hrel
            have HGV := hide hgv
            have HBV := hide hb
            have hbt := below_step HGR.out.bel (below_step HB5.out hb)
            have HBT := hide hbt
            obtain ⟨p0, p1, p2, p3⟩ := HCB.out wr hbt
            by_cases hlt : s < n
            · have hlti : (s : Int) < (n : Int) := by omega
              obtain ⟨bn, on, an, cn, rfl, hcn0, hsn0⟩ := sl2_cell (sl2_below HS.out HB0.out) s hlt
              obtain ⟨e4, hx4⟩ := HG.out.2.2.2.2.2 s hlt
              rw [e4] at hcn0 hsn0
              have HCN := hide hcn0
              have HSN := hide hsn0
              have HX4 := hide hx4
              have HNA : Hid (∀ y : Nat, nxA N s (y : Int) = ((N.getD s []).getD y 0).toNat) := fun y => rfl
              have HR6 : Hid ((wr.alloc (.cells (madeCells #[.int .i64 0] n) 3)).rowIs wr.heap.size 3 n (fun t => .int .i64 (dgT N ls s 0 t)) ∧ Below wr.heap.size wr (wr.alloc (.cells (madeCells #[.int .i64 0] n) 3))) := ⟨World.rowIs_made wr (.int .i64 0) n 3, (Below.refl _ _).alloc (Nat.le_refl _) _⟩
              clear hgv hb hbt hcn0 hsn0 e4 hx4
              go_upto_region 23 with fail
              clear p0 p1 p2 p3
              generalize wr.alloc (.cells (madeCells #[.int .i64 0] n) 3) = W6 at HR6 ⊢
              obtain ⟨wq, hwq⟩ : ∃ wq : World, wq = wr := ⟨_, rfl⟩
              rw [← hwq] at HGV HBV HBT HR6 ⊢
              clear hwq wr
              go_wp2
              go_loopw [16] (fun xv wx => ∃ x : Nat, x ≤ K ∧ xv = .int .i64 x ∧ wx.rowIs wq.heap.size 3 n (fun t => .int .i64 (dgT N ls s x t)) ∧ Below wq.heap.size wq wx) (fun xv _ => K - (intOf xv).toNat)
              case atStart => exact ⟨0, by omega, rfl, HR6.out.1, HR6.out.2⟩
              case round =>
                obtain ⟨x, hx, rfl, hrow, hbq⟩ := hrel
                have HROW := hide hrow
                have HBQ := hide hbq
                have hbt := below_step HBT.out hbq
                by_cases hxK : x < K
                · have hxKi : (x : Int) < (K : Int) := by omega
                  obtain ⟨p0, p1, p2, p3⟩ := HCB.out wr hbt
                  have hcn := (hbt.cell (p := ⟨bn, on + s, none⟩) (World.block_lt_of_cell? wb _ HCN.out)).trans HCN.out
                  obtain ⟨bw, ow, rfl, hcw⟩ := sl_cell (sl_below HSW.out (below_step HBV.out hbq)) x hxK
                  have hyb := HWV.out (ls.getD x 0) (by rw [getD_at _ x (by have := HLQ.out; omega)]; exact List.getElem_mem _)
                  obtain ⟨y, hy⟩ : ∃ y : Nat, ls.getD x 0 = (y : Int) := ⟨(ls.getD x 0).toNat, by omega⟩
                  have HYE := hide hy
                  rw [hy] at hcw hyb
                  have hyi : (y : Int) < (m : Int) := hyb.2
                  obtain ⟨br, orr, rfl, hcr⟩ := sl_cell (sl_below HSN.out hbt) y (by omega)
                  have hxv := HX4.out y (by omega)
                  have hna := HNA.out y
                  obtain ⟨v9, hv9⟩ : ∃ v9 : Nat, (N.getD s []).getD y 0 = (v9 : Int) := ⟨((N.getD s []).getD y 0).toNat, by omega⟩
                  rw [hv9] at hcr hxv hna
                  rw [Int.toNat_natCast] at hna
                  have hvn : v9 < n := by omega
                  have hvi : (v9 : Int) < (n : Int) := by omega
                  have hbd := dgT_bd N ls s x v9
                  have HNX : Hid (∀ q : Nat, ((wr.drewN q).setCell ⟨wq.heap.size, v9, none⟩ (.int .i64 (dgT N ls s x v9 + 1))).rowIs wq.heap.size 3 n (fun t => .int .i64 (dgT N ls s (x + 1) t)) ∧ Below wq.heap.size wq ((wr.drewN q).setCell ⟨wq.heap.size, v9, none⟩ (.int .i64 (dgT N ls s x v9 + 1)))) := fun q => ⟨((hrow.of_block (w' := wr.drewN q) (by simp)).set v9 _).congr fun t _ => by
                    rw [dgT_step, HYE.out, hna]
                    by_cases e : t = v9
                    · subst e; rw [if_pos rfl, if_pos rfl]
                    · rw [if_neg e, if_neg e, Int.add_zero], (below_drewN hbq q).setCell (Nat.le_refl _) _⟩
                  have HCE : Hid (∀ q : Nat, (wr.drewN q).cell? ⟨wq.heap.size, v9, none⟩ = some (.int .i64 (dgT N ls s x v9)) ∧ (wr.drewN q).frozen? ⟨wq.heap.size, v9, none⟩ = false) := fun q => ⟨(hrow.of_block (w' := wr.drewN q) (by simp)).cell hvn, (hrow.of_block (w' := wr.drewN q) (by simp)).frozen v9⟩
                  generalize dgT N ls s x v9 = dd at hbd HNX HCE
                  have hwd : IntKind.i64.wrap (dd + 1) = dd + 1 := by rw [IntKind.wrap_i64]; omega
                  clear hrow hbq hbt hy hna hv9
                  go_upto_region 26 with fail
                  go_quiet (fail)
                  clear p0 p1 p2 p3 hcn hcw hcr
                  obtain ⟨hcR, hfR⟩ := HCE.out nq
                  have HNX1 := hide (HNX.out nq)
                  clear HNX HCE
                  generalize wr.drewN nq = W7 at hcR hfR HNX1 ⊢
                  go_wp2
                  go_roundw
                  case rel => exact ⟨x + 1, by omega, by go_num, HNX1.out.1, HNX1.out.2⟩
                  case measure => simp [intOf]; omega
                · have hxKi : ¬ (x : Int) < (K : Int) := by omega
                  obtain rfl : K = x := by omega
                  have hLL : ((leadsL N ls).getD s []).length = n := by simp [leadsL, List.getD, HG.out.1, hlt]
                  have hown0 := (grV_below HGV.out hbq).own
                  have hz5 := HBV.out.size
                  have hz6 := hbq.size
                  have HPS := hide (fun (w9 : World) (o : Obj) (g9 cap9 : Nat) h1 h2 h3 => grV_push (w3 := w9) (o := o) (g' := g9) (cap' := cap9) HGV.out HBV.out.size hbq (u := .slice (some ⟨wq.heap.size, 0, none⟩) n n) (fun W' hW' => ⟨some ⟨wq.heap.size, 0, none⟩, n, by rw [hLL], by
                    rw [hLL]
                    refine sl_of_rowIs hLL (by unfold maxLen; omega) (fun y hy => ?_) ((hrow.of_block (hW' _ (Nat.le_refl _) hrow.lt)).congr fun t ht => ?_)
                    · obtain ⟨i, hi, rfl⟩ := List.getElem_of_mem hy
                      rw [hLL] at hi
                      have h9 := leadsL_get (N := N) (ls := ls) (s := s) (t := i) (by rw [HG.out.1]; exact hlt) (by rw [HG.out.1]; exact hi)
                      rw [getD_at _ i (by rw [hLL]; exact hi)] at h9
                      rw [h9]
                      have g1 := dgN_nn N ls s i
                      have g2 := dgN_le N ls s i
                      have g3 := HLQ.out
                      exact WalkArith.wf_i64 (by omega)
                    · rw [leadsL_get (by rw [HG.out.1]; exact hlt) (by rw [HG.out.1]; exact ht), ← dgT_all, HLQ.out]⟩) h1 h2 h3)
                  have HO5 := hide hown0
                  have HBG := hide (below_step HBV.out hbq)
                  clear hrow hown0 hLL
                  go_wp2_with (at_builtin; refine wpList_append_lies _ rfl _ _ 22 rfl w5.heap.size 35 s0 (.slice none 0 0) 1 24 Tryd.underlying22 hs0 hy0 hy1 hy2 rfl (by decide) u13 s vm rfl (HO5.out.alloc _) ⟨wr.heap.size, 0, none⟩ 1 1 [.slice (some ⟨wq.heap.size, 0, none⟩) n n] rfl rfl (one_new _ _ _) (fun u hu => by simp at hu; subst hu; rfl) (by omega) (by unfold maxLen; omega) (by omega) (by simp; omega) (wr.heap.size + 1) (by simp) ?_; intro g9 cap9 w9 hown9 hgrow9 hat9 _; have HGP := hide (HPS.out w9 _ g9 cap9 hown9 hgrow9 hat9); have HB9 := hide (Below.grown (HBG.out.alloc HBG.out.size _) hgrow9 (by rw [World.size_alloc]; omega) (fun y hy => (HO5.out.lt y hy).1)); clear hown9 hgrow9 hat9)
                  go_roundw
                  case rel => exact ⟨s + 1, by omega, by go_num, _, HGP.out, HB9.out⟩
                  case measure => simp [intOf]; omega
            · have hlti : ¬ (s : Int) < (n : Int) := by omega
              obtain rfl : n = s := by omega
              obtain ⟨aM, cM, rfl, hkM⟩ := grV_end hgv (by unfold maxLen; omega) (leadsL N ls) (by rw [leadsL_len, HG.out.1]) (fun j hj => rfl)
              have hbo := below_step HB5.out hb
              have hgb := grK_below HGR.out hbo
              have hz7 := hbo.size
              have hz8 := hgb.bel.size
              have hLn : (leadsL N ls).length = n := by rw [leadsL_len, HG.out.1]
              have HPS := hide (fun (w9 : World) (o : Obj) (g9 cap9 : Nat) h1 h2 h3 => grK_push (w3 := w9) (o := o) (g' := g9) (cap' := cap9) HGR.out hbo (u := .slice aM n cM) ((hkM.mono HB5.out.size).to fun W' h => ⟨aM, cM, by show Value.slice aM n cM = .slice aM (leadsL N (withL b tr tk (l : Int))).length cM; rw [HLS.out, hLn], by show Sl2 W' aM (leadsL N (withL b tr tk (l : Int))).length (leadsL N (withL b tr tk (l : Int))); rw [HLS.out, hLn]; exact h⟩) h1 h2 h3)
              have hbl := (Array.getElem?_eq_some_iff.1 hgb.box).1
              obtain ⟨⟨u0, u1, u2, u3, u4⟩, uf⟩ := box5R_cells hgb.box
              have HO5 := hide hgb.own
              clear hgv hkM hgb hLn
              go_wp2_with (at_builtin; refine wpList_append_lies _ rfl _ _ 36 rfl (wb.heap.size + 1) 22 l0 (.slice none 0 0) 1 24 Tryd.underlying36 hl0 hv0 hv1 hv2 rfl (by decide) v l vals rfl (HO5.out.alloc _) ⟨wr.heap.size, 0, none⟩ 1 1 [.slice aM n cM] rfl rfl (one_new _ _ _) (fun u hu => by simp at hu; subst hu; rfl) (by omega) (by unfold maxLen; omega) (by omega) (by simp; omega) (wr.heap.size + 1) (by simp) ?_; intro g9 cap9 w9 hown9 hgrow9 hat9 _; obtain ⟨hbx, hgk⟩ := HPS.out w9 _ g9 cap9 hown9 hgrow9 hat9; have HGK := hide hgk; obtain ⟨⟨k0, k1, k2, k3, k4⟩, kf⟩ := box5R_cells hbx; clear hown9 hgrow9 hat9 hbx hgk)
              go_roundw
              case rel => exact ⟨l + 1, by omega, by go_num, _, _, HGK.out⟩
              case measure => simp [intOf]; omega
        · have hlmi : ¬ (l : Int) < (mu : Int) := by omega
          obtain rfl : l = mu := by omega
          obtain ⟨aS, cS, rfl, hS3⟩ := grK_end hgr (by unfold maxLen; omega) (repS b tr tk m l N) (repS_len _ _ _ _ _ _) (fun j hj => by rw [repS_get hj, HLP.out j hj])
          have hX0 := fun (W' : World) (h : ∀ x, x ≠ wb.heap.size → wb.heap.size ≤ x → x < wr.heap.size → W'.heap[x]? = wr.heap[x]?) => (grK_keep hgr h).1
          have HS3 := hide hS3
          have HX0 := hide hX0
          have hres := (hgr.bel.block (w.heap.size + 1) (by rw [HSZ.out]; omega)).trans HX2.out
          have HRES := hide hres
          obtain ⟨⟨r0, r1, r2, r3, r4⟩, rf⟩ := box5R_cells hres
          obtain ⟨⟨s0', s1', s2', s3', s4'⟩, -⟩ := box5R_cells hgr.box
          clear hres hgr hS3 hX0
          go_wp2
          have hsz9 := HSZ.out
          obtain ⟨⟨hset, hsz8, hoth⟩, hbel⟩ := box5R_set (v0 := .int .i64 b) (v1 := .int .i64 (tr : Int)) (v2 := .slice aF n cF) (v3 := .slice aS l cS) (v4 := .slice aL n cL) HRES.out rfl
          have hb := hbel w w.heap.size (below_step HB0.out HGR.out.bel) (by omega)
          obtain ⟨⟨z0, z1, z2, z3, z4⟩, -⟩ := box5R_cells hset
          have hwz := HB0.out.size
          refine bodyPost_ret (v := .agg #[.int .i64 b, .int .i64 (tr : Int), .slice aF n cF, .slice aS l cS, .slice aL n cL]) (by simp [results, Tryd.results10, go_sem, z0, z1, z2, z3, z4]) rfl ⟨aF, cF, aS, cS, aL, cL, by rw [fst0L_len, repS_len, lastL_len], fun W' hW' => ?_, hb⟩
          have hkp : ∀ x, x ≠ wb.heap.size → wb.heap.size ≤ x → x < wr.heap.size → _ := fun x hx h1 h2 => (hW' x (by omega) (by omega)).trans (hoth x (by omega))
          have hc3 := HS3.out _ hkp
          obtain ⟨hc1, hc2⟩ := HX0.out _ hkp
          exact ⟨by rw [fst0L_len]; exact hc1, by rw [repS_len]; exact hc3, by rw [lastL_len]; exact hc2⟩
end Go.Proofs.YtlgjadnkokmjoaaDoor

/- filbertsame.Reps at two that read alike. -/
namespace Go.Proofs.YtlgjadnkokmjoaaDoor
open Go.RowKit

theorem two_box5 {w w' : World} {v0 v1 v2 v3 v4 u0 u1 u2 u3 u4 : Value} {T : TypeId} (hb : Below ((w.alloc (.cells #[v0, v1, v2, v3, v4] T)).alloc (.cells #[u0, u1, u2, u3, u4] T)).heap.size ((w.alloc (.cells #[v0, v1, v2, v3, v4] T)).alloc (.cells #[u0, u1, u2, u3, u4] T)) w') :
    (w'.cell? ⟨w.heap.size, 0, none⟩ = some v0 ∧ w'.cell? ⟨w.heap.size, 1, none⟩ = some v1 ∧ w'.cell? ⟨w.heap.size, 2, none⟩ = some v2 ∧ w'.cell? ⟨w.heap.size, 3, none⟩ = some v3 ∧ w'.cell? ⟨w.heap.size, 4, none⟩ = some v4) ∧
    (w'.cell? ⟨w.heap.size + 1, 0, none⟩ = some u0 ∧ w'.cell? ⟨w.heap.size + 1, 1, none⟩ = some u1 ∧ w'.cell? ⟨w.heap.size + 1, 2, none⟩ = some u2 ∧ w'.cell? ⟨w.heap.size + 1, 3, none⟩ = some u3 ∧ w'.cell? ⟨w.heap.size + 1, 4, none⟩ = some u4) := by
  have h2 := box5R hb
  rw [World.size_alloc] at h2
  exact ⟨box5R (below_step ((Below.refl _ _).alloc (Nat.le_refl _) _) hb), h2⟩
theorem ints_same (a a' : Option Addr) (len cap cap' : Nat) (l : List Int) (w : World) (hs : Sl w a len l) (hs' : Sl w a' len l) :
    Calls Tryd.prog 31 #[.slice a len cap, .slice a' len cap'] w fun e w' => e = .returned (.bool true) ∧ ∃ n, w' = w.drewN n := by
  have := ints_long a a' len cap cap' l l w hs hs'
  rwa [decide_eq_true rfl] at this
set_option maxHeartbeats 8000000 in
set_option maxRecDepth 4000 in
theorem reps_eq (b t : Int) (a1 : Option Addr) (n1 c1 : Nat) (a2 : Option Addr) (n2 c2 : Nat) (a3 : Option Addr) (n3 c3 : Nat) (a4 : Option Addr) (c4 : Nat) (a5 : Option Addr) (c5 : Nat) (a6 : Option Addr) (c6 : Nat) (F : List Int) (S : List (List (List Int))) (L : List Int) (w : World) (hF : Sl w a1 n1 F) (hS : Sl3 w a2 n2 S) (hL : Sl w a3 n3 L) (hF2 : Sl w a4 n1 F) (hS2 : Sl3 w a5 n2 S) (hL2 : Sl w a6 n3 L) :
    Calls Tryd.prog 12 #[.agg #[.int .i64 b, .int .i64 t, .slice a1 n1 c1, .slice a2 n2 c2, .slice a3 n3 c3], .agg #[.int .i64 b, .int .i64 t, .slice a4 n1 c4, .slice a5 n2 c5, .slice a6 n3 c6]] w fun e w' => e = .returned (.bool true) ∧ Below w.heap.size w w' := by
  have hB : Below w.heap.size w ((w.alloc (.cells #[.int .i64 b, .int .i64 t, .slice a1 n1 c1, .slice a2 n2 c2, .slice a3 n3 c3] 38)).alloc (.cells #[.int .i64 b, .int .i64 t, .slice a4 n1 c4, .slice a5 n2 c5, .slice a6 n3 c6] 38)) := ((Below.refl _ _).alloc (Nat.le_refl _) _).alloc (by simp) _
  have HB := hide hB
  have HI1 := hide (ints_same a1 a4 n1 c1 c4 F _ (sl_below hF hB) (sl_below hF2 hB))
  have HI3 := hide (fun W (h : Below w.heap.size w W) => ints_same a3 a6 n3 c3 c6 L W (sl_below hL h) (sl_below hL2 h))
  have HS1 := hide (fun W (h : Below w.heap.size w W) => sl3_below hS h)
  have HS2 := hide (fun W (h : Below w.heap.size w W) => sl3_below hS2 h)
  have HBX := hide (two_box5 (Below.refl _ ((w.alloc (.cells #[.int .i64 b, .int .i64 t, .slice a1 n1 c1, .slice a2 n2 c2, .slice a3 n3 c3] 38)).alloc (.cells #[.int .i64 b, .int .i64 t, .slice a4 n1 c4, .slice a5 n2 c5, .slice a6 n3 c6] 38))))
  have hm := hS.2.1
  unfold maxLen at hm
  have hbb : (b != b) = false := by simp
  have htt : (t != t) = false := by simp
  have hkk : ((n2 : Int) != (n2 : Int)) = false := by simp
  clear hF hS hL hF2 hS2 hL2 hB
  go_enter Tryd.func12, Tryd.ntmps12
  obtain ⟨⟨p0, p1, p2, p3, p4⟩, q0, q1, q2, q3, q4⟩ := HBX.out
  go_wp2_with fail
  generalize (w.alloc (.cells #[.int .i64 b, .int .i64 t, .slice a1 n1 c1, .slice a2 n2 c2, .slice a3 n3 c3] 38)).alloc (.cells #[.int .i64 b, .int .i64 t, .slice a4 n1 c4, .slice a5 n2 c5, .slice a6 n3 c6] 38) = W at HB HI1 HBX p0 p1 p2 p3 p4 q0 q1 q2 q3 q4 ⊢
  clear p0 p1 p2 p3 p4 q0 q1 q2 q3 q4
  refine HI1.out.mono ?_
  rintro e w1 ⟨rfl, k1, hw1⟩
  have HW1 : Hid (Below w.heap.size w w1) := by rw [hw1]; exact below_drewN HB.out _
  have HBX1 : Hid ((w1.cell? ⟨w.heap.size, 0, none⟩ = some (.int .i64 b) ∧ w1.cell? ⟨w.heap.size, 1, none⟩ = some (.int .i64 t) ∧ w1.cell? ⟨w.heap.size, 2, none⟩ = some (.slice a1 n1 c1) ∧ w1.cell? ⟨w.heap.size, 3, none⟩ = some (.slice a2 n2 c2) ∧ w1.cell? ⟨w.heap.size, 4, none⟩ = some (.slice a3 n3 c3)) ∧ (w1.cell? ⟨w.heap.size + 1, 0, none⟩ = some (.int .i64 b) ∧ w1.cell? ⟨w.heap.size + 1, 1, none⟩ = some (.int .i64 t) ∧ w1.cell? ⟨w.heap.size + 1, 2, none⟩ = some (.slice a4 n1 c4) ∧ w1.cell? ⟨w.heap.size + 1, 3, none⟩ = some (.slice a5 n2 c5) ∧ w1.cell? ⟨w.heap.size + 1, 4, none⟩ = some (.slice a6 n3 c6))) := by rw [hw1]; exact HBX.out
  clear hw1 HBX HB HI1
  have HC3 := hide (HI3.out w1 HW1.out)
  obtain ⟨⟨p0, p1, p2, p3, p4⟩, q0, q1, q2, q3, q4⟩ := HBX1.out
  go_wp2_with fail
  clear p0 p1 p2 p3 p4 q0 q1 q2 q3 q4
  refine HC3.out.mono ?_
  rintro e w2 ⟨rfl, k2, hw2⟩
  have HW2 : Hid (Below w.heap.size w w2) := by rw [hw2]; exact below_drewN HW1.out _
  have HBX2 : Hid ((w2.cell? ⟨w.heap.size, 0, none⟩ = some (.int .i64 b) ∧ w2.cell? ⟨w.heap.size, 1, none⟩ = some (.int .i64 t) ∧ w2.cell? ⟨w.heap.size, 2, none⟩ = some (.slice a1 n1 c1) ∧ w2.cell? ⟨w.heap.size, 3, none⟩ = some (.slice a2 n2 c2) ∧ w2.cell? ⟨w.heap.size, 4, none⟩ = some (.slice a3 n3 c3)) ∧ (w2.cell? ⟨w.heap.size + 1, 0, none⟩ = some (.int .i64 b) ∧ w2.cell? ⟨w.heap.size + 1, 1, none⟩ = some (.int .i64 t) ∧ w2.cell? ⟨w.heap.size + 1, 2, none⟩ = some (.slice a4 n1 c4) ∧ w2.cell? ⟨w.heap.size + 1, 3, none⟩ = some (.slice a5 n2 c5) ∧ w2.cell? ⟨w.heap.size + 1, 4, none⟩ = some (.slice a6 n3 c6))) := by rw [hw2]; exact HBX1.out
  clear hw2 HBX1 HW1 HI3 HC3
  obtain ⟨⟨p0, p1, p2, p3, p4⟩, q0, q1, q2, q3, q4⟩ := HBX2.out
  go_wp2
  clear p0 p1 p2 p3 p4 q0 q1 q2 q3 q4
  go_loopw [7] (fun i wx => ∃ j q : Nat, j ≤ n2 ∧ i = .int .i64 j ∧ wx = w2.drewN q) (fun i _ => n2 - (intOf i).toNat)
  case atStart => exact ⟨0, 0, by omega, rfl, rfl⟩
  case round =>
    obtain ⟨j, q, hj, rfl, hwx⟩ := hrel
    have HWX := hide hwx
    have p3 : wr.cell? ⟨w.heap.size, 3, none⟩ = some (.slice a2 n2 c2) := by rw [hwx]; exact HBX2.out.1.2.2.2.1
    have q3 : wr.cell? ⟨w.heap.size + 1, 3, none⟩ = some (.slice a5 n2 c5) := by rw [hwx]; exact HBX2.out.2.2.2.2.1
    have hbw : Below w.heap.size w wr := by rw [hwx]; exact below_drewN HW2.out _
    clear hwx
    by_cases hlt : j < n2
    · have hlti : (j : Int) < (n2 : Int) := by omega
      obtain ⟨b1, o1, x1, y1, rfl, h1, s1⟩ := sl3_cell (HS1.out wr hbw) j hlt
      obtain ⟨b2, o2, x2, y2, rfl, h2, s2⟩ := sl3_cell (HS2.out wr hbw) j hlt
      have HK := hide (fun i => lists_eq x1 x2 (S.getD j []).length y1 y2 (S.getD j []) (wr.drewN i) (sl2_below s1 (below_drewN (Below.refl _ _) _)) (sl2_below s2 (below_drewN (Below.refl _ _) _)))
      clear s1 s2 hbw
      generalize (S.getD j []).length = rl at h1 h2 HK
      go_wp2
      go_quiet (first | (go_at_call 32; refine Calls.quiet_of (HK.out _)))
      go_wp2
      go_roundw
      case rel => exact ⟨j + 1, q + nq, by omega, by go_num, by rw [HWX.out, World.drewN_drewN]⟩
      case measure => simp [intOf]; omega
    · have hlti : ¬ ((j : Int) < (n2 : Int)) := by omega
      have HE := hide hbw
      clear hbw
      go_wp2
      go_ret
      exact ⟨by simp, HE.out⟩
end Go.Proofs.YtlgjadnkokmjoaaDoor
