/- 2 texts in one. -/
import Derived.Test.YtlgjadnkokmjoaaCto
import Derived.Test.YtlgjadnkokmjoaaZCts
import Derived.Test.YtlgjadnkokmjoaaZLp
import Derived.Test.YtlgjadnkokmjoaaZCtd
import Derived.Test.YtlgjadnkokmjoaaZNr
import Derived.Test.YtlgjadnkokmjoaaRa
import Derived.Test.YtlgjadnkokmjoaaZNx
/- CountReps: what is known of what Rep and Eval answer: mathematics. -/
namespace Go.Proofs.Ytlgjadnkokmjoaa
open Go.RowKit

theorem fill_ok {W : Int → List Int} {K m : Nat} (hK : 0 < K) : ∀ (l : List Int) (x : Nat), (∀ a ∈ l, (W a).length = K ∧ ∀ y ∈ W a, 0 ≤ y ∧ y < (m : Int)) → ∀ y ∈ fillW W K x l, 0 ≤ y ∧ y < (m : Int) := by
  intro l
  induction l with
  | nil => intro x _ y hy; cases hy
  | cons a v ih =>
    intro x h y hy
    obtain ⟨h1, h2⟩ := h a List.mem_cons_self
    rcases List.mem_cons.1 hy with rfl | hy
    · have hlt : x % K < (W a).length := by rw [h1]; exact Nat.mod_lt _ hK
      rw [getD_at _ _ hlt]
      exact h2 _ (List.getElem_mem _)
    · exact ih _ (fun a' ha => h a' (List.mem_cons_of_mem _ ha)) y hy
/-- What follows where Rep and Eval answer. -/
structure RepsOk (b t tk : Int) (N : List (List Int)) (E : List Bool) (n k : Nat) (l : List Int) (v : Int) (tr tkn m : Nat) : Prop where
  tt : t = (tr : Int) + 1
  ttk : tk = (tkn : Int)
  le : tkn ≤ tr
  four : tr ≤ 4
  base : 1 ≤ b ∧ b ≤ 6
  good : GoodN m n N
  kn : k = n
  few : n ≤ 80
  let' : ∀ x ∈ l, 0 ≤ x ∧ x < (36 : Int)
  val : 0 ≤ v ∧ v ≤ 1152921504606846976
  sum : csum (fun x => if E.getD (runL N (fillW (withL b tr tkn) (kindsI b).toNat x l)) false then 1 else 0) ((kindsI b).toNat ^ l.length) = v
  fil : ∀ x, ∀ y ∈ fillW (withL b tr tkn) (kindsI b).toNat x l, 0 ≤ y ∧ y < (m : Int)
  one : t = 1 → longC b t N E k (l.length : Int) = 0 ∧ longV b t N E k (l.length : Int) = v
theorem reps_math {b t tk : Int} {N : List (List Int)} {E : List Bool} {n k : Nat} {l : List Int} (hNn : N.length = n) (hC : repRC b t N k tk = 0) (hE : evlC b (t - 1) (fst0L n) (repS b (t.toNat - 1) tk.toNat (manyU b t).toNat (manyU b (t - 1)).toNat N) (lastL E n) l = 0) :
    ∃ tr tkn m, RepsOk b t tk N E n k l (evlV b (t - 1) (fst0L n) (repS b (t.toNat - 1) tk.toNat (manyU b t).toNat (manyU b (t - 1)).toNat N) (lastL E n) l) tr tkn m := by
  unfold repRC at hC
  split at hC
  · rename_i hA
    split at hC
    · rename_i ht
      obtain ⟨tr, rfl⟩ : ∃ tr : Nat, t = (tr : Int) + 1 := ⟨(t - 1).toNat, by omega⟩
      obtain ⟨tkn, rfl⟩ : ∃ x : Nat, tk = x := ⟨tk.toNat, by omega⟩
      obtain ⟨hM, hkl, hG, hmm⟩ := autoC_zero hA
      have hn80 := autoC_80 hA
      rw [hNn] at hG hn80 hkl
      obtain ⟨hMt, hm1, hm2, hm36, hm5, h4, h1, h2⟩ := many_less hM
      have e1 : ((tr : Int) + 1).toNat - 1 = tr := by omega
      have e2 : (tr : Int) + 1 - 1 = (tr : Int) := by omega
      rw [e1, e2, Int.toNat_natCast] at hE ⊢
      obtain ⟨m, hm⟩ : ∃ m, (manyU b ((tr : Int) + 1)).toNat = m := ⟨_, rfl⟩
      obtain ⟨mu, hmu⟩ : ∃ mu, (manyU b (tr : Int)).toNat = mu := ⟨_, rfl⟩
      rw [hm] at hG
      rw [hm, hmu] at hE ⊢
      have hpm : pw (kindsI b) (tr + 1) = (m : Int) := by rw [hm5]; omega
      have hpf : pw (kindsI b) tr = (mu : Int) := by rw [← hm1]; omega
      have hkb := kinds_bd2 b h2
      have hE0 := hE
      unfold evlC at hE
      split at hE
      · split at hE
        · split at hE
          · rename_i hr hw hx
            obtain ⟨v, hv⟩ := Option.isSome_iff_exists.1 hx
            have hV : evlV b (tr : Int) (fst0L n) (repS b tr tkn m mu N) (lastL E n) l = v := by unfold evlV; rw [if_pos hE0, hv]; rfl
            rw [repS_len] at hw
            obtain ⟨hl400, hlb⟩ := wordC_zero hw
            have hlx : ∀ x ∈ l, 0 ≤ x ∧ x < (mu : Int) := fun x hx => by
              obtain ⟨i, hi, rfl⟩ := List.getElem_of_mem hx
              have := hlb i hi
              rwa [getD_at _ i hi] at this
            obtain ⟨hway, hvM⟩ := evlX_way hG hlx hv
            rw [hV]
            refine ⟨tr, tkn, m, rfl, rfl, by omega, h4, ⟨h1, h2⟩, hG, hkl, hn80, fun x hx => by have := hlx x hx; omega, ⟨by rw [hway]; exact wayL_nn _ _ _ _, hvM⟩, ?_, fun x => fill_ok (by omega) l x (fun a _ => ⟨withL_len b tr tkn a, withL_ok h2 (by omega) hpm a⟩), fun ht1 => ?_⟩
            · rw [hway]
              exact reps_fill h2 E (by omega) hpm hpf hlx
            · obtain rfl : tr = 0 := by omega
              obtain rfl : tkn = 0 := by omega
              have hmu1 : mu = 1 := by have : pw (kindsI b) 0 = 1 := rfl; omega
              rw [hmu1] at hlx
              rw [reps_one E hlx] at hway
              have hlg : lgV N E m l.length = v := by unfold lgV; rw [← hway]; exact capI_small hvM
              have hlc : longC b (((0 : Nat) : Int) + 1) N E k (l.length : Int) = 0 := by
                unfold longC
                rw [if_pos hA, if_pos ⟨by omega, by omega⟩, hm, Int.toNat_natCast, hlg, if_pos hvM]
              refine ⟨hlc, ?_⟩
              unfold longV
              rw [if_pos hlc, hm, Int.toNat_natCast, hlg]
          · cases hE
        · rename_i hw
          exact absurd hE hw
      · rename_i hr
        exact absurd hE hr
    · cases hC
  · rename_i hA
    exact absurd hC hA
end Go.Proofs.Ytlgjadnkokmjoaa

/- The walk of the law CountReps. -/
namespace Go.Proofs.Ytlgjadnkokmjoaa
open Go.RowKit

theorem fill_len (W : Int → List Int) (K : Nat) : ∀ (l : List Int) (x : Nat), (fillW W K x l).length = l.length := by
  intro l
  induction l with
  | nil => intro x; rfl
  | cons a v ih => intro x; exact congrArg (· + 1) (ih _)
theorem fill_get (W : Int → List Int) (K : Nat) : ∀ (l : List Int) (x i : Nat), i < l.length → (fillW W K x l).getD i 0 = (W (l.getD i 0)).getD (x / K ^ i % K) 0 := by
  intro l
  induction l with
  | nil => intro x i h; cases h
  | cons a v ih =>
    intro x i h
    cases i with
    | zero => show (W a).getD (x % K) 0 = _; rw [Nat.pow_zero, Nat.div_one]; rfl
    | succ i =>
      show (fillW W K (x / K) v).getD i 0 = (W (v.getD i 0)).getD _ 0
      rw [ih (x / K) i (by simpa using h), Nat.div_div_eq_div_mul, Nat.pow_succ, Nat.mul_comm]
theorem fill_take (W : Int → List Int) (K : Nat) (l : List Int) (x i : Nat) (h : i < l.length) : (fillW W K x l).take (i + 1) = (fillW W K x l).take i ++ [(W (l.getD i 0)).getD (x / K ^ i % K) 0] := by
  have h2 : i < (fillW W K x l).length := by rw [fill_len]; exact h
  rw [List.take_succ_eq_append_getElem h2, ← fill_get W K l x i h, getD_at _ i h2]
/-- Between the operations that append a letter. -/
def JFl (wr wq : World) (r i : Nat) (z : Int) (xs : List Value) (D : Nat → Prop) (c : Nat × Nat × Nat × Nat × Nat × Nat) (W : World) : Prop :=
  (¬ D 10 → W = wr.drew) ∧ (D 10 → ¬ D 16 → Below wr.heap.size wr W ∧ W.cell? ⟨c.1, c.2.1 + r, none⟩ = some (.int .i64 z)) ∧
  (D 16 → ¬ D 17 → ∃ W2 : World, W = W2.alloc (.cells #[.int .i64 z] 3) ∧ c.2.2.2.1 = W2.heap.size ∧ Below wr.heap.size wr W2 ∧ W2.cell? ⟨c.1, c.2.1 + r, none⟩ = some (.int .i64 z)) ∧
  (D 17 → W.ownsRow wq.heap.size 3 1 (.slice (some ⟨c.2.2.2.2.1, 0, none⟩) (i + 1) c.2.2.2.2.2) (i + 1) (xs ++ [.int .i64 z]) ∧ Below wq.heap.size wq W)
theorem jFl_below {wr wq W : World} {r i : Nat} {z : Int} {xs : List Value} {D : Nat → Prop} {c : Nat × Nat × Nat × Nat × Nat × Nat} (h : JFl wr wq r i z xs D c W) (h17 : ¬ D 17) : Below wr.heap.size wr W := by
  obtain ⟨j1, j2, j3, -⟩ := h
  by_cases h4 : D 10
  · by_cases h5 : D 16
    · obtain ⟨W2, rfl, -, hb, -⟩ := j3 h5 h17
      exact hb.alloc hb.size _
    · exact (j2 h4 h5).1
  · rw [j1 h4]; exact (Below.refl _ _).drew
theorem jFl_cell {wr wq W : World} {r i : Nat} {z : Int} {xs : List Value} {D : Nat → Prop} {c : Nat × Nat × Nat × Nat × Nat × Nat} (h : JFl wr wq r i z xs D c W) (h10 : D 10) (h17 : ¬ D 17) : W.cell? ⟨c.1, c.2.1 + r, none⟩ = some (.int .i64 z) := by
  obtain ⟨-, j2, j3, -⟩ := h
  by_cases h5 : D 16
  · obtain ⟨W2, rfl, -, -, hc⟩ := j3 h5 h17
    exact (((Below.refl W2.heap.size W2).alloc (Nat.le_refl _) _).cell (World.block_lt_of_cell? W2 _ hc)).trans hc
  · exact (j2 h10 h5).2
theorem jFl_iff {wr wq : World} {r i : Nat} {z : Int} {xs : List Value} (D D' : Nat → Prop) (c : Nat × Nat × Nat × Nat × Nat × Nat) (W : World) (e4 : D 10 ↔ D' 10) (e5 : D 16 ↔ D' 16) (e6 : D 17 ↔ D' 17) (h : JFl wr wq r i z xs D c W) : JFl wr wq r i z xs D' c W := by
  unfold JFl at h ⊢
  rw [← e4, ← e5, ← e6]
  exact h
def JBh (wr : World) (D : Nat → Prop) (_ : Unit) (W : World) : Prop := (¬ D 4 → W = wr.drew) ∧ (D 4 → Below wr.heap.size wr W)
theorem jBh_below {wr W : World} {D : Nat → Prop} {c : Unit} (h : JBh wr D c W) : Below wr.heap.size wr W := by
  by_cases h4 : D 4
  · exact h.2 h4
  · rw [h.1 h4]; exact (Below.refl _ _).drew
theorem jBh_iff {wr : World} (D D' : Nat → Prop) (c : Unit) (W : World) (e4 : D 4 ↔ D' 4) (h : JBh wr D c W) : JBh wr D' c W := by
  unfold JBh at h ⊢
  rw [← e4]
  exact h
theorem thr_rep : repRC 2 1 thrN 3 0 = 0 ∧ evlC 2 0 (fst0L 3) (repS 2 0 0 2 1 thrN) (lastL thrE 3) [0, 0, 0, 0] = 0 ∧ evlV 2 0 (fst0L 3) (repS 2 0 0 2 1 thrN) (lastL thrE 3) [0, 0, 0, 0] = 6 := by decide +kernel
def cfS (i : Nat) : Nat := ([90, 91, 92, 93, 94, 95, 96, 97, 98, 99, 100, 101, 102, 103, 104, 105, 106, 107] : List Nat).getD i 0
theorem cfS_inj : ∀ i : Fin 18, ∀ j : Fin 18, cfS i.val = cfS j.val → i = j := by decide +kernel
theorem cfS_lt : ∀ i : Fin 18, cfS i.val < 140 := by decide +kernel
def cbS (i : Nat) : Nat := ([111, 112, 113, 114, 115, 116] : List Nat).getD i 0
theorem cbS_inj : ∀ i : Fin 6, ∀ j : Fin 6, cbS i.val = cbS j.val → i = j := by decide +kernel
theorem cbS_lt : ∀ i : Fin 6, cbS i.val < 140 := by decide +kernel
set_option maxHeartbeats 32000000 in
set_option maxRecDepth 8000 in
theorem countreps_any (b t : Int) (a : Option Addr) (n cap : Nat) (a' : Option Addr) (k cap' : Nat) (N : List (List Int)) (E : List Bool) (tk : Int) (aw : Option Addr) (lw cw : Nat) (l : List Int) (w : World) (hs : Sl2 w a n N) (he : SlB w a' k E) (hl : Sl w aw lw l) :
    Calls Try.prog 3 #[.agg #[.int .i64 b, .int .i64 t, .slice a n cap, .slice a' k cap'], .int .i64 tk, .slice aw lw cw] w fun e w' => e = .returned (.bool true) ∧ Below w.heap.size w w' := by
  obtain ⟨i0, hi0, hz0, hz1, hz2i⟩ := info_parts info3
  have hB0 : Below w.heap.size w (w.alloc (.cells #[.int .i64 b, .int .i64 t, .slice a n cap, .slice a' k cap'] 25)) := (Below.refl _ _).alloc (Nat.le_refl _) _
  have HB0 := hide hB0
  have HAT := hide (fun w' => @box4 w w' (.int .i64 b) (.int .i64 t) (.slice a n cap) (.slice a' k cap') 25)
  have HR1 := hide (rep_any b t a n cap a' k cap' N E tk _ (sl2_below hs hB0) (slB_below he hB0))
  have HRT : Hid (∀ (W : World) (a c a' c'), Sl2 W a 3 thrN → SlB W a' 3 thrE → Calls Try.prog 4 #[.agg #[.int .i64 2, .int .i64 1, .slice a 3 c, .slice a' 3 c'], .int .i64 0] W (RepNew W 2 0 (fst0L 3) (repS 2 0 0 2 1 thrN) (lastL thrE 3))) := fun W a c a' c' h1 h2 => by
    have h := rep_any 2 1 a 3 c a' 3 c' thrN thrE 0 W h1 h2
    rw [thr_rep.1] at h
    exact h.mono fun e w' h => h.1 rfl
  have HS := hide hs
  have HE := hide he
  have HL := hide hl
  have hll := hl.1
  have hlm := hl.2.1
  unfold maxLen at hlm
  have HTH := hide (fun W => threes_any W)
  unfold ThrU at HTH
  unfold RepNew at HRT
  clear hs he hl hB0
  generalize hF1 : fst0L 3 = F1 at HRT
  generalize hS1 : repS 2 0 0 2 1 thrN = S1 at HRT
  generalize hL1 : lastL thrE 3 = L1 at HRT
  have HEV1 : Hid (∀ (W : World) (a1 a2 a3 a4 : Option Addr) (c1 c2 c3 : Nat), Sl W a1 F1.length F1 → Sl3 W a2 S1.length S1 → Sl W a3 L1.length L1 → Sl W a4 4 [0, 0, 0, 0] → Calls Try.prog 6 #[.agg #[.int .i64 2, .int .i64 0, .slice a1 F1.length c1, .slice a2 S1.length c2, .slice a3 L1.length c3], .slice a4 4 4] W fun e w' => e = .returned (.tuple #[.int .i64 6, .nilIface]) ∧ Below W.heap.size W w') := fun W a1 a2 a3 a4 c1 c2 c3 g1 g2 g3 g4 => by
    have h := eval_any 2 0 a1 _ c1 a2 _ c2 a3 _ c3 F1 S1 L1 a4 4 4 [0, 0, 0, 0] W g1 g2 g3 g4
    subst hF1 hS1 hL1
    unfold EvlR at h
    rw [thr_rep.2.1, thr_rep.2.2, errV_zero] at h
    exact h
  clear hF1 hS1 hL1
  generalize hwb : w.alloc (.cells #[.int .i64 b, .int .i64 t, .slice a n cap, .slice a' k cap'] 25) = wb at HB0 HAT HR1
  obtain ⟨p0, p1, p2, p3⟩ := HAT.out wb (Below.refl _ _)
  go_enter Try.func3, Try.ntmps3
  go_wp2_with fail
  clear hwb p0 p1 p2 p3
  refine HR1.out.mono ?_
  rintro e w1 ⟨hok, hno⟩
  by_cases hC : repRC b t N k tk = 0
  · obtain ⟨aF, cF, aS, cS, aL, cL, rfl, ⟨hs1, hs2, hs3⟩, hb1⟩ := hok hC
    have HB1 := hide hb1
    have HX := hide (fun w' => @box5R w1 w' (.int .i64 b) (.int .i64 (t - 1)) (.slice aF (fst0L n).length cF) (.slice aS (repS b (t.toNat - 1) tk.toNat (manyU b t).toNat (manyU b (t - 1)).toNat N).length cS) (.slice aL (lastL E n).length cL) 29)
    have HC := hide hC
    have HS1 := hide hs1
    have HS2 := hide hs2
    have HS3 := hide hs3
    clear hok hno hs1 hs2 hs3 hb1 HR1 hC
    generalize hFv : fst0L n = F at HX HS1
    generalize hSv : repS b (t.toNat - 1) tk.toNat (manyU b t).toNat (manyU b (t - 1)).toNat N = S at HX HS2
    generalize hLv : lastL E n = L at HX HS3
    have HEQ : Hid (fst0L n = F ∧ repS b (t.toNat - 1) tk.toNat (manyU b t).toNat (manyU b (t - 1)).toNat N = S ∧ lastL E n = L) := ⟨hFv, hSv, hLv⟩
    clear hFv hSv hLv
    have hba : Below w1.heap.size w1 (w1.alloc (.cells #[.int .i64 b, .int .i64 (t - 1), .slice aF F.length cF, .slice aS S.length cS, .slice aL L.length cL] 29)) := (Below.refl _ _).alloc (Nat.le_refl _) _
    have HBA := hide hba
    go_wp2_with fail
    generalize w1.alloc (.cells #[.int .i64 b, .int .i64 (t - 1), .slice aF F.length cF, .slice aS S.length cS, .slice aL L.length cL] 29) = w2 at hba HBA HX ⊢
    clear hba
    refine (HTH.out w2).mono ?_
    rintro e w3 ⟨a3, c3, a4, c4, rfl, ht1, ht2, hb3⟩
    have HB3 := hide hb3
    have HR3 := hide (HRT.out w3 a3 c3 a4 c4 ht1 ht2)
    clear ht1 ht2 hb3 HTH HRT
    go_wp2_with fail
    refine HR3.out.mono ?_
    rintro e w4 ⟨aF1, cF1, aS1, cS1, aL1, cL1, rfl, ⟨hu1, hu2, hu3⟩, hb4⟩
    have hb4' : Below w4.heap.size w4 ((w4.alloc (.cells #[.int .i64 2, .int .i64 0, .slice aF1 F1.length cF1, .slice aS1 S1.length cS1, .slice aL1 L1.length cL1] 29)).alloc (.cells #[.int .i64 0, .int .i64 0, .int .i64 0, .int .i64 0] 3)) := below_two _ _ _
    have hz4 : Sl ((w4.alloc (.cells #[.int .i64 2, .int .i64 0, .slice aF1 F1.length cF1, .slice aS1 S1.length cS1, .slice aL1 L1.length cL1] 29)).alloc (.cells #[.int .i64 0, .int .i64 0, .int .i64 0, .int .i64 0] 3)) (some ⟨w4.heap.size + 1, 0, none⟩) 4 [0, 0, 0, 0] := by
      refine ⟨rfl, by decide, by decide, Or.inr ⟨_, 0, rfl, fun i hi => ?_⟩⟩
      have h9 := heap_alloc2_snd w4 (.cells #[.int .i64 2, .int .i64 0, .slice aF1 F1.length cF1, .slice aS1 S1.length cS1, .slice aL1 L1.length cL1] 29) (.cells #[.int .i64 0, .int .i64 0, .int .i64 0, .int .i64 0] 3)
      rw [cell_of_row _ _ (0 + i) _ 3 (0, 0) h9]
      rcases (by omega : i = 0 ∨ i = 1 ∨ i = 2 ∨ i = 3) with rfl | rfl | rfl | rfl <;> rfl
    have HV4 := hide (HEV1.out _ aF1 aS1 aL1 (some ⟨w4.heap.size + 1, 0, none⟩) cF1 cS1 cL1 (sl_below hu1 hb4') (sl3_below hu2 hb4') (sl_below hu3 hb4') hz4)
    have HB4 := hide (below_step HB3.out (below_step hb4 hb4'))
    clear hu1 hu2 hu3 hb4 hb4' hz4 HEV1 HR3
    go_wp2_with fail
    refine HV4.out.mono ?_
    rintro e w5 ⟨rfl, hb5⟩
    have HB5 := hide (below_step HB4.out hb5)
    have HBT := hide (below_step HB1.out (below_step HBA.out HB5.out))
    obtain ⟨q0, q1, q2, q3, q4⟩ := HX.out w5 HB5.out
    have hb15 := below_step HBA.out HB5.out
    have HEV := hide (eval_any b (t - 1) aF _ cF aS _ cS aL _ cL F S L aw lw cw l w5 (sl_below HS1.out hb15) (sl3_below HS2.out hb15) (sl_below HS3.out hb15) (sl_below HL.out (below_step HB0.out HBT.out)))
    unfold EvlR at HEV
    clear hb5 HV4 HB4 hb15 HB3
    have HMT : Hid (evlC b (t - 1) F S L l = 0 → ∃ tr tkn m, RepsOk b t tk N E n k l (evlV b (t - 1) F S L l) tr tkn m) := fun h => by
      obtain ⟨f1, f2, f3⟩ := HEQ.out
      rw [← f1, ← f2, ← f3] at h ⊢
      exact reps_math HS.out.1 HC.out h
    clear HEQ HC
    go_wp2_with fail
    clear q0 q1 q2 q3 q4
    refine HEV.out.mono ?_
    rintro e w6 ⟨rfl, hb6⟩
    have HB6 := hide (below_step HBT.out hb6)
    have HB6w := hide (below_step HB0.out HB6.out)
    clear hb6 HEV HB5
    generalize evlV b (t - 1) F S L l = v at HMT ⊢
    generalize evlC b (t - 1) F S L l = c at HMT ⊢
    by_cases hc : c = 0
    · subst hc
      obtain ⟨tr, tkn, m, hR⟩ := HMT.out rfl
      rw [errV_zero]
      by_cases h5 : 5 < lw
      · have h5i : (5 : Int) < (lw : Int) := by omega
        go_wp2
        go_ret
        exact ⟨rfl, HB6w.out⟩
      · have h5i : ¬ (5 : Int) < (lw : Int) := by omega
        obtain ⟨ht, htk, hle, h4, ⟨hb1, hb2⟩, hG, hkn, hn80, hlx, hv, hsum, hfil, hone⟩ := hR
        have HONE := hide hone
        subst ht htk hkn
        have hkb := kinds_bd2 b hb2
        obtain ⟨K, hKe⟩ : ∃ K : Nat, kindsI b = (K : Int) := ⟨(kindsI b).toNat, by omega⟩
        have hK0 : 2 ≤ K ∧ K ≤ 6 := by omega
        have HRX := hide (fun W => radix_yes b W hb1 hb2)
        rw [hKe] at HRX
        rw [hKe, Int.toNat_natCast] at hsum
        rw [hKe] at hfil
        simp only [Int.toNat_natCast] at hfil
        rw [hll] at hsum
        have HFB : Hid (∀ x, fillW (withL b tr tkn) K x l = fillW (withL b tr tkn) K x l ∧ (fillW (withL b tr tkn) K x l).length = lw) := fun x => ⟨rfl, by rw [fill_len]; exact hll⟩
        have HTK := hide (fun x i (h : i < lw) => fill_take (withL b tr tkn) K l x i (by omega))
        have HWL : Hid (∀ (W : World) (y : Int), 0 ≤ y → y ≤ 100 → Calls Try.prog 8 #[.int .i64 b, .int .i64 ((tr : Int) + 1), .int .i64 (tkn : Int), .int .i64 y] W (GivesRow W (withL b tr tkn y))) := fun W y g1 g2 => withoutOf_any b tr tkn y W hb1 hb2 h4 hle g1 (by omega)
        have HWN : Hid (∀ y, (withL b tr tkn y).length = K) := fun y => by rw [withL_len, hKe, Int.toNat_natCast]
        have HFW : Hid (∀ x, ∀ y ∈ fillW (withL b tr tkn) K x l, 0 ≤ y ∧ y < (m : Int)) := hfil
        have HG := hide hG
        have HLX := hide hlx
        have hm36 := hG.2.2.2.1
        have HPW : Hid (∀ j, j ≤ lw → 1 ≤ K ^ j ∧ K ^ j ≤ 7776) := fun j hj => ⟨Nat.le_trans Nat.one_le_two_pow (Nat.pow_le_pow_left hK0.1 j), Nat.le_trans (Nat.pow_le_pow_left hK0.2 j) (Nat.le_trans (Nat.pow_le_pow_right (by omega) (show j ≤ 5 by omega)) (by decide))⟩
        have HBH : Hid (∀ (W : World) (av : Option Addr) (cv x : Nat), Below w.heap.size w W → Sl W av lw (fillW (withL b tr tkn) K x l) → Calls Try.prog 9 #[.agg #[.int .i64 b, .int .i64 ((tr : Int) + 1), .slice a k cap, .slice a' k cap'], .slice av lw cv] W fun e w' => e = .returned (.int .i64 (runL N (fillW (withL b tr tkn) K x l) : Nat)) ∧ Below W.heap.size W w') := fun W av cv x g1 g2 => behind_any b _ a a' k cap k cap' m N av lw cv _ W (sl2_below HS.out g1) g2 hG (by
          refine wordC_good (by rw [g2.1]; omega) (fun j hj => ?_)
          rw [getD_at _ j hj]
          exact hfil x _ (List.getElem_mem _))
        have HRL : Hid (∀ x, runL N (fillW (withL b tr tkn) K x l) < k) := fun x => by
          have h9 := runL_lt hG (fillW (withL b tr tkn) K x l) (fillW (withL b tr tkn) K x l).length (Nat.le_refl _) (fun j hj => by
            rw [getD_at _ j hj]
            exact hfil x _ (List.getElem_mem _))
          rwa [List.take_length] at h9
        clear hlx hfil hG hKe
        generalize hf : (fun x => fillW (withL b tr tkn) K x l) = fw at *
        have HFE : Hid (∀ x, fillW (withL b tr tkn) K x l = fw x) := fun x => by rw [← hf]
        clear hf
        have hsum2 : csum (fun x => if E.getD (runL N (fw x)) false = true then 1 else 0) (K ^ lw) = v := by rw [← hsum]; exact csum_congr fun x _ => by rw [HFE.out]
        simp only [HFE.out] at HFB HTK HFW HBH HRL
        clear hsum HFE
        obtain ⟨p0, p1, p2, p3⟩ := HAT.out w6 HB6.out
        go_wp2_with (go_at_call 7; refine (HRX.out _).mono ?_; rintro e w' ⟨rfl, hw⟩; rw [hw]; clear hw w')
        clear p0 p1 p2 p3 HRX
        go_loop [15, 16] (fun u i => ∃ j : Nat, j ≤ lw ∧ i = .int .i64 j ∧ u = .int .i64 ((K ^ j : Nat) : Int)) (fun _ i => lw - (intOf i).toNat)
        case atStart => exact ⟨0, by omega, rfl, rfl⟩
        case round =>
          obtain ⟨j, hj, rfl, rfl⟩ := hrel
          by_cases hjl : j < lw
          · have hjli : (j : Int) < (lw : Int) := by omega
            have hp := HPW.out (j + 1) hjl
            have hpe : ((K ^ j : Nat) : Int) * (K : Int) = ((K ^ (j + 1) : Nat) : Int) := by rw [Nat.pow_succ]; omega
            obtain ⟨z1, hz1⟩ : ∃ z1, K ^ (j + 1) = z1 := ⟨_, rfl⟩
            have HZ1 := hide hz1
            rw [hz1] at hpe hp
            generalize K ^ j = z at hpe ⊢
            clear hz1
            have hwm : IntKind.i64.wrap ((z : Int) * (K : Int)) = (z1 : Int) := by rw [hpe]; exact wrap_i64_id (by omega)
            go_wp2
            go_round
            case rel => exact ⟨j + 1, by omega, by go_num, by rw [HZ1.out]⟩
            case measure => simp [intOf]; omega
          · have hjli : ¬ (j : Int) < (lw : Int) := by omega
            obtain rfl : lw = j := by omega
            obtain ⟨M, hM⟩ : ∃ M, K ^ lw = M := ⟨_, rfl⟩
            have hMb := HPW.out lw (Nat.le_refl _)
            rw [hM] at hsum2 hMb ⊢
            have HGZ : Hid (csum (fun x => if E.getD (runL N (fw x)) false = true then 1 else 0) 0 = 0) := rfl
            have HGS : Hid (∀ x, csum (fun x => if E.getD (runL N (fw x)) false = true then 1 else 0) (x + 1) = csum (fun x => if E.getD (runL N (fw x)) false = true then 1 else 0) x + if E.getD (runL N (fw x)) false = true then 1 else 0) := fun x => rfl
            have HGB : Hid (∀ x, 0 ≤ csum (fun x => if E.getD (runL N (fw x)) false = true then 1 else 0) x ∧ csum (fun x => if E.getD (runL N (fw x)) false = true then 1 else 0) x ≤ x) := fun x => ⟨csum_nn fun i _ => by split <;> omega, csum_ones fun i _ => by split <;> omega⟩
            have HGM := hide hsum2
            generalize csum (fun x => if E.getD (runL N (fw x)) false = true then 1 else 0) = G at HGZ HGS HGB HGM
            have HB66 : Hid (Below w6.heap.size w6 w6) := Below.refl _ _
            have HKP : Hid (K ^ lw = M) := hM
            clear hsum2 hM
            go_wp2
            go_loopw [17, 18] (fun u xv wx => ∃ x : Nat, x ≤ M ∧ xv = .int .i64 x ∧ u = .int .i64 (G x) ∧ Below w6.heap.size w6 wx) (fun _ xv _ => M - (intOf xv).toNat)
            case atStart => exact ⟨0, by omega, rfl, by rw [HGZ.out], HB66.out⟩
            case round =>
              obtain ⟨x, hx, rfl, rfl, hbw⟩ := hrel
              have HBW := hide hbw
              clear hbw
              by_cases hxM : x < M
              · have hxMi : (x : Int) < (M : Int) := by omega
                have HTX := hide (fun i h => HTK.out x i h)
                have HFX := hide (HFB.out x).2
                have HFY := hide (HFW.out x)
                have HBX := hide (fun W av cv h1 h2 => HBH.out W av cv x h1 h2)
                have HRX := hide (HRL.out x)
                have HGX := hide (HGS.out x)
                have hgb := HGB.out x
                generalize fw x = fx at HTX HFX HFY HBX HRX HGX
                generalize hrs : runL N fx = rs at HBX HRX HGX
                generalize G x = gx at HGX hgb ⊢
                clear hrs
                have HO0 : Hid (wr.ownsRow wr.heap.size 3 1 (.slice none 0 0) 0 ((fx.take 0).map (Value.int .i64))) := World.ownsRow_nil _ _ _ _
                have HRR : Hid (Below wr.heap.size wr wr) := Below.refl _ _
                go_wp2
                obtain ⟨wq, hwq⟩ : ∃ wq : World, wq = wr := ⟨_, rfl⟩
                have HO1 : Hid (wr.ownsRow wq.heap.size 3 1 (.slice none 0 0) 0 ((fx.take 0).map (Value.int .i64)) ∧ Below wq.heap.size wq wr) := by show _ ∧ _; rw [hwq]; exact ⟨HO0.out, HRR.out⟩
                rw [← hwq] at HBW
                clear hwq HO0 HRR
                go_loopw [19, 20, 21] (fun u19 u20 u21 wx => ∃ i : Nat, i ≤ lw ∧ u21 = .int .i64 i ∧ u20 = .int .i64 ((x / K ^ i : Nat) : Int) ∧ wx.ownsRow wq.heap.size 3 1 u19 i ((fx.take i).map (Value.int .i64)) ∧ Below wq.heap.size wq wx) (fun _ _ u21 _ => lw - (intOf u21).toNat)
                case atStart => exact ⟨0, by omega, rfl, by rw [Nat.pow_zero, Nat.div_one], HO1.out.1, HO1.out.2⟩
                case round =>
                  obtain ⟨ii, hi, rfl, rfl, hown, hbq⟩ := hrel
                  have HOWN := hide hown
                  have HBQ := hide hbq
                  clear hown hbq
                  by_cases hil : ii < lw
                  · have hili : (ii : Int) < (lw : Int) := by omega
                    obtain ⟨bw, ow, rfl, hcw⟩ := sl_cell (sl_below HL.out (below_step HB6w.out (below_step HBW.out HBQ.out))) ii hil
                    have hlb := HLX.out (l.getD ii 0) (by rw [getD_at _ ii (by omega)]; exact List.getElem_mem _)
                    have HTI := hide (HTX.out ii hil)
                    have HWY := hide (fun W => HWL.out W (l.getD ii 0) hlb.1 (by omega))
                    unfold GivesRow at HWY
                    rw [HWN.out] at HWY
                    have hwl := HWN.out (l.getD ii 0)
                    have hyb : x / K ^ ii ≤ x := Nat.div_le_self _ _
                    have hdv : x / K ^ ii / K = x / K ^ (ii + 1) := by rw [Nat.div_div_eq_div_mul, Nat.pow_succ]
                    have hrK : x / K ^ ii % K < K := Nat.mod_lt _ (by omega)
                    have HWC : Hid (∀ W, Calls Try.prog 8 #[.int .i64 b, .int .i64 ((tr : Int) + 1), .int .i64 (tkn : Int), .int .i64 (l.getD ii 0)] W fun e w' => ∃ b1 o1 cd, e = .returned (.slice (some ⟨b1, o1, none⟩) K cd) ∧ w'.cell? ⟨b1, o1 + x / K ^ ii % K, none⟩ = some (.int .i64 ((withL b tr tkn (l.getD ii 0)).getD (x / K ^ ii % K) 0)) ∧ Below W.heap.size W w') := fun W => (HWY.out W).mono fun e w' ⟨ad, cd, h1, h2, h3⟩ => by
                      obtain ⟨b1, o1, rfl, hc⟩ := sl_cell h2.1 (x / K ^ ii % K) hrK
                      exact ⟨b1, o1, cd, h1, hc, h3⟩
                    have HCW : Hid (∀ W, Below wr.heap.size wr W → W.cell? ⟨bw, ow + ii, none⟩ = some (.int .i64 (l.getD ii 0))) := fun W h => (h.cell (p := ⟨bw, ow + ii, none⟩) (World.block_lt_of_cell? wr _ hcw)).trans hcw
                    generalize (withL b tr tkn (l.getD ii 0)).getD (x / K ^ ii % K) 0 = z at HTI HWC
                    generalize l.getD ii 0 = li at HWC HCW
                    obtain ⟨y, hy⟩ : ∃ y, x / K ^ ii = y := ⟨_, rfl⟩
                    obtain ⟨y2, hy2⟩ : ∃ y2, x / K ^ (ii + 1) = y2 := ⟨_, rfl⟩
                    have HY2 := hide hy2
                    rw [hy, hy2] at hdv
                    rw [hy] at HWC hyb hrK ⊢
                    obtain ⟨r, hr⟩ : ∃ r, y % K = r := ⟨_, rfl⟩
                    rw [hr] at HWC hrK
                    have hri : (r : Int) < (K : Int) := by omega
                    have hK00 : ((K : Int) == 0) = false := by simp; omega
                    have hK01 : ¬ ((K : Int) = 0) := by omega
                    have hK02 : ¬ (K = 0) := by omega
                    have hqm : (y : Int).tmod (K : Int) = (r : Int) := by rw [Int.tmod_eq_emod_of_nonneg (by omega), ← hr]; exact (Int.natCast_emod y K).symm
                    have hqm2 : (y : Int) % (K : Int) = (r : Int) := by rw [← hr]; exact (Int.natCast_emod y K).symm
                    have hqd : (y : Int).tdiv (K : Int) = (y2 : Int) := by rw [Int.tdiv_eq_ediv_of_nonneg (by omega), ← hdv]; exact (Int.natCast_ediv y K).symm
                    have hqd2 : (y : Int) / (K : Int) = (y2 : Int) := by rw [← hdv]; exact (Int.natCast_ediv y K).symm
                    have hy2b : y2 ≤ 7776 := by rw [← hdv]; exact Nat.le_trans (Nat.div_le_self _ _) (by omega)
                    have hwr0 : IntKind.i64.wrap (r : Int) = (r : Int) := wrap_i64_id (by omega)
                    have hwr1 : IntKind.i64.wrap (y2 : Int) = (y2 : Int) := wrap_i64_id (by omega)
                    have HCB : Hid (∀ W, Below wr.heap.size wr W → W.cell? ⟨w.heap.size, 0, none⟩ = some (.int .i64 b) ∧ W.cell? ⟨w.heap.size, 1, none⟩ = some (.int .i64 ((tr : Int) + 1))) := fun W h => by
                      obtain ⟨g0, g1, -, -⟩ := HAT.out W (below_step HB6.out (below_step HBW.out (below_step HBQ.out h)))
                      exact ⟨g0, g1⟩
                    clear hy hy2 hr hdv hcw hwl HWY
                    go_upto_region 26 with fail
                    refine region_turns (C := Nat × Nat × Nat × Nat × Nat × Nat) (by kernel_rfl) (rvOn_spec (by decide +kernel)) 18 rfl (fun k => k == 10 || k == 16 || k == 17) rfl cfS (fun c i => ([u19, .pointer (some ⟨w.heap.size, 0, none⟩), .int .i64 b, .pointer (some ⟨w.heap.size, 1, none⟩), .int .i64 ((tr : Int) + 1), .int .i64 (tkn : Int), .slice (some ⟨bw, ow, none⟩) lw cw, .int .i64 (ii : Int), .pointer (some ⟨bw, ow + ii, none⟩), .int .i64 (li), .slice (some ⟨c.1, c.2.1, none⟩) K c.2.2.1, .int .i64 (y : Int), .int .i64 (K : Int), .int .i64 (r : Int), .pointer (some ⟨c.1, c.2.1 + r, none⟩), .int .i64 (z), .slice (some ⟨c.2.2.2.1, 0, none⟩) 1 1, .slice (some ⟨c.2.2.2.2.1, 0, none⟩) (ii + 1) c.2.2.2.2.2] : List Value).getD i undef) (fun i j hi hj e => by have := cfS_inj ⟨i, hi⟩ ⟨j, hj⟩ e; injection this) (fun i hi => cfS_lt ⟨i, hi⟩) (by decide +kernel) (JFl wr wq r ii z ((fx.take ii).map (Value.int .i64))) (fun D D' c W h => jFl_iff D D' c W (h 10 rfl (by decide)) (h 16 rfl (by decide)) (h 17 rfl (by decide))) (0, 0, 0, 0, 0, 0) (⟨fun _ => rfl, fun h => h.elim, fun h => h.elim, fun h => h.elim⟩) ?_ ?_ ?_
                    · intro T W i o D c hi hti ho hsz hdep hst hni hcl hup hJ
                      have e1 : T[1]? = some (.int .i64 (tkn : Int)) := hst 1 (by decide +kernel)
                      have e2 : T[2]? = some (.slice (some ⟨bw, ow, none⟩) lw cw) := hst 2 (by decide +kernel)
                      have e3 : T[3]? = some (.pointer (some ⟨w.heap.size, 0, none⟩)) := hst 3 (by decide +kernel)
                      have e14 : T[14]? = some (.int .i64 (K : Int)) := hst 14 (by decide +kernel)
                      have e19 : T[19]? = some (u19) := hst 19 (by decide +kernel)
                      have e20 : T[20]? = some (.int .i64 (y : Int)) := hst 20 (by decide +kernel)
                      have e21 : T[21]? = some (.int .i64 (ii : Int)) := hst 21 (by decide +kernel)
                      rcases (by omega : i = 0 ∨ i = 1 ∨ i = 2 ∨ i = 3 ∨ i = 4 ∨ i = 5 ∨ i = 6 ∨ i = 7 ∨ i = 8 ∨ i = 9 ∨ i = 10 ∨ i = 11 ∨ i = 12 ∨ i = 13 ∨ i = 14 ∨ i = 15 ∨ i = 16 ∨ i = 17) with rfl | rfl | rfl | rfl | rfl | rfl | rfl | rfl | rfl | rfl | rfl | rfl | rfl | rfl | rfl | rfl | rfl | rfl
                      · injection ho with ho
                        subst ho
                        clear hdep hsz hst hni hcl hup hJ hti
                        refine wpOp_step (o := _) rfl fun K2 hK => ?_
                        rw [if_pos (by rfl)]
                        have HK := hide hK
                        clear hK
                        go_simp
                        exact HK.out _ _ ⟨rfl, rfl⟩
                      · injection ho with ho
                        subst ho
                        clear hdep hsz hst hni hcl hup hJ hti
                        refine wpOp_step (o := _) rfl fun K2 hK => ?_
                        rw [if_pos (by rfl)]
                        have HK := hide hK
                        clear hK
                        go_simp
                        exact HK.out _ _ ⟨rfl, rfl⟩
                      · injection ho with ho
                        subst ho
                        have d1 : T[91]? = some (.pointer (some ⟨w.heap.size, 0, none⟩)) := hdep { on := 1, ground := .data } (by simp) rfl
                        have hb := jFl_below hJ (fun h6 => hni (hcl 17 2 h6 (by decide +kernel)))
                        obtain ⟨p0, p1⟩ := HCB.out W hb
                        clear hb
                        clear hdep hsz hst hni hcl hup hJ hti
                        refine wpOp_step (o := _) rfl fun K2 hK => ?_
                        rw [if_pos (by rfl)]
                        have HK := hide hK
                        clear hK
                        go_simp
                        exact HK.out _ _ ⟨rfl, rfl⟩
                      · injection ho with ho
                        subst ho
                        clear hdep hsz hst hni hcl hup hJ hti
                        refine wpOp_step (o := _) rfl fun K2 hK => ?_
                        rw [if_pos (by rfl)]
                        have HK := hide hK
                        clear hK
                        go_simp
                        exact HK.out _ _ ⟨rfl, rfl⟩
                      · injection ho with ho
                        subst ho
                        have d3 : T[93]? = some (.pointer (some ⟨w.heap.size, 1, none⟩)) := hdep { on := 3, ground := .data } (by simp) rfl
                        have hb := jFl_below hJ (fun h6 => hni (hcl 17 4 h6 (by decide +kernel)))
                        obtain ⟨p0, p1⟩ := HCB.out W hb
                        clear hb
                        clear hdep hsz hst hni hcl hup hJ hti
                        refine wpOp_step (o := _) rfl fun K2 hK => ?_
                        rw [if_pos (by rfl)]
                        have HK := hide hK
                        clear hK
                        go_simp
                        exact HK.out _ _ ⟨rfl, rfl⟩
                      · injection ho with ho
                        subst ho
                        clear hdep hsz hst hni hcl hup hJ hti
                        refine wpOp_step (o := _) rfl fun K2 hK => ?_
                        rw [if_pos (by rfl)]
                        have HK := hide hK
                        clear hK
                        go_simp
                        exact HK.out _ _ ⟨rfl, rfl⟩
                      · injection ho with ho
                        subst ho
                        clear hdep hsz hst hni hcl hup hJ hti
                        refine wpOp_step (o := _) rfl fun K2 hK => ?_
                        rw [if_pos (by rfl)]
                        have HK := hide hK
                        clear hK
                        go_simp
                        exact HK.out _ _ ⟨rfl, rfl⟩
                      · injection ho with ho
                        subst ho
                        clear hdep hsz hst hni hcl hup hJ hti
                        refine wpOp_step (o := _) rfl fun K2 hK => ?_
                        rw [if_pos (by rfl)]
                        have HK := hide hK
                        clear hK
                        go_simp
                        exact HK.out _ _ ⟨rfl, rfl⟩
                      · injection ho with ho
                        subst ho
                        have d6 : T[96]? = some (.slice (some ⟨bw, ow, none⟩) lw cw) := hdep { on := 6, ground := .data } (by simp) rfl
                        have d7 : T[97]? = some (.int .i64 (ii : Int)) := hdep { on := 7, ground := .data } (by simp) rfl
                        clear hdep hsz hst hni hcl hup hJ hti
                        refine wpOp_step (o := _) rfl fun K2 hK => ?_
                        rw [if_pos (by rfl)]
                        have HK := hide hK
                        clear hK
                        go_simp
                        exact HK.out _ _ ⟨rfl, rfl⟩
                      · injection ho with ho
                        subst ho
                        have d8 : T[98]? = some (.pointer (some ⟨bw, ow + ii, none⟩)) := hdep { on := 8, ground := .data } (by simp) rfl
                        have hb := jFl_below hJ (fun h6 => hni (hcl 17 9 h6 (by decide +kernel)))
                        have kw := HCW.out W hb
                        clear hb
                        clear hdep hsz hst hni hcl hup hJ hti
                        refine wpOp_step (o := _) rfl fun K2 hK => ?_
                        rw [if_pos (by rfl)]
                        have HK := hide hK
                        clear hK
                        go_simp
                        exact HK.out _ _ ⟨rfl, rfl⟩
                      · cases hti
                      · injection ho with ho
                        subst ho
                        clear hdep hsz hst hni hcl hup hJ hti
                        refine wpOp_step (o := _) rfl fun K2 hK => ?_
                        rw [if_pos (by rfl)]
                        have HK := hide hK
                        clear hK
                        go_simp
                        exact HK.out _ _ ⟨rfl, rfl⟩
                      · injection ho with ho
                        subst ho
                        clear hdep hsz hst hni hcl hup hJ hti
                        refine wpOp_step (o := _) rfl fun K2 hK => ?_
                        rw [if_pos (by rfl)]
                        have HK := hide hK
                        clear hK
                        go_simp
                        exact HK.out _ _ ⟨rfl, rfl⟩
                      · injection ho with ho
                        subst ho
                        have d11 : T[101]? = some (.int .i64 (y : Int)) := hdep { on := 11, ground := .data } (by simp) rfl
                        have d12 : T[102]? = some (.int .i64 (K : Int)) := hdep { on := 12, ground := .data } (by simp) rfl
                        clear hdep hsz hst hni hcl hup hJ hti
                        refine wpOp_step (o := _) rfl fun K2 hK => ?_
                        rw [if_pos (by rfl)]
                        have HK := hide hK
                        clear hK
                        go_simp
                        exact HK.out _ _ ⟨rfl, rfl⟩
                      · injection ho with ho
                        subst ho
                        have d10 : T[100]? = some (.slice (some ⟨c.1, c.2.1, none⟩) K c.2.2.1) := hdep { on := 10, ground := .data } (by simp) rfl
                        have d13 : T[103]? = some (.int .i64 (r : Int)) := hdep { on := 13, ground := .data } (by simp) rfl
                        clear hdep hsz hst hni hcl hup hJ hti
                        refine wpOp_step (o := _) rfl fun K2 hK => ?_
                        rw [if_pos (by rfl)]
                        have HK := hide hK
                        clear hK
                        go_simp
                        exact HK.out _ _ ⟨rfl, rfl⟩
                      · injection ho with ho
                        subst ho
                        have d14 : T[104]? = some (.pointer (some ⟨c.1, c.2.1 + r, none⟩)) := hdep { on := 14, ground := .data } (by simp) rfl
                        have kz := jFl_cell hJ (hup 10 (by decide +kernel)) (fun h6 => hni (hcl 17 15 h6 (by decide +kernel)))
                        clear hdep hsz hst hni hcl hup hJ hti
                        refine wpOp_step (o := _) rfl fun K2 hK => ?_
                        rw [if_pos (by rfl)]
                        have HK := hide hK
                        clear hK
                        go_simp
                        exact HK.out _ _ ⟨rfl, rfl⟩
                      · cases hti
                      · cases hti
                    · intro T W k o D c hk htk ho hsz hdep hst hup hni hcl hJ
                      have e1 : T[1]? = some (.int .i64 (tkn : Int)) := hst 1 (by decide +kernel)
                      have e2 : T[2]? = some (.slice (some ⟨bw, ow, none⟩) lw cw) := hst 2 (by decide +kernel)
                      have e3 : T[3]? = some (.pointer (some ⟨w.heap.size, 0, none⟩)) := hst 3 (by decide +kernel)
                      have e14 : T[14]? = some (.int .i64 (K : Int)) := hst 14 (by decide +kernel)
                      have e19 : T[19]? = some (u19) := hst 19 (by decide +kernel)
                      have e20 : T[20]? = some (.int .i64 (y : Int)) := hst 20 (by decide +kernel)
                      have e21 : T[21]? = some (.int .i64 (ii : Int)) := hst 21 (by decide +kernel)
                      rcases (by omega : k = 0 ∨ k = 1 ∨ k = 2 ∨ k = 3 ∨ k = 4 ∨ k = 5 ∨ k = 6 ∨ k = 7 ∨ k = 8 ∨ k = 9 ∨ k = 10 ∨ k = 11 ∨ k = 12 ∨ k = 13 ∨ k = 14 ∨ k = 15 ∨ k = 16 ∨ k = 17) with rfl | rfl | rfl | rfl | rfl | rfl | rfl | rfl | rfl | rfl | rfl | rfl | rfl | rfl | rfl | rfl | rfl | rfl
                      · cases htk
                      · cases htk
                      · cases htk
                      · cases htk
                      · cases htk
                      · cases htk
                      · cases htk
                      · cases htk
                      · cases htk
                      · cases htk
                      · injection ho with ho
                        subst ho
                        have d2 : T[92]? = some (.int .i64 b) := hdep { on := 2, ground := .data } (by simp) rfl
                        have d4 : T[94]? = some (.int .i64 ((tr : Int) + 1)) := hdep { on := 4, ground := .data } (by simp) rfl
                        have d5 : T[95]? = some (.int .i64 (tkn : Int)) := hdep { on := 5, ground := .data } (by simp) rfl
                        have d9 : T[99]? = some (.int .i64 (li)) := hdep { on := 9, ground := .data } (by simp) rfl
                        have HJ := hide hJ
                        have HUP := hide hup
                        have HNI := hide hni
                        have HCLO := hide hcl
                        clear hdep hsz hst hni hup hcl hJ htk
                        refine wpOp_step (o := _) rfl fun K2 hK => ?_
                        rw [if_pos (by rfl)]
                        have HK := hide hK
                        clear hK
                        go_simp
                        have hW : W = wr.drew := HJ.out.1 HNI.out
                        subst hW
                        refine (HWC.out wr.drew).mono ?_
                        rintro e w9 ⟨b1, o1, cd, rfl, hz9, hb9⟩
                        refine HK.out _ _ ⟨(b1, o1, cd, c.2.2.2), rfl, ⟨fun h => absurd (Or.inl rfl) h, fun _ _ => ⟨below_step (Below.refl wr.heap.size wr).drew hb9, hz9⟩, fun h => absurd (HCLO.out 16 10 (h.resolve_left (by decide)) (by decide +kernel)) HNI.out, fun h => absurd (HCLO.out 17 10 (h.resolve_left (by decide)) (by decide +kernel)) HNI.out⟩, ?_⟩
                        intro j hj hjk hr
                        rcases (by omega : j = 0 ∨ j = 1 ∨ j = 2 ∨ j = 3 ∨ j = 4 ∨ j = 5 ∨ j = 6 ∨ j = 7 ∨ j = 8 ∨ j = 9 ∨ j = 10 ∨ j = 11 ∨ j = 12 ∨ j = 13 ∨ j = 14 ∨ j = 15 ∨ j = 16 ∨ j = 17) with rfl | rfl | rfl | rfl | rfl | rfl | rfl | rfl | rfl | rfl | rfl | rfl | rfl | rfl | rfl | rfl | rfl | rfl
                        · rfl
                        · rfl
                        · rfl
                        · rfl
                        · rfl
                        · rfl
                        · rfl
                        · rfl
                        · rfl
                        · rfl
                        · exact absurd rfl hjk
                        · rfl
                        · rfl
                        · rfl
                        · exact absurd hr (by decide +kernel)
                        · rfl
                        · rfl
                        · rfl
                      · cases htk
                      · cases htk
                      · cases htk
                      · cases htk
                      · cases htk
                      · injection ho with ho
                        subst ho
                        have d15 : T[105]? = some (.int .i64 (z)) := hdep { on := 15, ground := .data } (by simp) rfl
                        have HJ := hide hJ
                        have HUP := hide hup
                        have HNI := hide hni
                        have HCLO := hide hcl
                        clear hdep hsz hst hni hup hcl hJ htk
                        refine wpOp_step (o := _) rfl fun K2 hK => ?_
                        rw [if_pos (by rfl)]
                        have HK := hide hK
                        clear hK
                        go_simp
                        have h4 := HUP.out 10 (by decide +kernel)
                        obtain ⟨hb4, hz4⟩ := HJ.out.2.1 h4 HNI.out
                        refine HK.out _ _ ⟨(c.1, c.2.1, c.2.2.1, W.heap.size, c.2.2.2.2), rfl, ⟨fun h => absurd (Or.inr h4) h, fun _ h => absurd (Or.inl rfl) h, fun _ _ => ⟨W, rfl, rfl, hb4, hz4⟩, fun h => absurd (HCLO.out 17 16 (h.resolve_left (by decide)) (by decide +kernel)) HNI.out⟩, ?_⟩
                        intro j hj hjk hr
                        rcases (by omega : j = 0 ∨ j = 1 ∨ j = 2 ∨ j = 3 ∨ j = 4 ∨ j = 5 ∨ j = 6 ∨ j = 7 ∨ j = 8 ∨ j = 9 ∨ j = 10 ∨ j = 11 ∨ j = 12 ∨ j = 13 ∨ j = 14 ∨ j = 15 ∨ j = 16 ∨ j = 17) with rfl | rfl | rfl | rfl | rfl | rfl | rfl | rfl | rfl | rfl | rfl | rfl | rfl | rfl | rfl | rfl | rfl | rfl
                        · rfl
                        · rfl
                        · rfl
                        · rfl
                        · rfl
                        · rfl
                        · rfl
                        · rfl
                        · rfl
                        · rfl
                        · rfl
                        · rfl
                        · rfl
                        · rfl
                        · rfl
                        · rfl
                        · exact absurd rfl hjk
                        · rfl
                      · injection ho with ho
                        subst ho
                        have d0 : T[90]? = some (u19) := hdep { on := 0, ground := .data } (by simp) rfl
                        have d16 : T[106]? = some (.slice (some ⟨c.2.2.2.1, 0, none⟩) 1 1) := hdep { on := 16, ground := .data } (by simp) rfl
                        have HJ := hide hJ
                        have HUP := hide hup
                        have HNI := hide hni
                        have HCLO := hide hcl
                        clear hdep hsz hst hni hup hcl hJ htk
                        refine wpOp_step (o := _) rfl fun K2 hK => ?_
                        rw [if_pos (by rfl)]
                        have HK := hide hK
                        clear hK
                        obtain ⟨W2, hW2, hc2, hb2, hz2⟩ := HJ.out.2.2.1 (HUP.out 16 (by decide +kernel)) HNI.out
                        subst hW2
                        have h4 := HUP.out 10 (by decide +kernel)
                        have h5 := HUP.out 16 (by decide +kernel)
                        have hs9 := HBQ.out.size
                        have hs8 := hb2.size
                        rw [hc2] at d16
                        have hown2 : W2.ownsRow wq.heap.size 3 1 u19 ii ((fx.take ii).map (Value.int .i64)) := ownsRow_of_block HOWN.out (fun y hy => hb2.block y (HOWN.out.lt y hy).2)
                        refine wp_append_lies _ (.tmp 90) (.tmp 106) 26 rfl wq.heap.size 3 i0 (.int .i64 0) 1 8 Try.underlying26 hi0 hz0 hz1 hz2i rfl (by decide) u19 ii ((fx.take ii).map (Value.int .i64)) (by show T.getD 90 undef = u19; simp [Array.getD_eq_getD_getElem?, d0]) (hown2.alloc _) ⟨W2.heap.size, 0, none⟩ 1 1 [.int .i64 z] (by show T.getD 106 undef = _; simp [Array.getD_eq_getD_getElem?, d16]) rfl (one_new _ _ _) (fun u hu => by simp at hu; subst hu; rfl) (by omega) (by unfold maxLen; omega) (by omega) (by simp; omega) (W2.heap.size + 1) (by simp) ?_
                        intro g9 cap9 w9 hown9 hgrow9 hat9 _
                        have hb9 : Below wq.heap.size wq w9 := Below.grown ((below_step HBQ.out hb2).alloc (by omega) _) hgrow9 (by rw [World.size_alloc]; omega) (fun y hy => (hown2.lt y hy).1)
                        refine HK.out _ _ ⟨(c.1, c.2.1, c.2.2.1, c.2.2.2.1, g9, cap9), rfl, ⟨fun h => absurd (Or.inr h4) h, fun _ h => absurd (Or.inr h5) h, fun _ h => absurd (Or.inl rfl) h, fun _ => ⟨hown9, hb9⟩⟩, ?_⟩
                        intro j hj hjk hr
                        rcases (by omega : j = 0 ∨ j = 1 ∨ j = 2 ∨ j = 3 ∨ j = 4 ∨ j = 5 ∨ j = 6 ∨ j = 7 ∨ j = 8 ∨ j = 9 ∨ j = 10 ∨ j = 11 ∨ j = 12 ∨ j = 13 ∨ j = 14 ∨ j = 15 ∨ j = 16 ∨ j = 17) with rfl | rfl | rfl | rfl | rfl | rfl | rfl | rfl | rfl | rfl | rfl | rfl | rfl | rfl | rfl | rfl | rfl | rfl
                        · rfl
                        · rfl
                        · rfl
                        · rfl
                        · rfl
                        · rfl
                        · rfl
                        · rfl
                        · rfl
                        · rfl
                        · rfl
                        · rfl
                        · rfl
                        · rfl
                        · rfl
                        · rfl
                        · rfl
                        · exact absurd rfl hjk
                    · intro T W o c ho hsz hval hst hJ
                      have e1 : T[1]? = some (.int .i64 (tkn : Int)) := hst 1 (by decide +kernel)
                      have e2 : T[2]? = some (.slice (some ⟨bw, ow, none⟩) lw cw) := hst 2 (by decide +kernel)
                      have e3 : T[3]? = some (.pointer (some ⟨w.heap.size, 0, none⟩)) := hst 3 (by decide +kernel)
                      have e14 : T[14]? = some (.int .i64 (K : Int)) := hst 14 (by decide +kernel)
                      have e19 : T[19]? = some (u19) := hst 19 (by decide +kernel)
                      have e20 : T[20]? = some (.int .i64 (y : Int)) := hst 20 (by decide +kernel)
                      have e21 : T[21]? = some (.int .i64 (ii : Int)) := hst 21 (by decide +kernel)
                      injection ho with ho
                      subst ho
                      have d17 : T[107]? = some (.slice (some ⟨c.2.2.2.2.1, 0, none⟩) (ii + 1) c.2.2.2.2.2) := hval 17 (by decide +kernel)
                      have HJ := hide hJ
                      have HST := hide hst
                      have HVA := hide hval
                      have HSZT := hide hsz
                      clear hval hst hJ hsz
                      refine wpOp_step (o := _) rfl fun K2 hK => ?_
                      rw [if_pos (by rfl)]
                      have HK := hide hK
                      clear hK
                      go_simp
                      refine HK.out _ _ ?_
                      have hT := rv_list (fun i hi => cfS_lt ⟨i, hi⟩) HSZT.out HVA.out HST.out [17, 16, 15, 14, 13, 12, 11, 10, 9, 8, 7, 6, 5, 4, 3, 2, 1, 0] rfl
                      simp only [rvSet, cfS, List.getD_cons_zero, List.getD_cons_succ, List.setIfInBounds_toArray, List.set_cons_zero, List.set_cons_succ] at hT
                      rw [hT]
                      clear hT HK HVA HST HSZT e1 e2 e3 e14 e19 e20 e21 d17
                      obtain ⟨hown9, hb9⟩ := HJ.out.2.2.2 trivial
                      have HOW9 : Hid (W.ownsRow wq.heap.size 3 1 (.slice (some ⟨c.2.2.2.2.1, 0, none⟩) (ii + 1) c.2.2.2.2.2) (ii + 1) ((fx.take (ii + 1)).map (Value.int .i64))) := by show World.ownsRow _ _ _ _ _ _ _; rw [HTI.out, List.map_append]; exact hown9
                      have HBQ9 := hide hb9
                      clear hown9 hb9 HJ
                      go_wp2
                      go_roundw
                      case rel => exact ⟨ii + 1, by omega, by go_num, by rw [HY2.out], HOW9.out, HBQ9.out⟩
                      case measure => simp [intOf]; omega
                  · have hili : ¬ (ii : Int) < (lw : Int) := by omega
                    obtain rfl : lw = ii := by omega
                    have hft : fx.take lw = fx := List.take_of_length_le (by rw [HFX.out]; exact Nat.le_refl _)
                    have hown := HOWN.out
                    rw [hft] at hown
                    obtain ⟨av, cv, rfl, hsv⟩ := sl_of_owns HFX.out (by unfold maxLen; omega) (fun y hy => WalkArith.wf_i64 (by have := HFY.out y hy; omega)) hown
                    have hbt := below_step HB6w.out (below_step HBW.out HBQ.out)
                    obtain ⟨be, oe, rfl, hce⟩ := slB_cell (slB_below HE.out hbt) rs HRX.out
                    have hrsi : (rs : Int) < (k : Int) := by have := HRX.out; omega
                    have HBC : Hid (∀ W, Below wr.heap.size wr W → Calls Try.prog 9 #[.agg #[.int .i64 b, .int .i64 ((tr : Int) + 1), .slice a k cap, .slice (some ⟨be, oe, none⟩) k cap'], .slice av lw cv] W fun e w' => e = .returned (.int .i64 (rs : Int)) ∧ Below W.heap.size W w') := fun W h => HBX.out W av cv (below_step hbt h) (sl_below hsv.1 h)
                    have HCE : Hid (∀ W, Below wr.heap.size wr W → W.cell? ⟨be, oe + rs, none⟩ = some (.bool (E.getD rs false))) := fun W h => (h.cell (p := ⟨be, oe + rs, none⟩) (World.block_lt_of_cell? wr _ hce)).trans hce
                    have HCB : Hid (∀ W, Below wr.heap.size wr W → W.cell? ⟨w.heap.size, 0, none⟩ = some (.int .i64 b) ∧ W.cell? ⟨w.heap.size, 1, none⟩ = some (.int .i64 ((tr : Int) + 1)) ∧ W.cell? ⟨w.heap.size, 2, none⟩ = some (.slice a k cap) ∧ W.cell? ⟨w.heap.size, 3, none⟩ = some (.slice (some ⟨be, oe, none⟩) k cap')) := fun W h => HAT.out W (below_step HB6.out (below_step HBW.out (below_step HBQ.out h)))
                    have HBE := hide (below_step HBW.out HBQ.out)
                    generalize E.getD rs false = eb at HCE HGX
                    clear hft hown hsv hbt hce
                    go_upto_region 28 with fail
                    refine region_turns (C := Unit) (by kernel_rfl) (rvOn_spec (by decide +kernel)) 6 rfl (fun k => k == 4) rfl cbS (fun c i => ([.pointer (some ⟨w.heap.size, 3, none⟩), .slice (some ⟨be, oe, none⟩) k cap', .agg #[.int .i64 b, .int .i64 ((tr : Int) + 1), .slice a k cap, .slice (some ⟨be, oe, none⟩) k cap'], .slice av lw cv, .int .i64 (rs : Int), .pointer (some ⟨be, oe + rs, none⟩)] : List Value).getD i undef) (fun i j hi hj e => by have := cbS_inj ⟨i, hi⟩ ⟨j, hj⟩ e; injection this) (fun i hi => cbS_lt ⟨i, hi⟩) (by decide +kernel) (JBh wr) (fun D D' c W h => jBh_iff D D' c W (h 4 rfl (by decide))) () (⟨fun _ => rfl, fun h => h.elim⟩) ?_ ?_ ?_
                    · intro T W i o D c hi hti ho hsz hdep hst hni hcl hup hJ
                      have e3 : T[3]? = some (.pointer (some ⟨w.heap.size, 0, none⟩)) := hst 3 (by decide +kernel)
                      have e19 : T[19]? = some (.slice av lw cv) := hst 19 (by decide +kernel)
                      rcases (by omega : i = 0 ∨ i = 1 ∨ i = 2 ∨ i = 3 ∨ i = 4 ∨ i = 5) with rfl | rfl | rfl | rfl | rfl | rfl
                      · injection ho with ho
                        subst ho
                        clear hdep hsz hst hni hcl hup hJ hti
                        refine wpOp_step (o := _) rfl fun K2 hK => ?_
                        rw [if_pos (by rfl)]
                        have HK := hide hK
                        clear hK
                        go_simp
                        exact HK.out _ _ ⟨rfl, rfl⟩
                      · injection ho with ho
                        subst ho
                        have d0 : T[111]? = some (.pointer (some ⟨w.heap.size, 3, none⟩)) := hdep { on := 0, ground := .data } (by simp) rfl
                        obtain ⟨p0, p1, p2, p3⟩ := HCB.out W (jBh_below hJ)
                        clear hdep hsz hst hni hcl hup hJ hti
                        refine wpOp_step (o := _) rfl fun K2 hK => ?_
                        rw [if_pos (by rfl)]
                        have HK := hide hK
                        clear hK
                        go_simp
                        exact HK.out _ _ ⟨rfl, rfl⟩
                      · injection ho with ho
                        subst ho
                        obtain ⟨p0, p1, p2, p3⟩ := HCB.out W (jBh_below hJ)
                        clear hdep hsz hst hni hcl hup hJ hti
                        refine wpOp_step (o := _) rfl fun K2 hK => ?_
                        rw [if_pos (by rfl)]
                        have HK := hide hK
                        clear hK
                        go_simp
                        exact HK.out _ _ ⟨rfl, rfl⟩
                      · injection ho with ho
                        subst ho
                        clear hdep hsz hst hni hcl hup hJ hti
                        refine wpOp_step (o := _) rfl fun K2 hK => ?_
                        rw [if_pos (by rfl)]
                        have HK := hide hK
                        clear hK
                        go_simp
                        exact HK.out _ _ ⟨rfl, rfl⟩
                      · cases hti
                      · injection ho with ho
                        subst ho
                        have d1 : T[112]? = some (.slice (some ⟨be, oe, none⟩) k cap') := hdep { on := 1, ground := .data } (by simp) rfl
                        have d4 : T[115]? = some (.int .i64 (rs : Int)) := hdep { on := 4, ground := .data } (by simp) rfl
                        clear hdep hsz hst hni hcl hup hJ hti
                        refine wpOp_step (o := _) rfl fun K2 hK => ?_
                        rw [if_pos (by rfl)]
                        have HK := hide hK
                        clear hK
                        go_simp
                        exact HK.out _ _ ⟨rfl, rfl⟩
                    · intro T W k o D c hk htk ho hsz hdep hst hup hni hcl hJ
                      have e3 : T[3]? = some (.pointer (some ⟨w.heap.size, 0, none⟩)) := hst 3 (by decide +kernel)
                      have e19 : T[19]? = some (.slice av lw cv) := hst 19 (by decide +kernel)
                      rcases (by omega : k = 0 ∨ k = 1 ∨ k = 2 ∨ k = 3 ∨ k = 4 ∨ k = 5) with rfl | rfl | rfl | rfl | rfl | rfl
                      · cases htk
                      · cases htk
                      · cases htk
                      · cases htk
                      · injection ho with ho
                        subst ho
                        have d2 : T[113]? = some (.agg #[.int .i64 b, .int .i64 ((tr : Int) + 1), .slice a k cap, .slice (some ⟨be, oe, none⟩) k cap']) := hdep { on := 2, ground := .data } (by simp) rfl
                        have d3 : T[114]? = some (.slice av lw cv) := hdep { on := 3, ground := .data } (by simp) rfl
                        have HJ := hide hJ
                        have HUP := hide hup
                        have HNI := hide hni
                        have HCLO := hide hcl
                        clear hdep hsz hst hni hup hcl hJ htk
                        refine wpOp_step (o := _) rfl fun K2 hK => ?_
                        rw [if_pos (by rfl)]
                        have HK := hide hK
                        clear hK
                        go_simp
                        refine (HBC.out W (jBh_below HJ.out)).mono ?_
                        rintro e w9 ⟨rfl, hb9⟩
                        exact HK.out _ _ ⟨(), rfl, ⟨fun h => absurd (Or.inl rfl) h, fun _ => below_step (jBh_below HJ.out) hb9⟩, fun j _ _ _ => rfl⟩
                      · cases htk
                    · intro T W o c ho hsz hval hst hJ
                      have e3 : T[3]? = some (.pointer (some ⟨w.heap.size, 0, none⟩)) := hst 3 (by decide +kernel)
                      have e19 : T[19]? = some (.slice av lw cv) := hst 19 (by decide +kernel)
                      have kb := HCE.out W (jBh_below hJ)
                      injection ho with ho
                      subst ho
                      have d5 : T[116]? = some (.pointer (some ⟨be, oe + rs, none⟩)) := hval 5 (by decide +kernel)
                      have HJ := hide hJ
                      have HST := hide hst
                      have HVA := hide hval
                      have HSZT := hide hsz
                      clear hval hst hJ hsz
                      refine wpOp_step (o := _) rfl fun K2 hK => ?_
                      rw [if_pos (by rfl)]
                      have HK := hide hK
                      clear hK
                      go_simp
                      refine HK.out _ _ ?_
                      have hT := rv_list (fun i hi => cbS_lt ⟨i, hi⟩) HSZT.out HVA.out HST.out [5, 4, 3, 2, 1, 0] rfl
                      simp only [rvSet, cbS, List.getD_cons_zero, List.getD_cons_succ, List.setIfInBounds_toArray, List.set_cons_zero, List.set_cons_succ] at hT
                      rw [hT]
                      clear hT HK HVA HST HSZT e3 e19 d5 kb
                      have HBF := hide (below_step HBE.out (jBh_below HJ.out))
                      clear HJ
                      cases eb with
                      | true =>
                        rw [if_pos rfl] at HGX
                        have hwg : IntKind.i64.wrap (gx + 1) = gx + 1 := wrap_i64_id (by omega)
                        go_wp2
                        go_roundw
                        case rel => exact ⟨x + 1, by omega, by go_num, by rw [HGX.out], HBF.out⟩
                        case measure => simp [intOf]; omega
                      | false =>
                        rw [if_neg (by decide), Int.add_zero] at HGX
                        go_wp2
                        go_roundw
                        case rel => exact ⟨x + 1, by omega, by go_num, by rw [HGX.out], HBF.out⟩
                        case measure => simp [intOf]; omega
              · have hxMi : ¬ (x : Int) < (M : Int) := by omega
                obtain rfl : M = x := by omega
                rw [HGM.out]
                obtain ⟨p0, p1, p2, p3⟩ := HAT.out wr (below_step HB6.out HBW.out)
                have hne : (v != v) = false := by simp
                have HBE := hide (below_step HB6w.out HBW.out)
                by_cases h1 : tr = 0
                · subst h1
                  obtain ⟨hlc, hlv⟩ := HONE.out rfl
                  rw [hll] at hlc hlv
                  have HLG := hide (long_any b (((0 : Nat) : Int) + 1) a k cap a' k cap' N E (lw : Int) wr (sl2_below HS.out HBE.out) (slB_below HE.out HBE.out))
                  unfold EvlR at HLG
                  rw [hlc, hlv, errV_zero] at HLG
                  have hvv : (v == v) = true := by simp
                  clear hlc hlv
                  go_wp2_with fail
                  refine HLG.out.mono ?_
                  rintro e w7 ⟨rfl, hb7⟩
                  have HB7 := hide (below_step HBE.out hb7)
                  clear hb7
                  go_wp2
                  go_ret
                  exact ⟨by simp, HB7.out⟩
                · have h1i : ((tr : Int) + 1 != 1) = true := by simp; omega
                  go_wp2
                  go_ret
                  exact ⟨rfl, HBE.out⟩
    · rw [errV_no hc]
      clear HMT
      go_wp2
      go_ret
      exact ⟨rfl, HB6w.out⟩
  · obtain ⟨rfl, hb1⟩ := hno hC
    have HB1 := hide (below_step HB0.out hb1)
    rw [errV_no hC]
    clear hok hno hb1 HR1
    go_wp2
    go_ret
    exact ⟨rfl, (HB1.out).alloc HB1.out.size _⟩
end Go.Proofs.Ytlgjadnkokmjoaa
