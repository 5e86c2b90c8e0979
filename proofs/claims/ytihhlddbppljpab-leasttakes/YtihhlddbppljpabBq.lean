/- Classes by marks, numbered as they come; the way back from a state to the beginning: mathematics. -/
import Derived.Test.YtihhlddbppljpabBf
import Derived.Test.YtihhlddbppljpabBn
import Derived.Test.YtihhlddbppljpabMp
namespace Go.Proofs.Ytihhlddbppljpab
open Go.RowKit

/-- Numbers that part the states that are met as k rounds do. -/
def LvAt (N : List (List Int)) (E : List Bool) (m n k : Nat) (C : List Int) : Prop := C.length = n ∧ ∀ s ∈ metL N, ∀ t ∈ metL N, (C.getD s.toNat 0 = C.getD t.toNat 0 ↔ simB N E m k s.toNat t.toNat = true)
theorem lvAt_of {m n : Nat} {N : List (List Int)} {E : List Bool} {k : Nat} {C : List Int} (h : CAt N E m n k C) : LvAt N E m n k C := ⟨h.1, fun _ hs _ ht => cAt_iff E h hs ht⟩
theorem lvAt_one {m n : Nat} {N : List (List Int)} {E : List Bool} {C : List Int} (hl : C.length = n) (h : ∀ s ∈ metL N, C.getD s.toNat 0 = if E.getD s.toNat false = true then 1 else 0) : LvAt N E m n 1 C := by
  refine ⟨hl, fun s hs t ht => ?_⟩
  rw [h s hs, h t ht, simB_succ]
  cases E.getD s.toNat false <;> cases E.getD t.toNat false <;> simp [simB]
theorem sim_ends {N : List (List Int)} {E : List Bool} {m k s t : Nat} (hk : 1 ≤ k) (h : simB N E m k s t = true) : E.getD s false = E.getD t false := by
  obtain ⟨j, rfl⟩ : ∃ j, k = j + 1 := ⟨k - 1, by omega⟩
  exact (simB_succ.1 h).1

/-- A state's mark: its number, and those of its nexts, and 0s behind. -/
def markF (N : List (List Int)) (C : List Int) (m s q : Nat) : Int := if q = 0 then C.getD s 0 else if q ≤ m then C.getD (nxt N s (q - 1)) 0 else 0
def markV (N : List (List Int)) (C : List Int) (m : Nat) (s : Int) : Value := .agg ((Array.range 37).map fun q => Value.int .i64 (markF N C m s.toNat q))
theorem agg_inj {n : Nat} {f g : Nat → Int} (h : (Value.agg ((Array.range n).map fun q => Value.int .i64 (f q))) = .agg ((Array.range n).map fun q => Value.int .i64 (g q))) (q : Nat) (hq : q < n) : f q = g q := by
  injection h with h
  have h1 : ((Array.range n).map fun q => Value.int .i64 (f q))[q]? = ((Array.range n).map fun q => Value.int .i64 (g q))[q]? := by rw [h]
  simpa [hq] using h1
theorem mark_iff {m n : Nat} {N : List (List Int)} (hG : GoodN m n N) {E : List Bool} {k : Nat} {C : List Int} (hk : 1 ≤ k) (hC : LvAt N E m n k C) {s t : Int} (hs : s ∈ metL N) (ht : t ∈ metL N) : markV N C m s = markV N C m t ↔ simB N E m (k + 1) s.toNat t.toNat = true := by
  have hm := hG.2.2.2.1
  rw [simB_succ, ← hC.2 s hs t ht]
  have hn : ∀ j, j < m → (C.getD (nxt N s.toNat j) 0 = C.getD (nxt N t.toNat j) 0 ↔ simB N E m k (nxt N s.toNat j) (nxt N t.toNat j) = true) := fun j hj => by
    have := hC.2 _ (met_nxt hG hs j hj).1 _ (met_nxt hG ht j hj).1
    rwa [Int.toNat_natCast, Int.toNat_natCast] at this
  constructor
  · intro h
    have h0 := agg_inj h 0 (by omega)
    simp only [markF, if_pos] at h0
    refine ⟨sim_ends hk ((hC.2 s hs t ht).1 h0), h0, fun j hj => (hn j hj).1 ?_⟩
    have h1 := agg_inj h (j + 1) (by omega)
    simp only [markF] at h1
    rw [if_neg (Nat.succ_ne_zero j), if_pos (show j + 1 ≤ m by omega), if_neg (Nat.succ_ne_zero j), if_pos (show j + 1 ≤ m by omega)] at h1
    simpa using h1
  · rintro ⟨_, h1, h2⟩
    unfold markV
    congr 2
    funext q
    simp only [markF]
    split
    · rw [h1]
    · split
      · rw [(hn (q - 1) (by omega)).2 (h2 _ (by omega))]
      · rfl

/-- The numbers of marks, as they come. -/
def numF (mv : Int → Value) (reps : List Int) : List (Value × Value) := (List.range reps.length).map fun i => (mv (reps.getD i 0), Value.int .i64 (i : Int))
theorem numF_len (mv : Int → Value) (reps : List Int) : (numF mv reps).length = reps.length := by simp [numF]
theorem numF_none {mv : Int → Value} {reps : List Int} {s : Int} (h : ∀ r ∈ reps, mv r ≠ mv s) : ¬ mv s ∈ (numF mv reps).map Prod.fst := by
  simp only [numF, List.map_map, List.mem_map, List.mem_range, Function.comp, not_exists, not_and]
  intro i hi
  exact h _ (by rw [getD_at _ i hi]; exact List.getElem_mem hi)
theorem numF_put (mv : Int → Value) (reps : List Int) (s : Int) : numF mv reps ++ [(mv s, .int .i64 (reps.length : Int))] = numF mv (reps ++ [s]) := by
  unfold numF
  rw [List.length_append, List.length_singleton, List.range_succ, List.map_append]
  congr 1
  · apply List.map_congr_left
    intro i hi
    rw [List.mem_range] at hi
    rw [pre_getD (List.prefix_append _ _) i hi]
  · simp [List.getD]
theorem numF_some {mv : Int → Value} {R : Nat → Nat → Bool} {reps : List Int} {s : Int} (h : ∀ r ∈ reps, (mv r = mv s ↔ R s.toNat r.toNat = true)) (hs : ∃ r ∈ reps, R s.toNat r.toNat = true) : (mv s, Value.int .i64 ((clsL R reps s : Nat) : Int)) ∈ numF mv reps := by
  have hl := cls_lt hs
  have hr := cls_R hl
  refine List.mem_map.2 ⟨clsL R reps s, List.mem_range.2 hl, ?_⟩
  rw [(h _ (by rw [getD_at _ _ hl]; exact List.getElem_mem hl)).2 hr]

/-- THE WAY BACK: what is met last stands behind what its word leads to but for its last letter. -/
def BackP (o : List (Int × List Int)) : Prop := (∀ p ∈ o, p.2 ≠ [] → ∃ q ∈ o, q.2 = p.2.dropLast) ∧ (o.map Prod.fst).Nodup ∧ (0, []) ∈ o
theorem backP_add {o : List (Int × List Int)} {wd : List Int} {l : Nat} {x : Int} (h : BackP o) (hw : ∃ q ∈ o, q.2 = wd) : BackP (addP wd l o x) := by
  unfold addP
  split
  · exact h
  · rename_i hn
    refine ⟨fun p hp he => ?_, ?_, by simp [h.2.2]⟩
    · rcases List.mem_append.1 hp with hp | hp
      · obtain ⟨q, hq, e⟩ := h.1 p hp he
        exact ⟨q, by simp [hq], e⟩
      · rw [List.mem_singleton] at hp; subst hp
        obtain ⟨q, hq, e⟩ := hw
        exact ⟨q, by simp [hq], by simpa using e⟩
    · rw [List.map_append, List.nodup_append]
      refine ⟨h.2.1, by simp, fun a ha b hb => ?_⟩
      simp at hb
      subst hb
      rintro rfl
      exact hn ha
theorem backP_row {wd : List Int} (r : List Int) (l : Nat) (o : List (Int × List Int)) (h : BackP o) (hw : ∃ q ∈ o, q.2 = wd) : BackP (rowAddP wd l o r) := by
  induction r generalizing l o with
  | nil => exact h
  | cons x r ih =>
    refine ih (l + 1) _ (backP_add h hw) ?_
    obtain ⟨q, hq, e⟩ := hw
    exact ⟨q, addP_sub.subset hq, e⟩
theorem backP_outs (N : List (List Int)) (i : Nat) : BackP (outsP N i) := by
  induction i with
  | zero => exact ⟨fun p hp he => by simp [outsP] at hp; subst hp; exact absurd rfl he, by simp [outsP], by simp [outsP]⟩
  | succ i ih =>
    unfold outsP
    split
    · rename_i hi
      exact backP_row _ _ _ ih ⟨_, getD_memP hi, rfl⟩
    · exact ih

/-- Along the row of the i-th of them, l letters read. -/
def rowP (N : List (List Int)) (i l : Nat) : List (Int × List Int) := rowAddP ((outsP N i).getD i (0, [])).2 0 (outsP N i) ((N.getD ((outsP N i).getD i (0, [])).1.toNat []).take l)
theorem rowAddP_snoc (wd : List Int) (r : List Int) (x : Int) (l : Nat) (o : List (Int × List Int)) : rowAddP wd l o (r ++ [x]) = addP wd (l + r.length) (rowAddP wd l o r) x := by
  induction r generalizing l o with
  | nil => simp [rowAddP]
  | cons y r ih =>
    show rowAddP wd (l + 1) (addP wd l o y) (r ++ [x]) = _
    rw [ih, List.length_cons, show l + 1 + r.length = l + (r.length + 1) by omega]
    rfl
theorem rowP_zero (N : List (List Int)) (i : Nat) : rowP N i 0 = outsP N i := by simp [rowP, rowAddP]
theorem rowP_succ {N : List (List Int)} {i l : Nat} (hl : l < (N.getD ((outsP N i).getD i (0, [])).1.toNat []).length) : rowP N i (l + 1) = addP ((outsP N i).getD i (0, [])).2 l (rowP N i l) ((N.getD ((outsP N i).getD i (0, [])).1.toNat []).getD l 0) := by
  unfold rowP
  rw [List.take_succ_eq_append_getElem hl, rowAddP_snoc, List.length_take, Nat.min_eq_left (by omega), Nat.zero_add, getD_at _ l hl]
theorem rowP_end {N : List (List Int)} {i : Nat} (hi : i < (outsP N i).length) : rowP N i (N.getD ((outsP N i).getD i (0, [])).1.toNat []).length = outsP N (i + 1) := by
  unfold rowP; rw [List.take_length, outsP_succ N i hi]
theorem rowP_sub {N : List (List Int)} {i l : Nat} : outsP N i <+: rowP N i l := rowAddP_sub _ _ _ _

/-- Words that lead back. -/
theorem back_take {o : List (Int × List Int)} (h : BackP o) (n : Nat) : ∀ p ∈ o, p.2.length ≤ n → ∀ j, j ≤ p.2.length → ∃ q ∈ o, q.2 = p.2.take j := by
  induction n with
  | zero => intro p hp hl j hj; exact ⟨p, hp, by rw [List.take_of_length_le (by omega)]⟩
  | succ n ih =>
    intro p hp hl j hj
    by_cases e : j = p.2.length
    · exact ⟨p, hp, by rw [e, List.take_length]⟩
    · have hne : p.2 ≠ [] := fun e' => by rw [e'] at hj e; simp at hj e; exact e hj
      obtain ⟨q, hq, eq⟩ := h.1 p hp hne
      have hql : q.2.length = p.2.length - 1 := by rw [eq, List.length_dropLast]
      obtain ⟨r, hr, er⟩ := ih q hq (by omega) j (by omega)
      exact ⟨r, hr, by rw [er, eq, List.dropLast_eq_take, List.take_take, Nat.min_eq_left (by omega)]⟩

/-- A spot's two numbers. -/
def hiI (M s : Nat) : Int := ((s / M : Nat) : Int)
def loI (M s : Nat) : Int := ((s % M : Nat) : Int)
/-- Spots (a state of the one, a state of the other, of M), and how they were met. -/
def spotV (M : Nat) (s : Int) : Value := .agg #[.int .i64 (hiI M (s.toNat)), .int .i64 (loI M (s.toNat))]
def stepV (M : Nat) (s : Nat) (l : Int) : Value := .agg #[.int .i64 (hiI M (s)), .int .i64 (loI M (s)), .int .i64 l]
theorem spotV_inj {M : Nat} {s t : Int} (hs : 0 ≤ s) (ht : 0 ≤ t) (h : spotV M s = spotV M t) : s = t := by
  unfold spotV at h
  injection h with h
  have h1 : (s.toNat / M : Nat) = t.toNat / M ∧ (s.toNat % M : Nat) = t.toNat % M := by
    have h0 := congrArg (fun a : Array Value => a[0]?) h
    have h1 := congrArg (fun a : Array Value => a[1]?) h
    simp only [List.getElem?_toArray, List.getElem?_cons_zero, List.getElem?_cons_succ, Option.some.injEq, Value.int.injEq, true_and] at h0 h1
    unfold hiI at h0
    unfold loI at h1
    exact ⟨Int.ofNat.inj h0, Int.ofNat.inj h1⟩
  have := Nat.div_add_mod s.toNat M
  have h2 := Nat.div_add_mod t.toNat M
  rw [h1.1, h1.2, h2] at this
  omega
def stF (N : List (List Int)) (M : Nat) (o : List (Int × List Int)) : List (Value × Value) := o.map fun p => (spotV M p.1, stepV M (runL N p.2.dropLast) (p.2.getLastD 0))
theorem stF_none {N : List (List Int)} {M : Nat} {o : List (Int × List Int)} {x : Int} (hx : 0 ≤ x) (ho : ∀ p ∈ o, 0 ≤ p.1) (h : ¬ x ∈ o.map Prod.fst) : ¬ spotV M x ∈ (stF N M o).map Prod.fst := by
  simp only [stF, List.map_map, List.mem_map, Function.comp, not_exists, not_and]
  intro p hp e
  exact h (List.mem_map.2 ⟨p, hp, spotV_inj (ho p hp) hx e⟩)
theorem stF_some {N : List (List Int)} {M : Nat} {o : List (Int × List Int)} {p : Int × List Int} (hp : p ∈ o) : (spotV M p.1, stepV M (runL N p.2.dropLast) (p.2.getLastD 0)) ∈ stF N M o := List.mem_map.2 ⟨p, hp, rfl⟩
theorem stF_put (N : List (List Int)) (M : Nat) (o : List (Int × List Int)) (x : Int) (wd : List Int) (l : Nat) : stF N M o ++ [(spotV M x, stepV M (runL N wd) (l : Int))] = stF N M (o ++ [(x, wd ++ [(l : Int)])]) := by
  simp [stF]
theorem nodup_fst {o : List (Int × List Int)} (h : (o.map Prod.fst).Nodup) {p q : Int × List Int} (hp : p ∈ o) (hq : q ∈ o) (e : p.1 = q.1) : p = q := by
  induction o with
  | nil => simp at hp
  | cons x o ih =>
    rw [List.map_cons, List.nodup_cons] at h
    rcases List.mem_cons.1 hp with rfl | hp'
    · rcases List.mem_cons.1 hq with rfl | hq'
      · rfl
      · exact absurd (List.mem_map.2 ⟨q, hq', e.symm⟩) h.1
    · rcases List.mem_cons.1 hq with rfl | hq'
      · exact absurd (List.mem_map.2 ⟨p, hp', e⟩) h.1
      · exact ih h.2 hp' hq'
end Go.Proofs.Ytihhlddbppljpab
