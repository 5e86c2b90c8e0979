/- The states that are met, each with the word by which it is met; the first word: mathematics. -/
import Derived.Test.YtihhlddbppljpabBm
namespace Go.Proofs.Ytihhlddbppljpab
open Go.RowKit

/-- Words by number: the shorter ones first, of equally long ones by their letters. -/
def vw (m : Nat) (w : List Int) : Nat := w.foldl (fun a x => a * m + (x.toNat + 1)) 0
theorem vw_snoc (m : Nat) (w : List Int) (x : Int) : vw m (w ++ [x]) = vw m w * m + (x.toNat + 1) := by simp [vw, List.foldl_append]
theorem okW_snoc {m : Nat} {w : List Int} {x : Int} : okW m (w ++ [x]) ↔ okW m w ∧ 0 ≤ x ∧ x < (m : Int) := by
  unfold okW
  constructor
  · intro h; exact ⟨fun y hy => h y (by simp [hy]), h x (by simp)⟩
  · rintro ⟨h1, h2⟩ y hy
    rcases List.mem_append.1 hy with h | h
    · exact h1 y h
    · rw [List.mem_singleton] at h; subst h; exact h2
theorem mul_lt_step {a b m : Nat} (h : a < b) : a * m + m ≤ b * m := by
  have := Nat.mul_le_mul_right m (show a + 1 ≤ b from h)
  rw [Nat.add_mul] at this
  omega
theorem runL_snoc (N : List (List Int)) (w : List Int) (x : Int) : runL N (w ++ [x]) = stepL N (runL N w) x := by simp [runL, List.foldl_append]

/-- The states that are met, each with the word by which it is met. -/
def addP (wd : List Int) (l : Nat) (o : List (Int × List Int)) (x : Int) : List (Int × List Int) := if x ∈ o.map Prod.fst then o else o ++ [(x, wd ++ [(l : Int)])]
def rowAddP (wd : List Int) : Nat → List (Int × List Int) → List Int → List (Int × List Int)
  | _, o, [] => o
  | l, o, x :: r => rowAddP wd (l + 1) (addP wd l o x) r
def outsP (N : List (List Int)) : Nat → List (Int × List Int)
  | 0 => [(0, [])]
  | i + 1 => if i < (outsP N i).length then rowAddP ((outsP N i).getD i (0, [])).2 0 (outsP N i) (N.getD ((outsP N i).getD i (0, [])).1.toNat []) else outsP N i
theorem addP_fst (wd : List Int) (l : Nat) (o : List (Int × List Int)) (x : Int) : (addP wd l o x).map Prod.fst = addL (o.map Prod.fst) x := by
  unfold addP addL; split
  · rfl
  · simp
theorem rowAddP_fst (wd : List Int) (r : List Int) (l : Nat) (o : List (Int × List Int)) : (rowAddP wd l o r).map Prod.fst = rowAdd (o.map Prod.fst) r := by
  induction r generalizing l o with
  | nil => rfl
  | cons x r ih =>
    show (rowAddP wd (l + 1) (addP wd l o x) r).map Prod.fst = _
    rw [ih, addP_fst]; rfl
theorem fst_get (o : List (Int × List Int)) (i : Nat) : (o.getD i (0, [])).1 = (o.map Prod.fst).getD i 0 := by
  simp only [List.getD, List.getElem?_map]
  cases o[i]? <;> rfl
theorem outsP_fst (N : List (List Int)) (i : Nat) : (outsP N i).map Prod.fst = outs N i := by
  induction i with
  | zero => rfl
  | succ i ih =>
    have hl : (outsP N i).length = (outs N i).length := by rw [← ih, List.length_map]
    unfold outsP outs
    rw [hl]
    split
    · rw [rowAddP_fst, ih, fst_get, ih]
    · exact ih

/-- What stands of them: each word leads there; they come in the words' order. -/
structure OkP (N : List (List Int)) (m : Nat) (o : List (Int × List Int)) : Prop where
  run : ∀ p ∈ o, okW m p.2 ∧ 0 ≤ p.1 ∧ runL N p.2 = p.1.toNat
  ord : o.Pairwise fun p q => vw m p.2 < vw m q.2
theorem okP_add {N : List (List Int)} {m : Nat} {o : List (Int × List Int)} {wd : List Int} {s : Int} {l : Nat} {x : Int} (h : OkP N m o) (hs : okW m wd ∧ runL N wd = s.toNat) (hl : l < m) (hx : x = ((stepL N s.toNat (l : Int) : Nat) : Int)) (hb : ∀ p ∈ o, vw m p.2 ≤ vw m wd * m + l) :
    OkP N m (addP wd l o x) ∧ (∀ p ∈ addP wd l o x, vw m p.2 ≤ vw m wd * m + (l + 1)) ∧ ∃ p ∈ addP wd l o x, p.1 = x ∧ vw m p.2 ≤ vw m (wd ++ [(l : Int)]) := by
  have hv : vw m (wd ++ [(l : Int)]) = vw m wd * m + (l + 1) := by rw [vw_snoc, Int.toNat_natCast]
  unfold addP
  split
  · rename_i hm
    obtain ⟨p, hp, rfl⟩ := List.mem_map.1 hm
    exact ⟨h, fun q hq => by have := hb q hq; omega, p, hp, rfl, by have := hb p hp; omega⟩
  · refine ⟨⟨fun p hp => ?_, ?_⟩, fun p hp => ?_, (x, wd ++ [(l : Int)]), by simp, rfl, Nat.le_refl _⟩
    · rcases List.mem_append.1 hp with hp | hp
      · exact h.run p hp
      · rw [List.mem_singleton] at hp; subst hp
        exact ⟨okW_snoc.2 ⟨hs.1, by omega, by omega⟩, by simp only [hx]; omega, by simp only [runL_snoc, hs.2, hx, Int.toNat_natCast]⟩
    · rw [List.pairwise_append]
      refine ⟨h.ord, by simp, fun p hp q hq => ?_⟩
      rw [List.mem_singleton] at hq; subst hq
      have := hb p hp
      simp only [hv]; omega
    · rcases List.mem_append.1 hp with hp | hp
      · have := hb p hp; omega
      · rw [List.mem_singleton] at hp; subst hp; simp only [hv]; exact Nat.le_refl _
theorem addP_sub {wd : List Int} {l : Nat} {o : List (Int × List Int)} {x : Int} : o <+: addP wd l o x := by unfold addP; split; exact List.prefix_refl _; exact List.prefix_append _ _
theorem rowAddP_sub (wd : List Int) (r : List Int) (l : Nat) (o : List (Int × List Int)) : o <+: rowAddP wd l o r := by
  induction r generalizing l o with
  | nil => exact List.prefix_refl _
  | cons x r ih => exact addP_sub.trans (ih (l + 1) _)
theorem okP_row {N : List (List Int)} {m : Nat} {wd : List Int} {s : Int} (hs : okW m wd ∧ runL N wd = s.toNat) (r : List Int) (l : Nat) (o : List (Int × List Int)) (hlen : l + r.length ≤ m) (hr : ∀ j, j < r.length → r.getD j 0 = ((stepL N s.toNat ((l + j : Nat) : Int) : Nat) : Int)) (h : OkP N m o) (hb : ∀ p ∈ o, vw m p.2 ≤ vw m wd * m + l) :
    OkP N m (rowAddP wd l o r) ∧ (∀ p ∈ rowAddP wd l o r, vw m p.2 ≤ vw m wd * m + (l + r.length)) ∧ ∀ j, j < r.length → ∃ p ∈ rowAddP wd l o r, p.1 = r.getD j 0 ∧ vw m p.2 ≤ vw m (wd ++ [((l + j : Nat) : Int)]) := by
  induction r generalizing l o with
  | nil => exact ⟨h, hb, fun j hj => by simp at hj⟩
  | cons x r ih =>
    simp only [List.length_cons] at hlen hr ⊢
    have h0 := hr 0 (by omega)
    obtain ⟨a1, a2, a3⟩ := okP_add (l := l) (x := x) h hs (by omega) (by simpa using h0) hb
    obtain ⟨b1, b2, b3⟩ := ih (l + 1) (addP wd l o x) (by omega) (fun j hj => by
      have := hr (j + 1) (by omega)
      rw [show l + 1 + j = l + (j + 1) by omega]
      simpa using this) a1 a2
    refine ⟨b1, fun p hp => by have := b2 p hp; omega, fun j hj => ?_⟩
    cases j with
    | zero =>
      obtain ⟨p, hp, e, hv⟩ := a3
      exact ⟨p, (rowAddP_sub wd r (l + 1) _).subset hp, by simpa using e, by simpa using hv⟩
    | succ j =>
      obtain ⟨p, hp, e, hv⟩ := b3 j (by omega)
      rw [show l + 1 + j = l + (j + 1) by omega] at hv
      exact ⟨p, hp, by simpa using e, hv⟩
theorem outsP_len (N : List (List Int)) (i : Nat) : (outsP N i).length = (outs N i).length := by rw [← outsP_fst, List.length_map]
theorem outsP_succ (N : List (List Int)) (i : Nat) (hi : i < (outsP N i).length) : outsP N (i + 1) = rowAddP ((outsP N i).getD i (0, [])).2 0 (outsP N i) (N.getD ((outsP N i).getD i (0, [])).1.toNat []) := by rw [outsP, if_pos hi]
theorem getD_memP {o : List (Int × List Int)} {i : Nat} (h : i < o.length) : o.getD i (0, []) ∈ o := by simp [List.getD, h]
theorem preP_getD {o o' : List (Int × List Int)} (h : o <+: o') (i : Nat) (hi : i < o.length) : o'.getD i (0, []) = o.getD i (0, []) := by
  obtain ⟨s, rfl⟩ := h
  simp [List.getD, List.getElem?_append_left hi]
theorem ordP_get {m : Nat} {o : List (Int × List Int)} (h : o.Pairwise fun p q => vw m p.2 < vw m q.2) {i j : Nat} (hij : i < j) (hj : j < o.length) : vw m (o.getD i (0, [])).2 < vw m (o.getD j (0, [])).2 := by
  rw [List.pairwise_iff_getElem] at h
  have := h i j (by omega) hj hij
  simpa [List.getD, hj, show i < o.length by omega] using this

/-- Behind i of them. -/
def StP (N : List (List Int)) (m i : Nat) : Prop :=
  OkP N m (outsP N i) ∧ (i < (outsP N i).length → ∀ p ∈ outsP N i, vw m p.2 ≤ vw m ((outsP N i).getD i (0, [])).2 * m) ∧
  ∀ k, k < i → k < (outsP N i).length → ∀ j, j < m → ∃ p ∈ outsP N i, p.1 = (N.getD ((outsP N i).getD k (0, [])).1.toNat []).getD j 0 ∧ vw m p.2 ≤ vw m (((outsP N i).getD k (0, [])).2 ++ [(j : Int)])
theorem stP {m n : Nat} {N : List (List Int)} (hG : GoodN m n N) (i : Nat) : StP N m i := by
  induction i with
  | zero => exact ⟨⟨fun p hp => by simp [outsP] at hp; subst hp; simp [okW, runL], by simp [outsP]⟩, fun _ p hp => by simp [outsP] at hp; subst hp; simp [vw], fun k hk => by omega⟩
  | succ i ih =>
    obtain ⟨h1, h2, h3⟩ := ih
    by_cases hi : i < (outsP N i).length
    · have hp := getD_memP hi
      obtain ⟨r1, r2, r3⟩ := h1.run _ hp
      have hsn := (outs_ok hG i).2 ((outsP N i).getD i (0, [])).1 (by rw [← outsP_fst]; exact List.mem_map_of_mem hp)
      have hrow := hG.2.2.2.2.2 ((outsP N i).getD i (0, [])).1.toNat (by omega)
      obtain ⟨a1, a2, a3⟩ := okP_row (m := m) ⟨r1, r3⟩ (N.getD ((outsP N i).getD i (0, [])).1.toNat []) 0 (outsP N i) (by omega) (fun j hj => by
        have := hrow.2 j (by omega)
        rw [Nat.zero_add]
        unfold stepL
        rw [Int.toNat_natCast]
        omega) h1 (by simpa using h2 hi)
      rw [← outsP_succ N i hi] at a1 a2 a3
      have hpre : outsP N i <+: outsP N (i + 1) := by rw [outsP_succ N i hi]; exact rowAddP_sub _ _ _ _
      refine ⟨a1, fun hi1 p hpm => ?_, fun k hk hkl j hj => ?_⟩
      · have e := a2 p hpm
        have ho := ordP_get a1.ord (show i < i + 1 by omega) hi1
        rw [preP_getD hpre i hi] at ho
        have := mul_lt_step (m := m) ho
        rw [hrow.1] at e
        omega
      · by_cases e : k = i
        · subst e
          rw [preP_getD hpre k hi]
          obtain ⟨p, hpm, e1, e2⟩ := a3 j (by omega)
          rw [Nat.zero_add] at e2
          exact ⟨p, hpm, e1, e2⟩
        · rw [preP_getD hpre k (by omega)]
          obtain ⟨p, hpm, e1, e2⟩ := h3 k (by omega) (by omega) j hj
          exact ⟨p, hpre.subset hpm, e1, e2⟩
    · have e : outsP N (i + 1) = outsP N i := by rw [outsP, if_neg hi]
      refine ⟨by rw [e]; exact h1, fun h => by rw [e] at h; omega, fun k hk hkl j hj => ?_⟩
      rw [e] at hkl ⊢
      exact h3 k (by omega) hkl j hj

def metP (N : List (List Int)) : List (Int × List Int) := outsP N N.length
/-- Whatever word leads there: it is none ahead of the one by which the state is met. -/
theorem metP_le {m n : Nat} {N : List (List Int)} (hG : GoodN m n N) (v : List Int) : okW m v → ∃ p ∈ metP N, p.1 = ((runL N v : Nat) : Int) ∧ vw m p.2 ≤ vw m v := by
  have hst := stP hG n
  have hml := outs_len hG n
  rw [← outsP_len] at hml
  have e : metP N = outsP N n := by unfold metP; rw [hG.1]
  rw [e]
  induction v using list_snoc_ind with
  | h0 =>
    intro _
    have hp : outsP N 0 <+: outsP N n := by
      have : ∀ j, outsP N 0 <+: outsP N j := by
        intro j
        induction j with
        | zero => exact List.prefix_refl _
        | succ j ih =>
          refine ih.trans ?_
          rw [outsP]
          split
          · exact rowAddP_sub _ _ _ _
          · exact List.prefix_refl _
      exact this n
    exact ⟨(0, []), hp.subset (by simp [outsP]), by simp [runL], by simp [vw]⟩
  | h1 v x ih =>
    intro hv
    rw [okW_snoc] at hv
    obtain ⟨p, hp, e1, e2⟩ := ih hv.1
    obtain ⟨k, hk, hkp⟩ := List.getElem_of_mem hp
    have hkg : (outsP N n).getD k (0, []) = p := by simp [List.getD, hk, hkp]
    obtain ⟨q, hq, f1, f2⟩ := hst.2.2 k (by omega) hk x.toNat (by omega)
    rw [hkg] at f1 f2
    refine ⟨q, hq, ?_, ?_⟩
    · rw [f1, runL_snoc, e1, Int.toNat_natCast]
      have hrn : runL N v < n := by
        have := (outs_ok hG n).2 p.1 (by rw [← outsP_fst]; exact List.mem_map_of_mem hp)
        omega
      exact (goodN_step hG _ hrn x hv.2).2.symm
    · rw [vw_snoc] at f2 ⊢
      rw [Int.toNat_natCast] at f2
      have := Nat.mul_le_mul_right m e2
      omega
def firstP (N : List (List Int)) (E : List Bool) : Option (Int × List Int) := (metP N).find? fun p => E.getD p.1.toNat false
theorem first_none {m n : Nat} {N : List (List Int)} (hG : GoodN m n N) {E : List Bool} (h : firstP N E = none) (v : List Int) (hv : okW m v) : E.getD (runL N v) false = false := by
  obtain ⟨q, hq, e1, _⟩ := metP_le hG v hv
  unfold firstP at h
  rw [List.find?_eq_none] at h
  have := h q hq
  rw [e1, Int.toNat_natCast] at this
  simpa using this
end Go.Proofs.Ytihhlddbppljpab
