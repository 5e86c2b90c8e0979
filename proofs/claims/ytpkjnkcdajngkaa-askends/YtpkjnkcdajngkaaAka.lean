/- Clean words that are taken, in order: mathematics. -/
import Derived.Test.YtpkjnkcdajngkaaDc
namespace Go.Proofs.Ytpkjnkcdajngkaa
open Go.RowKit

/-- From which states is a word of so many letters taken? -/
def alvR (N : List (List Int)) (E : List Bool) : Nat → List Bool
  | 0 => E
  | k + 1 => (List.range N.length).map fun s => (N.getD s []).any fun x => (alvR N E k).getD x.toNat false
/-- Words of so many letters that are taken from a state, in order; the first letter is not 0. -/
def wdsG (N : List (List Int)) (E : List Bool) : Bool → Nat → Nat → List (List Int)
  | _, 0, s => if E.getD s false = true then [[]] else []
  | root, k + 1, s => (List.range (N.getD s []).length).flatMap fun x => if root = true ∧ x = 0 then [] else (wdsG N E false k (nxt N s x)).map fun w => (x : Int) :: w
theorem alvR_len (N : List (List Int)) (E : List Bool) (h : E.length = N.length) (k : Nat) : (alvR N E k).length = N.length := by
  cases k with
  | zero => exact h
  | succ k => simp [alvR]
theorem alvR_get {N : List (List Int)} {E : List Bool} {k s : Nat} (hs : s < N.length) : (alvR N E (k + 1)).getD s false = (N.getD s []).any fun x => (alvR N E k).getD x.toNat false := by
  simp [alvR, List.getD, hs]
section
variable {m n : Nat} {N : List (List Int)} {E : List Bool}
theorem row_any (hG : GoodN m n N) {s : Nat} (hs : s < n) (p : Nat → Bool) : ((N.getD s []).any fun x => p x.toNat) = true ↔ ∃ j, j < m ∧ p (nxt N s j) = true := by
  obtain ⟨h1, h2⟩ := hG.2.2.2.2.2 s hs
  rw [List.any_eq_true]
  constructor
  · rintro ⟨x, hx, hp⟩
    obtain ⟨j, hj, rfl⟩ := List.getElem_of_mem hx
    refine ⟨j, by omega, ?_⟩
    unfold nxt
    rw [getD_at _ j hj]
    exact hp
  · rintro ⟨j, hj, hp⟩
    have hj' : j < (N.getD s []).length := by omega
    refine ⟨(N.getD s [])[j], List.getElem_mem _, ?_⟩
    unfold nxt at hp
    rw [getD_at _ j hj'] at hp
    exact hp
theorem nxt_lt (hG : GoodN m n N) {s j : Nat} (hs : s < n) (hj : j < m) : nxt N s j < n := by
  have := (hG.2.2.2.2.2 s hs).2 j hj
  unfold nxt
  omega
/-- What is listed. -/
theorem wds_mem (hG : GoodN m n N) : ∀ (k : Nat) (root : Bool) (s : Nat), s < n → ∀ w, w ∈ wdsG N E root k s ↔ w.length = k ∧ okW m w ∧ E.getD (runF N s w) false = true ∧ (root = true → w.getD 0 1 ≠ 0) := by
  intro k
  induction k with
  | zero =>
    intro root s hs w
    unfold wdsG
    constructor
    · intro h
      split at h
      · rename_i hE
        simp only [List.mem_singleton] at h
        subst h
        exact ⟨rfl, fun x hx => (by cases hx), hE, fun _ => by simp⟩
      · cases h
    · rintro ⟨h1, -, h3, -⟩
      have : w = [] := List.length_eq_zero_iff.1 h1
      subst this
      have h3' : E.getD s false = true := h3
      rw [if_pos h3']
      simp
  | succ k ih =>
    intro root s hs w
    obtain ⟨hr, hc⟩ := hG.2.2.2.2.2 s hs
    unfold wdsG
    rw [List.mem_flatMap, hr]
    constructor
    · rintro ⟨x, hx, h⟩
      rw [List.mem_range] at hx
      by_cases h0 : root = true ∧ x = 0
      · rw [if_pos h0] at h; cases h
      · rw [if_neg h0] at h
        obtain ⟨v, hv, rfl⟩ := List.mem_map.1 h
        obtain ⟨g1, g2, g3, -⟩ := (ih false _ (nxt_lt hG hs hx) v).1 hv
        refine ⟨by simp [g1], fun y hy => ?_, ?_, fun hroot => ?_⟩
        · rcases List.mem_cons.1 hy with rfl | hy
          · omega
          · exact g2 y hy
        · simpa [runF, step_nxt] using g3
        · simp
          intro hx0
          exact h0 ⟨hroot, by omega⟩
    · rintro ⟨h1, h2, h3, h4⟩
      cases w with
      | nil => simp at h1
      | cons x w =>
        have hx := h2 x (by simp)
        have ex : ((x.toNat : Nat) : Int) = x := by omega
        refine ⟨x.toNat, by rw [List.mem_range]; omega, ?_⟩
        rw [if_neg (fun h0 => h4 h0.1 (by simp; omega))]
        refine List.mem_map.2 ⟨w, (ih false _ (nxt_lt hG hs (by omega)) w).2 ⟨by simpa using h1, fun y hy => h2 y (by simp [hy]), ?_, fun h => by cases h⟩, by rw [ex]⟩
        simpa [runF, step_nxt] using h3
theorem alv_iff (hG : GoodN m n N) : ∀ (k s : Nat), s < n → ((alvR N E k).getD s false = true ↔ wdsG N E false k s ≠ []) := by
  intro k
  induction k with
  | zero =>
    intro s hs
    unfold alvR wdsG
    by_cases h : E.getD s false = true
    · rw [if_pos h]; exact ⟨fun _ => by simp, fun _ => h⟩
    · rw [if_neg h]; exact ⟨fun h' => absurd h' h, fun h' => absurd rfl h'⟩
  | succ k ih =>
    intro s hs
    obtain ⟨hr, hc⟩ := hG.2.2.2.2.2 s hs
    rw [alvR_get (by rw [hG.1]; exact hs), row_any hG hs fun t => (alvR N E k).getD t false]
    unfold wdsG
    rw [hr]
    constructor
    · rintro ⟨j, hj, hp⟩ he
      have h1 := (ih _ (nxt_lt hG hs hj)).1 hp
      obtain ⟨v, hv⟩ := List.exists_mem_of_ne_nil _ h1
      have : ((j : Int) :: v) ∈ (List.range m).flatMap fun x => if false = true ∧ x = 0 then [] else (wdsG N E false k (nxt N s x)).map fun w => (x : Int) :: w := by
        rw [List.mem_flatMap]
        exact ⟨j, List.mem_range.2 hj, by rw [if_neg (by simp)]; exact List.mem_map.2 ⟨v, hv, rfl⟩⟩
      rw [he] at this
      cases this
    · intro he
      obtain ⟨v, hv⟩ := List.exists_mem_of_ne_nil _ he
      rw [List.mem_flatMap] at hv
      obtain ⟨x, hx, hv⟩ := hv
      rw [List.mem_range] at hx
      rw [if_neg (by simp)] at hv
      obtain ⟨u, hu, -⟩ := List.mem_map.1 hv
      exact ⟨x, hx, (ih _ (nxt_lt hG hs hx)).2 (fun h => by rw [h] at hu; cases hu)⟩
/-- Once none is alive, none is with more letters. -/
theorem alv_dead (hG : GoodN m n N) {k : Nat} (h : ∀ s, s < n → (alvR N E k).getD s false = false) : ∀ j s, s < n → (alvR N E (k + j)).getD s false = false := by
  intro j
  induction j with
  | zero => exact h
  | succ j ih =>
    intro s hs
    cases hh : (alvR N E (k + (j + 1))).getD s false with
    | false => rfl
    | true =>
      rw [show k + (j + 1) = k + j + 1 by omega, alvR_get (by rw [hG.1]; exact hs), row_any hG hs fun t => (alvR N E (k + j)).getD t false] at hh
      obtain ⟨x, hx, hp⟩ := hh
      rw [ih _ (nxt_lt hG hs hx)] at hp
      cases hp
end
section
variable {m n : Nat} {N : List (List Int)} {E : List Bool}
end
/-- The clean words of fewer than K letters, in order. -/
def clnL (N : List (List Int)) (E : List Bool) (K : Nat) : List (List Int) := (List.range K).flatMap fun k => wdsG N E true k 0
section
variable {m n : Nat} {N : List (List Int)} {E : List Bool}
theorem cln_mem (hG : GoodN m n N) (K : Nat) (w : List Int) : w ∈ clnL N E K ↔ w.length < K ∧ okW m w ∧ tkB N E w = true ∧ w.getD 0 1 ≠ 0 := by
  unfold clnL
  rw [List.mem_flatMap]
  constructor
  · rintro ⟨k, hk, h⟩
    rw [List.mem_range] at hk
    obtain ⟨g1, g2, g3, g4⟩ := (wds_mem hG k true 0 hG.2.1 w).1 h
    exact ⟨by omega, g2, g3, g4 rfl⟩
  · rintro ⟨h1, h2, h3, h4⟩
    exact ⟨w.length, List.mem_range.2 h1, (wds_mem hG _ true 0 hG.2.1 w).2 ⟨rfl, h2, h3, fun _ => h4⟩⟩
end
end Go.Proofs.Ytpkjnkcdajngkaa
