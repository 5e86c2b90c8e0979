/- Clean words that are taken, in order: mathematics. -/
import Derived.Test.YtpkjnkcdajngkaaDc
namespace Go.Proofs.Ytpkjnkcdajngkaa
open Go.RowKit

/-- From which states is a word of so many letters taken? -/
def alvR (N : List (List Int)) (E : List Bool) : Nat → List Bool
  | 0 => E
  | k + 1 => (List.range N.length).map fun s => (N.getD s []).any fun x => (alvR N E k).getD x.toNat false
/-- Words of so many letters that are taken from a state, in order; the first letter is not 0. -/
def wdsG (N : List (List Int)) (E : List Bool) : Bool → Nat → Nat → List (List Int)
  | _, 0, s => if E.getD s false = true then [[]] else []
  | root, k + 1, s => (List.range (N.getD s []).length).flatMap fun x => if root = true ∧ x = 0 then [] else (wdsG N E false k (nxt N s x)).map fun w => (x : Int) :: w
theorem alvR_len (N : List (List Int)) (E : List Bool) (h : E.length = N.length) (k : Nat) : (alvR N E k).length = N.length := by
  cases k with
  | zero => exact h
  | succ k => simp [alvR]
theorem alvR_get {N : List (List Int)} {E : List Bool} {k s : Nat} (hs : s < N.length) : (alvR N E (k + 1)).getD s false = (N.getD s []).any fun x => (alvR N E k).getD x.toNat false := by
  simp [alvR, List.getD, hs]
section
variable {m n : Nat} {N : List (List Int)} {E : List Bool}
theorem row_any (hG : GoodN m n N) {s : Nat} (hs : s < n) (p : Nat → Bool) : ((N.getD s []).any fun x => p x.toNat) = true ↔ ∃ j, j < m ∧ p (nxt N s j) = true := by
  obtain ⟨h1, h2⟩ := hG.2.2.2.2.2 s hs
  rw [List.any_eq_true]
  constructor
  · rintro ⟨x, hx, hp⟩
    obtain ⟨j, hj, rfl⟩ := List.getElem_of_mem hx
    refine ⟨j, by omega, ?_⟩
    unfold nxt
    rw [getD_at _ j hj]
    exact hp
  · rintro ⟨j, hj, hp⟩
    have hj' : j < (N.getD s []).length := by omega
    refine ⟨(N.getD s [])[j], List.getElem_mem _, ?_⟩
    unfold nxt at hp
    rw [getD_at _ j hj'] at hp
    exact hp
theorem nxt_lt (hG : GoodN m n N) {s j : Nat} (hs : s < n) (hj : j < m) : nxt N s j < n := by
  have := (hG.2.2.2.2.2 s hs).2 j hj
  unfold nxt
  omega
/-- What is listed. -/
theorem wds_mem (hG : GoodN m n N) : ∀ (k : Nat) (root : Bool) (s : Nat), s < n → ∀ w, w ∈ wdsG N E root k s ↔ w.length = k ∧ okW m w ∧ E.getD (runF N s w) false = true ∧ (root = true → w.getD 0 1 ≠ 0) := by
  intro k
  induction k with
  | zero =>
    intro root s hs w
    unfold wdsG
    constructor
    · intro h
      split at h
      · rename_i hE
        simp only [List.mem_singleton] at h
        subst h
        exact ⟨rfl, fun x hx => (by cases hx), hE, fun _ => by simp⟩
      · cases h
    · rintro ⟨h1, -, h3, -⟩
      have : w = [] := List.length_eq_zero_iff.1 h1
      subst this
      have h3' : E.getD s false = true := h3
      rw [if_pos h3']
      simp
  | succ k ih =>
    intro root s hs w
    obtain ⟨hr, hc⟩ := hG.2.2.2.2.2 s hs
    unfold wdsG
    rw [List.mem_flatMap, hr]
    constructor
    · rintro ⟨x, hx, h⟩
      rw [List.mem_range] at hx
      by_cases h0 : root = true ∧ x = 0
      · rw [if_pos h0] at h; cases h
      · rw [if_neg h0] at h
        obtain ⟨v, hv, rfl⟩ := List.mem_map.1 h
        obtain ⟨g1, g2, g3, -⟩ := (ih false _ (nxt_lt hG hs hx) v).1 hv
        refine ⟨by simp [g1], fun y hy => ?_, ?_, fun hroot => ?_⟩
        · rcases List.mem_cons.1 hy with rfl | hy
          · omega
          · exact g2 y hy
        · simpa [runF, step_nxt] using g3
        · simp
          intro hx0
          exact h0 ⟨hroot, by omega⟩
    · rintro ⟨h1, h2, h3, h4⟩
      cases w with
      | nil => simp at h1
      | cons x w =>
        have hx := h2 x (by simp)
        have ex : ((x.toNat : Nat) : Int) = x := by omega
        refine ⟨x.toNat, by rw [List.mem_range]; omega, ?_⟩
        rw [if_neg (fun h0 => h4 h0.1 (by simp; omega))]
        refine List.mem_map.2 ⟨w, (ih false _ (nxt_lt hG hs (by omega)) w).2 ⟨by simpa using h1, fun y hy => h2 y (by simp [hy]), ?_, fun h => by cases h⟩, by rw [ex]⟩
        simpa [runF, step_nxt] using h3
theorem alv_iff (hG : GoodN m n N) : ∀ (k s : Nat), s < n → ((alvR N E k).getD s false = true ↔ wdsG N E false k s ≠ []) := by
  intro k
  induction k with
  | zero =>
    intro s hs
    unfold alvR wdsG
    by_cases h : E.getD s false = true
    · rw [if_pos h]; exact ⟨fun _ => by simp, fun _ => h⟩
    · rw [if_neg h]; exact ⟨fun h' => absurd h' h, fun h' => absurd rfl h'⟩
  | succ k ih =>
    intro s hs
    obtain ⟨hr, hc⟩ := hG.2.2.2.2.2 s hs
    rw [alvR_get (by rw [hG.1]; exact hs), row_any hG hs fun t => (alvR N E k).getD t false]
    unfold wdsG
    rw [hr]
    constructor
    · rintro ⟨j, hj, hp⟩ he
      have h1 := (ih _ (nxt_lt hG hs hj)).1 hp
      obtain ⟨v, hv⟩ := List.exists_mem_of_ne_nil _ h1
      have : ((j : Int) :: v) ∈ (List.range m).flatMap fun x => if false = true ∧ x = 0 then [] else (wdsG N E false k (nxt N s x)).map fun w => (x : Int) :: w := by
        rw [List.mem_flatMap]
        exact ⟨j, List.mem_range.2 hj, by rw [if_neg (by simp)]; exact List.mem_map.2 ⟨v, hv, rfl⟩⟩
      rw [he] at this
      cases this
    · intro he
      obtain ⟨v, hv⟩ := List.exists_mem_of_ne_nil _ he
      rw [List.mem_flatMap] at hv
      obtain ⟨x, hx, hv⟩ := hv
      rw [List.mem_range] at hx
      rw [if_neg (by simp)] at hv
      obtain ⟨u, hu, -⟩ := List.mem_map.1 hv
      exact ⟨x, hx, (ih _ (nxt_lt hG hs hx)).2 (fun h => by rw [h] at hu; cases hu)⟩
theorem wds_root (hG : GoodN m n N) {k s : Nat} (hs : s < n) (h : (alvR N E k).getD s false = false) : ∀ root, wdsG N E root k s = [] := fun root => by
  have h1 : wdsG N E false k s = [] := by
    apply Classical.byContradiction
    intro h2
    have := (alv_iff hG k s hs).2 h2
    rw [h] at this; cases this
  rw [List.eq_nil_iff_forall_not_mem]
  intro w hw
  obtain ⟨g1, g2, g3, -⟩ := (wds_mem hG k root s hs w).1 hw
  have := (wds_mem hG k false s hs w).2 ⟨g1, g2, g3, fun h => by cases h⟩
  rw [h1] at this
  cases this
/-- Once none is alive, none is with more letters. -/
theorem alv_dead (hG : GoodN m n N) {k : Nat} (h : ∀ s, s < n → (alvR N E k).getD s false = false) : ∀ j s, s < n → (alvR N E (k + j)).getD s false = false := by
  intro j
  induction j with
  | zero => exact h
  | succ j ih =>
    intro s hs
    cases hh : (alvR N E (k + (j + 1))).getD s false with
    | false => rfl
    | true =>
      rw [show k + (j + 1) = k + j + 1 by omega, alvR_get (by rw [hG.1]; exact hs), row_any hG hs fun t => (alvR N E (k + j)).getD t false] at hh
      obtain ⟨x, hx, hp⟩ := hh
      rw [ih _ (nxt_lt hG hs hx)] at hp
      cases hp
end
/-- In order: shorter ones first, then letter by letter. -/
def lexB : List Int → List Int → Bool
  | x :: v, y :: w => decide (x < y) || (decide (x = y) && lexB v w)
  | _, _ => false
def aheadB (v w : List Int) : Bool := if v.length = w.length then lexB v w else decide (v.length < w.length)
section
variable {m n : Nat} {N : List (List Int)} {E : List Bool}
theorem wds_sorted (hG : GoodN m n N) : ∀ (k : Nat) (root : Bool) (s : Nat), s < n → (wdsG N E root k s).Pairwise fun v w => lexB v w = true := by
  intro k
  induction k with
  | zero =>
    intro root s hs
    unfold wdsG
    split
    · simp
    · simp
  | succ k ih =>
    intro root s hs
    unfold wdsG
    rw [List.pairwise_flatMap, (hG.2.2.2.2.2 s hs).1]
    constructor
    · intro x hx
      rw [List.mem_range] at hx
      split
      · simp
      · rw [List.pairwise_map]
        refine (ih false _ (nxt_lt hG hs hx)).imp fun {a b} h => ?_
        unfold lexB
        simp [h]
    · refine (List.pairwise_lt_range).imp fun {x y} hxy v hv w hw => ?_
      split at hv
      · cases hv
      · split at hw
        · cases hw
        · obtain ⟨v', -, rfl⟩ := List.mem_map.1 hv
          obtain ⟨w', -, rfl⟩ := List.mem_map.1 hw
          unfold lexB
          have : (x : Int) < (y : Int) := by omega
          simp [this]
end
/-- The clean words of fewer than K letters, in order. -/
def clnL (N : List (List Int)) (E : List Bool) (K : Nat) : List (List Int) := (List.range K).flatMap fun k => wdsG N E true k 0
section
variable {m n : Nat} {N : List (List Int)} {E : List Bool}
theorem cln_mem (hG : GoodN m n N) (K : Nat) (w : List Int) : w ∈ clnL N E K ↔ w.length < K ∧ okW m w ∧ tkB N E w = true ∧ w.getD 0 1 ≠ 0 := by
  unfold clnL
  rw [List.mem_flatMap]
  constructor
  · rintro ⟨k, hk, h⟩
    rw [List.mem_range] at hk
    obtain ⟨g1, g2, g3, g4⟩ := (wds_mem hG k true 0 hG.2.1 w).1 h
    exact ⟨by omega, g2, g3, g4 rfl⟩
  · rintro ⟨h1, h2, h3, h4⟩
    exact ⟨w.length, List.mem_range.2 h1, (wds_mem hG _ true 0 hG.2.1 w).2 ⟨rfl, h2, h3, fun _ => h4⟩⟩
theorem cln_sorted (hG : GoodN m n N) (K : Nat) : (clnL N E K).Pairwise fun v w => aheadB v w = true := by
  unfold clnL
  rw [List.pairwise_flatMap]
  constructor
  · intro k _
    refine (List.pairwise_iff_forall_sublist.2 fun {a b} hab => ?_)
    have hp := List.pairwise_iff_forall_sublist.1 (wds_sorted (E := E) hG k true 0 hG.2.1) hab
    have ha := ((wds_mem hG k true 0 hG.2.1 a).1 (hab.subset (by simp))).1
    have hb := ((wds_mem hG k true 0 hG.2.1 b).1 (hab.subset (by simp))).1
    unfold aheadB
    rw [if_pos (by omega)]
    exact hp
  · refine (List.pairwise_lt_range).imp fun {x y} hxy v hv w hw => ?_
    have ha := ((wds_mem hG x true 0 hG.2.1 v).1 hv).1
    have hb := ((wds_mem hG y true 0 hG.2.1 w).1 hw).1
    unfold aheadB
    rw [if_neg (by omega)]
    exact decide_eq_true (by omega)
/-- Behind the longest there is nothing. -/
theorem cln_late (hG : GoodN m n N) {K M : Nat} (hKM : K ≤ M) (h : ∀ s, s < n → (alvR N E K).getD s false = false) : clnL N E M = clnL N E K := by
  unfold clnL
  obtain ⟨j, rfl⟩ : ∃ j, M = K + j := ⟨M - K, by omega⟩
  rw [List.range_add, List.flatMap_append]
  have : ((List.range j).map (fun x => K + x)).flatMap (fun k => wdsG N E true k 0) = [] := by
    rw [List.flatMap_eq_nil_iff]
    intro k hk
    obtain ⟨i, -, rfl⟩ := List.mem_map.1 hk
    exact wds_root hG hG.2.1 (alv_dead hG h i 0 hG.2.1) true
  rw [this, List.append_nil]
end
end Go.Proofs.Ytpkjnkcdajngkaa
