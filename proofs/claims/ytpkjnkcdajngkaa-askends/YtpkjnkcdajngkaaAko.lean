/- Finitely many clean words: mathematics of AskEnds. -/
import Derived.Test.YtpkjnkcdajngkaaAkl
import Derived.Test.YtpkjnkcdajngkaaAkn
namespace Go.Proofs.Ytpkjnkcdajngkaa
open Go.RowKit

theorem fins_sub {L K : List Nat} (hn : L.Nodup) (h : ∀ x ∈ L, x ∈ K) : L.length ≤ K.length := by
  induction L generalizing K with
  | nil => simp
  | cons a L ih =>
    rw [List.nodup_cons] at hn
    have ha := h a (by simp)
    have := ih (K := K.erase a) hn.2 (fun x hx => (List.mem_erase_of_ne (by rintro rfl; exact hn.1 hx)).2 (h x (by simp [hx])))
    rw [List.length_erase_of_mem ha] at this
    have := List.length_pos_of_mem ha
    simp
    omega
/-- Of more numbers below n than n two are the same. -/
theorem fins_two {n : Nat} (f : Nat → Nat) (h : ∀ i, i ≤ n → f i < n) : ∃ i j, i < j ∧ j ≤ n ∧ f i = f j := by
  apply Classical.byContradiction
  intro hno
  have hnd : ((List.range (n + 1)).map f).Nodup := by
    unfold List.Nodup
    rw [List.pairwise_map]
    refine List.pairwise_iff_getElem.2 fun i j hi hj hij => ?_
    rw [List.getElem_range, List.getElem_range]
    rw [List.length_range] at hj
    exact fun e => hno ⟨i, j, hij, by omega, e⟩
  have := fins_sub hnd (K := List.range n) fun x hx => by
    obtain ⟨i, hi, rfl⟩ := List.mem_map.1 hx
    exact List.mem_range.2 (h i (by have := List.mem_range.1 hi; omega))
  simp at this
  omega
theorem fins_lt {m n : Nat} {N : List (List Int)} (hG : GoodN m n N) {s : Nat} (hs : s < n) {v : List Int} (hv : okW m v) : runF N s v < n := by
  induction v generalizing s with
  | nil => exact hs
  | cons x v ih =>
    have hx := hv x (by simp)
    exact ih (nxt_lt hG hs (show x.toNat < m by omega)) fun y hy => hv y (by simp [hy])
theorem fins_app (N : List (List Int)) (s : Nat) (u v : List Int) : runF N s (u ++ v) = runF N (runF N s u) v := by simp [runF, List.foldl_append]
/-- A long word that is taken is one with some letters left out, too. -/
theorem fins_cut {m n : Nat} {N : List (List Int)} {E : List Bool} (hG : GoodN m n N) {s : Nat} (hs : s < n) : ∀ (k : Nat) (v : List Int), v.length ≤ k → okW m v → n ≤ v.length → E.getD (runF N s v) false = true → ∃ u, n ≤ u.length ∧ u.length < 2 * n ∧ okW m u ∧ E.getD (runF N s u) false = true := by
  intro k
  have hn := hG.2.1
  induction k with
  | zero => intro v h1 _ h3; omega
  | succ k ih =>
    intro v h1 h2 h3 h4
    by_cases hlt : v.length < 2 * n
    · exact ⟨v, h3, hlt, h2, h4⟩
    · obtain ⟨i, j, hij, hjn, e⟩ := fins_two (n := n) (fun i => runF N s (v.take i)) fun i _ => fins_lt hG hs fun x hx => h2 x (List.mem_of_mem_take hx)
      have h5 : okW m (v.take i ++ v.drop j) := fun x hx => by
        rcases List.mem_append.1 hx with hx | hx
        · exact h2 x (List.mem_of_mem_take hx)
        · exact h2 x (List.mem_of_mem_drop hx)
      have h6 : (v.take i ++ v.drop j).length = i + (v.length - j) := by rw [List.length_append, List.length_take, List.length_drop]; omega
      refine ih (v.take i ++ v.drop j) (by omega) h5 (by omega) ?_
      have e' : runF N s (v.take i) = runF N s (v.take j) := e
      rw [fins_app, e', ← fins_app, List.take_append_drop]
      exact h4
/-- If Finite says so, no clean word that is taken has more letters than there are states. -/
theorem fins_end {b t : Int} {N : List (List Int)} {E : List Bool} {k : Nat} (hA : autoC b t N k = 0) (hE : E.length = k) (hf : finB N E k = true) {u : List Int} (h1 : takesB b t N E u = true) (h2 : runC b t N k u = 0) (h3 : u ≠ []) (h4 : u.getD 0 0 ≠ 0) : u.length ≤ k := by
  obtain ⟨-, hk, hG, -⟩ := autoC_zero hA
  have hm := fnd_mem hA hE h1 h2 fun _ => h4
  obtain ⟨-, g2, g3, -⟩ := (cln_mem hG 401 u).1 hm
  apply Classical.byContradiction
  intro hlong
  cases u with
  | nil => exact h3 rfl
  | cons x v =>
    have hx := g2 x (by simp)
    have hx0 : x ≠ 0 := h4
    have hs := nxt_lt hG hG.2.1 (show x.toNat < (manyU b t).toNat by omega)
    have hv : E.getD (runF N (nxt N 0 x.toNat) v) false = true := g3
    obtain ⟨w, w1, w2, w3, w4⟩ := fins_cut hG hs v.length v (Nat.le_refl _) (fun y hy => g2 y (by simp [hy])) (by simp at hlong; omega) hv
    have hhit : fnhB N E w.length = true := by
      unfold fnhB
      rw [List.any_eq_true]
      have hal : (alvR N E w.length).getD (nxt N 0 x.toNat) false = true := by
        rw [alv_iff hG _ _ hs]
        intro h0
        have : w ∈ wdsG N E false w.length (nxt N 0 x.toNat) := (wds_mem hG _ false _ hs w).2 ⟨rfl, w3, w4, fun h => by cases h⟩
        rw [h0] at this
        cases this
      obtain ⟨r1, r2⟩ := hG.2.2.2.2.2 0 hG.2.1
      have hxl : x.toNat < (N.getD 0 []).length := by omega
      refine ⟨(N.getD 0 [])[x.toNat], ?_, ?_⟩
      · obtain ⟨y, hy⟩ : ∃ y, x.toNat = y + 1 := ⟨x.toNat - 1, by omega⟩
        refine List.mem_iff_getElem.2 ⟨y, by rw [List.length_drop]; omega, ?_⟩
        rw [List.getElem_drop]
        congr 1
        omega
      · unfold nxt at hal
        rwa [getD_at _ _ hxl] at hal
    rw [fin_hit (by omega) (by omega) hhit] at hf
    cases hf
theorem thr_fin : finB thrN thrE 3 = false := by decide +kernel
def twoN : List (List Int) := [[1, 1], [1, 1]]
def twoE : List Bool := [true, false]
theorem two_fin : finB twoN twoE 2 = true := by decide +kernel
theorem thr_auto : autoC 2 1 thrN 3 = 0 := by decide +kernel
theorem two_auto : autoC 2 1 twoN 2 = 0 := by decide +kernel
end Go.Proofs.Ytpkjnkcdajngkaa
