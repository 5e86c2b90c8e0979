/- What is listed: mathematics of AskFinds. -/
import Derived.Test.YtpkjnkcdajngkaaAkk
namespace Go.Proofs.Ytpkjnkcdajngkaa
open Go.RowKit

theorem listC_zero {b t : Int} {N : List (List Int)} {k : Nat} {most : Int} (h : listC b t N k most = 0) : autoC b t N k = 0 ∧ 0 ≤ most ∧ most ≤ 200 := by
  unfold listC at h
  split at h
  · rename_i h0
    exact absurd h h0
  · rename_i h0
    split at h
    · omega
    · exact ⟨by simpa using h0, by omega, by omega⟩
theorem getDl {l : List (List Int)} {i : Nat} (h : i < l.length) : l.getD i [] = l[i] := by
  show (l[i]?).getD [] = _
  rw [List.getElem?_eq_getElem h]
  rfl
theorem fnd_word {m : Nat} {l : List Int} (h : okW m l) (hl : l.length ≤ 400) : wordC m l = 0 := wordC_good (by omega) fun k hk => h _ (by rw [getD_at _ k hk]; exact List.getElem_mem _)
theorem fnd_okW {m : Nat} {l : List Int} (h : wordC m l = 0) : okW m l ∧ l.length ≤ 400 := by
  obtain ⟨h1, h2⟩ := wordC_zero h
  refine ⟨fun x hx => ?_, h1⟩
  obtain ⟨i, hi, rfl⟩ := List.getElem_of_mem hx
  rw [← getD_at _ i hi]
  exact h2 i hi
theorem fnd_takes {b t : Int} {N : List (List Int)} {E : List Bool} {k : Nat} (hA : autoC b t N k = 0) (hE : E.length = k) {l : List Int} (h : wordC (manyU b t).toNat l = 0) : takesB b t N E l = tkB N E l ∧ runC b t N k l = 0 := by
  have hr : runC b t N k l = 0 := by unfold runC; rw [if_pos hA]; exact h
  refine ⟨?_, hr⟩
  unfold takesB tkB
  rw [hE, if_pos hr]
section
variable {b t : Int} {N : List (List Int)} {E : List Bool} {k mst : Nat}
theorem fnd_each (hA : autoC b t N k = 0) (hE : E.length = k) {i : Nat} (hi : i < ((clnL N E 401).take mst).length) :
    takesB b t N E (((clnL N E 401).take mst).getD i []) = true ∧ runC b t N k (((clnL N E 401).take mst).getD i []) = 0 ∧ (0 < (((clnL N E 401).take mst).getD i []).length → (((clnL N E 401).take mst).getD i []).getD 0 0 ≠ 0) := by
  obtain ⟨-, hk, hG, -⟩ := autoC_zero hA
  have hm : ((clnL N E 401).take mst).getD i [] ∈ clnL N E 401 := by
    rw [getDl hi]
    exact List.mem_of_mem_take (List.getElem_mem hi)
  generalize ((clnL N E 401).take mst).getD i [] = l at hm
  obtain ⟨h1, h2, h3, h4⟩ := (cln_mem hG 401 l).1 hm
  obtain ⟨g1, g2⟩ := fnd_takes hA hE (fnd_word h2 (by omega))
  refine ⟨by rw [g1]; exact h3, g2, fun hp => ?_⟩
  cases l with
  | nil => simp at hp
  | cons x l => exact h4
theorem fnd_ahead (hA : autoC b t N k = 0) {i : Nat} (hi : i + 1 < ((clnL N E 401).take mst).length) :
    aheadB (((clnL N E 401).take mst).getD i []) (((clnL N E 401).take mst).getD (i + 1) []) = true := by
  obtain ⟨-, hk, hG, -⟩ := autoC_zero hA
  have h := (cln_sorted (E := E) hG 401).sublist (List.take_sublist mst _)
  have := List.pairwise_iff_getElem.1 h i (i + 1) (by omega) hi (by omega)
  rw [getDl hi, getDl (by omega)]
  exact this
theorem fnd_mem (hA : autoC b t N k = 0) (hE : E.length = k) {u : List Int} (h1 : takesB b t N E u = true) (h2 : runC b t N k u = 0) (h3 : 0 < u.length → u.getD 0 0 ≠ 0) : u ∈ clnL N E 401 := by
  obtain ⟨-, hk, hG, -⟩ := autoC_zero hA
  have hw : wordC (manyU b t).toNat u = 0 := by unfold runC at h2; rwa [if_pos hA] at h2
  obtain ⟨q1, q2⟩ := fnd_okW hw
  obtain ⟨g1, -⟩ := fnd_takes hA hE hw
  refine (cln_mem hG 401 u).2 ⟨by omega, q1, by rw [← g1]; exact h1, ?_⟩
  cases u with
  | nil => simp
  | cons x u => exact h3 (by simp)
theorem fnd_end (hA : autoC b t N k = 0) {u : List Int} (hu : u ∈ clnL N E 401) (hn : ¬ (((clnL N E 401).take mst).length = mst ∧ (mst = 0 ∨ aheadB (((clnL N E 401).take mst).getD (mst - 1) []) u = true))) : ∃ i, i < ((clnL N E 401).take mst).length ∧ ((clnL N E 401).take mst).getD i [] = u := by
  obtain ⟨-, hk, hG, -⟩ := autoC_zero hA
  have hs := cln_sorted (E := E) hG 401
  generalize clnL N E 401 = C at hu hn hs ⊢
  obtain ⟨j, hj, rfl⟩ := List.getElem_of_mem hu
  by_cases h : j < mst
  · have hl : j < (C.take mst).length := by rw [List.length_take]; omega
    exact ⟨j, hl, by rw [getDl hl, List.getElem_take]⟩
  · exfalso
    have hl : (C.take mst).length = mst := by rw [List.length_take]; omega
    refine hn ⟨hl, ?_⟩
    by_cases h0 : mst = 0
    · exact Or.inl h0
    · right
      have := List.pairwise_iff_getElem.1 hs (mst - 1) j (by omega) hj (by omega)
      have e : (C.take mst).getD (mst - 1) [] = C[mst - 1]'(by omega) := by
        rw [getDl (by omega), List.getElem_take]
      rw [e]
      exact this
end
end Go.Proofs.Ytpkjnkcdajngkaa
