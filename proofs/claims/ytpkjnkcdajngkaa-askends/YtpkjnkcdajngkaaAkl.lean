/- What is listed: mathematics of AskFinds. -/
import Derived.Test.YtpkjnkcdajngkaaAkk
namespace Go.Proofs.Ytpkjnkcdajngkaa
open Go.RowKit

theorem fnd_okW {m : Nat} {l : List Int} (h : wordC m l = 0) : okW m l ∧ l.length ≤ 400 := by
  obtain ⟨h1, h2⟩ := wordC_zero h
  refine ⟨fun x hx => ?_, h1⟩
  obtain ⟨i, hi, rfl⟩ := List.getElem_of_mem hx
  rw [← getD_at _ i hi]
  exact h2 i hi
theorem fnd_takes {b t : Int} {N : List (List Int)} {E : List Bool} {k : Nat} (hA : autoC b t N k = 0) (hE : E.length = k) {l : List Int} (h : wordC (manyU b t).toNat l = 0) : takesB b t N E l = tkB N E l ∧ runC b t N k l = 0 := by
  have hr : runC b t N k l = 0 := by unfold runC; rw [if_pos hA]; exact h
  refine ⟨?_, hr⟩
  unfold takesB tkB
  rw [hE, if_pos hr]
section
variable {b t : Int} {N : List (List Int)} {E : List Bool} {k mst : Nat}
theorem fnd_mem (hA : autoC b t N k = 0) (hE : E.length = k) {u : List Int} (h1 : takesB b t N E u = true) (h2 : runC b t N k u = 0) (h3 : 0 < u.length → u.getD 0 0 ≠ 0) : u ∈ clnL N E 401 := by
  obtain ⟨-, hk, hG, -⟩ := autoC_zero hA
  have hw : wordC (manyU b t).toNat u = 0 := by unfold runC at h2; rwa [if_pos hA] at h2
  obtain ⟨q1, q2⟩ := fnd_okW hw
  obtain ⟨g1, -⟩ := fnd_takes hA hE hw
  refine (cln_mem hG 401 u).2 ⟨by omega, q1, by rw [← g1]; exact h1, ?_⟩
  cases u with
  | nil => simp
  | cons x u => exact h3 (by simp)
end
end Go.Proofs.Ytpkjnkcdajngkaa
