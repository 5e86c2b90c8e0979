/- Words that have names: mathematics of WordNamed. -/
import Derived.Test.YtcpnfbjcgaonkafDoorAc
import Derived.Test.YtcpnfbjcgaonkafDoorAm
import Derived.Test.YtcpnfbjcgaonkafDoorBf
import Derived.Test.YtcpnfbjcgaonkafDoorNx
import Derived.Test.YtcpnfbjcgaonkafDoorSr
import Derived.Test.YtcpnfbjcgaonkafDoorSt
import Derived.DeepKeys4
import Derived.Maps.OwnSet
namespace Go.Proofs.YtcpnfbjcgaonkafDoor
open Go.RowKit

def thN : List (List Int) := [[0, 1], [1, 0]]
def thO : List Int := [0, 1]
def ruN : List (List Int) := [[0, 1], [0, 2], [3, 1], [3, 2]]
def ruO : List Int := [0, 0, 1, 1]
def fiN : List (List Int) := [[0, 1], [0, 1]]
def fiO : List Int := [0, 1]
theorem th_mor : morC thN thO = 0 ∧ morK thN = 2 := by decide +kernel
theorem ru_mor : morC ruN ruO = 0 ∧ morK ruN = 2 := by decide +kernel
theorem th_out : outC 2 thN thO = 0 := by decide +kernel
theorem ru_out : outC 2 ruN ruO = 0 := by decide +kernel
theorem fi_out : outC 1 fiN fiO = 0 := by decide +kernel
theorem step_lt4 : ∀ s : Fin 4, ∀ x : Fin 2, stepL ruN s.val (x.val : Int) < 4 ∧ (ruO.getD (stepL ruN s.val (x.val : Int)) 0 = if x.val = 1 ∧ (s.val = 1 ∨ s.val = 2) then 1 - ruO.getD s.val 0 else ruO.getD s.val 0) ∧ ((stepL ruN s.val (x.val : Int) = 1 ∨ stepL ruN s.val (x.val : Int) = 2) ↔ x.val = 1) ∧ 0 ≤ ruO.getD s.val 0 ∧ ruO.getD s.val 0 ≤ 1 := by decide +kernel
theorem step_lt2 : ∀ s : Fin 2, ∀ x : Fin 2, stepL thN s.val (x.val : Int) < 2 ∧ (thO.getD (stepL thN s.val (x.val : Int)) 0 = if x.val = 1 then 1 - thO.getD s.val 0 else thO.getD s.val 0) ∧ 0 ≤ thO.getD s.val 0 ∧ thO.getD s.val 0 ≤ 1 := by decide +kernel
theorem step_fi : ∀ s : Fin 2, ∀ x : Fin 2, stepL fiN s.val (x.val : Int) = x.val := by decide +kernel
theorem run_bd {N : List (List Int)} {k : Nat} (hk : ∀ s, s < k → ∀ x : Int, 0 ≤ x → x < 2 → stepL N s x < k) (h0 : 0 < k) (l : List Int) (hl : ∀ x ∈ l, 0 ≤ x ∧ x < 2) : runL N l < k := by
  unfold runL
  suffices h : ∀ (l : List Int) (s : Nat), s < k → (∀ x ∈ l, 0 ≤ x ∧ x < 2) → l.foldl (stepL N) s < k from h l 0 h0 hl
  intro l
  induction l with
  | nil => exact fun s hs _ => hs
  | cons x l ih =>
    intro s hs hl
    exact ih _ (hk s hs x (hl x (by simp)).1 (hl x (by simp)).2) (fun y hy => hl y (by simp [hy]))
theorem dgs_two {b n : Int} (hb : b = 1 ∨ b = 2) (hn : 0 ≤ n) (hm : n ≤ 1099511627776) : ∀ x ∈ dgs b n, 0 ≤ x ∧ x < 2 := fun x hx => by
  have h := digB_nn (dgs_digB b n (by omega) (by omega) hn hm) x hx
  have hk : kindsI b = 2 := by unfold kindsI; rcases hb with h | h <;> subst h <;> rfl
  omega
theorem ru_lt {n : Int} (hn : 0 ≤ n) (hm : n ≤ 1099511627776) : runL ruN (dgs 2 n) < 4 :=
  run_bd (fun s hs x h0 h2 => by
    have := (step_lt4 ⟨s, hs⟩ ⟨x.toNat, by omega⟩).1
    rw [show ((x.toNat : Nat) : Int) = x by omega] at this
    exact this) (by decide) _ (dgs_two (Or.inr rfl) hn hm)
theorem th_lt {n : Int} (hn : 0 ≤ n) (hm : n ≤ 1099511627776) : runL thN (dgs 2 n) < 2 :=
  run_bd (fun s hs x h0 h2 => by
    have := (step_lt2 ⟨s, hs⟩ ⟨x.toNat, by omega⟩).1
    rw [show ((x.toNat : Nat) : Int) = x by omega] at this
    exact this) (by decide) _ (dgs_two (Or.inr rfl) hn hm)
/-- What thue and rudin say. -/
def thS (n : Int) : Int := sayN 2 thN thO n
def ruS (n : Int) : Int := sayN 2 ruN ruO n
theorem thS_zero : thS 0 = 0 ∧ ruS 0 = 0 := by
  unfold thS ruS sayN
  rw [dgs_zero (by decide) (by decide)]
  exact ⟨rfl, rfl⟩
theorem half_run (N : List (List Int)) (h0 : (N.getD 0 []).getD 0 0 = 0) {n : Int} (hn : 0 ≤ n) (hm : n ≤ 1099511627776) : runL N (dgs 2 n) = stepL N (runL N (dgs 2 (n / 2))) (n % 2) := by
  have h := run_next (b := 2) (n := n / 2) (d := n % 2) (R := N) (by decide) (by decide) (by omega) (by omega) (by omega) h0
  rw [show n / 2 * 2 + n % 2 = n by omega] at h
  exact h
theorem thS_bd {n : Int} (hn : 0 ≤ n) (hm : n ≤ 1099511627776) : 0 ≤ thS n ∧ thS n ≤ 1 := (step_lt2 ⟨_, th_lt hn hm⟩ 0).2.2
theorem ruS_bd {n : Int} (hn : 0 ≤ n) (hm : n ≤ 1099511627776) : 0 ≤ ruS n ∧ ruS n ≤ 1 := (step_lt4 ⟨_, ru_lt hn hm⟩ 0).2.2.2
theorem thS_half {n : Int} (hn : 0 ≤ n) (hm : n ≤ 1099511627776) : thS n = if n % 2 = 1 then 1 - thS (n / 2) else thS (n / 2) := by
  have h := (step_lt2 ⟨_, th_lt (n := n / 2) (by omega) (by omega)⟩ ⟨(n % 2).toNat, by omega⟩).2.1
  have e : (((n % 2).toNat : Nat) : Int) = n % 2 := by omega
  simp only [e] at h
  have hr := half_run thN rfl hn hm
  have e2 : thS n = thO.getD (runL thN (dgs 2 n)) 0 := rfl
  have e3 : thS (n / 2) = thO.getD (runL thN (dgs 2 (n / 2))) 0 := rfl
  rw [e2, hr, h, e3]
  by_cases hx : n % 2 = 1
  · rw [if_pos hx, if_pos (by omega)]
  · rw [if_neg hx, if_neg (by omega)]
theorem ruS_half {n : Int} (hn : 0 ≤ n) (hm : n ≤ 1099511627776) : ruS n = if n % 4 = 3 then 1 - ruS (n / 2) else ruS (n / 2) := by
  have h := (step_lt4 ⟨_, ru_lt (n := n / 2) (by omega) (by omega)⟩ ⟨(n % 2).toNat, by omega⟩).2.1
  have e : (((n % 2).toNat : Nat) : Int) = n % 2 := by omega
  simp only [e] at h
  have hr := half_run ruN rfl hn hm
  have h2 := (step_lt4 ⟨_, ru_lt (n := n / 2 / 2) (by omega) (by omega)⟩ ⟨(n / 2 % 2).toNat, by omega⟩).2.2.1
  have e' : (((n / 2 % 2).toNat : Nat) : Int) = n / 2 % 2 := by omega
  simp only [e'] at h2
  have hr2 := half_run ruN rfl (n := n / 2) (by omega) (by omega)
  rw [← hr2] at h2
  have e2 : ruS n = ruO.getD (runL ruN (dgs 2 n)) 0 := rfl
  have e3 : ruS (n / 2) = ruO.getD (runL ruN (dgs 2 (n / 2))) 0 := rfl
  rw [e2, hr, h, e3]
  by_cases hx : n % 4 = 3
  · rw [if_pos hx, if_pos ⟨by omega, h2.2 (by omega)⟩]
  · rw [if_neg hx, if_neg (fun hc => by have := h2.1 hc.2; have := hc.1; omega)]
/-- fibo says the last digit. -/
theorem fi_last {n : Int} (hn : 0 ≤ n) (hm : n ≤ 1099511627776) : sayN 1 fiN fiO n = if 0 < (dgs 1 n).length then (dgs 1 n).getD ((dgs 1 n).length - 1) 0 else 0 := by
  have hd := dgs_two (b := 1) (Or.inl rfl) hn hm
  show fiO.getD (runL fiN (dgs 1 n)) 0 = _
  generalize dgs 1 n = l at hd
  have hlt : ∀ l : List Int, (∀ x ∈ l, 0 ≤ x ∧ x < 2) → runL fiN l < 2 := fun l hl => run_bd (fun s hs x h0 h2 => by
    have := step_fi ⟨s, hs⟩ ⟨x.toNat, by omega⟩
    rw [show ((x.toNat : Nat) : Int) = x by omega] at this
    rw [this]; show x.toNat < 2; omega) (by decide) _ hl
  rcases List.eq_nil_or_concat l with h | ⟨v, x, h⟩
  · subst h; rfl
  · rw [List.concat_eq_append] at h
    subst h
    have hx := hd x (by simp)
    have hv := hlt v (fun y hy => hd y (by simp [hy]))
    have := step_fi ⟨runL fiN v, hv⟩ ⟨x.toNat, by omega⟩
    rw [show ((x.toNat : Nat) : Int) = x by omega] at this
    rw [runL_snoc, this, if_pos (by simp)]
    rw [show (v ++ [x]).getD ((v ++ [x]).length - 1) 0 = x by simp [List.getD]]
    have : x = 0 ∨ x = 1 := by omega
    rcases this with h | h <;> subst h <;> rfl
end Go.Proofs.YtcpnfbjcgaonkafDoor
