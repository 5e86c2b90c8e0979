/- Sums as texts, part by part and joined; digits as the library writes them: mathematics. -/
import Derived.Lib.ItoaNum
import Derived.Lib.Join
import Derived.Test.YtafbggbdlcfbdaaGreatDoorZPa
namespace Go.Proofs.YtafbggbdlcfbdaaGreatDoor
open Go.RowKit

theorem dec_lib {n : Nat} (h : n < 100) : Lib.decDigits n = decL n := by
  by_cases h1 : n < 10
  · rw [Lib.decDigits_one h1, decL_small h1]; rfl
  · rw [Lib.decDigits_two h1 h, decL_step h1 (by have : (10 : Nat) ^ 20 = 100000000000000000000 := rfl; omega), decL_small (by omega : n / 10 < 10)]; rfl
/-- The parts of one side of a sum: its first k variables. -/
def sidP (cf : List Int) (sg : Int) : Nat → List (List UInt8)
  | 0 => []
  | k + 1 => if sg * cf.getD k 0 < 1 then sidP cf sg k else sidP cf sg k ++ [partT k (sg * cf.getD k 0)]
def sidA (cf : List Int) (num sg : Int) : List (List UInt8) := if sg * num > 0 then sidP cf sg cf.length ++ [decL (sg * num).toNat] else sidP cf sg cf.length
theorem sidP_len (cf : List Int) (sg : Int) : ∀ k, (sidP cf sg k).length ≤ k := by
  intro k
  induction k with
  | zero => simp [sidP]
  | succ k ih =>
    rw [sidP]
    split
    · omega
    · simp; omega
theorem sidA_len (cf : List Int) (num sg : Int) : (sidA cf num sg).length ≤ cf.length + 1 := by
  have := sidP_len cf sg cf.length
  unfold sidA
  split
  · simp; omega
  · omega
theorem joinTail_app (sep : List UInt8) (r : List (List UInt8)) (p : List UInt8) : Lib.joinTail sep (r ++ [p]) = Lib.joinTail sep r ++ (sep ++ p) := by simp [Lib.joinTail]
theorem join_end (xs : List (List UInt8)) (p : List UInt8) (h : xs ≠ []) : Lib.join (xs ++ [p]) [43] = (Lib.join xs [43] ++ [43]) ++ p := by
  cases xs with
  | nil => exact absurd rfl h
  | cons x r => rw [List.cons_append, Lib.join_cons, Lib.join_cons, joinTail_app]; simp
theorem join_pos (xs : List (List UInt8)) (h : ∀ x ∈ xs, 1 ≤ x.length) (hx : xs ≠ []) : (Lib.join xs [43]).length ≠ 0 := by
  cases xs with
  | nil => exact absurd rfl hx
  | cons x r =>
    have := h x (by simp)
    rw [Lib.join_cons, List.length_append]
    omega
theorem join_step (xs : List (List UInt8)) (h : ∀ x ∈ xs, 1 ≤ x.length) (p : List UInt8) : Lib.join (xs ++ [p]) [43] = joinT (Lib.join xs [43]) p := by
  unfold joinT
  by_cases hx : xs = []
  · subst hx
    rw [if_pos (by rw [Lib.join_nil]; rfl), List.nil_append, Lib.join_one]
  · rw [if_neg (join_pos xs h hx), join_end xs p hx]
theorem sidP_pos (cf : List Int) (sg : Int) : ∀ k, ∀ x ∈ sidP cf sg k, 1 ≤ x.length := by
  intro k
  induction k with
  | zero => intro x hx; cases hx
  | succ k ih =>
    intro x hx
    rw [sidP] at hx
    split at hx
    · exact ih x hx
    · rcases List.mem_append.1 hx with hx | hx
      · exact ih x hx
      · rw [List.mem_singleton] at hx; subst hx; exact (partT_len _ _).1
theorem sidP_join (cf : List Int) (sg : Int) : ∀ k, Lib.join (sidP cf sg k) [43] = sideK cf sg k := by
  intro k
  induction k with
  | zero => rfl
  | succ k ih =>
    rw [sidP, sideK]
    split
    · exact ih
    · rw [join_step _ (sidP_pos cf sg k), ih]
theorem sidA_pos (cf : List Int) (num sg : Int) : ∀ x ∈ sidA cf num sg, 1 ≤ x.length := by
  intro x hx
  unfold sidA at hx
  split at hx
  · rcases List.mem_append.1 hx with hx | hx
    · exact sidP_pos _ _ _ x hx
    · rw [List.mem_singleton] at hx; subst hx; exact (decL_len _).1
  · exact sidP_pos _ _ _ x hx
theorem sidA_join (cf : List Int) (num sg : Int) : Lib.join (sidA cf num sg) [43] = sideM cf num sg := by
  unfold sidA sideM
  split
  · rw [join_step _ (sidP_pos cf sg _), sidP_join]
  · exact sidP_join _ _ _
theorem sidT_none {cf : List Int} {num sg : Int} (h : sidA cf num sg = []) : sideT cf num sg = [48] := by
  unfold sideT
  rw [← sidA_join, h, Lib.join_nil]; rfl
theorem sidT_some {cf : List Int} {num sg : Int} (h : sidA cf num sg ≠ []) : sideT cf num sg = Lib.join (sidA cf num sg) [43] := by
  unfold sideT
  rw [← sidA_join, if_neg (join_pos _ (sidA_pos _ _ _) h)]
theorem sidA_all (cf : List Int) (num sg : Int) : (Lib.join (sidA cf num sg) [43]).length ≤ 23 * cf.length + 22 := by rw [sidA_join]; exact sideM_len _ _ _
end Go.Proofs.YtafbggbdlcfbdaaGreatDoor
