/- Classes by marks, numbered as they come; the way back from a state to the beginning: mathematics. -/
import Derived.Test.YtihhlddbppljpacDoorBf
import Derived.Test.YtihhlddbppljpacDoorBn
import Derived.Test.YtihhlddbppljpacDoorMp
namespace Go.Proofs.YtihhlddbppljpacDoor
open Go.RowKit

/-- Numbers that part the states that are met as k rounds do. -/
def LvAt (N : List (List Int)) (E : List Bool) (m n k : Nat) (C : List Int) : Prop := C.length = n ∧ ∀ s ∈ metL N, ∀ t ∈ metL N, (C.getD s.toNat 0 = C.getD t.toNat 0 ↔ simB N E m k s.toNat t.toNat = true)
theorem lvAt_of {m n : Nat} {N : List (List Int)} {E : List Bool} {k : Nat} {C : List Int} (h : CAt N E m n k C) : LvAt N E m n k C := ⟨h.1, fun _ hs _ ht => cAt_iff E h hs ht⟩
theorem lvAt_one {m n : Nat} {N : List (List Int)} {E : List Bool} {C : List Int} (hl : C.length = n) (h : ∀ s ∈ metL N, C.getD s.toNat 0 = if E.getD s.toNat false = true then 1 else 0) : LvAt N E m n 1 C := by
  refine ⟨hl, fun s hs t ht => ?_⟩
  rw [h s hs, h t ht, simB_succ]
  cases E.getD s.toNat false <;> cases E.getD t.toNat false <;> simp [simB]
theorem sim_ends {N : List (List Int)} {E : List Bool} {m k s t : Nat} (hk : 1 ≤ k) (h : simB N E m k s t = true) : E.getD s false = E.getD t false := by
  obtain ⟨j, rfl⟩ : ∃ j, k = j + 1 := ⟨k - 1, by omega⟩
  exact (simB_succ.1 h).1

/-- A state's mark: its number, and those of its nexts, and 0s behind. -/
def markF (N : List (List Int)) (C : List Int) (m s q : Nat) : Int := if q = 0 then C.getD s 0 else if q ≤ m then C.getD (nxt N s (q - 1)) 0 else 0
def markV (N : List (List Int)) (C : List Int) (m : Nat) (s : Int) : Value := .agg ((Array.range 37).map fun q => Value.int .i64 (markF N C m s.toNat q))
theorem agg_inj {n : Nat} {f g : Nat → Int} (h : (Value.agg ((Array.range n).map fun q => Value.int .i64 (f q))) = .agg ((Array.range n).map fun q => Value.int .i64 (g q))) (q : Nat) (hq : q < n) : f q = g q := by
  injection h with h
  have h1 : ((Array.range n).map fun q => Value.int .i64 (f q))[q]? = ((Array.range n).map fun q => Value.int .i64 (g q))[q]? := by rw [h]
  simpa [hq] using h1
theorem mark_iff {m n : Nat} {N : List (List Int)} (hG : GoodN m n N) {E : List Bool} {k : Nat} {C : List Int} (hk : 1 ≤ k) (hC : LvAt N E m n k C) {s t : Int} (hs : s ∈ metL N) (ht : t ∈ metL N) : markV N C m s = markV N C m t ↔ simB N E m (k + 1) s.toNat t.toNat = true := by
  have hm := hG.2.2.2.1
  rw [simB_succ, ← hC.2 s hs t ht]
  have hn : ∀ j, j < m → (C.getD (nxt N s.toNat j) 0 = C.getD (nxt N t.toNat j) 0 ↔ simB N E m k (nxt N s.toNat j) (nxt N t.toNat j) = true) := fun j hj => by
    have := hC.2 _ (met_nxt hG hs j hj).1 _ (met_nxt hG ht j hj).1
    rwa [Int.toNat_natCast, Int.toNat_natCast] at this
  constructor
  · intro h
    have h0 := agg_inj h 0 (by omega)
    simp only [markF, if_pos] at h0
    refine ⟨sim_ends hk ((hC.2 s hs t ht).1 h0), h0, fun j hj => (hn j hj).1 ?_⟩
    have h1 := agg_inj h (j + 1) (by omega)
    simp only [markF] at h1
    rw [if_neg (Nat.succ_ne_zero j), if_pos (show j + 1 ≤ m by omega), if_neg (Nat.succ_ne_zero j), if_pos (show j + 1 ≤ m by omega)] at h1
    simpa using h1
  · rintro ⟨_, h1, h2⟩
    unfold markV
    congr 2
    funext q
    simp only [markF]
    split
    · rw [h1]
    · split
      · rw [(hn (q - 1) (by omega)).2 (h2 _ (by omega))]
      · rfl

/-- The numbers of marks, as they come. -/
def numF (mv : Int → Value) (reps : List Int) : List (Value × Value) := (List.range reps.length).map fun i => (mv (reps.getD i 0), Value.int .i64 (i : Int))
theorem numF_len (mv : Int → Value) (reps : List Int) : (numF mv reps).length = reps.length := by simp [numF]
theorem numF_none {mv : Int → Value} {reps : List Int} {s : Int} (h : ∀ r ∈ reps, mv r ≠ mv s) : ¬ mv s ∈ (numF mv reps).map Prod.fst := by
  simp only [numF, List.map_map, List.mem_map, List.mem_range, Function.comp, not_exists, not_and]
  intro i hi
  exact h _ (by rw [getD_at _ i hi]; exact List.getElem_mem hi)
theorem numF_put (mv : Int → Value) (reps : List Int) (s : Int) : numF mv reps ++ [(mv s, .int .i64 (reps.length : Int))] = numF mv (reps ++ [s]) := by
  unfold numF
  rw [List.length_append, List.length_singleton, List.range_succ, List.map_append]
  congr 1
  · apply List.map_congr_left
    intro i hi
    rw [List.mem_range] at hi
    rw [pre_getD (List.prefix_append _ _) i hi]
  · simp [List.getD]
theorem numF_some {mv : Int → Value} {R : Nat → Nat → Bool} {reps : List Int} {s : Int} (h : ∀ r ∈ reps, (mv r = mv s ↔ R s.toNat r.toNat = true)) (hs : ∃ r ∈ reps, R s.toNat r.toNat = true) : (mv s, Value.int .i64 ((clsL R reps s : Nat) : Int)) ∈ numF mv reps := by
  have hl := cls_lt hs
  have hr := cls_R hl
  refine List.mem_map.2 ⟨clsL R reps s, List.mem_range.2 hl, ?_⟩
  rw [(h _ (by rw [getD_at _ _ hl]; exact List.getElem_mem hl)).2 hr]

/-- A spot's two numbers. -/
def hiI (M s : Nat) : Int := ((s / M : Nat) : Int)
def loI (M s : Nat) : Int := ((s % M : Nat) : Int)
/-- Spots (a state of the one, a state of the other, of M), and how they were met. -/
def spotV (M : Nat) (s : Int) : Value := .agg #[.int .i64 (hiI M (s.toNat)), .int .i64 (loI M (s.toNat))]
theorem spotV_inj {M : Nat} {s t : Int} (hs : 0 ≤ s) (ht : 0 ≤ t) (h : spotV M s = spotV M t) : s = t := by
  unfold spotV at h
  injection h with h
  have h1 : (s.toNat / M : Nat) = t.toNat / M ∧ (s.toNat % M : Nat) = t.toNat % M := by
    have h0 := congrArg (fun a : Array Value => a[0]?) h
    have h1 := congrArg (fun a : Array Value => a[1]?) h
    simp only [List.getElem?_toArray, List.getElem?_cons_zero, List.getElem?_cons_succ, Option.some.injEq, Value.int.injEq, true_and] at h0 h1
    unfold hiI at h0
    unfold loI at h1
    exact ⟨Int.ofNat.inj h0, Int.ofNat.inj h1⟩
  have := Nat.div_add_mod s.toNat M
  have h2 := Nat.div_add_mod t.toNat M
  rw [h1.1, h1.2, h2] at this
  omega
end Go.Proofs.YtihhlddbppljpacDoor
