/- The contract of digit.withoutZeros. -/
import Derived.Test.YtdfgeihlpkpknabD
import Derived.OwnWalk
namespace Go.Proofs.Ytdfgeihlpkpknab
open Go.RowKit

def iArr (d : List Int) : Array Value := (d.map (Value.int .i64)).toArray
theorem iArr_size (d : List Int) : (iArr d).size = d.length := by simp [iArr]
theorem iArr_get (d : List Int) (k : Nat) (h : k < d.length) : (iArr d)[k]? = some (.int .i64 (d.getD k 0)) := by simp [iArr, h]
theorem iArr_one (d : List Int) : (iArr d).all (·.oneCell') = true := by simp [iArr, Value.oneCell']

def dropZ (d : List Int) : List Int := d.dropWhile (· == 0)
theorem dropZ_eq : ∀ (d : List Int) (k : Nat), k ≤ d.length → (∀ j, j < k → d.getD j 0 = 0) → (k < d.length → d.getD k 0 ≠ 0) → dropZ d = d.drop k := by
  intro d
  induction d with
  | nil => intro k hk _ _; simp at hk; subst hk; rfl
  | cons x r ih =>
    intro k hk h0 h1
    cases k with
    | zero =>
      have : x ≠ 0 := by simpa using h1 (by simp)
      simp [dropZ, this]
    | succ k =>
      have hx : x = 0 := by simpa using h0 0 (by omega)
      have := ih k (by simpa using hk) (fun j hj => by simpa using h0 (j + 1) (by omega)) (fun hj => by simpa using h1 (by simpa using hj))
      simp only [dropZ] at this
      simp [dropZ, hx, this]

/-- .. and lies in a block from base on. -/
def SlN (base : Nat) (w : World) (a : Option Addr) (len : Nat) (l : List Int) : Prop := Sl w a len l ∧ ∀ ad, a = some ad → base ≤ ad.block
theorem SlN.mono {base base' : Nat} {w : World} {a : Option Addr} {len : Nat} {l : List Int} (h : SlN base w a len l) (hb : base' ≤ base) : SlN base' w a len l := ⟨h.1, fun ad e => Nat.le_trans hb (h.2 ad e)⟩

/-- A row of the call's own reads as its numbers. -/
theorem sl_of_owns {w : World} {base : Nat} {v : Value} {n : Nat} {l : List Int} (hl : l.length = n) (hm : n ≤ maxLen) (hw : ∀ x ∈ l, (Lit.int .i64 x).wf = true)
    (h : w.ownsRow base 3 1 v n (l.map (Value.int .i64))) : ∃ a cap, v = .slice a n cap ∧ SlN base w a n l := by
  obtain ⟨h1, h2⟩ := h
  rcases h2 with ⟨rfl, rfl⟩ | ⟨g, cap, cur, rfl, hg, hh, hc, hcm, hcs, ht⟩
  · exact ⟨none, 0, rfl, ⟨hl, hm, hw, Or.inl rfl⟩, fun _ h => by cases h⟩
  · refine ⟨_, _, rfl, ⟨hl, hm, hw, Or.inr ⟨g, 0, rfl, fun i hi => ?_⟩⟩, fun ad h => by cases h; exact hg⟩
    rw [cell_of_row w g (0 + i) cur 3 (0, 0) hh, Nat.zero_add]
    have h3 : (cur.toList.take (n * 1))[i]? = (l.map (Value.int .i64))[i]? := by rw [ht]
    rw [List.getElem?_take, if_pos (by omega)] at h3
    rw [Array.getElem?_toList] at h3
    rw [h3]
    simp [List.getD, hl, hi]

theorem info3 : (Try.prog.info? 3).map (fun i => (i.zero, i.size, i.bytes)) = some (some (.int .i64 0), 1, 8) := by kernel_rfl

/-- A slice with the numbers l is handed back; nothing that was there has turned. -/
def GivesRow (w : World) (l : List Int) (e : Ending) (w' : World) : Prop := ∃ a cap, e = .returned (.slice a l.length cap) ∧ SlN w.heap.size w' a l.length l ∧ Below w.heap.size w w'

theorem gives_of {w w3 : World} {d : List Int} {k : Nat} {v : Value} {o : Obj} (hL : d.length = 60) (hwf : ∀ x ∈ d, (Lit.int .i64 x).wf = true) (hE : dropZ d = d.drop k)
    (hown : w3.ownsRow w.heap.size 3 1 v (0 + (60 - k)) ([] ++ (d.drop k).map (Value.int .i64))) (hg : (w.alloc o).grownBy w3 none) : GivesRow w (dropZ d) (.returned v) w3 := by
  have hl : (d.drop k).length = 60 - k := by simp [hL]
  rw [Nat.zero_add, List.nil_append] at hown
  obtain ⟨a, cap, rfl, hs⟩ := sl_of_owns (l := d.drop k) hl (by unfold maxLen; omega) (fun x hx => hwf x (List.mem_of_mem_drop hx)) hown
  refine ⟨a, cap, by rw [hE, hl], by rw [hE, hl]; exact hs, ?_⟩
  exact Below.grown ((Below.refl _ _).alloc (Nat.le_refl _) o) hg (by simp) (fun k h => by cases h)

end Go.Proofs.Ytdfgeihlpkpknab
