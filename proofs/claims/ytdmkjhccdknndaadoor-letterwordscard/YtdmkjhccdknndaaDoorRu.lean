/- Package digit's contracts, whatever is handed in: one a function. -/
import Derived.Test.YtdmkjhccdknndaaDoorO
import Derived.Test.YtdmkjhccdknndaaDoorU
namespace Go.Proofs.YtdmkjhccdknndaaDoor
open Go.RowKit

def errV (c : Int) : Value := if c = 0 then .nilIface else .iface 27 (.int .i64 c)
def codeN (b n : Int) : Int := if (1 ≤ b ∧ b ≤ 6) ∧ 0 ≤ n ∧ n ≤ 1099511627776 then 0 else 1
def numL (b n : Int) : List Int := if (1 ≤ b ∧ b ≤ 6) ∧ 0 ≤ n ∧ n ≤ 1099511627776 then dgs b n else []
def codeD (b : Int) (l : List Int) : Int := if 1 ≤ b ∧ b ≤ 6 then (if l.length ≤ 60 then (if digB b l = true then 0 else 1) else 3) else 1
def codeV (b : Int) (l : List Int) : Int := if codeD b l = 0 then (if val b l ≤ 1099511627776 then 0 else 3) else codeD b l
def valU (b : Int) (l : List Int) : Int := if codeV b l = 0 then val b l else 0

def OfU (w : World) (l : List Int) (er : Value) (e : Ending) (w' : World) : Prop := ∃ a cap, e = .returned (.tuple #[.slice a l.length cap, er]) ∧ SlN w.heap.size w' a l.length l ∧ Below w.heap.size w w'
theorem of_u (b n : Int) (w : World) : Calls Tryd.prog 6 #[.int .i64 b, .int .i64 n] w (OfU w (numL b n) (errV (codeN b n))) := by
  unfold numL codeN
  by_cases h : (1 ≤ b ∧ b ≤ 6) ∧ 0 ≤ n ∧ n ≤ 1099511627776
  · rw [if_pos h, if_pos h]
    exact of_ok b n w h.1.1 h.1.2 h.2.1 h.2.2
  · rw [if_neg h, if_neg h]
    have hc : Calls Tryd.prog 6 #[.int .i64 b, .int .i64 n] w fun e w' => e = .returned (.tuple #[.slice none 0 0, .iface 27 (.int .i64 1)]) ∧ w' = w := by
      by_cases hb : 1 ≤ b ∧ b ≤ 6
      · exact of_far b n w hb.1 hb.2 (by omega)
      · exact of_range b n w (by omega)
    refine hc.mono ?_
    rintro e w' ⟨rfl, rfl⟩
    exact ⟨none, 0, rfl, ⟨sl_nil _, fun _ h => by cases h⟩, Below.refl _ _⟩

theorem right_u (b : Int) (a : Option Addr) (len cap : Nat) (l : List Int) (w : World) (hs : Sl w a len l) :
    Calls Tryd.prog 11 #[.int .i64 b, .slice a len cap] w fun e w' => e = .returned (.tuple #[.bool (decide (codeD b l = 0) && rightB b l), errV (codeD b l)]) ∧ w' = w := by
  unfold codeD
  have hL := hs.1
  by_cases hb : 1 ≤ b ∧ b ≤ 6
  · rw [if_pos hb]
    by_cases hl : l.length ≤ 60
    · rw [if_pos hl]
      cases hd : digB b l with
      | true => simpa [errV] using right_ok b a len cap l w hb.1 hb.2 (by omega) hs hd
      | false => simpa [errV] using right_bad b a len cap l w hb.1 hb.2 (by omega) hs hd
    · rw [if_neg hl]
      simpa [errV] using right_full b a len cap w hb.1 hb.2 (by omega) hs.2.1
  · rw [if_neg hb]
    simpa [errV] using right_range b a len cap w (by omega)

theorem value_u (b : Int) (a : Option Addr) (len cap : Nat) (l : List Int) (w : World) (hs : Sl w a len l) :
    Calls Tryd.prog 14 #[.int .i64 b, .slice a len cap] w fun e w' => e = .returned (.tuple #[.int .i64 (valU b l), errV (codeV b l)]) ∧ Below w.heap.size w w' := by
  unfold valU codeV codeD
  have hL := hs.1
  by_cases hb : 1 ≤ b ∧ b ≤ 6
  · rw [if_pos hb]
    by_cases hl : l.length ≤ 60
    · rw [if_pos hl]
      cases hd : digB b l with
      | true =>
        have := value_ok b a len cap l w hb.1 hb.2 (by omega) hs hd
        unfold valV at this
        by_cases hv : val b l ≤ 1099511627776
        · simpa [errV, hv] using this
        · simpa [errV, hv] using this
      | false => simpa [errV] using same_world (value_bad b a len cap l w hb.1 hb.2 (by omega) hs hd)
    · rw [if_neg hl]
      simpa [errV] using same_world (value_full b a len cap w hb.1 hb.2 (by omega) hs.2.1)
  · rw [if_neg hb]
    simpa [errV] using same_world (value_range b a len cap w (by omega))

/-- What Less tells: the first one's fault, else the second one's. -/
def codeL (c c' : Int) : Int := if c = 0 then c' else c
def lessL (c c' v v' : Int) : Bool := decide (c = 0) && (decide (c' = 0) && decide (v < v'))
theorem less_u (b : Int) (a a' : Option Addr) (len cap len' cap' : Nat) (l l' : List Int) (w : World) (hs : Sl w a len l) (hs' : Sl w a' len' l') :
    Calls Tryd.prog 15 #[.int .i64 b, .slice a len cap, .slice a' len' cap'] w fun e w' => e = .returned (.tuple #[.bool (lessL (codeV b l) (codeV b l') (valU b l) (valU b l')), errV (codeL (codeV b l) (codeV b l'))]) ∧ Below w.heap.size w w' := by
  have h1 := value_u b a len cap l w hs
  have h2 := fun W (hW : Below w.heap.size w W) => value_u b a' len' cap' l' W (sl_below hs' hW)
  have e1 : codeV b l ≠ 0 → valU b l = 0 := fun h => by unfold valU; rw [if_neg h]
  have e2 : codeV b l' ≠ 0 → valU b l' = 0 := fun h => by unfold valU; rw [if_neg h]
  generalize codeV b l = c at h1 e1 ⊢
  generalize codeV b l' = c' at h2 e2 ⊢
  generalize valU b l = v at h1 e1 ⊢
  generalize valU b l' = v' at h2 e2 ⊢
  by_cases h : c = 0
  · subst h
    by_cases h' : c' = 0
    · subst h'
      simpa [errV, lessL, codeL] using less_ok b a a' len cap len' cap' w v v' (by simpa [errV] using h1) (by simpa [errV] using h2)
    · have := less_snd b a a' len cap len' cap' w v c' (by simpa [errV] using h1) (by simpa [errV, h', e2 h'] using h2)
      simpa [errV, lessL, codeL, h'] using this
  · have := less_fst b a a' len cap len' cap' w c (by simpa [errV, h, e1 h] using h1)
    simpa [errV, lessL, codeL, h] using this
end Go.Proofs.YtdmkjhccdknndaaDoor
