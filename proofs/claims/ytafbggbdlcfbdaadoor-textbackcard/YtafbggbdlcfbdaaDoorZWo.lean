/- 2 texts in one. -/
import Derived.Test.YtafbggbdlcfbdaaDoorNu
import Derived.Test.YtafbggbdlcfbdaaDoorZWi
/- The reference's formAt: what it hands back. -/
namespace Go.Proofs.YtafbggbdlcfbdaaDoor
open Go.RowKit

theorem sumA_pos {s : List UInt8} {sg : Int} {f i : Nat} {cf : List Int} {nm : Int} (h : (sumA s sg f i cf nm).ok = true) (hc : cf.length = 5) : i < (sumA s sg f i cf nm).e := by
  cases f with
  | zero => cases h
  | succ f =>
    rcases hp : partA s i with _ | ⟨v, m, j⟩
    · rw [sumA_none hp] at h; cases h
    · obtain ⟨-, b2, b3, -⟩ := partA_bd hp
      rw [sumA_some hp]
      split
      · rename_i h43
        have hl : j < s.length := bt_in (by rw [h43]; decide)
        have := (sumA_bd s sg f (j + 1) (putC sg v m cf) (putN sg v m nm) hl (by rw [putC_len]; exact hc)).1
        omega
      · exact b2
theorem atomA_pos {s : List UInt8} {i : Nat} {n : Nd} (hi : i ≤ s.length) (h : (atomA s i).1 = some n) : i < (atomA s i).2 := by
  unfold atomA at h ⊢
  by_cases h1 : bt s i = 64
  · rw [if_pos h1] at h ⊢
    obtain ⟨p1, p2, -, -⟩ := spotA_bd (s := s) hi
    by_cases h2 : (spotA s i).ok = true
    · rw [if_pos h2] at h ⊢
      by_cases h3 : bt s (spotA s i).e = 61
      · have l3 : (spotA s i).e < s.length := bt_in (by rw [h3]; decide)
        rw [if_pos h3] at h ⊢
        by_cases h4 : bt s ((spotA s i).e + 1) = 64
        · rw [if_pos h4] at h ⊢
          obtain ⟨q1, q2, -, -⟩ := spotA_bd (s := s) (i := (spotA s i).e + 1) l3
          split <;> simp only [] <;> omega
        · rw [if_neg h4] at h ⊢
          by_cases h5 : isDg (bt s ((spotA s i).e + 1)) = true
          · rw [if_pos h5] at h ⊢
            obtain ⟨-, b2, b3⟩ := numA_bd h5
            simp only []
            omega
          · rw [if_neg h5] at h; cases h
      · rw [if_neg h3] at h; cases h
    · rw [if_neg h2] at h; cases h
  · rw [if_neg h1] at h ⊢
    obtain ⟨a1, a2, a3⟩ := sumA_bd s 1 (s.length + 1) i zer5 0 hi rfl
    have ap := fun h => sumA_pos (s := s) (sg := 1) (f := s.length + 1) (i := i) (cf := zer5) (nm := 0) h rfl
    simp only [] at h ⊢
    generalize sumA s 1 (s.length + 1) i zer5 0 = a at *
    by_cases h2 : a.ok = true
    · rw [if_pos h2] at h ⊢
      have := ap h2
      by_cases h3 : bt s a.e = 60 ∨ bt s a.e = 61
      · rw [if_pos h3] at h ⊢
        have l3 : a.e < s.length := bt_in (by rcases h3 with h | h <;> rw [h] <;> decide)
        obtain ⟨b1, b2, -⟩ := sumA_bd s (-1) (s.length + 1) (a.e + 1) a.cf a.nm l3 a3
        split <;> simp only [] <;> omega
      · rw [if_neg h3] at h; cases h
    · rw [if_neg h2] at h; cases h
theorem formA_len (s : List UInt8) : ∀ (f i : Nat), i ≤ s.length → ∀ l, (formA s f i).1 = some l → 1 ≤ l.length ∧ l.length + i ≤ (formA s f i).2 := by
  intro f
  induction f with
  | zero => intro i hi l h; cases h
  | succ f ih =>
    intro i hi l h
    rw [formA] at h ⊢
    by_cases h1 : bt s i = 126
    · rw [if_pos h1] at h ⊢
      have l1 : i < s.length := bt_in (by rw [h1]; decide)
      simp only [] at h ⊢
      rcases hx : (formA s f (i + 1)).1 with _ | x
      · rw [hx] at h; cases h
      · rw [hx] at h
        obtain ⟨q1, q2⟩ := ih (i + 1) l1 x hx
        injection h with h
        subst h
        simp only [List.length_cons]
        omega
    · rw [if_neg h1] at h ⊢
      by_cases h2 : bt s i = 69 ∨ bt s i = 65
      · rw [if_pos h2] at h ⊢
        by_cases h3 : isLt (bt s (i + 1)) = true
        · rw [if_pos h3] at h ⊢
          by_cases h4 : bt s (i + 2) = 58
          · rw [if_pos h4] at h ⊢
            have l4 : i + 2 < s.length := bt_in (by rw [h4]; decide)
            simp only [] at h ⊢
            rcases hx : (formA s f (i + 3)).1 with _ | x
            · rw [hx] at h; cases h
            · rw [hx] at h
              obtain ⟨q1, q2⟩ := ih (i + 3) l4 x hx
              injection h with h
              subst h
              simp only [List.length_cons]
              omega
          · rw [if_neg h4] at h; cases h
        · rw [if_neg h3] at h; cases h
      · rw [if_neg h2] at h ⊢
        by_cases h3 : bt s i = 40
        · rw [if_pos h3] at h ⊢
          have l1 : i < s.length := bt_in (by rw [h3]; decide)
          have ih1 := ih (i + 1) l1
          rcases hx : formA s f (i + 1) with ⟨_ | x, e⟩
          · rw [hx] at h; cases h
          · rw [hx] at h ih1
            obtain ⟨q1, q2⟩ := ih1 x rfl
            simp only [] at h q2 ⊢
            by_cases h4 : bt s e = 124 ∨ bt s e = 38
            · rw [if_pos h4] at h ⊢
              have l4 : e < s.length := bt_in (by rcases h4 with h | h <;> rw [h] <;> decide)
              have ih2 := ih (e + 1) l4
              rcases hy : formA s f (e + 1) with ⟨_ | y, e2⟩
              · rw [hy] at h; cases h
              · rw [hy] at h ih2
                obtain ⟨r1, r2⟩ := ih2 y rfl
                simp only [] at h r2 ⊢
                by_cases h5 : bt s e2 = 41
                · rw [if_pos h5] at h ⊢
                  injection h with h
                  subst h
                  simp only [List.length_cons, List.length_append]
                  omega
                · rw [if_neg h5] at h; cases h
            · rw [if_neg h4] at h; cases h
        · rw [if_neg h3] at h ⊢
          have hp := fun n => atomA_pos (n := n) hi
          rcases hx : atomA s i with ⟨_ | n, e⟩
          · rw [hx] at h; cases h
          · rw [hx] at h hp
            have := hp n rfl
            injection h with h
            subst h
            simp only [List.length_cons, List.length_nil] at this ⊢
            omega
end Go.Proofs.YtafbggbdlcfbdaaDoor

/- The reference's formAt: contract. -/
namespace Go.Proofs.YtafbggbdlcfbdaaDoor
open Go.RowKit

theorem ndWf_op {op : Int} (h : 1 ≤ op ∧ op ≤ 9) {v : Nat} (hv : v ≤ 1000) : ndWf ⟨op, v, 0, 0, 0, 0, []⟩ := by
  obtain ⟨k, rfl⟩ : ∃ k : Nat, op = (k : Int) := ⟨op.toNat, by omega⟩
  exact ndWf_small (op := k) (v := v) (o := 0) (wd := 0) (wd2 := 0) (nm := 0) (by omega)
end Go.Proofs.YtafbggbdlcfbdaaDoor
