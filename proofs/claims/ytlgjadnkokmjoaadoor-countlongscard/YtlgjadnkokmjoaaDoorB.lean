/- The contract of filbertsame.Ints: are two rows of numbers the same? -/
import Derived.WalkSmall
import Derived.Test.YtlgjadnkokmjoaaDoorA
namespace Go.Proofs.YtlgjadnkokmjoaaDoor
open Go.RowKit

theorem ext_getD {l m : List Int} (h : l.length = m.length) (h' : ∀ j, j < l.length → l.getD j 0 = m.getD j 0) : l = m := by
  apply List.ext_getElem h
  intro i h1 h2
  have := h' i h1
  simpa [List.getD, h1, h2] using this

set_option maxHeartbeats 1000000 in
set_option maxRecDepth 4000 in
theorem ints_long (a a' : Option Addr) (len cap cap' : Nat) (l m : List Int) (w : World) (hs : Sl w a len l) (hs' : Sl w a' len m) :
    Calls Tryd.prog 31 #[.slice a len cap, .slice a' len cap'] w fun e w' => e = .returned (.bool (decide (l = m))) ∧ ∃ n, w' = w.drewN n := by
  have hm := hs.2.1
  unfold maxLen at hm
  have HL : Hid (l.length = len) := hs.1
  have HM : Hid (m.length = len) := hs'.1
  have HS : Hid (Sl w a len l) := hs
  have HS' : Hid (Sl w a' len m) := hs'
  clear hs hs'
  go_enter Tryd.func31, Tryd.ntmps31
  go_wp2
  go_loopw [5] (fun i wx => ∃ k n : Nat, k ≤ len ∧ i = .int .i64 k ∧ wx = w.drewN n ∧ ∀ j, j < k → l.getD j 0 = m.getD j 0) (fun i _ => len - (intOf i).toNat)
  case atStart => exact ⟨0, 0, by omega, rfl, rfl, by omega⟩
  case round =>
    obtain ⟨k, n, hk, rfl, rfl, hd⟩ := hrel
    have HD := hide hd
    clear hd
    by_cases hlt : k < len
    · have hlti : (k : Int) < (len : Int) := by omega
      obtain ⟨bb, o, rfl, hck⟩ := sl_cell HS.out k hlt
      obtain ⟨bb', o', rfl, hck'⟩ := sl_cell HS'.out k hlt
      have HX : Hid (l.getD k 0 = m.getD k 0 → ∀ j, j < k + 1 → l.getD j 0 = m.getD j 0) := by
        intro h j hj
        by_cases e : j = k
        · subst e; exact h
        · exact HD.out j (by omega)
      have HN : Hid (l.getD k 0 ≠ m.getD k 0 → decide (l = m) = false) := by
        intro h
        simp only [decide_eq_false_iff_not]
        rintro rfl
        exact h rfl
      clear HD
      generalize l.getD k 0 = x at hck HX HN
      generalize m.getD k 0 = y at hck' HX HN
      by_cases hx : x = y
      · subst hx
        have HX' := hide (HX.out rfl)
        clear HX HN
        have hxx : (x != x) = false := by simp
        go_wp2
        go_quiet (fail)
        go_wp2
        go_roundw
        case rel => exact ⟨k + 1, n + nq, by omega, by go_num, rfl, HX'.out⟩
        case measure => simp [intOf]; omega
      · have HN' := hide (HN.out hx)
        clear HX HN
        have hxx : (x != y) = true := by simpa using hx
        go_wp2
        go_quiet (fail)
        go_wp2
        go_ret
        exact ⟨by rw [HN'.out]; simp, n + nq, by rw [World.drewN_drewN]⟩
    · have hlti : ¬ ((k : Int) < (len : Int)) := by omega
      have HF : Hid (decide (l = m) = true) := by
        show _ = _
        simp only [decide_eq_true_eq]
        apply ext_getD (by rw [HL.out, HM.out])
        intro j hj
        rw [HL.out] at hj
        exact HD.out j (by omega)
      go_wp2
      go_ret
      exact ⟨by rw [HF.out]; simp, n, rfl⟩
end Go.Proofs.YtlgjadnkokmjoaaDoor
