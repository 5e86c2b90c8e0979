/- What the form's own reach gives: the length of a slice of integers that came in. -/
import Derived.SizedLaws
import Derived.Test.YtleebojibobgaaaFr
namespace Go.Proofs.Ytleebojibobgaaa
open Go.ChangeShapes Go.WideShapes Go.ChangeAt Go.RowKit

theorem int_bytes : Program.bytesOf Try.prog 3 = 8 := by kernel_rfl
theorem row_sized {H : Type} {enc : TypeId × Value → H} {W : World} {base fuel : Nat} {held : Bool} {a : Option Addr} {len cap : Nat} {d : DataW H} {p : List MemPlace} (h : DataW.trod enc Try.prog W base (fun _ => true) held fuel 26 [.slice a len cap] = some (d, p)) :
    ∃ zs, IsRow W a len cap zs ∧ ∀ {ts : List TypeId} {ds : List (DataW H)}, (DataW.weightsEach Try.prog ts ds).all (· ≤ reachBytes) = true → ∀ {j : Nat}, ts[j]? = some 26 → ds[j]? = some d → len * 8 ≤ 140737488351232 := by
  rcases open_ints Try.underlying26 Try.underlying3 (by kernel_rfl) h with ⟨hcs, _⟩ | ⟨x, l, c, zs, hcs, _, hl, hm, hz, hx, hcell, hwz⟩
  · simp at hcs
    obtain ⟨rfl, rfl, rfl⟩ := hcs
    exact ⟨[], .inl ⟨rfl, rfl, rfl, rfl⟩, fun _ _ _ _ => by omega⟩
  · simp at hcs
    obtain ⟨rfl, rfl, rfl⟩ := hcs
    have hzc : len ≤ zs.length := by split at hz <;> omega
    simp only [Prod.mk.injEq] at hx
    refine ⟨zs, .inr ⟨_, rfl, hl, hm, by simpa using hz, hcell, hwz⟩, fun hs j ht hd => ?_⟩
    rw [hx.1] at hd
    have h1 := sized_slice hs ht hd Try.underlying26
    rw [int_bytes] at h1
    have h2 : (lits (H := H) .i64 (zs.take len)).length = len := by simp [lits]; omega
    have h3 : reachBytes = 140737488351232 := by decide
    rw [h2, h3] at h1
    exact Nat.le_trans (Nat.mul_le_mul_right 8 (Nat.le_add_right _ _)) h1
theorem row_capz {w : World} {a : Option Addr} {len cap : Nat} {zs : List Int} (h : IsRow w a len cap zs) : a = none → cap = 0 := by
  rintro rfl
  rcases h with ⟨_, _, h, _⟩ | ⟨x, e, _⟩
  · exact h
  · cases e
end Go.Proofs.Ytleebojibobgaaa
