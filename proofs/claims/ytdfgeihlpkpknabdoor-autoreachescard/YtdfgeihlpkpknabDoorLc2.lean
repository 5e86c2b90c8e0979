/- letter.apart, whatever is handed in; letter.Right and letter.Nums by it. -/
import Derived.Test.YtdfgeihlpkpknabDoorLc
namespace Go.Proofs.YtdfgeihlpkpknabDoor
open Go.RowKit

theorem errV_ne {c : Int} (h : c ≠ 0) : errV c = .iface 27 (.int .i64 c) := by unfold errV; rw [if_neg h]
theorem errV_zero : errV 0 = .nilIface := rfl

def ApU (b t : Int) (l : List Int) (w : World) (e : Ending) (w' : World) : Prop := ApGives w (if codeW b t l = 0 then tracksL b t.toNat l else []) (errV (codeW b t l)) e w'

theorem apGives_none (w w' : World) (er : Value) (hb : Below w.heap.size w w') : ApGives w [] er (.returned (.tuple #[.slice none 0 0, er])) w' := ⟨none, 0, rfl, ⟨rfl, by decide, Or.inl rfl⟩, hb⟩

/-- Are the digits of all tracks right? -/
def rightW (b t : Int) (l : List Int) : Bool := (tracksL b t.toNat l).all (rightB b)

theorem tracksL_get (b : Int) (n : Nat) (l : List Int) (i : Nat) (h : i < n) : (tracksL b n l).getD i [] = trackL b n l i := by simp [tracksL, List.getD, h]
theorem tracksL_length (b : Int) (n : Nat) (l : List Int) : (tracksL b n l).length = n := by simp [tracksL]
theorem rightW_not {b : Int} {n : Nat} {l : List Int} {i : Nat} (h : i < n) (hr : rightB b (trackL b n l i) = false) : rightW b n l = false := by
  cases hd : rightW b n l with
  | false => rfl
  | true =>
    unfold rightW at hd
    rw [List.all_eq_true, Int.toNat_natCast] at hd
    have := hd (trackL b n l i) (by simp only [tracksL, List.mem_map, List.mem_range]; exact ⟨i, h, rfl⟩)
    rw [hr] at this; cases this
theorem rightW_yes {b : Int} {n : Nat} {l : List Int} (h : ∀ i, i < n → rightB b (trackL b n l i) = true) : rightW b n l = true := by
  unfold rightW
  rw [List.all_eq_true, Int.toNat_natCast]
  intro d hd
  simp only [tracksL, List.mem_map, List.mem_range] at hd
  obtain ⟨i, hi, rfl⟩ := hd
  exact h i hi

theorem codeD_track (b : Int) (h1 : 1 ≤ b) (h2 : b ≤ 6) (n : Nat) (l : List Int) (hl : l.length ≤ 60) (i : Nat) : codeD b (trackL b n l i) = 0 := by
  unfold codeD
  rw [if_pos ⟨h1, h2⟩, trackL_length, if_pos hl, if_pos (trackL_digB b h2 n l i)]

end Go.Proofs.YtdfgeihlpkpknabDoor
