/- Plain mathematics: what digits count together. -/
import Derived.Test.YtdfgeihlpkpknabM
namespace Go.Proofs.Ytdfgeihlpkpknab

def val (b : Int) : List Int → Int
  | [] => 0
  | x :: r => x * cnt b r.length + val b r

/-- What the first k digits count together. -/
def valTo (b : Int) (l : List Int) (k : Nat) : Int := val b l - val b (l.drop k)
theorem valTo_zero (b : Int) (l : List Int) : valTo b l 0 = 0 := by simp [valTo]
theorem valTo_all (b : Int) (l : List Int) : valTo b l l.length = val b l := by simp [valTo, val]
theorem valTo_succ (b : Int) (l : List Int) (k : Nat) (h : k < l.length) : valTo b l (k + 1) = valTo b l k + l.getD k 0 * cnt b (l.length - 1 - k) := by
  unfold valTo
  have e : l.drop k = l[k] :: l.drop (k + 1) := List.drop_eq_getElem_cons h
  have g : l.getD k 0 = l[k] := by simp [List.getD, h]
  have hl : (l.drop (k + 1)).length = l.length - 1 - k := by simp; omega
  rw [e, g]
  simp only [val]
  rw [hl]
  omega
theorem valTo_bd (b : Int) (h1 : 1 ≤ b) (h2 : b ≤ 6) (l : List Int) (hd : ∀ k, k < l.length → 0 ≤ l.getD k 0 ∧ l.getD k 0 ≤ 5) (k : Nat) (h : k ≤ l.length) :
    0 ≤ valTo b l k ∧ valTo b l k ≤ 5497558138885 * (k : Int) := by
  induction k with
  | zero => simp [valTo_zero]
  | succ k ih =>
    have ih := ih (by omega)
    rw [valTo_succ b l k (by omega)]
    obtain ⟨⟨c1, c2⟩, _⟩ := cnt_bd b h1 h2 (l.length - 1 - k)
    obtain ⟨d1, d2⟩ := hd k (by omega)
    have p1 : 0 ≤ l.getD k 0 * cnt b (l.length - 1 - k) := Int.mul_nonneg d1 (by omega)
    have p2 : l.getD k 0 * cnt b (l.length - 1 - k) ≤ 5 * 1099511627777 := Int.mul_le_mul d2 c2 (by omega) (by omega)
    omega
end Go.Proofs.Ytdfgeihlpkpknab
