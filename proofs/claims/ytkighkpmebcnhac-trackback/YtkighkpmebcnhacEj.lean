/- What the law TrackTakes says: mathematics; two rows that grow side by side. -/
import Derived.Deep.RegionHeldLaw
import Derived.Deep.RegionLaw
import Derived.Test.YtkighkpmebcnhacZAt
import Derived.Test.YtkighkpmebcnhacAx
import Derived.Test.YtkighkpmebcnhacZNx
import Derived.Test.YtkighkpmebcnhacBt
import Derived.Test.YtkighkpmebcnhacBx
import Derived.Test.YtkighkpmebcnhacBy
import Derived.Test.YtkighkpmebcnhacCf
import Derived.Test.YtkighkpmebcnhacCm
import Derived.Test.YtkighkpmebcnhacDb
import Derived.Test.YtkighkpmebcnhacZMp
import Derived.Test.YtkighkpmebcnhacDd
import Derived.Test.YtkighkpmebcnhacZEg
namespace Go.Proofs.Ytkighkpmebcnhac
open Go.RowKit

/-- Spread: its automaton, where all is well. -/
structure SpWell (b : Int) (trn : Nat) (N : List (List Int)) (E : List Bool) (at_ : List Int) (m mu : Nat) (MN : List (List Int)) (ME : List Bool) : Prop where
  auto : autoC b trn MN MN.length = 0
  len : ME.length = MN.length
  good : GoodN mu MN.length MN
  many : manyU b trn = (mu : Int)
  many36 : mu ≤ 36
  code : codeM b trn = 0
  base : 1 ≤ b ∧ b ≤ 6
  five : trn ≤ 5 ∧ at_.length ≤ 5
  at_ok : ∀ i, i < at_.length → 0 ≤ at_.getD i 0 ∧ at_.getD i 0 < (trn : Int)
  says : ∀ l, okW mu l → okW m (reW (spreadT b trn at_ mu) l) ∧ tkB MN ME l = tkB N E (reW (spreadT b trn at_ mu) l)
theorem sp_well {b t : Int} {N : List (List Int)} {E : List Bool} {k : Nat} {tr : Int} {at_ : List Int} (h : sprC b t N k tr at_ = 0) : ∃ (trn mu : Nat), tr = (trn : Int) ∧ SpWell b trn N E at_ (manyU b t).toNat mu (sprN b t N E k tr at_) (sprE b t N E k tr at_) ∧ autoC b t N k = 0 ∧ (manyU b tr).toNat = mu := by
  obtain ⟨hA, hM, hT, hat⟩ := sprC_zero h
  obtain ⟨hMt, -, hG, hmu⟩ := autoC_zero hA
  have hn80 := autoC_80 hA
  obtain ⟨h1, h2, h3, h4, h5, h6⟩ := codeM_zero hM
  obtain ⟨-, -, g3, g4, g5, g6⟩ := codeM_zero hMt
  have hkb := kinds_bd2 b h2
  have hpos := pw_pos (kindsI b) hkb.1 tr.toNat
  obtain ⟨trn, rfl⟩ : ∃ trn : Nat, tr = (trn : Int) := ⟨tr.toNat, by omega⟩
  rw [Int.toNat_natCast] at h5 h6 hpos
  obtain ⟨mu, hmu2⟩ : ∃ mu : Nat, manyU b (trn : Int) = (mu : Int) := ⟨(manyU b (trn : Int)).toNat, by omega⟩
  refine ⟨trn, mu, rfl, ?_, hA, by omega⟩
  have hpm : pw (kindsI b) at_.length = ((manyU b t).toNat : Int) := by rw [show at_.length = t.toNat by omega, ← g6]; omega
  have hok := spread_ok b h2 trn at_ mu (manyU b t).toNat hpm
  have hsl := spread_len b trn at_ mu
  have hR := rel_good hG hok (by rw [hsl]; omega) (by rw [hsl]; omega)
  rw [hsl] at hR
  have hN : sprN b t N E k (trn : Int) at_ = leastN (relN N (spreadT b trn at_ mu)) E mu ∧ sprE b t N E k (trn : Int) at_ = leastE (relN N (spreadT b trn at_ mu)) E mu := by
    unfold sprN sprE
    rw [if_pos h, if_pos h, hmu2, Int.toNat_natCast, Int.toNat_natCast]
    exact ⟨rfl, rfl⟩
  rw [hN.1, hN.2]
  have hL := least_good hR E
  have hln := leastN_len (relN N (spreadT b trn at_ mu)) E mu
  have hle := leastE_len (relN N (spreadT b trn at_ mu)) E mu
  have hK := leastK_80 hR E hn80
  refine ⟨?_, by rw [hln, hle], by rw [hln]; exact hL, hmu2, by omega, hM, ⟨h1, h2⟩, by omega, fun i hi => atC_get hat i hi, fun l hl => ?_⟩
  · rw [hln]
    exact autoC_good hM (by rw [hmu2, Int.toNat_natCast]; exact hL) hK
  · have hl' : okW (spreadT b trn at_ mu).length l := by rw [hsl]; exact hl
    refine ⟨reW_ok hok hl', ?_⟩
    rw [tk_least hR E l hl, rel_tk hG hok (by rw [hsl]; omega) (by rw [hsl]; omega) E l hl']
/-- Two rows of the call's own, side by side. -/
def TwoR (w : World) (xs ys : List Int) (v v' : Value) (W : World) : Prop :=
  W.ownsRow w.heap.size 3 1 v xs.length (xs.map (Value.int .i64)) ∧ W.ownsRow w.heap.size 3 1 v' ys.length (ys.map (Value.int .i64)) ∧ (∀ z, v.ownBlock = some z → v'.ownBlock ≠ some z) ∧ Below w.heap.size w W
theorem twoR_nil (w : World) : TwoR w [] [] (.slice none 0 0) (.slice none 0 0) w := ⟨World.ownsRow_nil _ _ _ _, World.ownsRow_nil _ _ _ _, fun z h => by simp [Value.ownBlock] at h, Below.refl _ _⟩
theorem twoR_swap {w : World} {xs ys : List Int} {v v' : Value} {W : World} (h : TwoR w xs ys v v' W) : TwoR w ys xs v' v W := ⟨h.2.1, h.1, fun z h1 h2 => h.2.2.1 z h2 h1, h.2.2.2⟩
end Go.Proofs.Ytkighkpmebcnhac
