/- What the law TrackTakes says: mathematics; two rows that grow side by side. -/
import Derived.Deep.RegionHeldLaw
import Derived.Deep.RegionLaw
import Derived.Test.YtkighkpmebcnhacZAt
import Derived.Test.YtkighkpmebcnhacAx
import Derived.Test.YtkighkpmebcnhacZNx
import Derived.Test.YtkighkpmebcnhacBt
import Derived.Test.YtkighkpmebcnhacBx
import Derived.Test.YtkighkpmebcnhacBy
import Derived.Test.YtkighkpmebcnhacCf
import Derived.Test.YtkighkpmebcnhacCm
import Derived.Test.YtkighkpmebcnhacDb
import Derived.Test.YtkighkpmebcnhacZMp
import Derived.Test.YtkighkpmebcnhacDd
import Derived.Test.YtkighkpmebcnhacZEg
namespace Go.Proofs.Ytkighkpmebcnhac
open Go.RowKit

theorem fact_track : sprC 2 1 [[0, 1], [1, 0]] 2 2 [1] = 0 ∧ sprN 2 1 [[0, 1], [1, 0]] [false, true] 2 2 [1] = [[0, 1, 0, 1], [1, 0, 1, 0]] := by
  refine ⟨?_, ?_⟩ <;> decide +kernel
theorem okW_get {m : Nat} {l : List Int} (h : okW m l) {i : Nat} (hi : i < l.length) : 0 ≤ l.getD i 0 ∧ l.getD i 0 < (m : Int) := h _ (by rw [getD_at _ i hi]; exact List.getElem_mem hi)
theorem okW_of_word {m : Nat} {l : List Int} (h : wordC m l = 0) : okW m l ∧ l.length ≤ 400 := by
  obtain ⟨h1, h2⟩ := wordC_zero h
  refine ⟨fun z hz => ?_, h1⟩
  obtain ⟨i, hi, rfl⟩ := List.getElem_of_mem hz
  have := h2 i hi
  rwa [getD_at _ i hi] at this
theorem word_of_okW {m : Nat} {l : List Int} (h : okW m l) (hl : l.length ≤ 400) : wordC m l = 0 := wordC_good (by omega) fun k hk => okW_get h hk
theorem takes_ok {b t : Int} {N : List (List Int)} {E : List Bool} {k : Nat} (hA : autoC b t N k = 0) (hE : E.length = k) {l : List Int} (h : wordC (manyU b t).toNat l = 0) : takesB b t N E l = tkB N E l ∧ runC b t N k l = 0 := by
  have hr : runC b t N k l = 0 := by unfold runC; rw [if_pos hA]; exact h
  refine ⟨?_, hr⟩
  unfold takesB
  rw [hE, if_pos hr]
  rfl

/-- Spread: its automaton, where all is well. -/
structure SpWell (b : Int) (trn : Nat) (N : List (List Int)) (E : List Bool) (at_ : List Int) (m mu : Nat) (MN : List (List Int)) (ME : List Bool) : Prop where
  auto : autoC b trn MN MN.length = 0
  len : ME.length = MN.length
  good : GoodN mu MN.length MN
  many : manyU b trn = (mu : Int)
  many36 : mu ≤ 36
  code : codeM b trn = 0
  base : 1 ≤ b ∧ b ≤ 6
  five : trn ≤ 5 ∧ at_.length ≤ 5
  at_ok : ∀ i, i < at_.length → 0 ≤ at_.getD i 0 ∧ at_.getD i 0 < (trn : Int)
  says : ∀ l, okW mu l → okW m (reW (spreadT b trn at_ mu) l) ∧ tkB MN ME l = tkB N E (reW (spreadT b trn at_ mu) l)
theorem sp_well {b t : Int} {N : List (List Int)} {E : List Bool} {k : Nat} {tr : Int} {at_ : List Int} (h : sprC b t N k tr at_ = 0) : ∃ (trn mu : Nat), tr = (trn : Int) ∧ SpWell b trn N E at_ (manyU b t).toNat mu (sprN b t N E k tr at_) (sprE b t N E k tr at_) ∧ autoC b t N k = 0 ∧ (manyU b tr).toNat = mu := by
  obtain ⟨hA, hM, hT, hat⟩ := sprC_zero h
  obtain ⟨hMt, -, hG, hmu⟩ := autoC_zero hA
  have hn80 := autoC_80 hA
  obtain ⟨h1, h2, h3, h4, h5, h6⟩ := codeM_zero hM
  obtain ⟨-, -, g3, g4, g5, g6⟩ := codeM_zero hMt
  have hkb := kinds_bd2 b h2
  have hpos := pw_pos (kindsI b) hkb.1 tr.toNat
  obtain ⟨trn, rfl⟩ : ∃ trn : Nat, tr = (trn : Int) := ⟨tr.toNat, by omega⟩
  rw [Int.toNat_natCast] at h5 h6 hpos
  obtain ⟨mu, hmu2⟩ : ∃ mu : Nat, manyU b (trn : Int) = (mu : Int) := ⟨(manyU b (trn : Int)).toNat, by omega⟩
  refine ⟨trn, mu, rfl, ?_, hA, by omega⟩
  have hpm : pw (kindsI b) at_.length = ((manyU b t).toNat : Int) := by rw [show at_.length = t.toNat by omega, ← g6]; omega
  have hok := spread_ok b h2 trn at_ mu (manyU b t).toNat hpm
  have hsl := spread_len b trn at_ mu
  have hR := rel_good hG hok (by rw [hsl]; omega) (by rw [hsl]; omega)
  rw [hsl] at hR
  have hN : sprN b t N E k (trn : Int) at_ = leastN (relN N (spreadT b trn at_ mu)) E mu ∧ sprE b t N E k (trn : Int) at_ = leastE (relN N (spreadT b trn at_ mu)) E mu := by
    unfold sprN sprE
    rw [if_pos h, if_pos h, hmu2, Int.toNat_natCast, Int.toNat_natCast]
    exact ⟨rfl, rfl⟩
  rw [hN.1, hN.2]
  have hL := least_good hR E
  have hln := leastN_len (relN N (spreadT b trn at_ mu)) E mu
  have hle := leastE_len (relN N (spreadT b trn at_ mu)) E mu
  have hK := leastK_80 hR E hn80
  refine ⟨?_, by rw [hln, hle], by rw [hln]; exact hL, hmu2, by omega, hM, ⟨h1, h2⟩, by omega, fun i hi => atC_get hat i hi, fun l hl => ?_⟩
  · rw [hln]
    exact autoC_good hM (by rw [hmu2, Int.toNat_natCast]; exact hL) hK
  · have hl' : okW (spreadT b trn at_ mu).length l := by rw [hsl]; exact hl
    refine ⟨reW_ok hok hl', ?_⟩
    rw [tk_least hR E l hl, rel_tk hG hok (by rw [hsl]; omega) (by rw [hsl]; omega) E l hl']
theorem reW_get (to l : List Int) {i : Nat} (hi : i < l.length) : (reW to l).getD i 0 = to.getD (l.getD i 0).toNat 0 := by
  unfold reW
  rw [getD_at _ i (by rw [List.length_map]; exact hi), List.getElem_map, getD_at _ i hi]
theorem reW_take (to l : List Int) {i : Nat} (hi : i < l.length) : (reW to l).take (i + 1) = (reW to l).take i ++ [to.getD (l.getD i 0).toNat 0] := by
  rw [List.take_succ_eq_append_getElem (by rw [reW_len]; exact hi), ← getD_at _ i (by rw [reW_len]; exact hi), reW_get to l hi]

/-- The digits but for the first. -/
def restD (b : Int) (tr : Nat) (l : Int) : List Int := (List.range tr).map fun j => dOf b (tr + 1) l (j + 1)
theorem restD_len (b : Int) (tr : Nat) (l : Int) : (restD b tr l).length = tr := by simp [restD]
theorem restD_take (b : Int) (tr : Nat) (l : Int) {j : Nat} (hj : j < tr) : (restD b tr l).take (j + 1) = (restD b tr l).take j ++ [dOf b (tr + 1) l (j + 1)] := by
  rw [List.take_succ_eq_append_getElem (by rw [restD_len]; exact hj)]
  simp [restD]
theorem restD_bd (b : Int) (h2 : b ≤ 6) (tr : Nat) (l : Int) (j : Nat) (hj : j < (restD b tr l).length) : 0 ≤ (restD b tr l).getD j 0 ∧ (restD b tr l).getD j 0 < kindsI b := by
  rw [restD_len] at hj
  simp only [restD, List.getD, List.getElem?_map, List.getElem?_range hj, Option.map_some, Option.getD_some]
  exact dOf_bd b h2 _ _ _
theorem restD_dig (b : Int) (h2 : b ≤ 6) (tr : Nat) (l : Int) : digB b (restD b tr l) = true := by
  unfold digB
  rw [List.all_eq_true]
  intro x hx
  obtain ⟨j, hj, rfl⟩ := List.getElem_of_mem hx
  have := restD_bd b h2 tr l j hj
  rw [getD_at _ j hj] at this
  simpa using this
def restW (b : Int) (tr : Nat) (l : List Int) : List Int := l.map fun x => packL b (restD b tr x)
theorem restW_len (b : Int) (tr : Nat) (l : List Int) : (restW b tr l).length = l.length := by simp [restW]
theorem restW_take (b : Int) (tr : Nat) (l : List Int) {i : Nat} (hi : i < l.length) : (restW b tr l).take (i + 1) = (restW b tr l).take i ++ [packL b (restD b tr (l.getD i 0))] := by
  rw [List.take_succ_eq_append_getElem (by rw [restW_len]; exact hi)]
  simp [restW, List.getD, hi]
theorem restW_get (b : Int) (tr : Nat) (l : List Int) {i : Nat} (hi : i < l.length) : (restW b tr l).getD i 0 = packL b (restD b tr (l.getD i 0)) := by
  simp [restW, List.getD, hi]
theorem restW_ok (b : Int) (h2 : b ≤ 6) (tr : Nat) (l : List Int) {mu : Nat} (hm : pw (kindsI b) tr = (mu : Int)) : okW mu (restW b tr l) := by
  intro x hx
  obtain ⟨y, -, rfl⟩ := List.mem_map.1 hx
  have := pack_bd b h2 (restD b tr y) (restD_bd b h2 tr y)
  rwa [restD_len, hm] at this

/-- Fix on the first track: its automaton, where all is well. -/
theorem fx_well {b : Int} {tr : Nat} {N : List (List Int)} {E : List Bool} {x : Nat} (hA : autoC b ((tr : Int) + 1) N N.length = 0) (hx : (x : Int) < kindsI b) :
    ∃ mu : Nat, fixC b ((tr : Int) + 1) N N.length 0 x = 0 ∧ pw (kindsI b) tr = (mu : Int) ∧ mu ≤ 36 ∧ (manyU b (tr : Int)).toNat = mu ∧ autoC b tr (fixN b ((tr : Int) + 1) N E N.length 0 x) (fixN b ((tr : Int) + 1) N E N.length 0 x).length = 0 ∧ (fixE b ((tr : Int) + 1) N E N.length 0 x).length = (fixN b ((tr : Int) + 1) N E N.length 0 x).length ∧
      ∀ u, okW mu u → okW (manyU b ((tr : Int) + 1)).toNat (reW (fixT b tr 0 x mu) u) ∧ tkB (fixN b ((tr : Int) + 1) N E N.length 0 x) (fixE b ((tr : Int) + 1) N E N.length 0 x) u = tkB N E (reW (fixT b tr 0 x mu) u) := by
  obtain ⟨hMt, -, hG, hmu⟩ := autoC_zero hA
  have hn80 := autoC_80 hA
  obtain ⟨hM, hm1, hm2, hm3, hm4, htr4, h1, h2⟩ := many_less hMt
  obtain ⟨mu, hmu2⟩ : ∃ mu : Nat, manyU b (tr : Int) = (mu : Int) := ⟨(manyU b (tr : Int)).toNat, by omega⟩
  have hc : fixC b ((tr : Int) + 1) N N.length 0 x = 0 := by unfold fixC; rw [if_pos hA, if_pos ⟨⟨by omega, by omega⟩, by omega, hx⟩]
  have hok := fix_ok b h2 (Nat.zero_le tr) (x := (x : Int)) ⟨by omega, hx⟩ mu (manyU b ((tr : Int) + 1)).toNat (by rw [hm4]; omega)
  have hsl := fix_len b tr 0 (x : Int) mu
  have hR := rel_good hG hok (by rw [hsl]; omega) (by rw [hsl]; omega)
  rw [hsl] at hR
  have hN : fixN b ((tr : Int) + 1) N E N.length 0 x = leastN (relN N (fixT b tr 0 x mu)) E mu ∧ fixE b ((tr : Int) + 1) N E N.length 0 x = leastE (relN N (fixT b tr 0 x mu)) E mu := by
    unfold fixN fixE
    rw [if_pos hc, if_pos hc, show (tr : Int) + 1 - 1 = (tr : Int) by omega, hmu2, Int.toNat_natCast, show ((tr : Int) + 1).toNat - 1 = tr by omega]
    exact ⟨rfl, rfl⟩
  rw [hN.1, hN.2]
  have hL := least_good hR E
  have hln := leastN_len (relN N (fixT b tr 0 x mu)) E mu
  have hle := leastE_len (relN N (fixT b tr 0 x mu)) E mu
  have hK := leastK_80 hR E hn80
  refine ⟨mu, hc, by rw [← hm1]; exact hmu2, by omega, by omega, ?_, by rw [hln, hle], fun u hu => ?_⟩
  · rw [hln]
    exact autoC_good hM (by rw [hmu2, Int.toNat_natCast]; exact hL) hK
  · have hu' : okW (fixT b tr 0 x mu).length u := by rw [hsl]; exact hu
    refine ⟨reW_ok hok hu', ?_⟩
    rw [tk_least hR E u hu, rel_tk hG hok (by rw [hsl]; omega) (by rw [hsl]; omega) E u hu']

/-- Two rows of the call's own, side by side. -/
def TwoR (w : World) (xs ys : List Int) (v v' : Value) (W : World) : Prop :=
  W.ownsRow w.heap.size 3 1 v xs.length (xs.map (Value.int .i64)) ∧ W.ownsRow w.heap.size 3 1 v' ys.length (ys.map (Value.int .i64)) ∧ (∀ z, v.ownBlock = some z → v'.ownBlock ≠ some z) ∧ Below w.heap.size w W
theorem twoR_nil (w : World) : TwoR w [] [] (.slice none 0 0) (.slice none 0 0) w := ⟨World.ownsRow_nil _ _ _ _, World.ownsRow_nil _ _ _ _, fun z h => by simp [Value.ownBlock] at h, Below.refl _ _⟩
theorem twoR_below {w : World} {xs ys : List Int} {v v' : Value} {W W2 : World} (h : TwoR w xs ys v v' W) (hb : Below W.heap.size W W2) : TwoR w xs ys v v' W2 := by
  obtain ⟨h1, h2, h3, h4⟩ := h
  exact ⟨ownsRow_of_block h1 (fun x hx => hb.block _ (h1.lt x hx).2), ownsRow_of_block h2 (fun x hx => hb.block _ (h2.lt x hx).2), h3, below_step h4 hb⟩
theorem twoR_swap {w : World} {xs ys : List Int} {v v' : Value} {W : World} (h : TwoR w xs ys v v' W) : TwoR w ys xs v' v W := ⟨h.2.1, h.1, fun z h1 h2 => h.2.2.1 z h2 h1, h.2.2.2⟩
theorem twoR_left {w : World} {xs ys : List Int} {v v' : Value} {W w3 : World} {o : Obj} {x : Int} {g cap : Nat} (h : TwoR w xs ys v v' W) (hown : w3.ownsRow w.heap.size 3 1 (.slice (some ⟨g, 0, none⟩) (xs.length + 1) cap) (xs.length + 1) (xs.map (Value.int .i64) ++ [.int .i64 x])) (hgrow : (W.alloc o).grownBy w3 v.ownBlock) (hat : v.ownBlock = some g ∨ g = W.heap.size + 1) :
    TwoR w (xs ++ [x]) ys (.slice (some ⟨g, 0, none⟩) (xs.length + 1) cap) v' w3 := by
  obtain ⟨h1, h2, h3, h4⟩ := h
  refine ⟨by rw [List.length_append, List.map_append]; exact hown, ownsRow_of_block h2 (fun z hz => ?_), fun z hz hz' => ?_, Below.grown (h4.alloc h4.size o) hgrow (by have := h4.size; simp; omega) (fun k hk => (h1.lt k hk).1)⟩
  · have hl := (h2.lt z hz).2
    rw [hgrow.block z (by simp; omega) (fun e => h3 z e.symm hz), Below.heap_alloc _ _ _ hl]
  · have e : g = z := by simpa [Value.ownBlock] using hz
    subst e
    have hl := (h2.lt g hz').2
    rcases hat with e | e
    · exact h3 g e hz'
    · omega
end Go.Proofs.Ytkighkpmebcnhac
