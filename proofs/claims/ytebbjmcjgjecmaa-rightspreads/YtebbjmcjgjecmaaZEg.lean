/- 6 texts in one. -/
import Derived.Deep.RegionHeldLaw
import Derived.Test.YtebbjmcjgjecmaaMa
import Derived.Test.YtebbjmcjgjecmaaAx
import Derived.Test.YtebbjmcjgjecmaaB
import Derived.Test.YtebbjmcjgjecmaaEe
import Derived.Test.YtebbjmcjgjecmaaZG
import Derived.Test.YtebbjmcjgjecmaaZLb
import Derived.Test.YtebbjmcjgjecmaaZNx
import Derived.Test.YtebbjmcjgjecmaaZLp
import Derived.Test.YtebbjmcjgjecmaaZMp
import Derived.Test.YtebbjmcjgjecmaaBt
import Derived.Test.YtebbjmcjgjecmaaZCd
import Derived.Test.YtebbjmcjgjecmaaCf
/- The reference's Without: contract. -/
namespace Go.Proofs.Ytebbjmcjgjecmaa
open Go.RowKit

/-- The letters that have letter l of the others, and any digit on track t. -/
def withL (b : Int) (tr t : Nat) (l : Int) : List Int := (List.range (kindsI b).toNat).map fun x : Nat => packL b (putD b tr t (x : Int) l)
end Go.Proofs.Ytebbjmcjgjecmaa

/- The reference's FixOf: contract. -/
namespace Go.Proofs.Ytebbjmcjgjecmaa
open Go.RowKit

/-- One track fewer has no more letters. -/
theorem many_less {b : Int} {tr : Nat} (h : codeM b ((tr : Int) + 1) = 0) : codeM b (tr : Int) = 0 ∧ manyU b (tr : Int) = pw (kindsI b) tr ∧ 1 ≤ manyU b (tr : Int) ∧ manyU b (tr : Int) ≤ 36 ∧ pw (kindsI b) (tr + 1) = manyU b ((tr : Int) + 1) ∧ tr ≤ 4 ∧ 1 ≤ b ∧ b ≤ 6 := by
  obtain ⟨h1, h2, h3, h4, h5, h6⟩ := codeM_zero h
  have hk := kinds_bd2 b h2
  rw [show ((tr : Int) + 1).toNat = tr + 1 by omega] at h5 h6
  have hp := pw_pos (kindsI b) hk.1 tr
  have hle : pw (kindsI b) tr ≤ 36 := by
    rw [pw_succ] at h5
    have := Int.mul_le_mul_of_nonneg_left (show (1 : Int) ≤ kindsI b by omega) (show 0 ≤ pw (kindsI b) tr by omega)
    omega
  have hc : codeM b (tr : Int) = 0 := by
    rw [codeM_yes h1 h2 (by omega) (by omega), Int.toNat_natCast, if_pos hle]
  have hm : manyU b (tr : Int) = pw (kindsI b) tr := by
    have := (codeM_zero hc).2.2.2.2.2
    rwa [Int.toNat_natCast] at this
  exact ⟨hc, hm, by omega, by omega, h6.symm, by omega, h1, h2⟩

end Go.Proofs.Ytebbjmcjgjecmaa

/- A track left out: the sets that come up, the words that are taken; mathematics. -/
namespace Go.Proofs.Ytebbjmcjgjecmaa
open Go.RowKit

theorem runF_lt {m n : Nat} {N : List (List Int)} (hG : GoodN m n N) {s : Nat} (hs : s < n) {v : List Int} (hv : okW m v) : runF N s v < n := by
  induction v generalizing s with
  | nil => exact hs
  | cons x v ih => exact ih (goodN_step hG s hs x (hv x (by simp))).1 (fun y hy => hv y (by simp [hy]))
/-- How each letter of the others is read. -/
def readS (b : Int) (tr tk mu : Nat) : List (List Int) := (List.range mu).map fun l : Nat => withL b tr tk (l : Int)
theorem readS_len (b : Int) (tr tk mu : Nat) : (readS b tr tk mu).length = mu := by simp [readS]
theorem readS_get {b : Int} {tr tk mu l : Nat} (hl : l < mu) : (readS b tr tk mu).getD l [] = withL b tr tk (l : Int) := by simp [readS, List.getD, hl]
theorem withL_ok {b : Int} (h2 : b ≤ 6) {tr tk : Nat} (ht : tk ≤ tr) {m : Nat} (hm : pw (kindsI b) (tr + 1) = (m : Int)) (l : Int) : ∀ x ∈ withL b tr tk l, 0 ≤ x ∧ x < (m : Int) := by
  intro x hx
  obtain ⟨y, hy, rfl⟩ := List.mem_map.1 hx
  have hk := kinds_bd2 b h2
  have := pack_bd b h2 (putD b tr tk (y : Int) l) (putD_bd b h2 ⟨by omega, by have := List.mem_range.1 hy; omega⟩ l)
  rwa [putD_len ht, hm] at this
/-- The sets of an automaton that come up; of them the automaton. -/
def setsS (N : List (List Int)) (n : Nat) (read : List (List Int)) (ls : List Int) : List Nat := outG (dM N n read) read.length (cloM N n ls) 2000
def setN (N : List (List Int)) (n : Nat) (read : List (List Int)) (ls : List Int) : List (List Int) := gN (dM N n read) read.length (setsS N n read ls)
def setE (N : List (List Int)) (n : Nat) (E : List Bool) (read : List (List Int)) (ls : List Int) : List Bool := gE (endM n E) (setsS N n read ls)
theorem sets_closed {N : List (List Int)} {n : Nat} {read : List (List Int)} {ls : List Int} (h : (setsS N n read ls).length ≤ 2000) : ClosedG (dM N n read) read.length (setsS N n read ls) := outG_closed h
theorem sets_first (N : List (List Int)) (n : Nat) (read : List (List Int)) (ls : List Int) : 0 < (setsS N n read ls).length ∧ (setsS N n read ls).getD 0 0 = cloM N n ls := outG_pos _ _ _ _
theorem setN_good {N : List (List Int)} {n : Nat} {read : List (List Int)} {ls : List Int} (h : (setsS N n read ls).length ≤ 2000) (h1 : 1 ≤ read.length) (h36 : read.length ≤ 36) : GoodN read.length (setsS N n read ls).length (setN N n read ls) := gN_good (sets_closed h) (sets_first _ _ _ _).1 (by omega) h1 h36
/-- Some: the fault of the sets, how many they are; the fault of all, the automaton. -/
def smR (b t tk : Int) : List (List Int) := readS b (t.toNat - 1) tk.toNat (manyU b (t - 1)).toNat
def smL (b t tk : Int) (N : List (List Int)) (E : List Bool) : List Nat := setsS (leastN N E (manyU b t).toNat) (leastK N E (manyU b t).toNat) (smR b t tk) ((smR b t tk).getD 0 [])
def smGN (b t tk : Int) (N : List (List Int)) (E : List Bool) : List (List Int) := setN (leastN N E (manyU b t).toNat) (leastK N E (manyU b t).toNat) (smR b t tk) ((smR b t tk).getD 0 [])
def smGE (b t tk : Int) (N : List (List Int)) (E : List Bool) : List Bool := setE (leastN N E (manyU b t).toNat) (leastK N E (manyU b t).toNat) (leastE N E (manyU b t).toNat) (smR b t tk) ((smR b t tk).getD 0 [])
def smF (b t : Int) (N : List (List Int)) (k : Nat) (tk : Int) : Int := if autoC b t N k = 0 then (if 0 ≤ tk ∧ tk < t then 0 else 1) else autoC b t N k
def smS (b t : Int) (N : List (List Int)) (E : List Bool) (k : Nat) (tk : Int) : Int := if smF b t N k tk = 0 then (if 2000 < (smL b t tk N E).length then 3 else 0) else smF b t N k tk
def smC (b t : Int) (N : List (List Int)) (E : List Bool) (k : Nat) (tk : Int) : Int := if smS b t N E k tk = 0 then (if 80 < leastK (smGN b t tk N E) (smGE b t tk N E) (manyU b (t - 1)).toNat then 3 else 0) else smS b t N E k tk
def smN (b t : Int) (N : List (List Int)) (E : List Bool) (k : Nat) (tk : Int) : List (List Int) := if smC b t N E k tk = 0 then leastN (smGN b t tk N E) (smGE b t tk N E) (manyU b (t - 1)).toNat else []
def smE (b t : Int) (N : List (List Int)) (E : List Bool) (k : Nat) (tk : Int) : List Bool := if smC b t N E k tk = 0 then leastE (smGN b t tk N E) (smGE b t tk N E) (manyU b (t - 1)).toNat else []
theorem smF_zero {b t : Int} {N : List (List Int)} {k : Nat} {tk : Int} (h : smF b t N k tk = 0) : autoC b t N k = 0 ∧ 0 ≤ tk ∧ tk < t := by
  unfold smF at h
  split at h
  · split at h
    · exact ⟨by assumption, by omega, by omega⟩
    · cases h
  · rename_i h1; exact absurd h h1
theorem smS_zero {b t : Int} {N : List (List Int)} {E : List Bool} {k : Nat} {tk : Int} (h : smS b t N E k tk = 0) : smF b t N k tk = 0 ∧ (smL b t tk N E).length ≤ 2000 := by
  unfold smS at h
  split at h
  · split at h
    · cases h
    · exact ⟨by assumption, by omega⟩
  · rename_i h1; exact absurd h h1
/-- What is so where a track can be left out. -/
structure SmWell (b : Int) (tr tk : Nat) (N : List (List Int)) (E : List Bool) (m mu : Nat) : Prop where
  base : 1 ≤ b ∧ b ≤ 6
  tracks : tr ≤ 4 ∧ tk ≤ tr
  good : GoodN m N.length N
  many : pw (kindsI b) (tr + 1) = (m : Int)
  few : pw (kindsI b) tr = (mu : Int)
  few36 : 1 ≤ mu ∧ mu ≤ 36
  code : codeM b (tr : Int) = 0
  mU : (manyU b ((tr : Int) + 1)).toNat = m
  fU : manyU b (tr : Int) = (mu : Int)
  n80 : N.length ≤ 80
theorem sm_well {b t : Int} {N : List (List Int)} (E : List Bool) {k : Nat} {tk : Int} (h : smF b t N k tk = 0) : ∃ tr tkn m mu : Nat, t = (tr : Int) + 1 ∧ tk = (tkn : Int) ∧ k = N.length ∧ SmWell b tr tkn N E m mu := by
  obtain ⟨hA, h0, h1⟩ := smF_zero h
  obtain ⟨hMt, hk, hG, hmu⟩ := autoC_zero hA
  have hn80 := autoC_80 hA
  obtain ⟨tr, rfl⟩ : ∃ tr : Nat, t = (tr : Int) + 1 := ⟨(t - 1).toNat, by omega⟩
  obtain ⟨tkn, rfl⟩ : ∃ tkn : Nat, tk = (tkn : Int) := ⟨tk.toNat, by omega⟩
  obtain ⟨hM, hm1, hm2, hm3, hm4, htr4, hb1, hb2⟩ := many_less hMt
  refine ⟨tr, tkn, (manyU b ((tr : Int) + 1)).toNat, (manyU b (tr : Int)).toNat, rfl, rfl, hk, ⟨⟨hb1, hb2⟩, ⟨htr4, by omega⟩, hG, by rw [hm4]; omega, by rw [← hm1]; omega, by omega, hM, rfl, by omega, hn80⟩⟩
theorem smR_eq {b : Int} {tr tk mu : Nat} (h : manyU b (tr : Int) = (mu : Int)) : smR b ((tr : Int) + 1) (tk : Int) = readS b tr tk mu := by
  unfold smR
  rw [show ((tr : Int) + 1).toNat - 1 = tr by omega, show (tr : Int) + 1 - 1 = (tr : Int) by omega, h, Int.toNat_natCast, Int.toNat_natCast]

theorem sm_good {b : Int} {tr tk m mu : Nat} {N : List (List Int)} {E : List Bool} (H : SmWell b tr tk N E m mu) (h : (smL b ((tr : Int) + 1) (tk : Int) N E).length ≤ 2000) : GoodN mu (smL b ((tr : Int) + 1) (tk : Int) N E).length (smGN b ((tr : Int) + 1) (tk : Int) N E) := by
  have hR := smR_eq (tk := tk) H.fU
  unfold smL at h ⊢
  unfold smGN
  have := setN_good h (by rw [hR, readS_len]; exact H.few36.1) (by rw [hR, readS_len]; exact H.few36.2)
  rw [hR, readS_len] at this
  rw [hR]
  exact this
end Go.Proofs.Ytebbjmcjgjecmaa

/- A track left out, word by word: mathematics of the laws SomeTakes and SomeOrder. -/
namespace Go.Proofs.Ytebbjmcjgjecmaa
open Go.RowKit

/-- A letter with a track left out. -/
def delT (b : Int) (tr tk : Nat) (y : Int) : Int := packL b ((splitL b (tr + 1) y).eraseIdx tk)
theorem erase_bd {b : Int} {ds : List Int} (tk : Nat) (h : ∀ j, j < ds.length → 0 ≤ ds.getD j 0 ∧ ds.getD j 0 < kindsI b) : ∀ j, j < (ds.eraseIdx tk).length → 0 ≤ (ds.eraseIdx tk).getD j 0 ∧ (ds.eraseIdx tk).getD j 0 < kindsI b := by
  intro j hj
  have hm : (ds.eraseIdx tk).getD j 0 ∈ ds := by
    rw [getD_at _ j hj]
    exact (List.eraseIdx_sublist ds tk).subset (List.getElem_mem hj)
  obtain ⟨i, hi, e⟩ := List.getElem_of_mem hm
  rw [← e, ← getD_at _ i hi]
  exact h i hi
theorem put_erase {b : Int} {tr tk : Nat} (ht : tk ≤ tr) (x l : Int) : (putD b tr tk x l).eraseIdx tk = splitL b tr l := by
  unfold putD
  have hl : ((splitL b tr l).take tk).length = tk := by rw [List.length_take, splitL_length]; omega
  rw [List.append_assoc, List.eraseIdx_append_of_length_le (by omega), hl, Nat.sub_self]
  simp
theorem delT_bd {b : Int} (h2 : b ≤ 6) {tr tk mu : Nat} (ht : tk ≤ tr) (hf : pw (kindsI b) tr = (mu : Int)) (y : Int) : 0 ≤ delT b tr tk y ∧ delT b tr tk y < (mu : Int) := by
  have := pack_bd b h2 ((splitL b (tr + 1) y).eraseIdx tk) (erase_bd tk (split_bd b h2 (tr + 1) y))
  rw [List.length_eraseIdx_of_lt (by rw [splitL_length]; omega), splitL_length, show tr + 1 - 1 = tr by omega, hf] at this
  exact this
theorem mem_withL {b : Int} (h2 : b ≤ 6) {tr tk m mu : Nat} (ht : tk ≤ tr) (hm : pw (kindsI b) (tr + 1) = (m : Int)) (hf : pw (kindsI b) tr = (mu : Int)) {y l : Int} (hl : 0 ≤ l ∧ l < (mu : Int)) : y ∈ withL b tr tk l ↔ (0 ≤ y ∧ y < (m : Int)) ∧ delT b tr tk y = l := by
  have hkb := kinds_bd2 b h2
  constructor
  · intro h
    refine ⟨withL_ok h2 ht hm l y h, ?_⟩
    obtain ⟨x, hx, rfl⟩ := List.mem_map.1 h
    have hx' := List.mem_range.1 hx
    unfold delT
    have e := split_pack b h2 (putD b tr tk (x : Int) l) (putD_bd b h2 ⟨by omega, by omega⟩ l)
    rw [putD_len ht] at e
    rw [e, put_erase ht, pack_split b h2 tr l hl.1 (by rw [hf]; exact hl.2)]
  · rintro ⟨hy, rfl⟩
    have hlen : ((splitL b (tr + 1) y).eraseIdx tk).length = tr := by rw [List.length_eraseIdx_of_lt (by rw [splitL_length]; omega), splitL_length]; omega
    have e := split_pack b h2 ((splitL b (tr + 1) y).eraseIdx tk) (erase_bd tk (split_bd b h2 (tr + 1) y))
    rw [hlen] at e
    have hd := split_bd b h2 (tr + 1) y tk (by rw [splitL_length]; omega)
    refine List.mem_map.2 ⟨((splitL b (tr + 1) y).getD tk 0).toNat, List.mem_range.2 (by omega), ?_⟩
    rw [show ((((splitL b (tr + 1) y).getD tk 0).toNat : Nat) : Int) = (splitL b (tr + 1) y).getD tk 0 by omega]
    have hp : putD b tr tk ((splitL b (tr + 1) y).getD tk 0) (delT b tr tk y) = splitL b (tr + 1) y := by
      unfold putD delT
      rw [e]
      have hlt : tk < (splitL b (tr + 1) y).length := by rw [splitL_length]; omega
      generalize splitL b (tr + 1) y = ds at hlt
      rw [List.eraseIdx_eq_take_drop_succ, List.take_append_of_le_length (by rw [List.length_take]; omega), List.take_take, Nat.min_self, List.drop_append_of_le_length (by rw [List.length_take]; omega)]
      rw [show List.drop tk (List.take tk ds) = [] by rw [List.drop_eq_nil_iff, List.length_take]; omega]
      rw [List.nil_append, getD_at _ tk hlt, List.append_assoc]
      show ds.take tk ++ (ds[tk] :: ds.drop (tk + 1)) = ds
      rw [← List.drop_eq_getElem_cons hlt, List.take_append_drop]
    rw [hp, pack_split b h2 (tr + 1) y hy.1 (by rw [hm]; exact hy.2)]
/-- Two tracks left out, in either order. -/
theorem del_zero {b : Int} (h2 : b ≤ 6) (tr tk : Nat) : delT b tr tk 0 = 0 := by
  have hk := kinds_bd2 b h2
  unfold delT
  have hs : ∀ x ∈ (splitL b (tr + 1) 0).eraseIdx tk, x = 0 := fun x hx => by
    have := (List.eraseIdx_sublist _ tk).subset hx
    simp only [splitL, List.mem_map] at this
    obtain ⟨i, _, rfl⟩ := this
    simp [dOf]
  generalize (splitL b (tr + 1) 0).eraseIdx tk = ds at hs
  induction ds using list_snoc_ind with
  | h0 => rfl
  | h1 ds x ih =>
    have e : packL b (ds ++ [x]) = packL b ds * kindsI b + x := by simp [packL, List.foldl_append]
    rw [e, ih (fun y hy => hs y (by simp [hy])), hs x (by simp)]
    simp
end Go.Proofs.Ytebbjmcjgjecmaa

/- The automaton of the laws of layer 7: what package some answers about it. -/
namespace Go.Proofs.Ytebbjmcjgjecmaa
open Go.RowKit

/-- Sets that come up, by what comes up early. -/
theorem setsS_early {N : List (List Int)} {n : Nat} {read : List (List Int)} {ls : List Int} {i : Nat} {L : List Nat} (hi : i ≤ 2000) (h : outG (dM N n read) read.length (cloM N n ls) i = L) (hl : L.length ≤ i) : setsS N n read ls = L := by
  obtain ⟨j, hj⟩ : ∃ j, 2000 = i + j := ⟨2000 - i, by omega⟩
  unfold setsS
  rw [hj, outG_stay (by rw [h]; exact hl), h]
end Go.Proofs.Ytebbjmcjgjecmaa

/- The reference's Closed: contract. -/
namespace Go.Proofs.Ytebbjmcjgjecmaa
open Go.RowKit

theorem clo_zero {m n : Nat} {N : List (List Int)} (hG : GoodN m n N) {ls : List Int} (hl : ∀ x ∈ ls, 0 ≤ x ∧ x < (m : Int)) : (cloM N n ls).testBit 0 = true := (cloM_bit hG hl).2 ⟨[], by simp, rfl⟩
end Go.Proofs.Ytebbjmcjgjecmaa
