/- 7 texts in one. -/
import Derived.Deep.RegionHeldLaw
import Derived.Deep.RegionLaw
import Derived.Test.YtleebojibobgaaaMa
import Derived.Test.YtleebojibobgaaaZNx
import Derived.Test.YtleebojibobgaaaAx
import Derived.Test.YtleebojibobgaaaB
import Derived.Test.YtleebojibobgaaaBp
import Derived.Test.YtleebojibobgaaaCf
import Derived.Test.YtleebojibobgaaaDb
import Derived.Test.YtleebojibobgaaaEa
import Derived.Test.YtleebojibobgaaaZG
import Derived.Test.YtleebojibobgaaaZLb
import Derived.Test.YtleebojibobgaaaZLp
import Derived.Test.YtleebojibobgaaaZMp
import Derived.Test.YtleebojibobgaaaBt
import Derived.Test.YtleebojibobgaaaZCd
/- The reference's Without: contract. -/
namespace Go.Proofs.Ytleebojibobgaaa
open Go.RowKit

/-- The letters that have letter l of the others, and any digit on track t. -/
def withL (b : Int) (tr t : Nat) (l : Int) : List Int := (List.range (kindsI b).toNat).map fun x : Nat => packL b (putD b tr t (x : Int) l)
end Go.Proofs.Ytleebojibobgaaa

/- The reference's FixOf: contract. -/
namespace Go.Proofs.Ytleebojibobgaaa
open Go.RowKit

/-- One track fewer has no more letters. -/
theorem many_less {b : Int} {tr : Nat} (h : codeM b ((tr : Int) + 1) = 0) : codeM b (tr : Int) = 0 ∧ manyU b (tr : Int) = pw (kindsI b) tr ∧ 1 ≤ manyU b (tr : Int) ∧ manyU b (tr : Int) ≤ 36 ∧ pw (kindsI b) (tr + 1) = manyU b ((tr : Int) + 1) ∧ tr ≤ 4 ∧ 1 ≤ b ∧ b ≤ 6 := by
  obtain ⟨h1, h2, h3, h4, h5, h6⟩ := codeM_zero h
  have hk := kinds_bd2 b h2
  rw [show ((tr : Int) + 1).toNat = tr + 1 by omega] at h5 h6
  have hp := pw_pos (kindsI b) hk.1 tr
  have hle : pw (kindsI b) tr ≤ 36 := by
    rw [pw_succ] at h5
    have := Int.mul_le_mul_of_nonneg_left (show (1 : Int) ≤ kindsI b by omega) (show 0 ≤ pw (kindsI b) tr by omega)
    omega
  have hc : codeM b (tr : Int) = 0 := by
    rw [codeM_yes h1 h2 (by omega) (by omega), Int.toNat_natCast, if_pos hle]
  have hm : manyU b (tr : Int) = pw (kindsI b) tr := by
    have := (codeM_zero hc).2.2.2.2.2
    rwa [Int.toNat_natCast] at this
  exact ⟨hc, hm, by omega, by omega, h6.symm, by omega, h1, h2⟩

end Go.Proofs.Ytleebojibobgaaa

/- A track left out: the sets that come up, the words that are taken; mathematics. -/
namespace Go.Proofs.Ytleebojibobgaaa
open Go.RowKit

theorem readAs_ok {read : List (List Int)} {m mu : Nat} (hr : ∀ l, l < mu → ∀ x ∈ read.getD l [], 0 ≤ x ∧ x < (m : Int)) : ∀ {w v : List Int}, okW mu w → readAs read w v → okW m v
  | [], [], _, _ => fun _ h => by cases h
  | x :: w, y :: v, hw, h => fun z hz => by
    rcases List.mem_cons.1 hz with rfl | hz
    · have := hw x (by simp)
      exact hr x.toNat (by omega) z h.1
    · exact readAs_ok hr (fun q hq => hw q (by simp [hq])) h.2 z hz
  | [], _ :: _, _, h => h.elim
  | _ :: _, [], _, h => h.elim
theorem runF_append (N : List (List Int)) (z v : List Int) : runF N (runL N z) v = runL N (z ++ v) := by rw [runL_append]; rfl
theorem runF_lt {m n : Nat} {N : List (List Int)} (hG : GoodN m n N) {s : Nat} (hs : s < n) {v : List Int} (hv : okW m v) : runF N s v < n := by
  induction v generalizing s with
  | nil => exact hs
  | cons x v ih => exact ih (goodN_step hG s hs x (hv x (by simp))).1 (fun y hy => hv y (by simp [hy]))
theorem okW_take {m : Nat} {v : List Int} (h : okW m v) (k : Nat) : okW m (v.take k) := fun x hx => h x (List.mem_of_mem_take hx)

/-- A word is taken by way of sets, just if some word that it may be read as is taken, behind letters that are let in ahead. -/
theorem langS {m n mu : Nat} {N : List (List Int)} (hG : GoodN m n N) (E : List Bool) {read : List (List Int)} {ls : List Int} (hr : ∀ l, l < mu → ∀ x ∈ read.getD l [], 0 ≤ x ∧ x < (m : Int)) (hl : ∀ x ∈ ls, 0 ≤ x ∧ x < (m : Int)) {w : List Int} (hw : okW mu w) :
    endM n E (runG (dM N n read) (cloM N n ls) w) = true ↔ ∃ z v, (∀ x ∈ z, x ∈ ls) ∧ readAs read w v ∧ tkB N E (z ++ v) = true := by
  have hlt : ∀ z : List Int, (∀ x ∈ z, x ∈ ls) → runL N z < n := fun z hz => by
    have := runL_lt hG z z.length (Nat.le_refl _) (fun j hj => hl _ (hz _ (by rw [getD_at _ j hj]; exact List.getElem_mem _)))
    rwa [List.take_length] at this
  rw [endM_iff]
  constructor
  · rintro ⟨t, ht, he, hb⟩
    obtain ⟨-, s, v, h1, h2, -, h4⟩ := (runM_bit w _ (cloM_lt _ _ _) t).1 hb
    obtain ⟨z, hz, rfl⟩ := (cloM_bit hG hl).1 h1
    refine ⟨z, v, hz, h2, ?_⟩
    unfold tkB
    rw [← runF_append, h4]
    exact he
  · rintro ⟨z, v, hz, h2, h3⟩
    have hv := readAs_ok hr hw h2
    have hs := hlt z hz
    refine ⟨runF N (runL N z) v, runF_lt hG hs hv, ?_, (runM_bit w _ (cloM_lt _ _ _) _).2 ⟨runF_lt hG hs hv, runL N z, v, (cloM_bit hG hl).2 ⟨z, hz, rfl⟩, h2, fun k _ => runF_lt hG hs (okW_take hv k), rfl⟩⟩
    rw [runF_append]
    exact h3

/-- How each letter of the others is read. -/
def readS (b : Int) (tr tk mu : Nat) : List (List Int) := (List.range mu).map fun l : Nat => withL b tr tk (l : Int)
theorem readS_len (b : Int) (tr tk mu : Nat) : (readS b tr tk mu).length = mu := by simp [readS]
theorem readS_get {b : Int} {tr tk mu l : Nat} (hl : l < mu) : (readS b tr tk mu).getD l [] = withL b tr tk (l : Int) := by simp [readS, List.getD, hl]
theorem withL_ok {b : Int} (h2 : b ≤ 6) {tr tk : Nat} (ht : tk ≤ tr) {m : Nat} (hm : pw (kindsI b) (tr + 1) = (m : Int)) (l : Int) : ∀ x ∈ withL b tr tk l, 0 ≤ x ∧ x < (m : Int) := by
  intro x hx
  obtain ⟨y, hy, rfl⟩ := List.mem_map.1 hx
  have hk := kinds_bd2 b h2
  have := pack_bd b h2 (putD b tr tk (y : Int) l) (putD_bd b h2 ⟨by omega, by have := List.mem_range.1 hy; omega⟩ l)
  rwa [putD_len ht, hm] at this
theorem readS_ok {b : Int} (h2 : b ≤ 6) {tr tk mu : Nat} (ht : tk ≤ tr) {m : Nat} (hm : pw (kindsI b) (tr + 1) = (m : Int)) : ∀ l, l < mu → ∀ x ∈ (readS b tr tk mu).getD l [], 0 ≤ x ∧ x < (m : Int) := by
  intro l hl
  rw [readS_get hl]
  exact withL_ok h2 ht hm _

/-- The sets of an automaton that come up; of them the automaton. -/
def setsS (N : List (List Int)) (n : Nat) (read : List (List Int)) (ls : List Int) : List Nat := outG (dM N n read) read.length (cloM N n ls) 2000
def setN (N : List (List Int)) (n : Nat) (read : List (List Int)) (ls : List Int) : List (List Int) := gN (dM N n read) read.length (setsS N n read ls)
def setE (N : List (List Int)) (n : Nat) (E : List Bool) (read : List (List Int)) (ls : List Int) : List Bool := gE (endM n E) (setsS N n read ls)
theorem sets_closed {N : List (List Int)} {n : Nat} {read : List (List Int)} {ls : List Int} (h : (setsS N n read ls).length ≤ 2000) : ClosedG (dM N n read) read.length (setsS N n read ls) := outG_closed h
theorem sets_first (N : List (List Int)) (n : Nat) (read : List (List Int)) (ls : List Int) : 0 < (setsS N n read ls).length ∧ (setsS N n read ls).getD 0 0 = cloM N n ls := outG_pos _ _ _ _
theorem setN_good {N : List (List Int)} {n : Nat} {read : List (List Int)} {ls : List Int} (h : (setsS N n read ls).length ≤ 2000) (h1 : 1 ≤ read.length) (h36 : read.length ≤ 36) : GoodN read.length (setsS N n read ls).length (setN N n read ls) := gN_good (sets_closed h) (sets_first _ _ _ _).1 (by omega) h1 h36
theorem setN_tk {N : List (List Int)} {n : Nat} {E : List Bool} {read : List (List Int)} {ls : List Int} (h : (setsS N n read ls).length ≤ 2000) (w : List Int) (hw : okW read.length w) : tkB (setN N n read ls) (setE N n E read ls) w = endM n E (runG (dM N n read) (cloM N n ls) w) := by
  rw [← (sets_first N n read ls).2]
  exact gN_tk (sets_closed h) (sets_first _ _ _ _).1 w hw

/-- Some: the fault of the sets, how many they are; the fault of all, the automaton. -/
def smR (b t tk : Int) : List (List Int) := readS b (t.toNat - 1) tk.toNat (manyU b (t - 1)).toNat
def smL (b t tk : Int) (N : List (List Int)) (E : List Bool) : List Nat := setsS (leastN N E (manyU b t).toNat) (leastK N E (manyU b t).toNat) (smR b t tk) ((smR b t tk).getD 0 [])
def smGN (b t tk : Int) (N : List (List Int)) (E : List Bool) : List (List Int) := setN (leastN N E (manyU b t).toNat) (leastK N E (manyU b t).toNat) (smR b t tk) ((smR b t tk).getD 0 [])
def smGE (b t tk : Int) (N : List (List Int)) (E : List Bool) : List Bool := setE (leastN N E (manyU b t).toNat) (leastK N E (manyU b t).toNat) (leastE N E (manyU b t).toNat) (smR b t tk) ((smR b t tk).getD 0 [])
def smF (b t : Int) (N : List (List Int)) (k : Nat) (tk : Int) : Int := if autoC b t N k = 0 then (if 0 ≤ tk ∧ tk < t then 0 else 1) else autoC b t N k
def smS (b t : Int) (N : List (List Int)) (E : List Bool) (k : Nat) (tk : Int) : Int := if smF b t N k tk = 0 then (if 2000 < (smL b t tk N E).length then 3 else 0) else smF b t N k tk
def smM (b t : Int) (N : List (List Int)) (E : List Bool) (k : Nat) (tk : Int) : Int := if smS b t N E k tk = 0 then ((smL b t tk N E).length : Int) else 0
def smC (b t : Int) (N : List (List Int)) (E : List Bool) (k : Nat) (tk : Int) : Int := if smS b t N E k tk = 0 then (if 80 < leastK (smGN b t tk N E) (smGE b t tk N E) (manyU b (t - 1)).toNat then 3 else 0) else smS b t N E k tk
def smN (b t : Int) (N : List (List Int)) (E : List Bool) (k : Nat) (tk : Int) : List (List Int) := if smC b t N E k tk = 0 then leastN (smGN b t tk N E) (smGE b t tk N E) (manyU b (t - 1)).toNat else []
def smE (b t : Int) (N : List (List Int)) (E : List Bool) (k : Nat) (tk : Int) : List Bool := if smC b t N E k tk = 0 then leastE (smGN b t tk N E) (smGE b t tk N E) (manyU b (t - 1)).toNat else []
theorem smF_zero {b t : Int} {N : List (List Int)} {k : Nat} {tk : Int} (h : smF b t N k tk = 0) : autoC b t N k = 0 ∧ 0 ≤ tk ∧ tk < t := by
  unfold smF at h
  split at h
  · split at h
    · exact ⟨by assumption, by omega, by omega⟩
    · cases h
  · rename_i h1; exact absurd h h1
theorem smS_zero {b t : Int} {N : List (List Int)} {E : List Bool} {k : Nat} {tk : Int} (h : smS b t N E k tk = 0) : smF b t N k tk = 0 ∧ (smL b t tk N E).length ≤ 2000 := by
  unfold smS at h
  split at h
  · split at h
    · cases h
    · exact ⟨by assumption, by omega⟩
  · rename_i h1; exact absurd h h1
theorem smC_zero {b t : Int} {N : List (List Int)} {E : List Bool} {k : Nat} {tk : Int} (h : smC b t N E k tk = 0) : smS b t N E k tk = 0 ∧ leastK (smGN b t tk N E) (smGE b t tk N E) (manyU b (t - 1)).toNat ≤ 80 := by
  unfold smC at h
  split at h
  · split at h
    · cases h
    · exact ⟨by assumption, by omega⟩
  · rename_i h1; exact absurd h h1

/-- What is so where a track can be left out. -/
structure SmWell (b : Int) (tr tk : Nat) (N : List (List Int)) (E : List Bool) (m mu : Nat) : Prop where
  base : 1 ≤ b ∧ b ≤ 6
  tracks : tr ≤ 4 ∧ tk ≤ tr
  good : GoodN m N.length N
  many : pw (kindsI b) (tr + 1) = (m : Int)
  few : pw (kindsI b) tr = (mu : Int)
  few36 : 1 ≤ mu ∧ mu ≤ 36
  code : codeM b (tr : Int) = 0
  mU : (manyU b ((tr : Int) + 1)).toNat = m
  fU : manyU b (tr : Int) = (mu : Int)
  n80 : N.length ≤ 80
theorem sm_well {b t : Int} {N : List (List Int)} (E : List Bool) {k : Nat} {tk : Int} (h : smF b t N k tk = 0) : ∃ tr tkn m mu : Nat, t = (tr : Int) + 1 ∧ tk = (tkn : Int) ∧ k = N.length ∧ SmWell b tr tkn N E m mu := by
  obtain ⟨hA, h0, h1⟩ := smF_zero h
  obtain ⟨hMt, hk, hG, hmu⟩ := autoC_zero hA
  have hn80 := autoC_80 hA
  obtain ⟨tr, rfl⟩ : ∃ tr : Nat, t = (tr : Int) + 1 := ⟨(t - 1).toNat, by omega⟩
  obtain ⟨tkn, rfl⟩ : ∃ tkn : Nat, tk = (tkn : Int) := ⟨tk.toNat, by omega⟩
  obtain ⟨hM, hm1, hm2, hm3, hm4, htr4, hb1, hb2⟩ := many_less hMt
  refine ⟨tr, tkn, (manyU b ((tr : Int) + 1)).toNat, (manyU b (tr : Int)).toNat, rfl, rfl, hk, ⟨⟨hb1, hb2⟩, ⟨htr4, by omega⟩, hG, by rw [hm4]; omega, by rw [← hm1]; omega, by omega, hM, rfl, by omega, hn80⟩⟩
theorem smR_eq {b : Int} {tr tk mu : Nat} (h : manyU b (tr : Int) = (mu : Int)) : smR b ((tr : Int) + 1) (tk : Int) = readS b tr tk mu := by
  unfold smR
  rw [show ((tr : Int) + 1).toNat - 1 = tr by omega, show (tr : Int) + 1 - 1 = (tr : Int) by omega, h, Int.toNat_natCast, Int.toNat_natCast]

/-- Which words are taken. -/
def someL (b : Int) (tr tk mu : Nat) (N : List (List Int)) (E : List Bool) (w : List Int) : Prop := ∃ z v, (∀ x ∈ z, x ∈ withL b tr tk 0) ∧ readAs (readS b tr tk mu) w v ∧ tkB N E (z ++ v) = true
theorem sm_lang {b : Int} {tr tk m mu : Nat} {N : List (List Int)} {E : List Bool} (H : SmWell b tr tk N E m mu) (h : (smL b ((tr : Int) + 1) (tk : Int) N E).length ≤ 2000) {w : List Int} (hw : okW mu w) :
    tkB (smGN b ((tr : Int) + 1) (tk : Int) N E) (smGE b ((tr : Int) + 1) (tk : Int) N E) w = true ↔ someL b tr tk mu N E w := by
  have hR := smR_eq (tk := tk) H.fU
  have hz : (readS b tr tk mu).getD 0 [] = withL b tr tk 0 := readS_get (by have := H.few36; omega)
  have hLG := least_good H.good E
  unfold smL at h
  unfold smGN smGE
  rw [hR, hz, H.mU] at h ⊢
  rw [setN_tk h w (by rw [readS_len]; exact hw), langS hLG (leastE N E m) (readS_ok H.base.2 H.tracks.2 H.many) (withL_ok H.base.2 H.tracks.2 H.many 0) hw]
  have hok : ∀ z v, (∀ x ∈ z, x ∈ withL b tr tk 0) → readAs (readS b tr tk mu) w v → okW m (z ++ v) := fun z v h1 h2 => okW_append.2 ⟨fun x hx => withL_ok H.base.2 H.tracks.2 H.many 0 x (h1 x hx), readAs_ok (readS_ok H.base.2 H.tracks.2 H.many) hw h2⟩
  constructor
  · rintro ⟨z, v, h1, h2, h3⟩
    exact ⟨z, v, h1, h2, by rw [← tk_least H.good E _ (hok z v h1 h2)]; exact h3⟩
  · rintro ⟨z, v, h1, h2, h3⟩
    exact ⟨z, v, h1, h2, by rw [tk_least H.good E _ (hok z v h1 h2)]; exact h3⟩
theorem sm_good {b : Int} {tr tk m mu : Nat} {N : List (List Int)} {E : List Bool} (H : SmWell b tr tk N E m mu) (h : (smL b ((tr : Int) + 1) (tk : Int) N E).length ≤ 2000) : GoodN mu (smL b ((tr : Int) + 1) (tk : Int) N E).length (smGN b ((tr : Int) + 1) (tk : Int) N E) := by
  have hR := smR_eq (tk := tk) H.fU
  unfold smL at h ⊢
  unfold smGN
  have := setN_good h (by rw [hR, readS_len]; exact H.few36.1) (by rw [hR, readS_len]; exact H.few36.2)
  rw [hR, readS_len] at this
  rw [hR]
  exact this
end Go.Proofs.Ytleebojibobgaaa

/- The reference's Closed: contract. -/
namespace Go.Proofs.Ytleebojibobgaaa
open Go.RowKit

theorem clo_zero {m n : Nat} {N : List (List Int)} (hG : GoodN m n N) {ls : List Int} (hl : ∀ x ∈ ls, 0 ≤ x ∧ x < (m : Int)) : (cloM N n ls).testBit 0 = true := (cloM_bit hG hl).2 ⟨[], by simp, rfl⟩
end Go.Proofs.Ytleebojibobgaaa

/- A track left out, word by word: mathematics of the laws SomeTakes and SomeOrder. -/
namespace Go.Proofs.Ytleebojibobgaaa
open Go.RowKit

theorem autoC_fine {b t : Int} {N : List (List Int)} {n : Nat} (hM : codeM b t = 0) (hG : GoodN (manyU b t).toNat n N) (hn : n ≤ 80) : autoC b t N n = 0 := by
  have h1 := hG.1
  have h2 := hG.2.1
  unfold autoC
  rw [if_pos hM, if_neg (by omega), if_neg (by omega), if_pos (by omega)]
  exact rowsC_all fun j hj => by
    have := hG.2.2.2.2.2 j (by omega)
    exact rowC_good this.1 (by rw [h1]; exact this.2)
/-- A letter with a track left out. -/
def delT (b : Int) (tr tk : Nat) (y : Int) : Int := packL b ((splitL b (tr + 1) y).eraseIdx tk)
theorem erase_bd {b : Int} {ds : List Int} (tk : Nat) (h : ∀ j, j < ds.length → 0 ≤ ds.getD j 0 ∧ ds.getD j 0 < kindsI b) : ∀ j, j < (ds.eraseIdx tk).length → 0 ≤ (ds.eraseIdx tk).getD j 0 ∧ (ds.eraseIdx tk).getD j 0 < kindsI b := by
  intro j hj
  have hm : (ds.eraseIdx tk).getD j 0 ∈ ds := by
    rw [getD_at _ j hj]
    exact (List.eraseIdx_sublist ds tk).subset (List.getElem_mem hj)
  obtain ⟨i, hi, e⟩ := List.getElem_of_mem hm
  rw [← e, ← getD_at _ i hi]
  exact h i hi
theorem put_erase {b : Int} {tr tk : Nat} (ht : tk ≤ tr) (x l : Int) : (putD b tr tk x l).eraseIdx tk = splitL b tr l := by
  unfold putD
  have hl : ((splitL b tr l).take tk).length = tk := by rw [List.length_take, splitL_length]; omega
  rw [List.append_assoc, List.eraseIdx_append_of_length_le (by omega), hl, Nat.sub_self]
  simp
theorem delT_bd {b : Int} (h2 : b ≤ 6) {tr tk mu : Nat} (ht : tk ≤ tr) (hf : pw (kindsI b) tr = (mu : Int)) (y : Int) : 0 ≤ delT b tr tk y ∧ delT b tr tk y < (mu : Int) := by
  have := pack_bd b h2 ((splitL b (tr + 1) y).eraseIdx tk) (erase_bd tk (split_bd b h2 (tr + 1) y))
  rw [List.length_eraseIdx_of_lt (by rw [splitL_length]; omega), splitL_length, show tr + 1 - 1 = tr by omega, hf] at this
  exact this
theorem mem_withL {b : Int} (h2 : b ≤ 6) {tr tk m mu : Nat} (ht : tk ≤ tr) (hm : pw (kindsI b) (tr + 1) = (m : Int)) (hf : pw (kindsI b) tr = (mu : Int)) {y l : Int} (hl : 0 ≤ l ∧ l < (mu : Int)) : y ∈ withL b tr tk l ↔ (0 ≤ y ∧ y < (m : Int)) ∧ delT b tr tk y = l := by
  have hkb := kinds_bd2 b h2
  constructor
  · intro h
    refine ⟨withL_ok h2 ht hm l y h, ?_⟩
    obtain ⟨x, hx, rfl⟩ := List.mem_map.1 h
    have hx' := List.mem_range.1 hx
    unfold delT
    have e := split_pack b h2 (putD b tr tk (x : Int) l) (putD_bd b h2 ⟨by omega, by omega⟩ l)
    rw [putD_len ht] at e
    rw [e, put_erase ht, pack_split b h2 tr l hl.1 (by rw [hf]; exact hl.2)]
  · rintro ⟨hy, rfl⟩
    have hlen : ((splitL b (tr + 1) y).eraseIdx tk).length = tr := by rw [List.length_eraseIdx_of_lt (by rw [splitL_length]; omega), splitL_length]; omega
    have e := split_pack b h2 ((splitL b (tr + 1) y).eraseIdx tk) (erase_bd tk (split_bd b h2 (tr + 1) y))
    rw [hlen] at e
    have hd := split_bd b h2 (tr + 1) y tk (by rw [splitL_length]; omega)
    refine List.mem_map.2 ⟨((splitL b (tr + 1) y).getD tk 0).toNat, List.mem_range.2 (by omega), ?_⟩
    rw [show ((((splitL b (tr + 1) y).getD tk 0).toNat : Nat) : Int) = (splitL b (tr + 1) y).getD tk 0 by omega]
    have hp : putD b tr tk ((splitL b (tr + 1) y).getD tk 0) (delT b tr tk y) = splitL b (tr + 1) y := by
      unfold putD delT
      rw [e]
      have hlt : tk < (splitL b (tr + 1) y).length := by rw [splitL_length]; omega
      generalize splitL b (tr + 1) y = ds at hlt
      rw [List.eraseIdx_eq_take_drop_succ, List.take_append_of_le_length (by rw [List.length_take]; omega), List.take_take, Nat.min_self, List.drop_append_of_le_length (by rw [List.length_take]; omega)]
      rw [show List.drop tk (List.take tk ds) = [] by rw [List.drop_eq_nil_iff, List.length_take]; omega]
      rw [List.nil_append, getD_at _ tk hlt, List.append_assoc]
      show ds.take tk ++ (ds[tk] :: ds.drop (tk + 1)) = ds
      rw [← List.drop_eq_getElem_cons hlt, List.take_append_drop]
    rw [hp, pack_split b h2 (tr + 1) y hy.1 (by rw [hm]; exact hy.2)]
theorem readAs_del {b : Int} (h2 : b ≤ 6) {tr tk m mu : Nat} (ht : tk ≤ tr) (hm : pw (kindsI b) (tr + 1) = (m : Int)) (hf : pw (kindsI b) tr = (mu : Int)) : ∀ {w v : List Int}, okW mu w → (readAs (readS b tr tk mu) w v ↔ okW m v ∧ v.map (delT b tr tk) = w)
  | [], [], _ => by simp [readAs, okW]
  | x :: w, y :: v, hw => by
    have hx := hw x (by simp)
    have ih := readAs_del h2 ht hm hf (w := w) (v := v) (fun q hq => hw q (by simp [hq]))
    show (y ∈ (readS b tr tk mu).getD x.toNat [] ∧ readAs (readS b tr tk mu) w v) ↔ _
    rw [readS_get (by omega), show ((x.toNat : Nat) : Int) = x by omega, mem_withL h2 ht hm hf hx, ih]
    constructor
    · rintro ⟨⟨h3, h4⟩, h5, h6⟩
      refine ⟨fun q hq => ?_, by rw [List.map_cons, h4, h6]⟩
      rcases List.mem_cons.1 hq with rfl | hq
      · exact h3
      · exact h5 q hq
    · rintro ⟨h3, h4⟩
      rw [List.map_cons, List.cons.injEq] at h4
      exact ⟨⟨h3 y (by simp), h4.1⟩, fun q hq => h3 q (by simp [hq]), h4.2⟩
  | [], _ :: _, _ => by simp [readAs]
  | _ :: _, [], _ => by simp [readAs]

/-- The document's words: there is a word that is taken and that, with the track left out, is w, or w behind 0s. -/
theorem someL_iff {b : Int} {tr tk m mu : Nat} {N : List (List Int)} {E : List Bool} (H : SmWell b tr tk N E m mu) {w : List Int} (hw : okW mu w) : someL b tr tk mu N E w ↔ ∃ u, okW m u ∧ tkB N E u = true ∧ ∃ j, u.map (delT b tr tk) = List.replicate j 0 ++ w := by
  have h0 : (0 : Int) ≤ 0 ∧ (0 : Int) < (mu : Int) := by have := H.few36; omega
  constructor
  · rintro ⟨z, v, h1, h2, h3⟩
    obtain ⟨h4, h5⟩ := (readAs_del H.base.2 H.tracks.2 H.many H.few hw).1 h2
    have hz : ∀ x ∈ z, (0 ≤ x ∧ x < (m : Int)) ∧ delT b tr tk x = 0 := fun x hx => (mem_withL H.base.2 H.tracks.2 H.many H.few h0).1 (h1 x hx)
    refine ⟨z ++ v, okW_append.2 ⟨fun x hx => (hz x hx).1, h4⟩, h3, z.length, ?_⟩
    rw [List.map_append, h5]
    congr 1
    have : z.map (delT b tr tk) = z.map (fun _ => 0) := List.map_congr_left fun x hx => (hz x hx).2
    rw [this, List.map_const']
  · rintro ⟨u, h1, h2, j, h3⟩
    have hl : u.length = j + w.length := by have := congrArg List.length h3; simpa using this
    have e1 : (u.take j).map (delT b tr tk) = List.replicate j 0 := by rw [List.map_take, h3, List.take_append_of_le_length (by simp)]; simp
    have e2 : (u.drop j).map (delT b tr tk) = w := by rw [List.map_drop, h3, List.drop_append_of_le_length (by simp)]; simp
    refine ⟨u.take j, u.drop j, fun x hx => (mem_withL H.base.2 H.tracks.2 H.many H.few h0).2 ⟨h1 x (List.mem_of_mem_take hx), ?_⟩, (readAs_del H.base.2 H.tracks.2 H.many H.few hw).2 ⟨fun x hx => h1 x (List.mem_of_mem_drop hx), e2⟩, by rw [List.take_append_drop]; exact h2⟩
    have : delT b tr tk x ∈ (u.take j).map (delT b tr tk) := List.mem_map_of_mem hx
    rw [e1] at this
    exact (List.mem_replicate.1 this).2

/-- Some's automaton, where all is well. -/
theorem smN_tk {b : Int} {tr tk m mu k : Nat} {N : List (List Int)} {E : List Bool} (H : SmWell b tr tk N E m mu) (h : smC b ((tr : Int) + 1) N E k (tk : Int) = 0) {w : List Int} (hw : okW mu w) :
    tkB (smN b ((tr : Int) + 1) N E k (tk : Int)) (smE b ((tr : Int) + 1) N E k (tk : Int)) w = true ↔ someL b tr tk mu N E w := by
  obtain ⟨hS, hK⟩ := smC_zero h
  obtain ⟨-, hL⟩ := smS_zero hS
  have hG := sm_good H hL
  unfold smN smE
  rw [if_pos h, if_pos h, show (tr : Int) + 1 - 1 = (tr : Int) by omega, H.fU, Int.toNat_natCast, tk_least hG _ _ hw, sm_lang H hL hw]
theorem smN_auto {b : Int} {tr tk m mu k : Nat} {N : List (List Int)} {E : List Bool} (H : SmWell b tr tk N E m mu) (h : smC b ((tr : Int) + 1) N E k (tk : Int) = 0) :
    autoC b (tr : Int) (smN b ((tr : Int) + 1) N E k (tk : Int)) (smN b ((tr : Int) + 1) N E k (tk : Int)).length = 0 ∧ (smE b ((tr : Int) + 1) N E k (tk : Int)).length = (smN b ((tr : Int) + 1) N E k (tk : Int)).length ∧ GoodN mu (smN b ((tr : Int) + 1) N E k (tk : Int)).length (smN b ((tr : Int) + 1) N E k (tk : Int)) := by
  obtain ⟨hS, hK⟩ := smC_zero h
  obtain ⟨-, hL⟩ := smS_zero hS
  have hG := sm_good H hL
  have e : (tr : Int) + 1 - 1 = (tr : Int) := by omega
  rw [e, H.fU, Int.toNat_natCast] at hK
  unfold smN smE
  rw [if_pos h, if_pos h, e, H.fU, Int.toNat_natCast]
  have hLG := least_good hG (smGE b ((tr : Int) + 1) (tk : Int) N E)
  refine ⟨?_, by rw [leastN_len, leastE_len], by rw [leastN_len]; exact hLG⟩
  rw [leastN_len]
  exact autoC_fine H.code (by rw [H.fU, Int.toNat_natCast]; exact hLG) hK
/-- Two tracks left out, in either order. -/
theorem del_zero {b : Int} (h2 : b ≤ 6) (tr tk : Nat) : delT b tr tk 0 = 0 := by
  have hk := kinds_bd2 b h2
  unfold delT
  have hs : ∀ x ∈ (splitL b (tr + 1) 0).eraseIdx tk, x = 0 := fun x hx => by
    have := (List.eraseIdx_sublist _ tk).subset hx
    simp only [splitL, List.mem_map] at this
    obtain ⟨i, _, rfl⟩ := this
    simp [dOf]
  generalize (splitL b (tr + 1) 0).eraseIdx tk = ds at hs
  induction ds using list_snoc_ind with
  | h0 => rfl
  | h1 ds x ih =>
    have e : packL b (ds ++ [x]) = packL b ds * kindsI b + x := by simp [packL, List.foldl_append]
    rw [e, ih (fun y hy => hs y (by simp [hy])), hs x (by simp)]
    simp
theorem del_two {b : Int} (h2 : b ≤ 6) {tr : Nat} (y : Int) : delT b tr 0 (delT b (tr + 1) 1 y) = delT b tr 0 (delT b (tr + 1) 0 y) := by
  have key : ∀ tk, tk ≤ 1 → splitL b (tr + 1) (delT b (tr + 1) tk y) = (splitL b (tr + 2) y).eraseIdx tk := fun tk htk => by
    have e := split_pack b h2 ((splitL b (tr + 2) y).eraseIdx tk) (erase_bd tk (split_bd b h2 (tr + 2) y))
    rw [List.length_eraseIdx_of_lt (by rw [splitL_length]; omega), splitL_length, show tr + 2 - 1 = tr + 1 by omega] at e
    exact e
  unfold delT at key ⊢
  rw [key 1 (by omega), key 0 (by omega)]
  congr 1
  have hl : (splitL b (tr + 2) y).length = tr + 2 := splitL_length _ _ _
  generalize splitL b (tr + 2) y = ds at hl
  match ds, hl with
  | x :: x' :: ds, _ => simp
/-- Left out of what a track was left out of. -/
theorem some_some {b : Int} {tr tk tk2 m mu m2 k : Nat} {N : List (List Int)} {E : List Bool} (H : SmWell b (tr + 1) tk N E m mu) (h : smC b (((tr + 1 : Nat) : Int) + 1) N E k (tk : Int) = 0) (H2 : SmWell b tr tk2 (smN b (((tr + 1 : Nat) : Int) + 1) N E k (tk : Int)) (smE b (((tr + 1 : Nat) : Int) + 1) N E k (tk : Int)) mu m2) {w : List Int} (hw : okW m2 w) :
    someL b tr tk2 m2 (smN b (((tr + 1 : Nat) : Int) + 1) N E k (tk : Int)) (smE b (((tr + 1 : Nat) : Int) + 1) N E k (tk : Int)) w ↔ ∃ u, okW m u ∧ tkB N E u = true ∧ ∃ j, u.map (fun y => delT b tr tk2 (delT b (tr + 1) tk y)) = List.replicate j 0 ++ w := by
  have hb := H.base.2
  rw [someL_iff H2 hw]
  constructor
  · rintro ⟨u, h1, h3, j, h4⟩
    rw [smN_tk H h h1, someL_iff H h1] at h3
    obtain ⟨v, h5, h6, i, h7⟩ := h3
    refine ⟨v, h5, h6, i + j, ?_⟩
    have : v.map (fun y => delT b tr tk2 (delT b (tr + 1) tk y)) = (v.map (delT b (tr + 1) tk)).map (delT b tr tk2) := by rw [List.map_map]; rfl
    rw [this, h7, List.map_append, h4, List.map_replicate, del_zero hb, ← List.append_assoc, List.replicate_append_replicate]
  · rintro ⟨v, h5, h6, j, h7⟩
    have hu : okW mu (v.map (delT b (tr + 1) tk)) := fun x hx => by
      obtain ⟨y, _, rfl⟩ := List.mem_map.1 hx
      exact delT_bd hb H.tracks.2 H.few y
    refine ⟨v.map (delT b (tr + 1) tk), hu, ?_, j, ?_⟩
    · rw [smN_tk H h hu, someL_iff H hu]
      exact ⟨v, h5, h6, 0, by simp⟩
    · rw [List.map_map, ← h7]; rfl
end Go.Proofs.Ytleebojibobgaaa

/- The automaton of the laws of layer 7: what package some answers about it. -/
namespace Go.Proofs.Ytleebojibobgaaa
open Go.RowKit

def smeN : List (List Int) := [[0, 1, 1, 0], [1, 1, 1, 1]]
def smeE : List Bool := [true, false]
/-- Sets that come up, by what comes up early. -/
theorem setsS_early {N : List (List Int)} {n : Nat} {read : List (List Int)} {ls : List Int} {i : Nat} {L : List Nat} (hi : i ≤ 2000) (h : outG (dM N n read) read.length (cloM N n ls) i = L) (hl : L.length ≤ i) : setsS N n read ls = L := by
  obtain ⟨j, hj⟩ : ∃ j, 2000 = i + j := ⟨2000 - i, by omega⟩
  unfold setsS
  rw [hj, outG_stay (by rw [h]; exact hl), h]
theorem sme_row1 : smL 2 2 1 smeN smeE = [3] := setsS_early (i := 1) (by omega) (by decide +kernel) (by decide)
theorem sme_f1 : smF 2 2 smeN 2 1 = 0 := by decide +kernel
theorem sme_sets : smS 2 2 smeN smeE 2 1 = 0 := by unfold smS; rw [sme_f1, sme_row1]; decide
theorem sme_many : smM 2 2 smeN smeE 2 1 = 1 := by unfold smM; rw [sme_sets, sme_row1]; decide
end Go.Proofs.Ytleebojibobgaaa

/- filbertlaw2.same: contract. -/
namespace Go.Proofs.Ytleebojibobgaaa
open Go.RowKit

/-- The automaton of the facts, built behind its box. -/
theorem sme_world (w : World) (o : Obj) (T T2 T3 : TypeId) {u : World} (hu : u = ((((w.alloc o).alloc (.cells #[.int .i64 0, .int .i64 1, .int .i64 1, .int .i64 0] T)).alloc (.cells #[.int .i64 1, .int .i64 1, .int .i64 1, .int .i64 1] T)).alloc (.cells #[.slice (some ⟨w.heap.size + 1, 0, none⟩) 4 4, .slice (some ⟨w.heap.size + 1 + 1, 0, none⟩) 4 4] T2)).alloc (.cells #[.bool true, .bool false] T3)) :
    AutoNew w (some ⟨w.heap.size + 1 + 1 + 1, 0, none⟩) 2 smeN (some ⟨w.heap.size + 1 + 1 + 1 + 1, 0, none⟩) smeE u ∧ Below w.heap.size w u ∧ u.heap[w.heap.size]? = (w.alloc o).heap[w.heap.size]? := by
  obtain ⟨u0, hu0⟩ : ∃ u0, u0 = w.alloc o := ⟨_, rfl⟩
  rw [← hu0] at hu ⊢
  obtain ⟨u1, hu1⟩ : ∃ u1, u1 = u0.alloc (.cells #[.int .i64 0, .int .i64 1, .int .i64 1, .int .i64 0] T) := ⟨_, rfl⟩
  obtain ⟨u2, hu2⟩ : ∃ u2, u2 = u1.alloc (.cells #[.int .i64 1, .int .i64 1, .int .i64 1, .int .i64 1] T) := ⟨_, rfl⟩
  obtain ⟨u3, hu3⟩ : ∃ u3, u3 = u2.alloc (.cells #[.slice (some ⟨w.heap.size + 1, 0, none⟩) 4 4, .slice (some ⟨w.heap.size + 1 + 1, 0, none⟩) 4 4] T2) := ⟨_, rfl⟩
  rw [← hu1, ← hu2, ← hu3] at hu
  have s0 : u0.heap.size = w.heap.size + 1 := by rw [hu0]; simp
  have s1 : u1.heap.size = w.heap.size + 1 + 1 := by rw [hu1]; simp [s0]
  have s2 : u2.heap.size = w.heap.size + 1 + 1 + 1 := by rw [hu2]; simp [s1]
  have s3 : u3.heap.size = w.heap.size + 1 + 1 + 1 + 1 := by rw [hu3]; simp [s2]
  have s4 : u.heap.size = w.heap.size + 1 + 1 + 1 + 1 + 1 := by rw [hu]; simp [s3]
  have b0 : Below w.heap.size w u0 := by rw [hu0]; exact (Below.refl _ _).alloc (Nat.le_refl _) _
  have b1 : Below u0.heap.size u0 u1 := by rw [hu1]; exact (Below.refl _ _).alloc (Nat.le_refl _) _
  have b2 : Below u1.heap.size u1 u2 := by rw [hu2]; exact (Below.refl _ _).alloc (Nat.le_refl _) _
  have b3 : Below u2.heap.size u2 u3 := by rw [hu3]; exact (Below.refl _ _).alloc (Nat.le_refl _) _
  have b4 : Below u3.heap.size u3 u := by rw [hu]; exact (Below.refl _ _).alloc (Nat.le_refl _) _
  have g1 : u1.heap[w.heap.size + 1]? = some (.cells #[.int .i64 0, .int .i64 1, .int .i64 1, .int .i64 0] T (0, 0)) := by rw [hu1, ← s0]; exact heap_alloc_last _ _
  have g2 : u2.heap[w.heap.size + 1 + 1]? = some (.cells #[.int .i64 1, .int .i64 1, .int .i64 1, .int .i64 1] T (0, 0)) := by rw [hu2, ← s1]; exact heap_alloc_last _ _
  have g3 : u3.heap[w.heap.size + 1 + 1 + 1]? = some (.cells #[.slice (some ⟨w.heap.size + 1, 0, none⟩) 4 4, .slice (some ⟨w.heap.size + 1 + 1, 0, none⟩) 4 4] T2 (0, 0)) := by rw [hu3, ← s2]; exact heap_alloc_last _ _
  have g4 : u.heap[w.heap.size + 1 + 1 + 1 + 1]? = some (.cells #[.bool true, .bool false] T3 (0, 0)) := by rw [hu, ← s3]; exact heap_alloc_last _ _
  have k1 := (b4.block (w.heap.size + 1) (by omega)).trans ((b3.block _ (by omega)).trans ((b2.block _ (by omega)).trans g1))
  have k2 := (b4.block (w.heap.size + 1 + 1) (by omega)).trans ((b3.block _ (by omega)).trans g2)
  have k3 := (b4.block (w.heap.size + 1 + 1 + 1) (by omega)).trans g3
  have k0 := (b4.block w.heap.size (by omega)).trans ((b3.block _ (by omega)).trans ((b2.block _ (by omega)).trans (b1.block _ (by omega))))
  clear hu0 hu1 hu2 hu3 hu
  refine ⟨fun W' hW => ?_, below_step (below_step (below_step (below_step b0 b1) b2) b3) b4, k0⟩
  have l1 := (hW (w.heap.size + 1) (by omega) (by omega)).trans k1
  have l2 := (hW (w.heap.size + 1 + 1) (by omega) (by omega)).trans k2
  have l3 := (hW (w.heap.size + 1 + 1 + 1) (by omega) (by omega)).trans k3
  have l4 := (hW (w.heap.size + 1 + 1 + 1 + 1) (by omega) (by omega)).trans g4
  have four : ∀ i, i < 4 → i = 0 ∨ i = 1 ∨ i = 2 ∨ i = 3 := by omega
  have two : ∀ i, i < 2 → i = 0 ∨ i = 1 := by omega
  have r1 : Sl W' (some ⟨w.heap.size + 1, 0, none⟩) 4 [0, 1, 1, 0] := ⟨rfl, by decide, by decide, Or.inr ⟨_, 0, rfl, fun i hi => by rcases four i hi with rfl | rfl | rfl | rfl <;> simp [World.cell?, l1]⟩⟩
  have r2 : Sl W' (some ⟨w.heap.size + 1 + 1, 0, none⟩) 4 [1, 1, 1, 1] := ⟨rfl, by decide, by decide, Or.inr ⟨_, 0, rfl, fun i hi => by rcases four i hi with rfl | rfl | rfl | rfl <;> simp [World.cell?, l2]⟩⟩
  refine ⟨⟨rfl, by decide, Or.inr ⟨_, 0, rfl, fun i hi => ?_⟩⟩, ⟨rfl, by decide, Or.inr ⟨_, 0, rfl, fun i hi => by rcases two i hi with rfl | rfl <;> simp [smeE, World.cell?, l4]⟩⟩⟩
  rcases two i hi with rfl | rfl
  · exact ⟨_, 4, by simp [smeN, World.cell?, l3], r1⟩
  · exact ⟨_, 4, by simp [smeN, World.cell?, l3], r2⟩

set_option maxHeartbeats 4000000 in
theorem sme_any (w : World) : Calls Try.prog 7 #[] w (GivesAuto w 2 2 smeN smeE) := by
  go_enter Try.func7, Try.ntmps7
  go_wp2
  generalize hu : ((((w.alloc _).alloc _).alloc _).alloc _).alloc _ = u
  obtain ⟨h1, h2, h3⟩ := sme_world w _ _ _ _ hu.symm
  rw [heap_alloc_last] at h3
  obtain ⟨⟨z0, z1, z2, z3⟩, -⟩ := box_cells h3
  clear hu h3
  exact bodyPost_ret (v := .agg #[.int .i64 2, .int .i64 2, .slice (some ⟨w.heap.size + 1 + 1 + 1, 0, none⟩) 2 2, .slice (some ⟨w.heap.size + 1 + 1 + 1 + 1, 0, none⟩) 2 2]) (by simp [results, Try.results7, go_sem, z0, z1, z2, z3]) rfl ⟨_, 2, _, 2, rfl, h1, h2⟩
end Go.Proofs.Ytleebojibobgaaa
