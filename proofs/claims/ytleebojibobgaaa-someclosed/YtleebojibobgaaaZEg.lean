/- 11 texts in one. -/
import Derived.Deep.RegionHeldLaw
import Derived.Deep.RegionLaw
import Derived.Test.YtleebojibobgaaaMa
import Derived.Test.YtleebojibobgaaaZNx
import Derived.Test.YtleebojibobgaaaAx
import Derived.Test.YtleebojibobgaaaB
import Derived.Test.YtleebojibobgaaaBp
import Derived.Test.YtleebojibobgaaaCf
import Derived.Test.YtleebojibobgaaaDb
import Derived.Test.YtleebojibobgaaaEa
import Derived.Test.YtleebojibobgaaaZG
import Derived.Test.YtleebojibobgaaaZLb
import Derived.Test.YtleebojibobgaaaZLp
import Derived.Test.YtleebojibobgaaaZMp
import Derived.Test.YtleebojibobgaaaZAt
import Derived.Test.YtleebojibobgaaaBt
/- The reference's Without: contract. -/
namespace Go.Proofs.Ytleebojibobgaaa
open Go.RowKit

/-- The letters that have letter l of the others, and any digit on track t. -/
def withL (b : Int) (tr t : Nat) (l : Int) : List Int := (List.range (kindsI b).toNat).map fun x : Nat => packL b (putD b tr t (x : Int) l)
end Go.Proofs.Ytleebojibobgaaa

/- The reference's FixOf: contract. -/
namespace Go.Proofs.Ytleebojibobgaaa
open Go.RowKit

/-- One track fewer has no more letters. -/
theorem many_less {b : Int} {tr : Nat} (h : codeM b ((tr : Int) + 1) = 0) : codeM b (tr : Int) = 0 ∧ manyU b (tr : Int) = pw (kindsI b) tr ∧ 1 ≤ manyU b (tr : Int) ∧ manyU b (tr : Int) ≤ 36 ∧ pw (kindsI b) (tr + 1) = manyU b ((tr : Int) + 1) ∧ tr ≤ 4 ∧ 1 ≤ b ∧ b ≤ 6 := by
  obtain ⟨h1, h2, h3, h4, h5, h6⟩ := codeM_zero h
  have hk := kinds_bd2 b h2
  rw [show ((tr : Int) + 1).toNat = tr + 1 by omega] at h5 h6
  have hp := pw_pos (kindsI b) hk.1 tr
  have hle : pw (kindsI b) tr ≤ 36 := by
    rw [pw_succ] at h5
    have := Int.mul_le_mul_of_nonneg_left (show (1 : Int) ≤ kindsI b by omega) (show 0 ≤ pw (kindsI b) tr by omega)
    omega
  have hc : codeM b (tr : Int) = 0 := by
    rw [codeM_yes h1 h2 (by omega) (by omega), Int.toNat_natCast, if_pos hle]
  have hm : manyU b (tr : Int) = pw (kindsI b) tr := by
    have := (codeM_zero hc).2.2.2.2.2
    rwa [Int.toNat_natCast] at this
  exact ⟨hc, hm, by omega, by omega, h6.symm, by omega, h1, h2⟩

end Go.Proofs.Ytleebojibobgaaa

/- A track left out: the sets that come up, the words that are taken; mathematics. -/
namespace Go.Proofs.Ytleebojibobgaaa
open Go.RowKit

theorem readAs_ok {read : List (List Int)} {m mu : Nat} (hr : ∀ l, l < mu → ∀ x ∈ read.getD l [], 0 ≤ x ∧ x < (m : Int)) : ∀ {w v : List Int}, okW mu w → readAs read w v → okW m v
  | [], [], _, _ => fun _ h => by cases h
  | x :: w, y :: v, hw, h => fun z hz => by
    rcases List.mem_cons.1 hz with rfl | hz
    · have := hw x (by simp)
      exact hr x.toNat (by omega) z h.1
    · exact readAs_ok hr (fun q hq => hw q (by simp [hq])) h.2 z hz
  | [], _ :: _, _, h => h.elim
  | _ :: _, [], _, h => h.elim
theorem runF_append (N : List (List Int)) (z v : List Int) : runF N (runL N z) v = runL N (z ++ v) := by rw [runL_append]; rfl
theorem runF_lt {m n : Nat} {N : List (List Int)} (hG : GoodN m n N) {s : Nat} (hs : s < n) {v : List Int} (hv : okW m v) : runF N s v < n := by
  induction v generalizing s with
  | nil => exact hs
  | cons x v ih => exact ih (goodN_step hG s hs x (hv x (by simp))).1 (fun y hy => hv y (by simp [hy]))
theorem okW_take {m : Nat} {v : List Int} (h : okW m v) (k : Nat) : okW m (v.take k) := fun x hx => h x (List.mem_of_mem_take hx)

/-- A word is taken by way of sets, just if some word that it may be read as is taken, behind letters that are let in ahead. -/
theorem langS {m n mu : Nat} {N : List (List Int)} (hG : GoodN m n N) (E : List Bool) {read : List (List Int)} {ls : List Int} (hr : ∀ l, l < mu → ∀ x ∈ read.getD l [], 0 ≤ x ∧ x < (m : Int)) (hl : ∀ x ∈ ls, 0 ≤ x ∧ x < (m : Int)) {w : List Int} (hw : okW mu w) :
    endM n E (runG (dM N n read) (cloM N n ls) w) = true ↔ ∃ z v, (∀ x ∈ z, x ∈ ls) ∧ readAs read w v ∧ tkB N E (z ++ v) = true := by
  have hlt : ∀ z : List Int, (∀ x ∈ z, x ∈ ls) → runL N z < n := fun z hz => by
    have := runL_lt hG z z.length (Nat.le_refl _) (fun j hj => hl _ (hz _ (by rw [getD_at _ j hj]; exact List.getElem_mem _)))
    rwa [List.take_length] at this
  rw [endM_iff]
  constructor
  · rintro ⟨t, ht, he, hb⟩
    obtain ⟨-, s, v, h1, h2, -, h4⟩ := (runM_bit w _ (cloM_lt _ _ _) t).1 hb
    obtain ⟨z, hz, rfl⟩ := (cloM_bit hG hl).1 h1
    refine ⟨z, v, hz, h2, ?_⟩
    unfold tkB
    rw [← runF_append, h4]
    exact he
  · rintro ⟨z, v, hz, h2, h3⟩
    have hv := readAs_ok hr hw h2
    have hs := hlt z hz
    refine ⟨runF N (runL N z) v, runF_lt hG hs hv, ?_, (runM_bit w _ (cloM_lt _ _ _) _).2 ⟨runF_lt hG hs hv, runL N z, v, (cloM_bit hG hl).2 ⟨z, hz, rfl⟩, h2, fun k _ => runF_lt hG hs (okW_take hv k), rfl⟩⟩
    rw [runF_append]
    exact h3

/-- How each letter of the others is read. -/
def readS (b : Int) (tr tk mu : Nat) : List (List Int) := (List.range mu).map fun l : Nat => withL b tr tk (l : Int)
theorem readS_len (b : Int) (tr tk mu : Nat) : (readS b tr tk mu).length = mu := by simp [readS]
theorem readS_get {b : Int} {tr tk mu l : Nat} (hl : l < mu) : (readS b tr tk mu).getD l [] = withL b tr tk (l : Int) := by simp [readS, List.getD, hl]
theorem withL_ok {b : Int} (h2 : b ≤ 6) {tr tk : Nat} (ht : tk ≤ tr) {m : Nat} (hm : pw (kindsI b) (tr + 1) = (m : Int)) (l : Int) : ∀ x ∈ withL b tr tk l, 0 ≤ x ∧ x < (m : Int) := by
  intro x hx
  obtain ⟨y, hy, rfl⟩ := List.mem_map.1 hx
  have hk := kinds_bd2 b h2
  have := pack_bd b h2 (putD b tr tk (y : Int) l) (putD_bd b h2 ⟨by omega, by have := List.mem_range.1 hy; omega⟩ l)
  rwa [putD_len ht, hm] at this
theorem readS_ok {b : Int} (h2 : b ≤ 6) {tr tk mu : Nat} (ht : tk ≤ tr) {m : Nat} (hm : pw (kindsI b) (tr + 1) = (m : Int)) : ∀ l, l < mu → ∀ x ∈ (readS b tr tk mu).getD l [], 0 ≤ x ∧ x < (m : Int) := by
  intro l hl
  rw [readS_get hl]
  exact withL_ok h2 ht hm _

/-- The sets of an automaton that come up; of them the automaton. -/
def setsS (N : List (List Int)) (n : Nat) (read : List (List Int)) (ls : List Int) : List Nat := outG (dM N n read) read.length (cloM N n ls) 2000
def setN (N : List (List Int)) (n : Nat) (read : List (List Int)) (ls : List Int) : List (List Int) := gN (dM N n read) read.length (setsS N n read ls)
def setE (N : List (List Int)) (n : Nat) (E : List Bool) (read : List (List Int)) (ls : List Int) : List Bool := gE (endM n E) (setsS N n read ls)
theorem sets_closed {N : List (List Int)} {n : Nat} {read : List (List Int)} {ls : List Int} (h : (setsS N n read ls).length ≤ 2000) : ClosedG (dM N n read) read.length (setsS N n read ls) := outG_closed h
theorem sets_first (N : List (List Int)) (n : Nat) (read : List (List Int)) (ls : List Int) : 0 < (setsS N n read ls).length ∧ (setsS N n read ls).getD 0 0 = cloM N n ls := outG_pos _ _ _ _
theorem setN_good {N : List (List Int)} {n : Nat} {read : List (List Int)} {ls : List Int} (h : (setsS N n read ls).length ≤ 2000) (h1 : 1 ≤ read.length) (h36 : read.length ≤ 36) : GoodN read.length (setsS N n read ls).length (setN N n read ls) := gN_good (sets_closed h) (sets_first _ _ _ _).1 (by omega) h1 h36
theorem setN_tk {N : List (List Int)} {n : Nat} {E : List Bool} {read : List (List Int)} {ls : List Int} (h : (setsS N n read ls).length ≤ 2000) (w : List Int) (hw : okW read.length w) : tkB (setN N n read ls) (setE N n E read ls) w = endM n E (runG (dM N n read) (cloM N n ls) w) := by
  rw [← (sets_first N n read ls).2]
  exact gN_tk (sets_closed h) (sets_first _ _ _ _).1 w hw

/-- Some: the fault of the sets, how many they are; the fault of all, the automaton. -/
def smR (b t tk : Int) : List (List Int) := readS b (t.toNat - 1) tk.toNat (manyU b (t - 1)).toNat
def smL (b t tk : Int) (N : List (List Int)) (E : List Bool) : List Nat := setsS (leastN N E (manyU b t).toNat) (leastK N E (manyU b t).toNat) (smR b t tk) ((smR b t tk).getD 0 [])
def smGN (b t tk : Int) (N : List (List Int)) (E : List Bool) : List (List Int) := setN (leastN N E (manyU b t).toNat) (leastK N E (manyU b t).toNat) (smR b t tk) ((smR b t tk).getD 0 [])
def smGE (b t tk : Int) (N : List (List Int)) (E : List Bool) : List Bool := setE (leastN N E (manyU b t).toNat) (leastK N E (manyU b t).toNat) (leastE N E (manyU b t).toNat) (smR b t tk) ((smR b t tk).getD 0 [])
def smF (b t : Int) (N : List (List Int)) (k : Nat) (tk : Int) : Int := if autoC b t N k = 0 then (if 0 ≤ tk ∧ tk < t then 0 else 1) else autoC b t N k
def smS (b t : Int) (N : List (List Int)) (E : List Bool) (k : Nat) (tk : Int) : Int := if smF b t N k tk = 0 then (if 2000 < (smL b t tk N E).length then 3 else 0) else smF b t N k tk
def smC (b t : Int) (N : List (List Int)) (E : List Bool) (k : Nat) (tk : Int) : Int := if smS b t N E k tk = 0 then (if 80 < leastK (smGN b t tk N E) (smGE b t tk N E) (manyU b (t - 1)).toNat then 3 else 0) else smS b t N E k tk
def smN (b t : Int) (N : List (List Int)) (E : List Bool) (k : Nat) (tk : Int) : List (List Int) := if smC b t N E k tk = 0 then leastN (smGN b t tk N E) (smGE b t tk N E) (manyU b (t - 1)).toNat else []
def smE (b t : Int) (N : List (List Int)) (E : List Bool) (k : Nat) (tk : Int) : List Bool := if smC b t N E k tk = 0 then leastE (smGN b t tk N E) (smGE b t tk N E) (manyU b (t - 1)).toNat else []
theorem smF_zero {b t : Int} {N : List (List Int)} {k : Nat} {tk : Int} (h : smF b t N k tk = 0) : autoC b t N k = 0 ∧ 0 ≤ tk ∧ tk < t := by
  unfold smF at h
  split at h
  · split at h
    · exact ⟨by assumption, by omega, by omega⟩
    · cases h
  · rename_i h1; exact absurd h h1
theorem smS_zero {b t : Int} {N : List (List Int)} {E : List Bool} {k : Nat} {tk : Int} (h : smS b t N E k tk = 0) : smF b t N k tk = 0 ∧ (smL b t tk N E).length ≤ 2000 := by
  unfold smS at h
  split at h
  · split at h
    · cases h
    · exact ⟨by assumption, by omega⟩
  · rename_i h1; exact absurd h h1
theorem smC_zero {b t : Int} {N : List (List Int)} {E : List Bool} {k : Nat} {tk : Int} (h : smC b t N E k tk = 0) : smS b t N E k tk = 0 ∧ leastK (smGN b t tk N E) (smGE b t tk N E) (manyU b (t - 1)).toNat ≤ 80 := by
  unfold smC at h
  split at h
  · split at h
    · cases h
    · exact ⟨by assumption, by omega⟩
  · rename_i h1; exact absurd h h1

/-- What is so where a track can be left out. -/
structure SmWell (b : Int) (tr tk : Nat) (N : List (List Int)) (E : List Bool) (m mu : Nat) : Prop where
  base : 1 ≤ b ∧ b ≤ 6
  tracks : tr ≤ 4 ∧ tk ≤ tr
  good : GoodN m N.length N
  many : pw (kindsI b) (tr + 1) = (m : Int)
  few : pw (kindsI b) tr = (mu : Int)
  few36 : 1 ≤ mu ∧ mu ≤ 36
  code : codeM b (tr : Int) = 0
  mU : (manyU b ((tr : Int) + 1)).toNat = m
  fU : manyU b (tr : Int) = (mu : Int)
  n80 : N.length ≤ 80
theorem sm_well {b t : Int} {N : List (List Int)} (E : List Bool) {k : Nat} {tk : Int} (h : smF b t N k tk = 0) : ∃ tr tkn m mu : Nat, t = (tr : Int) + 1 ∧ tk = (tkn : Int) ∧ k = N.length ∧ SmWell b tr tkn N E m mu := by
  obtain ⟨hA, h0, h1⟩ := smF_zero h
  obtain ⟨hMt, hk, hG, hmu⟩ := autoC_zero hA
  have hn80 := autoC_80 hA
  obtain ⟨tr, rfl⟩ : ∃ tr : Nat, t = (tr : Int) + 1 := ⟨(t - 1).toNat, by omega⟩
  obtain ⟨tkn, rfl⟩ : ∃ tkn : Nat, tk = (tkn : Int) := ⟨tk.toNat, by omega⟩
  obtain ⟨hM, hm1, hm2, hm3, hm4, htr4, hb1, hb2⟩ := many_less hMt
  refine ⟨tr, tkn, (manyU b ((tr : Int) + 1)).toNat, (manyU b (tr : Int)).toNat, rfl, rfl, hk, ⟨⟨hb1, hb2⟩, ⟨htr4, by omega⟩, hG, by rw [hm4]; omega, by rw [← hm1]; omega, by omega, hM, rfl, by omega, hn80⟩⟩
theorem smR_eq {b : Int} {tr tk mu : Nat} (h : manyU b (tr : Int) = (mu : Int)) : smR b ((tr : Int) + 1) (tk : Int) = readS b tr tk mu := by
  unfold smR
  rw [show ((tr : Int) + 1).toNat - 1 = tr by omega, show (tr : Int) + 1 - 1 = (tr : Int) by omega, h, Int.toNat_natCast, Int.toNat_natCast]

/-- Which words are taken. -/
def someL (b : Int) (tr tk mu : Nat) (N : List (List Int)) (E : List Bool) (w : List Int) : Prop := ∃ z v, (∀ x ∈ z, x ∈ withL b tr tk 0) ∧ readAs (readS b tr tk mu) w v ∧ tkB N E (z ++ v) = true
theorem sm_lang {b : Int} {tr tk m mu : Nat} {N : List (List Int)} {E : List Bool} (H : SmWell b tr tk N E m mu) (h : (smL b ((tr : Int) + 1) (tk : Int) N E).length ≤ 2000) {w : List Int} (hw : okW mu w) :
    tkB (smGN b ((tr : Int) + 1) (tk : Int) N E) (smGE b ((tr : Int) + 1) (tk : Int) N E) w = true ↔ someL b tr tk mu N E w := by
  have hR := smR_eq (tk := tk) H.fU
  have hz : (readS b tr tk mu).getD 0 [] = withL b tr tk 0 := readS_get (by have := H.few36; omega)
  have hLG := least_good H.good E
  unfold smL at h
  unfold smGN smGE
  rw [hR, hz, H.mU] at h ⊢
  rw [setN_tk h w (by rw [readS_len]; exact hw), langS hLG (leastE N E m) (readS_ok H.base.2 H.tracks.2 H.many) (withL_ok H.base.2 H.tracks.2 H.many 0) hw]
  have hok : ∀ z v, (∀ x ∈ z, x ∈ withL b tr tk 0) → readAs (readS b tr tk mu) w v → okW m (z ++ v) := fun z v h1 h2 => okW_append.2 ⟨fun x hx => withL_ok H.base.2 H.tracks.2 H.many 0 x (h1 x hx), readAs_ok (readS_ok H.base.2 H.tracks.2 H.many) hw h2⟩
  constructor
  · rintro ⟨z, v, h1, h2, h3⟩
    exact ⟨z, v, h1, h2, by rw [← tk_least H.good E _ (hok z v h1 h2)]; exact h3⟩
  · rintro ⟨z, v, h1, h2, h3⟩
    exact ⟨z, v, h1, h2, by rw [tk_least H.good E _ (hok z v h1 h2)]; exact h3⟩
theorem sm_good {b : Int} {tr tk m mu : Nat} {N : List (List Int)} {E : List Bool} (H : SmWell b tr tk N E m mu) (h : (smL b ((tr : Int) + 1) (tk : Int) N E).length ≤ 2000) : GoodN mu (smL b ((tr : Int) + 1) (tk : Int) N E).length (smGN b ((tr : Int) + 1) (tk : Int) N E) := by
  have hR := smR_eq (tk := tk) H.fU
  unfold smL at h ⊢
  unfold smGN
  have := setN_good h (by rw [hR, readS_len]; exact H.few36.1) (by rw [hR, readS_len]; exact H.few36.2)
  rw [hR, readS_len] at this
  rw [hR]
  exact this
end Go.Proofs.Ytleebojibobgaaa

/- The reference's Closed: contract. -/
namespace Go.Proofs.Ytleebojibobgaaa
open Go.RowKit

theorem clo_zero {m n : Nat} {N : List (List Int)} (hG : GoodN m n N) {ls : List Int} (hl : ∀ x ∈ ls, 0 ≤ x ∧ x < (m : Int)) : (cloM N n ls).testBit 0 = true := (cloM_bit hG hl).2 ⟨[], by simp, rfl⟩
end Go.Proofs.Ytleebojibobgaaa

/- Closed under 0s ahead: mathematics. -/
namespace Go.Proofs.Ytleebojibobgaaa
open Go.RowKit

/-- Each letter read as itself. -/
def sglR (m : Nat) : List (List Int) := (List.range m).map fun l : Nat => [(l : Int)]
theorem sglR_len (m : Nat) : (sglR m).length = m := by simp [sglR]
theorem sglR_get {m l : Nat} (hl : l < m) : (sglR m).getD l [] = [(l : Int)] := by simp [sglR, List.getD, hl]
theorem sglR_ok (m : Nat) : ∀ l, l < m → ∀ x ∈ (sglR m).getD l [], 0 ≤ x ∧ x < (m : Int) := by
  intro l hl x hx
  rw [sglR_get hl] at hx
  simp at hx
  omega
theorem readAs_sgl {m : Nat} : ∀ {w v : List Int}, okW m w → (readAs (sglR m) w v ↔ v = w)
  | [], [], _ => by simp [readAs]
  | x :: w, y :: v, hw => by
    have hx := hw x (by simp)
    have ih := readAs_sgl (m := m) (w := w) (v := v) (fun q hq => hw q (by simp [hq]))
    show (y ∈ (sglR m).getD x.toNat [] ∧ readAs (sglR m) w v) ↔ _
    rw [sglR_get (by omega), ih]
    simp
    intro _
    omega
  | [], _ :: _, _ => by simp [readAs]
  | _ :: _, [], _ => by simp [readAs]
theorem zeros_of {z : List Int} (h : ∀ x ∈ z, x ∈ [(0 : Int)]) : z = List.replicate z.length 0 := by
  apply List.eq_replicate_of_mem
  intro x hx
  simpa using h x hx

/-- The sets' automaton with a state ahead that waits for a letter that is not 0. -/
def clN (d : Nat → Nat → Nat) (m : Nat) (L : List Nat) : List (List Int) := ((List.range m).map fun l => if l = 0 then 0 else ((L.idxOf (d (L.getD 0 0) l) : Nat) : Int) + 1) :: (gN d m L).map fun r => r.map fun x => x + 1
def clE (p : Nat → Bool) (L : List Nat) : List Bool := p (L.getD 0 0) :: gE p L
theorem clN_len (d : Nat → Nat → Nat) (m : Nat) (L : List Nat) : (clN d m L).length = L.length + 1 := by simp [clN, gN_len]
theorem clN_zero {d : Nat → Nat → Nat} {m : Nat} {L : List Nat} {l : Nat} (hl : l < m) : ((clN d m L).getD 0 []).getD l 0 = if l = 0 then 0 else ((L.idxOf (d (L.getD 0 0) l) : Nat) : Int) + 1 := by
  simp [clN, List.getD, hl]
theorem clN_succ {d : Nat → Nat → Nat} {m : Nat} {L : List Nat} {i l : Nat} (hi : i < L.length) (hl : l < m) : ((clN d m L).getD (i + 1) []).getD l 0 = ((L.idxOf (d (L.getD i 0) l) : Nat) : Int) + 1 := by
  have h1 : (clN d m L).getD (i + 1) [] = ((gN d m L).getD i []).map fun x => x + 1 := by
    simp [clN, List.getD, gN_len, hi]
  have h2 := gN_cell (d := d) (m := m) hi hl
  have h3 : l < ((gN d m L).getD i []).length := by rw [gN_row hi]; simpa using hl
  rw [h1, getD_at _ l (by rw [List.length_map]; exact h3), List.getElem_map, ← getD_at _ l h3, h2]
theorem clN_good {d : Nat → Nat → Nat} {m : Nat} {L : List Nat} (hc : ClosedG d m L) (h0 : 0 < L.length) (h64 : L.length ≤ 6000) (h1 : 1 ≤ m) (h36 : m ≤ 36) : GoodN m (L.length + 1) (clN d m L) := by
  refine ⟨clN_len _ _ _, by omega, by omega, h36, h1, fun s hs => ?_⟩
  cases s with
  | zero =>
    refine ⟨by simp [clN], fun j hj => ?_⟩
    rw [clN_zero hj]
    have := List.idxOf_lt_length_of_mem (hc _ (getN_mem h0) j hj)
    split <;> omega
  | succ i =>
    have hi : i < L.length := by omega
    refine ⟨?_, fun j hj => ?_⟩
    · have h1 : (clN d m L).getD (i + 1) [] = ((gN d m L).getD i []).map fun x => x + 1 := by simp [clN, List.getD, gN_len, hi]
      rw [h1, List.length_map, gN_row hi]
      simp
    · rw [clN_succ hi hj]
      have := List.idxOf_lt_length_of_mem (hc _ (getN_mem hi) j hj)
      omega
theorem dropZ_end (w : List Int) (x : Int) : dropZ (w ++ [x]) = if dropZ w = [] then (if x = 0 then [] else [x]) else dropZ w ++ [x] := by
  unfold dropZ
  induction w with
  | nil =>
    by_cases h : x = 0
    · simp [h]
    · simp [h]
  | cons y w ih =>
    by_cases h : y = 0
    · subst h; simpa using ih
    · simp [h]
theorem clN_run {d : Nat → Nat → Nat} {m : Nat} {L : List Nat} (hc : ClosedG d m L) (h0 : 0 < L.length) (w : List Int) (hw : okW m w) : runL (clN d m L) w = if dropZ w = [] then 0 else runL (gN d m L) (dropZ w) + 1 := by
  induction w using list_snoc_ind with
  | h0 => rfl
  | h1 w x ih =>
    obtain ⟨hw1, hw2⟩ := okW_append.1 hw
    have hx := hw2 x (by simp)
    have e : runL (clN d m L) (w ++ [x]) = stepL (clN d m L) (runL (clN d m L) w) x := by rw [runL_append]; rfl
    rw [e, ih hw1, dropZ_end]
    have hdz : okW m (dropZ w) := fun y hy => hw1 y ((List.dropWhile_sublist _).subset hy)
    by_cases hz : dropZ w = []
    · rw [if_pos hz, if_pos hz]
      unfold stepL
      rw [clN_zero (by omega)]
      by_cases h : x = 0
      · subst h; simp
      · rw [if_neg (by omega), if_neg h, if_neg (by simp)]
        have e2 : runL (gN d m L) [x] = L.idxOf (d (L.getD 0 0) x.toNat) := by
          show stepL _ 0 x = _
          unfold stepL
          rw [gN_cell h0 (by omega), Int.toNat_natCast]
        rw [e2]
        omega
    · rw [if_neg hz, if_neg hz, if_neg (by simp)]
      obtain ⟨i1, i2⟩ := gN_run hc h0 (dropZ w) hdz
      have e2 : runL (gN d m L) (dropZ w ++ [x]) = stepL (gN d m L) (runL (gN d m L) (dropZ w)) x := by rw [runL_append]; rfl
      rw [e2]
      unfold stepL
      rw [clN_succ i1 (by omega), gN_cell i1 (by omega)]
      omega
theorem clN_tk {d : Nat → Nat → Nat} {m : Nat} {L : List Nat} {p : Nat → Bool} (hc : ClosedG d m L) (h0 : 0 < L.length) (w : List Int) (hw : okW m w) : tkB (clN d m L) (clE p L) w = p (runG d (L.getD 0 0) (dropZ w)) := by
  unfold tkB
  rw [clN_run hc h0 w hw]
  have hdz : okW m (dropZ w) := fun y hy => hw y ((List.dropWhile_sublist _).subset hy)
  by_cases hz : dropZ w = []
  · rw [if_pos hz, hz]
    simp [clE, runG]
  · rw [if_neg hz]
    obtain ⟨i1, i2⟩ := gN_run hc h0 (dropZ w) hdz
    rw [← i2, ← gE_get (p := p) i1]
    simp [clE]

/-- Close: its fault, its automaton. -/
def ccL (b t : Int) (N : List (List Int)) (E : List Bool) : List Nat := setsS (leastN N E (manyU b t).toNat) (leastK N E (manyU b t).toNat) (sglR (manyU b t).toNat) [0]
def ccGN (b t : Int) (N : List (List Int)) (E : List Bool) : List (List Int) := clN (dM (leastN N E (manyU b t).toNat) (leastK N E (manyU b t).toNat) (sglR (manyU b t).toNat)) (manyU b t).toNat (ccL b t N E)
def ccGE (b t : Int) (N : List (List Int)) (E : List Bool) : List Bool := clE (endM (leastK N E (manyU b t).toNat) (leastE N E (manyU b t).toNat)) (ccL b t N E)
def ccC (b t : Int) (N : List (List Int)) (E : List Bool) (k : Nat) : Int := if autoC b t N k = 0 then (if 2000 < (ccL b t N E).length then 3 else if 80 < leastK (ccGN b t N E) (ccGE b t N E) (manyU b t).toNat then 3 else 0) else autoC b t N k
def ccN (b t : Int) (N : List (List Int)) (E : List Bool) (k : Nat) : List (List Int) := if ccC b t N E k = 0 then leastN (ccGN b t N E) (ccGE b t N E) (manyU b t).toNat else []
def ccE (b t : Int) (N : List (List Int)) (E : List Bool) (k : Nat) : List Bool := if ccC b t N E k = 0 then leastE (ccGN b t N E) (ccGE b t N E) (manyU b t).toNat else []
def closedB (b t : Int) (N : List (List Int)) (E : List Bool) (k : Nat) : Bool := decide (autoC b t N k = 0) && ((leastN N E (manyU b t).toNat).getD 0 []).getD 0 0 == 0
theorem ccC_zero {b t : Int} {N : List (List Int)} {E : List Bool} {k : Nat} (h : ccC b t N E k = 0) : autoC b t N k = 0 ∧ (ccL b t N E).length ≤ 2000 ∧ leastK (ccGN b t N E) (ccGE b t N E) (manyU b t).toNat ≤ 80 := by
  unfold ccC at h
  split at h
  · split at h
    · cases h
    · split at h
      · cases h
      · exact ⟨by assumption, by omega, by omega⟩
  · rename_i h1; exact absurd h h1
theorem cc_good {b t : Int} {N : List (List Int)} {E : List Bool} {n : Nat} (hG : GoodN (manyU b t).toNat n N) (h : (ccL b t N E).length ≤ 2000) : GoodN (manyU b t).toNat ((ccL b t N E).length + 1) (ccGN b t N E) := by
  have hc := sets_closed h
  rw [sglR_len] at hc
  have h0 : 0 < (ccL b t N E).length := by unfold ccL; exact (sets_first _ _ _ _).1
  exact clN_good hc h0 (by omega) hG.2.2.2.2.1 hG.2.2.2.1
/-- Which words are taken. -/
def closeL (N : List (List Int)) (E : List Bool) (w : List Int) : Prop := ∃ j, tkB N E (List.replicate j 0 ++ dropZ w) = true
theorem okW_dropZ {m : Nat} {w : List Int} (h : okW m w) : okW m (dropZ w) := fun y hy => h y ((List.dropWhile_sublist _).subset hy)
theorem okW_zeros {m : Nat} (h : 1 ≤ m) (j : Nat) : okW m (List.replicate j 0) := fun y hy => by
  have := (List.mem_replicate.1 hy).2
  omega
theorem cc_lang {b t : Int} {N : List (List Int)} {E : List Bool} {n : Nat} (hG : GoodN (manyU b t).toNat n N) (h : (ccL b t N E).length ≤ 2000) {w : List Int} (hw : okW (manyU b t).toNat w) : tkB (ccGN b t N E) (ccGE b t N E) w = true ↔ closeL N E w := by
  have hLG := least_good hG E
  have hm1 := hG.2.2.2.2.1
  have hdz := okW_dropZ hw
  have hc : ClosedG (dM (leastN N E (manyU b t).toNat) (leastK N E (manyU b t).toNat) (sglR (manyU b t).toNat)) (manyU b t).toNat (ccL b t N E) := by
    have := sets_closed h
    rw [sglR_len] at this
    exact this
  unfold ccGN ccGE
  generalize hm : (manyU b t).toNat = m at *
  have hl0 : ∀ x ∈ [(0 : Int)], 0 ≤ x ∧ x < (m : Int) := by intro x hx; simp at hx; omega
  have hf : (ccL b t N E).getD 0 0 = cloM (leastN N E m) (leastK N E m) [0] := by unfold ccL; rw [hm]; exact (sets_first _ _ _ _).2
  have h0 : 0 < (ccL b t N E).length := by unfold ccL; exact (sets_first _ _ _ _).1
  rw [clN_tk hc h0 w hw, hf, langS hLG (leastE N E m) (sglR_ok m) hl0 hdz]
  constructor
  · rintro ⟨z, v, h1, h2, h3⟩
    rw [readAs_sgl hdz] at h2
    subst h2
    rw [zeros_of h1] at h3
    exact ⟨z.length, by rw [← tk_least hG E _ (okW_append.2 ⟨okW_zeros hm1 _, hdz⟩)]; exact h3⟩
  · rintro ⟨j, h3⟩
    exact ⟨List.replicate j 0, dropZ w, fun x hx => by simp [(List.mem_replicate.1 hx).2], (readAs_sgl hdz).2 rfl, by rw [tk_least hG E _ (okW_append.2 ⟨okW_zeros hm1 _, hdz⟩)]; exact h3⟩
end Go.Proofs.Ytleebojibobgaaa

/- A track left out, word by word: mathematics of the laws SomeTakes and SomeOrder. -/
namespace Go.Proofs.Ytleebojibobgaaa
open Go.RowKit

theorem autoC_fine {b t : Int} {N : List (List Int)} {n : Nat} (hM : codeM b t = 0) (hG : GoodN (manyU b t).toNat n N) (hn : n ≤ 80) : autoC b t N n = 0 := by
  have h1 := hG.1
  have h2 := hG.2.1
  unfold autoC
  rw [if_pos hM, if_neg (by omega), if_neg (by omega), if_pos (by omega)]
  exact rowsC_all fun j hj => by
    have := hG.2.2.2.2.2 j (by omega)
    exact rowC_good this.1 (by rw [h1]; exact this.2)
/-- A letter with a track left out. -/
def delT (b : Int) (tr tk : Nat) (y : Int) : Int := packL b ((splitL b (tr + 1) y).eraseIdx tk)
theorem erase_bd {b : Int} {ds : List Int} (tk : Nat) (h : ∀ j, j < ds.length → 0 ≤ ds.getD j 0 ∧ ds.getD j 0 < kindsI b) : ∀ j, j < (ds.eraseIdx tk).length → 0 ≤ (ds.eraseIdx tk).getD j 0 ∧ (ds.eraseIdx tk).getD j 0 < kindsI b := by
  intro j hj
  have hm : (ds.eraseIdx tk).getD j 0 ∈ ds := by
    rw [getD_at _ j hj]
    exact (List.eraseIdx_sublist ds tk).subset (List.getElem_mem hj)
  obtain ⟨i, hi, e⟩ := List.getElem_of_mem hm
  rw [← e, ← getD_at _ i hi]
  exact h i hi
theorem put_erase {b : Int} {tr tk : Nat} (ht : tk ≤ tr) (x l : Int) : (putD b tr tk x l).eraseIdx tk = splitL b tr l := by
  unfold putD
  have hl : ((splitL b tr l).take tk).length = tk := by rw [List.length_take, splitL_length]; omega
  rw [List.append_assoc, List.eraseIdx_append_of_length_le (by omega), hl, Nat.sub_self]
  simp
theorem delT_bd {b : Int} (h2 : b ≤ 6) {tr tk mu : Nat} (ht : tk ≤ tr) (hf : pw (kindsI b) tr = (mu : Int)) (y : Int) : 0 ≤ delT b tr tk y ∧ delT b tr tk y < (mu : Int) := by
  have := pack_bd b h2 ((splitL b (tr + 1) y).eraseIdx tk) (erase_bd tk (split_bd b h2 (tr + 1) y))
  rw [List.length_eraseIdx_of_lt (by rw [splitL_length]; omega), splitL_length, show tr + 1 - 1 = tr by omega, hf] at this
  exact this
theorem mem_withL {b : Int} (h2 : b ≤ 6) {tr tk m mu : Nat} (ht : tk ≤ tr) (hm : pw (kindsI b) (tr + 1) = (m : Int)) (hf : pw (kindsI b) tr = (mu : Int)) {y l : Int} (hl : 0 ≤ l ∧ l < (mu : Int)) : y ∈ withL b tr tk l ↔ (0 ≤ y ∧ y < (m : Int)) ∧ delT b tr tk y = l := by
  have hkb := kinds_bd2 b h2
  constructor
  · intro h
    refine ⟨withL_ok h2 ht hm l y h, ?_⟩
    obtain ⟨x, hx, rfl⟩ := List.mem_map.1 h
    have hx' := List.mem_range.1 hx
    unfold delT
    have e := split_pack b h2 (putD b tr tk (x : Int) l) (putD_bd b h2 ⟨by omega, by omega⟩ l)
    rw [putD_len ht] at e
    rw [e, put_erase ht, pack_split b h2 tr l hl.1 (by rw [hf]; exact hl.2)]
  · rintro ⟨hy, rfl⟩
    have hlen : ((splitL b (tr + 1) y).eraseIdx tk).length = tr := by rw [List.length_eraseIdx_of_lt (by rw [splitL_length]; omega), splitL_length]; omega
    have e := split_pack b h2 ((splitL b (tr + 1) y).eraseIdx tk) (erase_bd tk (split_bd b h2 (tr + 1) y))
    rw [hlen] at e
    have hd := split_bd b h2 (tr + 1) y tk (by rw [splitL_length]; omega)
    refine List.mem_map.2 ⟨((splitL b (tr + 1) y).getD tk 0).toNat, List.mem_range.2 (by omega), ?_⟩
    rw [show ((((splitL b (tr + 1) y).getD tk 0).toNat : Nat) : Int) = (splitL b (tr + 1) y).getD tk 0 by omega]
    have hp : putD b tr tk ((splitL b (tr + 1) y).getD tk 0) (delT b tr tk y) = splitL b (tr + 1) y := by
      unfold putD delT
      rw [e]
      have hlt : tk < (splitL b (tr + 1) y).length := by rw [splitL_length]; omega
      generalize splitL b (tr + 1) y = ds at hlt
      rw [List.eraseIdx_eq_take_drop_succ, List.take_append_of_le_length (by rw [List.length_take]; omega), List.take_take, Nat.min_self, List.drop_append_of_le_length (by rw [List.length_take]; omega)]
      rw [show List.drop tk (List.take tk ds) = [] by rw [List.drop_eq_nil_iff, List.length_take]; omega]
      rw [List.nil_append, getD_at _ tk hlt, List.append_assoc]
      show ds.take tk ++ (ds[tk] :: ds.drop (tk + 1)) = ds
      rw [← List.drop_eq_getElem_cons hlt, List.take_append_drop]
    rw [hp, pack_split b h2 (tr + 1) y hy.1 (by rw [hm]; exact hy.2)]
theorem readAs_del {b : Int} (h2 : b ≤ 6) {tr tk m mu : Nat} (ht : tk ≤ tr) (hm : pw (kindsI b) (tr + 1) = (m : Int)) (hf : pw (kindsI b) tr = (mu : Int)) : ∀ {w v : List Int}, okW mu w → (readAs (readS b tr tk mu) w v ↔ okW m v ∧ v.map (delT b tr tk) = w)
  | [], [], _ => by simp [readAs, okW]
  | x :: w, y :: v, hw => by
    have hx := hw x (by simp)
    have ih := readAs_del h2 ht hm hf (w := w) (v := v) (fun q hq => hw q (by simp [hq]))
    show (y ∈ (readS b tr tk mu).getD x.toNat [] ∧ readAs (readS b tr tk mu) w v) ↔ _
    rw [readS_get (by omega), show ((x.toNat : Nat) : Int) = x by omega, mem_withL h2 ht hm hf hx, ih]
    constructor
    · rintro ⟨⟨h3, h4⟩, h5, h6⟩
      refine ⟨fun q hq => ?_, by rw [List.map_cons, h4, h6]⟩
      rcases List.mem_cons.1 hq with rfl | hq
      · exact h3
      · exact h5 q hq
    · rintro ⟨h3, h4⟩
      rw [List.map_cons, List.cons.injEq] at h4
      exact ⟨⟨h3 y (by simp), h4.1⟩, fun q hq => h3 q (by simp [hq]), h4.2⟩
  | [], _ :: _, _ => by simp [readAs]
  | _ :: _, [], _ => by simp [readAs]

/-- The document's words: there is a word that is taken and that, with the track left out, is w, or w behind 0s. -/
theorem someL_iff {b : Int} {tr tk m mu : Nat} {N : List (List Int)} {E : List Bool} (H : SmWell b tr tk N E m mu) {w : List Int} (hw : okW mu w) : someL b tr tk mu N E w ↔ ∃ u, okW m u ∧ tkB N E u = true ∧ ∃ j, u.map (delT b tr tk) = List.replicate j 0 ++ w := by
  have h0 : (0 : Int) ≤ 0 ∧ (0 : Int) < (mu : Int) := by have := H.few36; omega
  constructor
  · rintro ⟨z, v, h1, h2, h3⟩
    obtain ⟨h4, h5⟩ := (readAs_del H.base.2 H.tracks.2 H.many H.few hw).1 h2
    have hz : ∀ x ∈ z, (0 ≤ x ∧ x < (m : Int)) ∧ delT b tr tk x = 0 := fun x hx => (mem_withL H.base.2 H.tracks.2 H.many H.few h0).1 (h1 x hx)
    refine ⟨z ++ v, okW_append.2 ⟨fun x hx => (hz x hx).1, h4⟩, h3, z.length, ?_⟩
    rw [List.map_append, h5]
    congr 1
    have : z.map (delT b tr tk) = z.map (fun _ => 0) := List.map_congr_left fun x hx => (hz x hx).2
    rw [this, List.map_const']
  · rintro ⟨u, h1, h2, j, h3⟩
    have hl : u.length = j + w.length := by have := congrArg List.length h3; simpa using this
    have e1 : (u.take j).map (delT b tr tk) = List.replicate j 0 := by rw [List.map_take, h3, List.take_append_of_le_length (by simp)]; simp
    have e2 : (u.drop j).map (delT b tr tk) = w := by rw [List.map_drop, h3, List.drop_append_of_le_length (by simp)]; simp
    refine ⟨u.take j, u.drop j, fun x hx => (mem_withL H.base.2 H.tracks.2 H.many H.few h0).2 ⟨h1 x (List.mem_of_mem_take hx), ?_⟩, (readAs_del H.base.2 H.tracks.2 H.many H.few hw).2 ⟨fun x hx => h1 x (List.mem_of_mem_drop hx), e2⟩, by rw [List.take_append_drop]; exact h2⟩
    have : delT b tr tk x ∈ (u.take j).map (delT b tr tk) := List.mem_map_of_mem hx
    rw [e1] at this
    exact (List.mem_replicate.1 this).2

/-- Some's automaton, where all is well. -/
theorem smN_tk {b : Int} {tr tk m mu k : Nat} {N : List (List Int)} {E : List Bool} (H : SmWell b tr tk N E m mu) (h : smC b ((tr : Int) + 1) N E k (tk : Int) = 0) {w : List Int} (hw : okW mu w) :
    tkB (smN b ((tr : Int) + 1) N E k (tk : Int)) (smE b ((tr : Int) + 1) N E k (tk : Int)) w = true ↔ someL b tr tk mu N E w := by
  obtain ⟨hS, hK⟩ := smC_zero h
  obtain ⟨-, hL⟩ := smS_zero hS
  have hG := sm_good H hL
  unfold smN smE
  rw [if_pos h, if_pos h, show (tr : Int) + 1 - 1 = (tr : Int) by omega, H.fU, Int.toNat_natCast, tk_least hG _ _ hw, sm_lang H hL hw]
theorem smN_auto {b : Int} {tr tk m mu k : Nat} {N : List (List Int)} {E : List Bool} (H : SmWell b tr tk N E m mu) (h : smC b ((tr : Int) + 1) N E k (tk : Int) = 0) :
    autoC b (tr : Int) (smN b ((tr : Int) + 1) N E k (tk : Int)) (smN b ((tr : Int) + 1) N E k (tk : Int)).length = 0 ∧ (smE b ((tr : Int) + 1) N E k (tk : Int)).length = (smN b ((tr : Int) + 1) N E k (tk : Int)).length ∧ GoodN mu (smN b ((tr : Int) + 1) N E k (tk : Int)).length (smN b ((tr : Int) + 1) N E k (tk : Int)) := by
  obtain ⟨hS, hK⟩ := smC_zero h
  obtain ⟨-, hL⟩ := smS_zero hS
  have hG := sm_good H hL
  have e : (tr : Int) + 1 - 1 = (tr : Int) := by omega
  rw [e, H.fU, Int.toNat_natCast] at hK
  unfold smN smE
  rw [if_pos h, if_pos h, e, H.fU, Int.toNat_natCast]
  have hLG := least_good hG (smGE b ((tr : Int) + 1) (tk : Int) N E)
  refine ⟨?_, by rw [leastN_len, leastE_len], by rw [leastN_len]; exact hLG⟩
  rw [leastN_len]
  exact autoC_fine H.code (by rw [H.fU, Int.toNat_natCast]; exact hLG) hK
/-- Two tracks left out, in either order. -/
theorem del_zero {b : Int} (h2 : b ≤ 6) (tr tk : Nat) : delT b tr tk 0 = 0 := by
  have hk := kinds_bd2 b h2
  unfold delT
  have hs : ∀ x ∈ (splitL b (tr + 1) 0).eraseIdx tk, x = 0 := fun x hx => by
    have := (List.eraseIdx_sublist _ tk).subset hx
    simp only [splitL, List.mem_map] at this
    obtain ⟨i, _, rfl⟩ := this
    simp [dOf]
  generalize (splitL b (tr + 1) 0).eraseIdx tk = ds at hs
  induction ds using list_snoc_ind with
  | h0 => rfl
  | h1 ds x ih =>
    have e : packL b (ds ++ [x]) = packL b ds * kindsI b + x := by simp [packL, List.foldl_append]
    rw [e, ih (fun y hy => hs y (by simp [hy])), hs x (by simp)]
    simp
end Go.Proofs.Ytleebojibobgaaa

/- 0s ahead, as package some lets them stay: mathematics. -/
namespace Go.Proofs.Ytleebojibobgaaa
open Go.RowKit

/-- A row with another number for 0. -/
def zL (q : Nat) (r : List Int) : List Int := r.map fun v => if v = 0 then (q : Int) else v
theorem zL_len (q : Nat) (r : List Int) : (zL q r).length = r.length := by simp [zL]
theorem zL_get {q : Nat} {r : List Int} {l : Nat} (hl : l < r.length) : (zL q r).getD l 0 = if r.getD l 0 = 0 then (q : Int) else r.getD l 0 := by
  simp [zL, List.getD, hl]
/-- The automaton that stays at its beginning as long as letters 0 come. -/
def stayRow (N : List (List Int)) (j : Nat) : List Int := if j = 0 then (zL N.length (N.getD 0 [])).set 0 0 else if j = N.length then zL N.length (N.getD 0 []) else zL N.length (N.getD j [])
def stayN (N : List (List Int)) : List (List Int) := (List.range (N.length + 1)).map (stayRow N)
def stayE (E : List Bool) : List Bool := E ++ [E.getD 0 false]
theorem stayN_len (N : List (List Int)) : (stayN N).length = N.length + 1 := by simp [stayN]
theorem stayN_get {N : List (List Int)} {j : Nat} (hj : j ≤ N.length) : (stayN N).getD j [] = stayRow N j := by simp [stayN, List.getD, show j < N.length + 1 by omega]
theorem stayE_len (E : List Bool) : (stayE E).length = E.length + 1 := by simp [stayE]
/-- Which of the states it stands for. -/
def stayS (n s : Nat) : Nat := if s = n then 0 else s
theorem stay_next {m n : Nat} {N : List (List Int)} (hG : GoodN m n N) {s l : Nat} (hs : s ≤ n) (hl : l < m) : ((stayN N).getD s []).getD l 0 = if s = 0 ∧ l = 0 then 0 else if nxt N (stayS n s) l = 0 then (n : Int) else ((nxt N (stayS n s) l : Nat) : Int) := by
  have hn := hG.1
  have h1 := hG.2.1
  rw [stayN_get (by omega)]
  have hst : stayS n s < n := by unfold stayS; split <;> omega
  have hrow := hG.2.2.2.2.2 (stayS n s) hst
  have hcell := nxt_cell hG hst hl
  have hz : (zL N.length (N.getD (stayS n s) [])).getD l 0 = if nxt N (stayS n s) l = 0 then (n : Int) else ((nxt N (stayS n s) l : Nat) : Int) := by
    rw [zL_get (by omega), hcell.2, hn]
    by_cases e : nxt N (stayS n s) l = 0
    · rw [if_pos e, if_pos (by omega)]
    · rw [if_neg e, if_neg (by omega)]
  unfold stayRow
  by_cases e0 : s = 0
  · subst e0
    have es : stayS n 0 = 0 := by unfold stayS; split <;> rfl
    rw [es] at hz ⊢
    rw [if_pos rfl]
    by_cases el : l = 0
    · subst el
      rw [if_pos ⟨rfl, rfl⟩]
      simp only [List.getD, List.getElem?_set, if_true]
      split <;> rfl
    · rw [if_neg (fun h => el h.2), ← hz]
      simp only [List.getD, List.getElem?_set]
      rw [if_neg (fun h => el h.symm)]
  · rw [if_neg e0, if_neg (show ¬ (s = 0 ∧ l = 0) from fun h => e0 h.1)]
    by_cases en : s = N.length
    · rw [if_pos en]
      have es : stayS n s = 0 := by unfold stayS; rw [if_pos (by omega)]
      rw [es] at hz ⊢
      exact hz
    · rw [if_neg en]
      have es : stayS n s = s := by unfold stayS; rw [if_neg (by omega)]
      rw [es] at hz ⊢
      exact hz
theorem stay_good {m n : Nat} {N : List (List Int)} (hG : GoodN m n N) (hn : n ≤ 6000) : GoodN m (n + 1) (stayN N) := by
  have h1 := hG.1
  refine ⟨by rw [stayN_len]; omega, by omega, by omega, hG.2.2.2.1, hG.2.2.2.2.1, fun s hs => ?_⟩
  constructor
  · rw [stayN_get (by omega)]
    unfold stayRow
    have hr : ∀ j, j < n → (N.getD j []).length = m := fun j hj => (hG.2.2.2.2.2 j hj).1
    have h0 := hr 0 hG.2.1
    split
    · rw [List.length_set, zL_len, h0]
    · split
      · rw [zL_len, h0]
      · rw [zL_len, hr s (by omega)]
  · intro l hl
    rw [stay_next hG (by omega) hl]
    have hst : stayS n s < n := by have := hG.2.1; unfold stayS; split <;> omega
    have := (nxt_cell hG hst hl).1
    split
    · omega
    · split <;> omega
theorem stay_run {m n : Nat} {N : List (List Int)} (hG : GoodN m n N) (hn : n ≤ 6000) (w : List Int) (hw : okW m w) : (dropZ w = [] → runL (stayN N) w = 0) ∧ (dropZ w ≠ [] → runL (stayN N) w ≠ 0 ∧ runL (stayN N) w ≤ n ∧ stayS n (runL (stayN N) w) = runL N (dropZ w)) := by
  have hG2 := stay_good hG hn
  have hn1 := hG.2.1
  induction w using list_snoc_ind with
  | h0 => exact ⟨fun _ => rfl, fun h => absurd rfl h⟩
  | h1 w x ih =>
    have hwx : okW m w := fun y hy => hw y (by simp [hy])
    have hx := hw x (by simp)
    obtain ⟨i1, i2⟩ := ih hwx
    have hstep : ∀ s, s ≤ n → runL (stayN N) w = s → runL (stayN N) (w ++ [x]) = (((stayN N).getD s []).getD x.toNat 0).toNat := fun s _ e => by
      rw [runL_append, e]; rfl
    have hsx : x.toNat < m := by omega
    rw [dropZ_end]
    by_cases hd : dropZ w = []
    · rw [if_pos hd]
      have hr := hstep 0 (by omega) (i1 hd)
      rw [stay_next hG (by omega) hsx] at hr
      have es : stayS n 0 = 0 := by unfold stayS; split <;> rfl
      rw [es] at hr
      have hc := (nxt_cell hG (show 0 < n by omega) hsx).1
      by_cases hx0 : x = 0
      · subst hx0
        rw [if_pos rfl]
        refine ⟨fun _ => ?_, fun h => absurd rfl h⟩
        rw [hr]; rfl
      · rw [if_neg hx0]
        refine ⟨fun h => by simp at h, fun _ => ?_⟩
        rw [if_neg (fun h => hx0 (by omega))] at hr
        have er : runL N [x] = nxt N 0 x.toNat := rfl
        rw [er]
        by_cases hz : nxt N 0 x.toNat = 0
        · rw [if_pos hz] at hr
          rw [hr, hz, Int.toNat_natCast]
          exact ⟨by omega, Nat.le_refl _, by unfold stayS; rw [if_pos rfl]⟩
        · rw [if_neg hz, Int.toNat_natCast] at hr
          rw [hr]
          exact ⟨hz, by omega, by unfold stayS; rw [if_neg (by omega)]⟩
    · rw [if_neg hd]
      obtain ⟨k1, k2, k3⟩ := i2 hd
      have hr := hstep _ k2 rfl
      rw [stay_next hG k2 hsx, if_neg (fun h => k1 h.1), k3] at hr
      have hlt := run_lt hG (dropZ w) (okW_dropZ hwx)
      have hc := (nxt_cell hG hlt hsx).1
      have er : runL N (dropZ w ++ [x]) = nxt N (runL N (dropZ w)) x.toNat := by rw [runL_append]; rfl
      refine ⟨fun h => by simp at h, fun _ => ?_⟩
      rw [er]
      by_cases hz : nxt N (runL N (dropZ w)) x.toNat = 0
      · rw [if_pos hz] at hr
        rw [hr, hz, Int.toNat_natCast]
        exact ⟨by omega, Nat.le_refl _, by unfold stayS; rw [if_pos rfl]⟩
      · rw [if_neg hz, Int.toNat_natCast] at hr
        rw [hr]
        exact ⟨hz, by omega, by unfold stayS; rw [if_neg (by omega)]⟩
theorem stayE_get {E : List Bool} {n s : Nat} (hE : E.length = n) (hs : s ≤ n) : (stayE E).getD s false = E.getD (stayS n s) false := by
  unfold stayE stayS
  by_cases e : s = n
  · rw [if_pos e, e, ← hE]
    simp [List.getD]
  · rw [if_neg e]
    simp only [List.getD]
    rw [List.getElem?_append_left (by omega)]
theorem stay_tk {m n : Nat} {N : List (List Int)} {E : List Bool} (hG : GoodN m n N) (hn : n ≤ 6000) (hE : E.length = n) (w : List Int) (hw : okW m w) : tkB (stayN N) (stayE E) w = tkB N E (dropZ w) := by
  obtain ⟨h1, h2⟩ := stay_run hG hn w hw
  unfold tkB
  by_cases hd : dropZ w = []
  · rw [h1 hd, hd, stayE_get hE (by omega)]
    unfold stayS
    split <;> rfl
  · obtain ⟨k1, k2, k3⟩ := h2 hd
    rw [stayE_get hE k2, k3]
end Go.Proofs.Ytleebojibobgaaa

/- 0s ahead do not matter: mathematics of the law SomeClosed. -/
namespace Go.Proofs.Ytleebojibobgaaa
open Go.RowKit

def ClosedW (m : Nat) (N : List (List Int)) (E : List Bool) : Prop := ∀ w, okW m w → tkB N E (0 :: w) = tkB N E w
theorem okW_cons0 {m : Nat} (h1 : 1 ≤ m) {w : List Int} (hw : okW m w) : okW m (0 :: w) := fun x hx => by
  rcases List.mem_cons.1 hx with rfl | hx
  · omega
  · exact hw x hx
theorem tk_cons0 (N : List (List Int)) (E : List Bool) (w : List Int) : tkB N E (0 :: w) = E.getD (runF N (nxt N 0 0) w) false := rfl
theorem tk_runF (N : List (List Int)) (E : List Bool) (w : List Int) : tkB N E w = E.getD (runF N 0 w) false := rfl
theorem closed_cell {m n : Nat} {N : List (List Int)} (hG : GoodN m n N) (E : List Bool) (hc : ClosedW m N E) : ((leastN N E m).getD 0 []).getD 0 0 = 0 := by
  have hLG := least_good hG E
  have hm1 := hG.2.2.2.2.1
  obtain ⟨h1, h2⟩ := nxt_cell hLG hLG.2.1 (show 0 < m by omega)
  have hs := least_parts hG E h1 hLG.2.1 (fun w hw => by
    rw [← tk_cons0, ← tk_runF, tk_least hG E _ (okW_cons0 hm1 hw), tk_least hG E _ hw]
    exact hc w hw)
  rw [h2, hs]
  rfl
theorem closed_zeros {m : Nat} {N : List (List Int)} {E : List Bool} (h1 : 1 ≤ m) (hc : ClosedW m N E) {w : List Int} (hw : okW m w) (j : Nat) : tkB N E (List.replicate j 0 ++ w) = tkB N E w := by
  induction j with
  | zero => rfl
  | succ j ih =>
    rw [List.replicate_succ, List.cons_append, hc _ (okW_append.2 ⟨okW_zeros h1 j, hw⟩)]
    exact ih
theorem dropZ_split (w : List Int) : ∃ j, w = List.replicate j 0 ++ dropZ w := by
  unfold dropZ
  induction w with
  | nil => exact ⟨0, rfl⟩
  | cons x w ih =>
    by_cases h : x = 0
    · subst h
      obtain ⟨j, e⟩ := ih
      refine ⟨j + 1, ?_⟩
      rw [List.replicate_succ, List.cons_append]
      simp only [List.dropWhile_cons, BEq.rfl, if_true]
      rw [← e]
    · exact ⟨0, by simp [h]⟩
theorem dropZ_reps (j : Nat) (w : List Int) : dropZ (List.replicate j 0 ++ w) = dropZ w := by
  induction j with
  | zero => rfl
  | succ j _ => rw [List.replicate_succ, List.cons_append]; unfold dropZ; simp
theorem closeL_zeros (N : List (List Int)) (E : List Bool) (j : Nat) (w : List Int) : closeL N E (List.replicate j 0 ++ w) ↔ closeL N E w := by
  unfold closeL
  rw [dropZ_reps]
theorem closeL_of {N : List (List Int)} {E : List Bool} {w : List Int} (h : tkB N E w = true) : closeL N E w := by
  obtain ⟨j, e⟩ := dropZ_split w
  exact ⟨j, by rw [← e]; exact h⟩
theorem closeL_closed {m : Nat} {N : List (List Int)} {E : List Bool} (h1 : 1 ≤ m) (hc : ClosedW m N E) {w : List Int} (hw : okW m w) : closeL N E w ↔ tkB N E w = true := by
  refine ⟨?_, closeL_of⟩
  rintro ⟨j, h⟩
  obtain ⟨i, e⟩ := dropZ_split w
  rw [closed_zeros h1 hc (okW_dropZ hw) j] at h
  rw [e, closed_zeros h1 hc (okW_dropZ hw) i]
  exact h

/-- Close's automaton, where all is well. -/
structure CcWell (b t : Int) (N : List (List Int)) (E : List Bool) (m : Nat) (MN : List (List Int)) (ME : List Bool) : Prop where
  auto : autoC b t MN MN.length = 0
  len : ME.length = MN.length
  good : GoodN m MN.length MN
  many : (manyU b t).toNat = m
  least : leastN MN ME m = MN ∧ leastE MN ME m = ME
  lang : ∀ w, okW m w → (tkB MN ME w = true ↔ closeL N E w)
  closed : ClosedW m MN ME
theorem cc_well {b t : Int} {N : List (List Int)} {E : List Bool} {k : Nat} (h : ccC b t N E k = 0) : CcWell b t N E (manyU b t).toNat (ccN b t N E k) (ccE b t N E k) := by
  obtain ⟨hA, hL, hK⟩ := ccC_zero h
  obtain ⟨hM, hk, hG, hmu⟩ := autoC_zero hA
  have hCG := cc_good (E := E) hG hL
  have hLG := least_good hCG (ccGE b t N E)
  have e1 : ccN b t N E k = leastN (ccGN b t N E) (ccGE b t N E) (manyU b t).toNat := by unfold ccN; rw [if_pos h]
  have e2 : ccE b t N E k = leastE (ccGN b t N E) (ccGE b t N E) (manyU b t).toNat := by unfold ccE; rw [if_pos h]
  have hlang : ∀ w, okW (manyU b t).toNat w → (tkB (ccN b t N E k) (ccE b t N E k) w = true ↔ closeL N E w) := fun w hw => by
    rw [e1, e2, tk_least hCG _ w hw, cc_lang hG hL hw]
  refine ⟨?_, by rw [e1, e2, leastN_len, leastE_len], by rw [e1, leastN_len]; exact hLG, rfl, by rw [e1, e2]; exact least_again hCG _, hlang, fun w hw => ?_⟩
  · rw [e1, leastN_len]
    exact autoC_fine hM hLG hK
  · rw [Bool.eq_iff_iff, hlang _ (okW_cons0 hG.2.2.2.2.1 hw), hlang w hw]
    exact closeL_zeros N E 1 w
theorem pow_bit (s t : Nat) : (2 ^ s).testBit t = decide (s = t) := Nat.testBit_two_pow
/-- Single states stay such. -/
theorem sgl_step {m n : Nat} {N : List (List Int)} (hG : GoodN m n N) {s l : Nat} (hs : s < n) (hl : l < m) : dM N n (sglR m) (2 ^ s) l = 2 ^ nxt N s l := by
  have hn := (nxt_cell hG hs hl).1
  unfold dM
  rw [sglR_get hl]
  refine mask_ext (n := n) (stepM_lt _ _ _ _) (Nat.pow_lt_pow_right (by decide) hn) fun t ht => ?_
  rw [Bool.eq_iff_iff, stepM_bit, pow_bit, decide_eq_true_iff]
  constructor
  · rintro ⟨-, s', -, h1, x, hx, h2⟩
    rw [pow_bit, decide_eq_true_iff] at h1
    subst h1
    simp only [List.mem_singleton] at hx
    subst hx
    exact h2
  · intro e
    refine ⟨ht, s, hs, by rw [pow_bit]; simp, (l : Int), by simp, ?_⟩
    rw [← e]
    show nxt N s ((l : Int)).toNat = _
    rw [Int.toNat_natCast]
theorem sgl_out {m n : Nat} {N : List (List Int)} (hG : GoodN m n N) (i : Nat) : ∀ x ∈ outG (dM N n (sglR m)) m (2 ^ 0) i, ∃ s, s < n ∧ x = 2 ^ s := by
  intro x hx
  obtain ⟨w, hw, rfl⟩ := outG_reach hx
  clear hx
  induction w using list_snoc_ind with
  | h0 => exact ⟨0, hG.2.1, rfl⟩
  | h1 w y ih =>
    obtain ⟨h1, h2⟩ := okW_append.1 hw
    obtain ⟨s, hs, e⟩ := ih h1
    have hy := h2 y (by simp)
    rw [runG_snoc, e, sgl_step hG hs (by omega)]
    exact ⟨_, (nxt_cell hG hs (by omega)).1, rfl⟩
theorem clo_start {m n : Nat} {N : List (List Int)} (hG : GoodN m n N) (h0 : nxt N 0 0 = 0) : cloM N n [0] = 2 ^ 0 := by
  have hm1 := hG.2.2.2.2.1
  have hl : ∀ x ∈ [(0 : Int)], 0 ≤ x ∧ x < (m : Int) := by intro x hx; simp at hx; omega
  have hz : ∀ z : List Int, (∀ x ∈ z, x ∈ [(0 : Int)]) → runL N z = 0 := fun z => by
    induction z using list_snoc_ind with
    | h0 => exact fun _ => rfl
    | h1 z x ih =>
      intro h
      have hx := h x (by simp)
      simp only [List.mem_singleton] at hx
      subst hx
      rw [runL_append]
      show stepL N (runL N z) 0 = 0
      rw [ih (fun y hy => h y (by simp [hy]))]
      exact h0
  refine mask_ext (n := n) (cloM_lt _ _ _) (Nat.pow_lt_pow_right (by decide) hG.2.1) fun t _ => ?_
  rw [Bool.eq_iff_iff, cloM_bit hG hl, pow_bit, decide_eq_true_iff]
  constructor
  · rintro ⟨z, h, rfl⟩
    exact (hz z h).symm
  · rintro rfl
    exact ⟨[], by simp, rfl⟩
/-- What is closed is closed once more into itself. -/
theorem cc_again {b t : Int} {N : List (List Int)} {E : List Bool} {MN : List (List Int)} {ME : List Bool} (H : CcWell b t N E (manyU b t).toNat MN ME) : ccC b t MN ME MN.length = 0 ∧ ccN b t MN ME MN.length = MN ∧ ccE b t MN ME MN.length = ME := by
  have hG := H.good
  have hm1 := hG.2.2.2.2.1
  have hn80 := autoC_80 H.auto
  have hKl : leastK MN ME (manyU b t).toNat = MN.length := by rw [← leastN_len, H.least.1]
  have h00 : nxt MN 0 0 = 0 := by
    have := closed_cell hG ME H.closed
    rw [H.least.1] at this
    unfold nxt
    rw [this]
    rfl
  have hL : (ccL b t MN ME).length ≤ 80 := by
    have e : ccL b t MN ME = outG (dM MN MN.length (sglR (manyU b t).toNat)) (manyU b t).toNat (2 ^ 0) 2000 := by
      unfold ccL setsS
      rw [H.least.1, hKl, sglR_len, clo_start hG h00]
    rw [e]
    have h1 := nodup_sub (K := (List.range MN.length).map fun s => 2 ^ s) (outG_nodup (dM MN MN.length (sglR (manyU b t).toNat)) (manyU b t).toNat (2 ^ 0) 2000) (fun x hx => by
      obtain ⟨s, hs, rfl⟩ := sgl_out hG 2000 x hx
      exact List.mem_map.2 ⟨s, List.mem_range.2 hs, rfl⟩)
    rw [List.length_map, List.length_range] at h1
    omega
  have hCG := cc_good (E := ME) hG (show (ccL b t MN ME).length ≤ 2000 by omega)
  have hT := least_tk hCG hG (ccGE b t MN ME) ME (fun w hw => by
    rw [Bool.eq_iff_iff, cc_lang hG (by omega) hw]
    exact closeL_closed hm1 H.closed hw)
  have hC : ccC b t MN ME MN.length = 0 := by
    unfold ccC
    rw [if_pos H.auto, if_neg (by omega), if_neg (by rw [hT.2.2, hKl]; omega)]
  refine ⟨hC, ?_, ?_⟩
  · unfold ccN
    rw [if_pos hC, hT.1, H.least.1]
  · unfold ccE
    rw [if_pos hC, hT.2.1, H.least.2]
/-- With a track left out it stays closed. -/
theorem some_closed {b : Int} {tr tk m mu k : Nat} {N : List (List Int)} {E : List Bool} (H : SmWell b tr tk N E m mu) (h : smC b ((tr : Int) + 1) N E k (tk : Int) = 0) (hc : ClosedW m N E) : ClosedW mu (smN b ((tr : Int) + 1) N E k (tk : Int)) (smE b ((tr : Int) + 1) N E k (tk : Int)) := fun w hw => by
  have hm1 := H.good.2.2.2.2.1
  have hw0 := okW_cons0 H.few36.1 hw
  rw [Bool.eq_iff_iff, smN_tk H h hw0, smN_tk H h hw, someL_iff H hw0, someL_iff H hw]
  constructor
  · rintro ⟨u, h1, h2, j, h3⟩
    refine ⟨u, h1, h2, j + 1, ?_⟩
    rw [h3, List.replicate_succ', List.append_assoc]
    rfl
  · rintro ⟨u, h1, h2, j, h3⟩
    cases j with
    | zero => exact ⟨0 :: u, okW_cons0 hm1 h1, by rw [hc u h1]; exact h2, 0, by rw [List.map_cons, del_zero H.base.2, h3]; rfl⟩
    | succ j => exact ⟨u, h1, h2, j, by rw [h3, List.replicate_succ', List.append_assoc]; rfl⟩
end Go.Proofs.Ytleebojibobgaaa

/- The law SomeClosed: what its walk asks of the mathematics. -/
namespace Go.Proofs.Ytleebojibobgaaa
open Go.RowKit

theorem closedB_of {b t : Int} {N : List (List Int)} {E : List Bool} {k m : Nat} (hA : autoC b t N k = 0) (hm : (manyU b t).toNat = m) (hG : GoodN m N.length N) (hc : ClosedW m N E) : closedB b t N E k = true := by
  unfold closedB
  rw [hA, hm]
  have := closed_cell hG E hc
  rw [this]
  rfl
theorem wordC_okW {m : Nat} {w : List Int} (h : wordC m w = 0) : okW m w := fun x hx => by
  obtain ⟨-, h2⟩ := wordC_zero h
  obtain ⟨j, hj, rfl⟩ := List.getElem_of_mem hx
  have := h2 j hj
  rwa [getD_at _ j hj] at this
theorem runC_parts {b t : Int} {N : List (List Int)} {e : Nat} {l : List Int} (h : runC b t N e l = 0) : autoC b t N e = 0 ∧ wordC (manyU b t).toNat l = 0 := by
  unfold runC at h
  by_cases hA : autoC b t N e = 0
  · rw [if_pos hA] at h; exact ⟨hA, h⟩
  · rw [if_neg hA] at h; exact absurd h hA
theorem takesB_of {b t : Int} {N : List (List Int)} {E : List Bool} {l : List Int} {e : Nat} (he : E.length = e) (h : runC b t N e l = 0) : takesB b t N E l = tkB N E l := by
  unfold takesB tkB
  rw [he, if_pos h]
/-- What was closed, asked again. -/
theorem sc_closed {b t : Int} {N : List (List Int)} {E : List Bool} {k : Nat} (h : ccC b t N E k = 0) : closedB b t (ccN b t N E k) (ccE b t N E k) (ccN b t N E k).length = true ∧ autoC b t (ccN b t N E k) (ccN b t N E k).length = 0 := by
  have H := cc_well h
  exact ⟨closedB_of H.auto rfl H.good H.closed, H.auto⟩
/-- 0s ahead. -/
theorem sc_zeros {b t : Int} {N : List (List Int)} {E : List Bool} {k : Nat} (h : ccC b t N E k = 0) (hE : E.length = k) (z : Nat) {l : List Int} (h1 : runC b t (ccN b t N E k) (ccN b t N E k).length l = 0) (h2 : runC b t (ccN b t N E k) (ccN b t N E k).length (List.replicate z 0 ++ l) = 0) :
    takesB b t (ccN b t N E k) (ccE b t N E k) l = takesB b t (ccN b t N E k) (ccE b t N E k) (List.replicate z 0 ++ l) ∧ runC b t N k (List.replicate z 0 ++ l) = 0 ∧ (takesB b t N E (List.replicate z 0 ++ l) = true → takesB b t (ccN b t N E k) (ccE b t N E k) l = true) := by
  have H := cc_well h
  obtain ⟨hA, -, -⟩ := ccC_zero h
  obtain ⟨-, hw1⟩ := runC_parts h1
  obtain ⟨-, hw2⟩ := runC_parts h2
  have hm1 : 1 ≤ (manyU b t).toNat := H.good.2.2.2.2.1
  have h3 : runC b t N k (List.replicate z 0 ++ l) = 0 := by unfold runC; rw [if_pos hA]; exact hw2
  have e1 := closed_zeros hm1 H.closed (wordC_okW hw1) z
  rw [takesB_of H.len h1, takesB_of H.len h2, takesB_of hE h3]
  refine ⟨e1.symm, h3, fun ht => ?_⟩
  rw [← e1]
  exact (H.lang _ (wordC_okW hw2)).2 (closeL_of ht)
/-- With a track left out. -/
theorem sc_some {b t : Int} {N : List (List Int)} {E : List Bool} {k : Nat} {tk : Int} (h : ccC b t N E k = 0) (hs : smC b t (ccN b t N E k) (ccE b t N E k) (ccN b t N E k).length tk = 0) :
    closedB b (t - 1) (smN b t (ccN b t N E k) (ccE b t N E k) (ccN b t N E k).length tk) (smE b t (ccN b t N E k) (ccE b t N E k) (ccN b t N E k).length tk) (smN b t (ccN b t N E k) (ccE b t N E k) (ccN b t N E k).length tk).length = true ∧ autoC b (t - 1) (smN b t (ccN b t N E k) (ccE b t N E k) (ccN b t N E k).length tk) (smN b t (ccN b t N E k) (ccE b t N E k) (ccN b t N E k).length tk).length = 0 := by
  have H := cc_well h
  obtain ⟨hS, -⟩ := smC_zero hs
  obtain ⟨hF, -⟩ := smS_zero hS
  obtain ⟨tr, tkn, m, mu, rfl, rfl, -, HW⟩ := sm_well (ccE b t N E k) hF
  have hmm : (manyU b ((tr : Int) + 1)).toNat = m := HW.mU
  have hc : ClosedW m (ccN b ((tr : Int) + 1) N E k) (ccE b ((tr : Int) + 1) N E k) := by rw [← hmm]; exact H.closed
  have hcl := some_closed HW hs hc
  obtain ⟨h1, h2, h3⟩ := smN_auto HW hs
  rw [show (tr : Int) + 1 - 1 = (tr : Int) by omega]
  exact ⟨closedB_of h1 (by rw [HW.fU]; rfl) h3 hcl, h1⟩
end Go.Proofs.Ytleebojibobgaaa

/- The automaton of the laws of layer 7: what package some answers about it. -/
namespace Go.Proofs.Ytleebojibobgaaa
open Go.RowKit

def smeN : List (List Int) := [[0, 1, 1, 0], [1, 1, 1, 1]]
def smeE : List Bool := [true, false]
theorem sme_auto : autoC 2 2 smeN 2 = 0 := by decide +kernel
theorem sme_closed : closedB 2 2 smeN smeE 2 = true := by decide +kernel
end Go.Proofs.Ytleebojibobgaaa

/- filbertlaw2.same: contract. -/
namespace Go.Proofs.Ytleebojibobgaaa
open Go.RowKit

/-- The automaton of the facts, built behind its box. -/
theorem sme_world (w : World) (o : Obj) (T T2 T3 : TypeId) {u : World} (hu : u = ((((w.alloc o).alloc (.cells #[.int .i64 0, .int .i64 1, .int .i64 1, .int .i64 0] T)).alloc (.cells #[.int .i64 1, .int .i64 1, .int .i64 1, .int .i64 1] T)).alloc (.cells #[.slice (some ⟨w.heap.size + 1, 0, none⟩) 4 4, .slice (some ⟨w.heap.size + 1 + 1, 0, none⟩) 4 4] T2)).alloc (.cells #[.bool true, .bool false] T3)) :
    AutoNew w (some ⟨w.heap.size + 1 + 1 + 1, 0, none⟩) 2 smeN (some ⟨w.heap.size + 1 + 1 + 1 + 1, 0, none⟩) smeE u ∧ Below w.heap.size w u ∧ u.heap[w.heap.size]? = (w.alloc o).heap[w.heap.size]? := by
  obtain ⟨u0, hu0⟩ : ∃ u0, u0 = w.alloc o := ⟨_, rfl⟩
  rw [← hu0] at hu ⊢
  obtain ⟨u1, hu1⟩ : ∃ u1, u1 = u0.alloc (.cells #[.int .i64 0, .int .i64 1, .int .i64 1, .int .i64 0] T) := ⟨_, rfl⟩
  obtain ⟨u2, hu2⟩ : ∃ u2, u2 = u1.alloc (.cells #[.int .i64 1, .int .i64 1, .int .i64 1, .int .i64 1] T) := ⟨_, rfl⟩
  obtain ⟨u3, hu3⟩ : ∃ u3, u3 = u2.alloc (.cells #[.slice (some ⟨w.heap.size + 1, 0, none⟩) 4 4, .slice (some ⟨w.heap.size + 1 + 1, 0, none⟩) 4 4] T2) := ⟨_, rfl⟩
  rw [← hu1, ← hu2, ← hu3] at hu
  have s0 : u0.heap.size = w.heap.size + 1 := by rw [hu0]; simp
  have s1 : u1.heap.size = w.heap.size + 1 + 1 := by rw [hu1]; simp [s0]
  have s2 : u2.heap.size = w.heap.size + 1 + 1 + 1 := by rw [hu2]; simp [s1]
  have s3 : u3.heap.size = w.heap.size + 1 + 1 + 1 + 1 := by rw [hu3]; simp [s2]
  have s4 : u.heap.size = w.heap.size + 1 + 1 + 1 + 1 + 1 := by rw [hu]; simp [s3]
  have b0 : Below w.heap.size w u0 := by rw [hu0]; exact (Below.refl _ _).alloc (Nat.le_refl _) _
  have b1 : Below u0.heap.size u0 u1 := by rw [hu1]; exact (Below.refl _ _).alloc (Nat.le_refl _) _
  have b2 : Below u1.heap.size u1 u2 := by rw [hu2]; exact (Below.refl _ _).alloc (Nat.le_refl _) _
  have b3 : Below u2.heap.size u2 u3 := by rw [hu3]; exact (Below.refl _ _).alloc (Nat.le_refl _) _
  have b4 : Below u3.heap.size u3 u := by rw [hu]; exact (Below.refl _ _).alloc (Nat.le_refl _) _
  have g1 : u1.heap[w.heap.size + 1]? = some (.cells #[.int .i64 0, .int .i64 1, .int .i64 1, .int .i64 0] T (0, 0)) := by rw [hu1, ← s0]; exact heap_alloc_last _ _
  have g2 : u2.heap[w.heap.size + 1 + 1]? = some (.cells #[.int .i64 1, .int .i64 1, .int .i64 1, .int .i64 1] T (0, 0)) := by rw [hu2, ← s1]; exact heap_alloc_last _ _
  have g3 : u3.heap[w.heap.size + 1 + 1 + 1]? = some (.cells #[.slice (some ⟨w.heap.size + 1, 0, none⟩) 4 4, .slice (some ⟨w.heap.size + 1 + 1, 0, none⟩) 4 4] T2 (0, 0)) := by rw [hu3, ← s2]; exact heap_alloc_last _ _
  have g4 : u.heap[w.heap.size + 1 + 1 + 1 + 1]? = some (.cells #[.bool true, .bool false] T3 (0, 0)) := by rw [hu, ← s3]; exact heap_alloc_last _ _
  have k1 := (b4.block (w.heap.size + 1) (by omega)).trans ((b3.block _ (by omega)).trans ((b2.block _ (by omega)).trans g1))
  have k2 := (b4.block (w.heap.size + 1 + 1) (by omega)).trans ((b3.block _ (by omega)).trans g2)
  have k3 := (b4.block (w.heap.size + 1 + 1 + 1) (by omega)).trans g3
  have k0 := (b4.block w.heap.size (by omega)).trans ((b3.block _ (by omega)).trans ((b2.block _ (by omega)).trans (b1.block _ (by omega))))
  clear hu0 hu1 hu2 hu3 hu
  refine ⟨fun W' hW => ?_, below_step (below_step (below_step (below_step b0 b1) b2) b3) b4, k0⟩
  have l1 := (hW (w.heap.size + 1) (by omega) (by omega)).trans k1
  have l2 := (hW (w.heap.size + 1 + 1) (by omega) (by omega)).trans k2
  have l3 := (hW (w.heap.size + 1 + 1 + 1) (by omega) (by omega)).trans k3
  have l4 := (hW (w.heap.size + 1 + 1 + 1 + 1) (by omega) (by omega)).trans g4
  have four : ∀ i, i < 4 → i = 0 ∨ i = 1 ∨ i = 2 ∨ i = 3 := by omega
  have two : ∀ i, i < 2 → i = 0 ∨ i = 1 := by omega
  have r1 : Sl W' (some ⟨w.heap.size + 1, 0, none⟩) 4 [0, 1, 1, 0] := ⟨rfl, by decide, by decide, Or.inr ⟨_, 0, rfl, fun i hi => by rcases four i hi with rfl | rfl | rfl | rfl <;> simp [World.cell?, l1]⟩⟩
  have r2 : Sl W' (some ⟨w.heap.size + 1 + 1, 0, none⟩) 4 [1, 1, 1, 1] := ⟨rfl, by decide, by decide, Or.inr ⟨_, 0, rfl, fun i hi => by rcases four i hi with rfl | rfl | rfl | rfl <;> simp [World.cell?, l2]⟩⟩
  refine ⟨⟨rfl, by decide, Or.inr ⟨_, 0, rfl, fun i hi => ?_⟩⟩, ⟨rfl, by decide, Or.inr ⟨_, 0, rfl, fun i hi => by rcases two i hi with rfl | rfl <;> simp [smeE, World.cell?, l4]⟩⟩⟩
  rcases two i hi with rfl | rfl
  · exact ⟨_, 4, by simp [smeN, World.cell?, l3], r1⟩
  · exact ⟨_, 4, by simp [smeN, World.cell?, l3], r2⟩

set_option maxHeartbeats 4000000 in
theorem sme_any (w : World) : Calls Try.prog 7 #[] w (GivesAuto w 2 2 smeN smeE) := by
  go_enter Try.func7, Try.ntmps7
  go_wp2
  generalize hu : ((((w.alloc _).alloc _).alloc _).alloc _).alloc _ = u
  obtain ⟨h1, h2, h3⟩ := sme_world w _ _ _ _ hu.symm
  rw [heap_alloc_last] at h3
  obtain ⟨⟨z0, z1, z2, z3⟩, -⟩ := box_cells h3
  clear hu h3
  exact bodyPost_ret (v := .agg #[.int .i64 2, .int .i64 2, .slice (some ⟨w.heap.size + 1 + 1 + 1, 0, none⟩) 2 2, .slice (some ⟨w.heap.size + 1 + 1 + 1 + 1, 0, none⟩) 2 2]) (by simp [results, Try.results7, go_sem, z0, z1, z2, z3]) rfl ⟨_, 2, _, 2, rfl, h1, h2⟩
end Go.Proofs.Ytleebojibobgaaa
