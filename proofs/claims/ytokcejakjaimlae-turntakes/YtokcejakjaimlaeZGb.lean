/- 5 texts in one. -/
import Derived.Test.YtokcejakjaimlaeRows
import Derived.Below
import Derived.Deep.RegionHeldLaw
import Derived.Deep.RegionLaw
import Derived.Deep.RegionWith
import Derived.LaidEql
import Derived.Laws.AppendOwnNone
import Derived.OwnWalk
import Derived.RowKitTokens
import Derived.Stop.Asserts
import Derived.WalkKit
import Derived.Test.YtokcejakjaimlaeMa
import Derived.Test.YtokcejakjaimlaeZNx
import Derived.Test.YtokcejakjaimlaeB
import Derived.Test.YtokcejakjaimlaeBp
import Derived.Test.YtokcejakjaimlaeZCf
import Derived.Test.YtokcejakjaimlaeDb
import Derived.Test.YtokcejakjaimlaeZMp
import Derived.Test.YtokcejakjaimlaeZG
import Derived.Test.YtokcejakjaimlaeZF
/- A track left out: the sets that come up, the words that are taken; mathematics. -/
namespace Go.Proofs.Ytokcejakjaimlae
open Go.RowKit

theorem runF_append (N : List (List Int)) (z v : List Int) : runF N (runL N z) v = runL N (z ++ v) := by rw [runL_append]; rfl
theorem runF_lt {m n : Nat} {N : List (List Int)} (hG : GoodN m n N) {s : Nat} (hs : s < n) {v : List Int} (hv : okW m v) : runF N s v < n := by
  induction v generalizing s with
  | nil => exact hs
  | cons x v ih => exact ih (goodN_step hG s hs x (hv x (by simp))).1 (fun y hy => hv y (by simp [hy]))
end Go.Proofs.Ytokcejakjaimlae

/- A track left out, word by word: mathematics of the laws SomeTakes and SomeOrder. -/
namespace Go.Proofs.Ytokcejakjaimlae
open Go.RowKit

theorem autoC_fine {b t : Int} {N : List (List Int)} {n : Nat} (hM : codeM b t = 0) (hG : GoodN (manyU b t).toNat n N) (hn : n ≤ 80) : autoC b t N n = 0 := by
  have h1 := hG.1
  have h2 := hG.2.1
  unfold autoC
  rw [if_pos hM, if_neg (by omega), if_neg (by omega), if_pos (by omega)]
  exact rowsC_all fun j hj => by
    have := hG.2.2.2.2.2 j (by omega)
    exact rowC_good this.1 (by rw [h1]; exact this.2)
end Go.Proofs.Ytokcejakjaimlae

/- From behind: the sets that come up, the words that are taken; mathematics. -/
namespace Go.Proofs.Ytokcejakjaimlae
open Go.RowKit

/-- All whose next with a letter is in a set; the set of those with an end. -/
def dB (N : List (List Int)) (n : Nat) (M l : Nat) : Nat := maskB n fun s => M.testBit (nxt N s l)
def fB (n : Nat) (E : List Bool) : Nat := maskB n fun s => E.getD s false
theorem dB_lt (N : List (List Int)) (n M l : Nat) : dB N n M l < 2 ^ n := maskB_lt _ _
theorem fB_lt (n : Nat) (E : List Bool) : fB n E < 2 ^ n := maskB_lt _ _
theorem dB_bit {N : List (List Int)} {n M l s : Nat} (hs : s < n) : (dB N n M l).testBit s = M.testBit (nxt N s l) := by
  unfold dB; rw [maskB_bit]; simp [hs]
theorem fB_bit {n : Nat} {E : List Bool} {s : Nat} (hs : s < n) : (fB n E).testBit s = E.getD s false := by
  unfold fB; rw [maskB_bit]; simp [hs]
theorem okW_rev {m : Nat} {w : List Int} (h : okW m w) : okW m w.reverse := fun x hx => h x (List.mem_reverse.1 hx)
theorem runB_bit {m n : Nat} {N : List (List Int)} (hG : GoodN m n N) {w : List Int} (hw : okW m w) {s : Nat} (hs : s < n) (M : Nat) : (runG (dB N n) M w).testBit s = M.testBit (runF N s w.reverse) := by
  induction w using list_snoc_ind generalizing s with
  | h0 => rfl
  | h1 w x ih =>
    obtain ⟨hw1, hw2⟩ := okW_append.1 hw
    have hx := hw2 x (by simp)
    rw [runG_snoc, dB_bit hs, ih hw1 (nxt_cell hG hs (by omega)).1, List.reverse_append]
    rfl
/-- What comes up of sets from behind, and the automaton of them. -/
def tbL (N : List (List Int)) (E : List Bool) (n m : Nat) : List Nat := outG (dB N n) m (fB n E) 2000
def tbN (N : List (List Int)) (E : List Bool) (n m : Nat) : List (List Int) := gN (dB N n) m (tbL N E n m)
def tbE (N : List (List Int)) (E : List Bool) (n m : Nat) : List Bool := gE (fun M => M.testBit 0) (tbL N E n m)
theorem tb_first (N : List (List Int)) (E : List Bool) (n m : Nat) : 0 < (tbL N E n m).length ∧ (tbL N E n m).getD 0 0 = fB n E := outG_pos _ _ _ _
theorem tb_closed {N : List (List Int)} {E : List Bool} {n m : Nat} (h : (tbL N E n m).length ≤ 2000) : ClosedG (dB N n) m (tbL N E n m) := outG_closed h
theorem tb_good {N : List (List Int)} {E : List Bool} {n m : Nat} (h : (tbL N E n m).length ≤ 2000) (h1 : 1 ≤ m) (h36 : m ≤ 36) : GoodN m (tbL N E n m).length (tbN N E n m) := gN_good (tb_closed h) (tb_first _ _ _ _).1 (by omega) h1 h36
theorem tb_tk {m n : Nat} {N : List (List Int)} (hG : GoodN m n N) {E : List Bool} (h : (tbL N E n m).length ≤ 2000) {w : List Int} (hw : okW m w) : tkB (tbN N E n m) (tbE N E n m) w = tkB N E w.reverse := by
  unfold tbN tbE
  rw [gN_tk (tb_closed h) (tb_first _ _ _ _).1 w hw, (tb_first _ _ _ _).2, runB_bit hG hw hG.2.1, fB_bit (runF_lt hG hG.2.1 (okW_rev hw))]
  rfl

/-- Turn: the fault of the sets, how many they are; the fault of all, the automaton. -/
def tnL (b t : Int) (N : List (List Int)) (E : List Bool) : List Nat := tbL (leastN N E (manyU b t).toNat) (leastE N E (manyU b t).toNat) (leastK N E (manyU b t).toNat) (manyU b t).toNat
def tnGN (b t : Int) (N : List (List Int)) (E : List Bool) : List (List Int) := tbN (leastN N E (manyU b t).toNat) (leastE N E (manyU b t).toNat) (leastK N E (manyU b t).toNat) (manyU b t).toNat
def tnGE (b t : Int) (N : List (List Int)) (E : List Bool) : List Bool := tbE (leastN N E (manyU b t).toNat) (leastE N E (manyU b t).toNat) (leastK N E (manyU b t).toNat) (manyU b t).toNat
def tnS (b t : Int) (N : List (List Int)) (E : List Bool) (k : Nat) : Int := if autoC b t N k = 0 then (if 2000 < (tnL b t N E).length then 3 else 0) else autoC b t N k
def tnC (b t : Int) (N : List (List Int)) (E : List Bool) (k : Nat) : Int := if tnS b t N E k = 0 then (if 80 < leastK (tnGN b t N E) (tnGE b t N E) (manyU b t).toNat then 3 else 0) else tnS b t N E k
def tnN (b t : Int) (N : List (List Int)) (E : List Bool) (k : Nat) : List (List Int) := if tnC b t N E k = 0 then leastN (tnGN b t N E) (tnGE b t N E) (manyU b t).toNat else []
def tnE (b t : Int) (N : List (List Int)) (E : List Bool) (k : Nat) : List Bool := if tnC b t N E k = 0 then leastE (tnGN b t N E) (tnGE b t N E) (manyU b t).toNat else []
theorem tnS_zero {b t : Int} {N : List (List Int)} {E : List Bool} {k : Nat} (h : tnS b t N E k = 0) : autoC b t N k = 0 ∧ (tnL b t N E).length ≤ 2000 := by
  unfold tnS at h
  split at h
  · split at h
    · cases h
    · exact ⟨by assumption, by omega⟩
  · rename_i h1; exact absurd h h1
theorem tnC_zero {b t : Int} {N : List (List Int)} {E : List Bool} {k : Nat} (h : tnC b t N E k = 0) : tnS b t N E k = 0 ∧ leastK (tnGN b t N E) (tnGE b t N E) (manyU b t).toNat ≤ 80 := by
  unfold tnC at h
  split at h
  · split at h
    · cases h
    · exact ⟨by assumption, by omega⟩
  · rename_i h1; exact absurd h h1
theorem tn_good {b t : Int} {N : List (List Int)} {E : List Bool} {n : Nat} (hG : GoodN (manyU b t).toNat n N) (h : (tnL b t N E).length ≤ 2000) : GoodN (manyU b t).toNat (tnL b t N E).length (tnGN b t N E) := tb_good h hG.2.2.2.2.1 hG.2.2.2.1
theorem tn_lang {b t : Int} {N : List (List Int)} {E : List Bool} {n : Nat} (hG : GoodN (manyU b t).toNat n N) (h : (tnL b t N E).length ≤ 2000) {w : List Int} (hw : okW (manyU b t).toNat w) : tkB (tnGN b t N E) (tnGE b t N E) w = tkB N E w.reverse := by
  unfold tnGN tnGE
  rw [tb_tk (least_good hG E) h hw, tk_least hG E _ (okW_rev hw)]

/-- Turn's automaton, where all is well. -/
structure TnWell (b t : Int) (N : List (List Int)) (E : List Bool) (m : Nat) (MN : List (List Int)) (ME : List Bool) : Prop where
  auto : autoC b t MN MN.length = 0
  len : ME.length = MN.length
  good : GoodN m MN.length MN
  many : (manyU b t).toNat = m
  least : leastN MN ME m = MN ∧ leastE MN ME m = ME
  lang : ∀ w, okW m w → tkB MN ME w = tkB N E w.reverse
theorem tn_well {b t : Int} {N : List (List Int)} {E : List Bool} {k : Nat} (h : tnC b t N E k = 0) : TnWell b t N E (manyU b t).toNat (tnN b t N E k) (tnE b t N E k) := by
  obtain ⟨hS, hK⟩ := tnC_zero h
  obtain ⟨hA, hL⟩ := tnS_zero hS
  obtain ⟨hM, hk, hG, hmu⟩ := autoC_zero hA
  have hCG := tn_good (E := E) hG hL
  have hLG := least_good hCG (tnGE b t N E)
  have e1 : tnN b t N E k = leastN (tnGN b t N E) (tnGE b t N E) (manyU b t).toNat := by unfold tnN; rw [if_pos h]
  have e2 : tnE b t N E k = leastE (tnGN b t N E) (tnGE b t N E) (manyU b t).toNat := by unfold tnE; rw [if_pos h]
  refine ⟨?_, by rw [e1, e2, leastN_len, leastE_len], by rw [e1, leastN_len]; exact hLG, rfl, by rw [e1, e2]; exact least_again hCG _, fun w hw => ?_⟩
  · rw [e1, leastN_len]
    exact autoC_fine hM hLG hK
  · rw [e1, e2, tk_least hCG _ w hw, tn_lang hG hL hw]

/-- As many sets come up of what is turned as the least automaton has states (Brzozowski). -/
theorem turn_few {m n n' : Nat} {N MN : List (List Int)} {E ME : List Bool} (hG : GoodN m n N) (hM : GoodN m n' MN) (hmet : ∀ s, s < n' → ∃ u, okW m u ∧ runL MN u = s) (hl : ∀ w, okW m w → tkB MN ME w = tkB N E w.reverse) : (tbL MN ME n' m).length ≤ leastK N E m := by
  have hLG := least_good hG E
  have hnod := outG_nodup (dB MN n') m (fB n' ME) 2000
  have hword : ∀ x ∈ tbL MN ME n' m, ∃ w, okW m w ∧ runG (dB MN n') (fB n' ME) w = x := fun x hx => outG_reach hx
  -- words that lead to one state of the least automaton make one set
  have key : ∀ w w', okW m w → okW m w' → runL (leastN N E m) w = runL (leastN N E m) w' → runG (dB MN n') (fB n' ME) w = runG (dB MN n') (fB n' ME) w' := fun w w' hw hw' e => by
    have hlt : ∀ w, runG (dB MN n') (fB n' ME) w < 2 ^ n' := fun w => by
      induction w using list_snoc_ind with
      | h0 => exact fB_lt _ _
      | h1 w x _ => rw [runG_snoc]; exact dB_lt _ _ _ _
    refine mask_ext (hlt w) (hlt w') fun s hs => ?_
    obtain ⟨u, hu, rfl⟩ := hmet s hs
    have step : ∀ v, okW m v → (runG (dB MN n') (fB n' ME) v).testBit (runL MN u) = (leastE N E m).getD (runF (leastN N E m) (runL (leastN N E m) v) u.reverse) false := fun v hv => by
      rw [runB_bit hM hv hs, fB_bit (runF_lt hM hs (okW_rev hv)), runF_append]
      have h1 := hl (u ++ v.reverse) (okW_append.2 ⟨hu, okW_rev hv⟩)
      rw [List.reverse_append, List.reverse_reverse] at h1
      show tkB MN ME (u ++ v.reverse) = _
      rw [h1, ← tk_least hG E _ (okW_append.2 ⟨hv, okW_rev hu⟩), runF_append]
      rfl
    rw [step w hw, step w' hw', e]
  -- so a state for each set, none twice
  have hch : ∀ x : Nat, ∃ s : Nat, x ∈ tbL MN ME n' m → ∃ w, okW m w ∧ runG (dB MN n') (fB n' ME) w = x ∧ runL (leastN N E m) w = s := fun x => by
    by_cases hx : x ∈ tbL MN ME n' m
    · obtain ⟨w, h1, h2⟩ := hword x hx
      exact ⟨_, fun _ => ⟨w, h1, h2, rfl⟩⟩
    · exact ⟨0, fun h => absurd h hx⟩
  obtain ⟨f, hf⟩ := Classical.axiomOfChoice hch
  have hnd : ((tbL MN ME n' m).map f).Nodup := by
    unfold List.Nodup
    rw [List.pairwise_map]
    refine List.Pairwise.imp_of_mem ?_ hnod
    intro x y hx hy hne e
    obtain ⟨w, h1, h2, h3⟩ := hf x hx
    obtain ⟨v, g1, g2, g3⟩ := hf y hy
    exact hne (by rw [← h2, ← g2]; exact key w v h1 g1 (by rw [h3, g3, e]))
  have := nodup_sub (K := List.range (leastK N E m)) hnd (fun s hs => by
    obtain ⟨x, hx, rfl⟩ := List.mem_map.1 hs
    obtain ⟨w, h1, -, h3⟩ := hf x hx
    rw [← h3]
    exact List.mem_range.2 (run_lt hLG w h1))
  rwa [List.length_map, List.length_range] at this
/-- To each state of a least automaton a word leads. -/
theorem least_word {m n : Nat} {N : List (List Int)} (hG : GoodN m n N) (E : List Bool) {s : Nat} (hs : s < leastK N E m) : ∃ u, okW m u ∧ runL (leastN N E m) u = s := by
  have hLG := least_good hG E
  have T : Twins m (leastK N E m) (leastK N E m) (leastN N E m) (leastE N E m) (leastN N E m) (leastE N E m) := ⟨hLG, hLG, fun _ _ => rfl, fun s t hs ht => least_parts hG E hs ht, fun s t hs ht => least_parts hG E hs ht⟩
  have hp := parL_outs T (leastK N E m + 0)
  rw [outs_late hLG 0, least_met hG E] at hp
  obtain ⟨u, h1, h2, -⟩ := (hp.2 s (by rw [natsL_len]; exact hs)).2.2
  rw [natsL_get hs, Int.toNat_natCast] at h2
  exact ⟨u, h1, h2⟩
/-- Turned twice it is the least automaton. -/
theorem turn_twice {b t : Int} {N : List (List Int)} {E : List Bool} {k : Nat} (h : tnC b t N E k = 0) :
    tnC b t (tnN b t N E k) (tnE b t N E k) (tnN b t N E k).length = 0 ∧ tnN b t (tnN b t N E k) (tnE b t N E k) (tnN b t N E k).length = leastN N E (manyU b t).toNat ∧ tnE b t (tnN b t N E k) (tnE b t N E k) (tnN b t N E k).length = leastE N E (manyU b t).toNat := by
  have hA := (tnS_zero (tnC_zero h).1).1
  obtain ⟨hM, hk, hG, hmu⟩ := autoC_zero hA
  have h80 := autoC_80 hA
  have W := tn_well h
  generalize tnN b t N E k = MN at W ⊢
  generalize tnE b t N E k = ME at W ⊢
  have hlk : leastK MN ME (manyU b t).toNat = MN.length := by rw [← leastN_len, W.least.1]
  have hLG := least_good hG E
  have hKn : leastK N E (manyU b t).toNat ≤ 80 := leastK_80 hG E h80
  have hL : (tnL b t MN ME).length ≤ leastK N E (manyU b t).toNat := by
    unfold tnL
    rw [hlk, W.least.1, W.least.2]
    refine turn_few hG W.good (fun s hs => ?_) W.lang
    have := least_word W.good ME (s := s) (by rw [hlk]; exact hs)
    rwa [W.least.1] at this
  have hS : tnS b t MN ME MN.length = 0 := by unfold tnS; rw [if_pos W.auto, if_neg (by omega)]
  have hTG := tn_good (E := ME) W.good (by omega)
  have same := least_same hTG hG (tnGE b t MN ME) E (fun w hw => by
    show tkB _ _ w = tkB N E w
    rw [tn_lang W.good (by omega) hw, W.lang _ (okW_rev hw), List.reverse_reverse])
  have hC : tnC b t MN ME MN.length = 0 := by
    unfold tnC
    rw [if_pos hS, if_neg]
    rw [← leastN_len, same.1, leastN_len]
    omega
  refine ⟨hC, ?_, ?_⟩
  · unfold tnN; rw [if_pos hC]; exact same.1
  · unfold tnE; rw [if_pos hC]; exact same.2
theorem wordC_rev (m : Nat) (w : List Int) : wordC m w.reverse = wordC m w := by unfold wordC; simp
end Go.Proofs.Ytokcejakjaimlae

/- The law SomeClosed: what its walk asks of the mathematics. -/
namespace Go.Proofs.Ytokcejakjaimlae
open Go.RowKit

theorem wordC_okW {m : Nat} {w : List Int} (h : wordC m w = 0) : okW m w := fun x hx => by
  obtain ⟨-, h2⟩ := wordC_zero h
  obtain ⟨j, hj, rfl⟩ := List.getElem_of_mem hx
  have := h2 j hj
  rwa [getD_at _ j hj] at this
theorem takesB_of {b t : Int} {N : List (List Int)} {E : List Bool} {l : List Int} {e : Nat} (he : E.length = e) (h : runC b t N e l = 0) : takesB b t N E l = tkB N E l := by
  unfold takesB tkB
  rw [he, if_pos h]
end Go.Proofs.Ytokcejakjaimlae

/- Mathematics of TurnTakes: its fact, and a word from behind. -/
namespace Go.Proofs.Ytokcejakjaimlae
open Go.RowKit

def lasN : List (List Int) := [[0, 1], [0, 1]]
def lasE : List Bool := [false, true]
theorem las_auto : autoC 2 1 lasN 2 = 0 := by decide +kernel
/-- Sets that come up, by what comes up early. -/
theorem tbL_early {N : List (List Int)} {E : List Bool} {n m i : Nat} {L : List Nat} (hi : i ≤ 2000) (h : outG (dB N n) m (fB n E) i = L) (hl : L.length ≤ i) : tbL N E n m = L := by
  obtain ⟨j, hj⟩ : ∃ j, 2000 = i + j := ⟨2000 - i, by omega⟩
  unfold tbL
  rw [hj, outG_stay (by rw [h]; exact hl), h]
theorem las_row : tnL 2 1 lasN lasE = [2, 0, 3] := tbL_early (i := 3) (by omega) (by decide +kernel) (by decide)
theorem las_gn : tnGN 2 1 lasN lasE = [[1, 2], [1, 1], [2, 2]] := by
  have h : tnGN 2 1 lasN lasE = gN (dB (leastN lasN lasE (manyU 2 1).toNat) (leastK lasN lasE (manyU 2 1).toNat)) (manyU 2 1).toNat (tnL 2 1 lasN lasE) := rfl
  rw [h, las_row]
  decide +kernel
theorem las_ge : tnGE 2 1 lasN lasE = [false, false, true] := by
  have h : tnGE 2 1 lasN lasE = gE (fun M => M.testBit 0) (tnL 2 1 lasN lasE) := rfl
  rw [h, las_row]
  decide +kernel
theorem las_sets : tnS 2 1 lasN lasE 2 = 0 := by unfold tnS; rw [las_auto, las_row]; decide
theorem las_code : tnC 2 1 lasN lasE 2 = 0 := by unfold tnC; rw [las_sets, las_gn, las_ge]; decide +kernel
theorem las_next : tnN 2 1 lasN lasE 2 = [[1, 2], [1, 1], [2, 2]] := by unfold tnN; rw [las_code, las_gn, las_ge]; decide +kernel
theorem las_ends : tnE 2 1 lasN lasE 2 = [false, false, true] := by unfold tnE; rw [las_code, las_gn, las_ge]; decide +kernel

/-- The word from behind: the same fault, and it is taken just if the word is. -/
theorem tt_same {b t : Int} {N : List (List Int)} {E : List Bool} {k : Nat} (h : tnC b t N E k = 0) (hE : E.length = k) (u : List Int) :
    runC b t (tnN b t N E k) (tnN b t N E k).length u = runC b t N k u.reverse ∧ takesB b t (tnN b t N E k) (tnE b t N E k) u = takesB b t N E u.reverse := by
  have H := tn_well h
  have hA := (tnS_zero (tnC_zero h).1).1
  have e1 : runC b t (tnN b t N E k) (tnN b t N E k).length u = wordC (manyU b t).toNat u := by unfold runC; rw [if_pos H.auto]
  have e2 : runC b t N k u.reverse = wordC (manyU b t).toNat u := by unfold runC; rw [if_pos hA, wordC_rev]
  refine ⟨by rw [e1, e2], ?_⟩
  by_cases hw : wordC (manyU b t).toNat u = 0
  · rw [takesB_of H.len (by rw [e1]; exact hw), takesB_of hE (by rw [e2]; exact hw)]
    exact H.lang u (wordC_okW hw)
  · unfold takesB
    rw [H.len, hE, e1, e2, if_neg hw, if_neg hw]
/-- .. built up. -/
theorem rev_take {u : List Int} {j : Nat} (hj : j < u.length) : u.reverse.take (j + 1) = u.reverse.take j ++ [u.getD (u.length - 1 - j) 0] := by
  rw [List.take_succ_eq_append_getElem (by rw [List.length_reverse]; exact hj), List.getElem_reverse, getD_at _ _ (by omega)]
end Go.Proofs.Ytokcejakjaimlae
