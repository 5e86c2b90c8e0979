/- The law TrackBack: what is spread and spread back, mathematics; filbertsame.Pick: contract. -/
import Derived.OpenShut
import Derived.Test.YtkighkpmebcnhacZEa
import Derived.Test.YtkighkpmebcnhacEj
namespace Go.Proofs.Ytkighkpmebcnhac
open Go.RowKit

/-- The tracks in the law's order, and back. -/
def toL (k p : Nat) : List Int := (List.range k).map fun i : Nat => (((i + p) % k : Nat) : Int)
def backL (k p : Nat) : List Int := (List.range k).map fun i : Nat => (((i + k - p) % k : Nat) : Int)
def firstL (k : Nat) : List Int := (List.range k).map fun i : Nat => (i : Int)
theorem toL_len (k p : Nat) : (toL k p).length = k := by simp [toL]
theorem backL_len (k p : Nat) : (backL k p).length = k := by simp [backL]
theorem firstL_len (k : Nat) : (firstL k).length = k := by simp [firstL]
theorem toL_get {k p i : Nat} (hi : i < k) : (toL k p).getD i 0 = (((i + p) % k : Nat) : Int) := by simp [toL, List.getD, hi]
theorem backL_get {k p i : Nat} (hi : i < k) : (backL k p).getD i 0 = (((i + k - p) % k : Nat) : Int) := by simp [backL, List.getD, hi]
theorem firstL_get {k i : Nat} (hi : i < k) : (firstL k).getD i 0 = (i : Int) := by simp [firstL, List.getD, hi]
theorem toL_take {k p i : Nat} (hi : i < k) : (toL k p).take (i + 1) = (toL k p).take i ++ [(((i + p) % k : Nat) : Int)] := by
  rw [List.take_succ_eq_append_getElem (by rw [toL_len]; exact hi), ← getD_at _ i (by rw [toL_len]; exact hi), toL_get hi]
theorem backL_take {k p i : Nat} (hi : i < k) : (backL k p).take (i + 1) = (backL k p).take i ++ [(((i + k - p) % k : Nat) : Int)] := by
  rw [List.take_succ_eq_append_getElem (by rw [backL_len]; exact hi), ← getD_at _ i (by rw [backL_len]; exact hi), backL_get hi]
theorem firstL_take {k i : Nat} (hi : i < k) : (firstL k).take (i + 1) = (firstL k).take i ++ [(i : Int)] := by
  rw [List.take_succ_eq_append_getElem (by rw [firstL_len]; exact hi), ← getD_at _ i (by rw [firstL_len]; exact hi), firstL_get hi]
theorem small_wf {k : Nat} {l : List Int} (hk : k ≤ 5) (hl : l.length = k) (h : ∀ i, i < k → 0 ≤ l.getD i 0 ∧ l.getD i 0 ≤ (k : Int)) : ∀ x ∈ l, (Lit.int .i64 x).wf = true := by
  intro x hx
  obtain ⟨i, hi, rfl⟩ := List.getElem_of_mem hx
  have := h i (by omega)
  rw [getD_at _ i hi] at this
  exact WalkArith.wf_i64 (by omega)
theorem toL_rng {k p i : Nat} (hi : i < k) : 0 ≤ (toL k p).getD i 0 ∧ (toL k p).getD i 0 < (k : Int) := by
  rw [toL_get hi]
  have := Nat.mod_lt (i + p) (show 0 < k by omega)
  omega
theorem backL_rng {k p i : Nat} (hi : i < k) : 0 ≤ (backL k p).getD i 0 ∧ (backL k p).getD i 0 < (k : Int) := by
  rw [backL_get hi]
  have := Nat.mod_lt (i + k - p) (show 0 < k by omega)
  omega
theorem sprC_of {b t : Int} {N : List (List Int)} {n : Nat} {tr : Int} {at_ : List Int} (hA : autoC b t N n = 0) (hM : codeM b tr = 0) (hl : (at_.length : Int) = t) (hr : ∀ i, i < at_.length → 0 ≤ at_.getD i 0 ∧ at_.getD i 0 < tr) : sprC b t N n tr at_ = 0 := by
  unfold sprC
  rw [if_pos hA, if_pos hM, if_pos hl]
  exact atC_all hr

theorem sprN_eq {b t : Int} {N : List (List Int)} {E : List Bool} {k : Nat} {tr : Int} {at_ : List Int} (h : sprC b t N k tr at_ = 0) : sprN b t N E k tr at_ = leastN (relN N (spreadT b tr.toNat at_ (manyU b tr).toNat)) E (manyU b tr).toNat := by unfold sprN; rw [if_pos h]
theorem sprE_eq {b t : Int} {N : List (List Int)} {E : List Bool} {k : Nat} {tr : Int} {at_ : List Int} (h : sprC b t N k tr at_ = 0) : sprE b t N E k tr at_ = leastE (relN N (spreadT b tr.toNat at_ (manyU b tr).toNat)) E (manyU b tr).toNat := by unfold sprE; rw [if_pos h]
theorem fixN_eq {b t : Int} {N : List (List Int)} {E : List Bool} {k : Nat} {tk x : Int} (h : fixC b t N k tk x = 0) : fixN b t N E k tk x = leastN (relN N (fixT b (t.toNat - 1) tk.toNat x (manyU b (t - 1)).toNat)) E (manyU b (t - 1)).toNat := by unfold fixN; rw [if_pos h]
theorem fixE_eq {b t : Int} {N : List (List Int)} {E : List Bool} {k : Nat} {tk x : Int} (h : fixC b t N k tk x = 0) : fixE b t N E k tk x = leastE (relN N (fixT b (t.toNat - 1) tk.toNat x (manyU b (t - 1)).toNat)) E (manyU b (t - 1)).toNat := by unfold fixE; rw [if_pos h]

/-- In another order, and back. -/
theorem turn_well {b : Int} {k p n : Nat} {N : List (List Int)} (E : List Bool) (hA : autoC b (k : Int) N n = 0) (hp : 0 < k → p < k) :
    ∃ (XN : List (List Int)) (XE : List Bool), sprC b k N n k (toL k p) = 0 ∧ sprN b k N E n k (toL k p) = XN ∧ sprE b k N E n k (toL k p) = XE ∧
      sprC b k XN XN.length k (backL k p) = 0 ∧ sprN b k XN XE XN.length k (backL k p) = leastN N E (manyU b (k : Int)).toNat ∧ sprE b k XN XE XN.length k (backL k p) = leastE N E (manyU b (k : Int)).toNat := by
  obtain ⟨hM, hn, hG, hmu⟩ := autoC_zero hA
  obtain ⟨h1, h2, h3, h4, h5, h6⟩ := codeM_zero hM
  rw [Int.toNat_natCast] at h5 h6
  have hkb := kinds_bd2 b h2
  have hpos := pw_pos (kindsI b) hkb.1 k
  have hc1 : sprC b k N n k (toL k p) = 0 := sprC_of hA hM (by rw [toL_len]) (fun i hi => toL_rng (by rwa [toL_len] at hi))
  obtain ⟨trn, mu, e1, hW, -, e2⟩ := sp_well (E := E) hc1
  have : trn = k := by omega
  subst this
  have hc2 : sprC b trn (sprN b trn N E n trn (toL trn p)) (sprN b trn N E n trn (toL trn p)).length trn (backL trn p) = 0 := sprC_of hW.auto hM (by rw [backL_len]) (fun i hi => backL_rng (by rwa [backL_len] at hi))
  refine ⟨_, _, hc1, rfl, rfl, hc2, ?_⟩
  have e3 : ((manyU b (trn : Int)).toNat : Int) = manyU b (trn : Int) := by omega
  have hpm : pw (kindsI b) trn = ((manyU b (trn : Int)).toNat : Int) := by rw [e3, h6]
  have hok1 := spread_ok b h2 trn (toL trn p) (manyU b (trn : Int)).toNat (manyU b (trn : Int)).toNat (by rw [toL_len]; exact hpm)
  have hok2 := spread_ok b h2 trn (backL trn p) (manyU b (trn : Int)).toNat (manyU b (trn : Int)).toNat (by rw [backL_len]; exact hpm)
  have hback := fun x h0 hx => turn_back h2 hpm (toL_len trn p) (backL_len trn p) (fun i hi => toL_rng hi) (fun i hi => by
    rw [toL_get hi, Int.toNat_natCast, backL_get (Nat.mod_lt _ (by omega)), turn_idx (hp (by omega)) hi]) x h0 hx
  have hR := rel_back hG E hok1 (spread_len _ _ _ _) (by omega) (by omega) hok2 (spread_len _ _ _ _) hback
  have hx1 : sprN b trn N E n trn (toL trn p) = leastN (relN N (spreadT b trn (toL trn p) (manyU b (trn : Int)).toNat)) E (manyU b (trn : Int)).toNat := by unfold sprN; rw [if_pos hc1, Int.toNat_natCast]
  have hx2 : sprE b trn N E n trn (toL trn p) = leastE (relN N (spreadT b trn (toL trn p) (manyU b (trn : Int)).toNat)) E (manyU b (trn : Int)).toNat := by unfold sprE; rw [if_pos hc1, Int.toNat_natCast]
  constructor
  · rw [sprN_eq hc2, Int.toNat_natCast, hx1, hx2]
    exact hR.1
  · rw [sprE_eq hc2, Int.toNat_natCast, hx1, hx2]
    exact hR.2.1

/-- One track more, and a digit there. -/
theorem more_well {b : Int} {k n : Nat} {N : List (List Int)} (E : List Bool) (hA : autoC b (k : Int) N n = 0) (hM' : codeM b ((k : Int) + 1) = 0) :
    ∃ (XN : List (List Int)) (XE : List Bool), sprC b k N n ((k : Int) + 1) (firstL k) = 0 ∧ sprN b k N E n ((k : Int) + 1) (firstL k) = XN ∧ sprE b k N E n ((k : Int) + 1) (firstL k) = XE ∧
      fixC b ((k : Int) + 1) XN XN.length k 0 = 0 ∧ fixN b ((k : Int) + 1) XN XE XN.length k 0 = leastN N E (manyU b (k : Int)).toNat ∧ fixE b ((k : Int) + 1) XN XE XN.length k 0 = leastE N E (manyU b (k : Int)).toNat := by
  obtain ⟨hM, hn, hG, hmu⟩ := autoC_zero hA
  obtain ⟨h1, h2, h3, h4, h5, h6⟩ := codeM_zero hM
  rw [Int.toNat_natCast] at h5 h6
  obtain ⟨-, -, g3, g4, g5, g6⟩ := codeM_zero hM'
  rw [show ((k : Int) + 1).toNat = k + 1 by omega] at g5 g6
  have hkb := kinds_bd2 b h2
  have hpos := pw_pos (kindsI b) hkb.1 k
  have hpos' := pw_pos (kindsI b) hkb.1 (k + 1)
  have hc1 : sprC b k N n ((k : Int) + 1) (firstL k) = 0 := sprC_of hA hM' (by rw [firstL_len]) (fun i hi => by
    rw [firstL_len] at hi
    rw [firstL_get hi]; omega)
  obtain ⟨trn, mu, e1, hW, -, e2⟩ := sp_well (E := E) hc1
  have : trn = k + 1 := by omega
  subst this
  have hau := hW.auto
  rw [show ((k + 1 : Nat) : Int) = (k : Int) + 1 by omega] at hau
  have hc2 : fixC b ((k : Int) + 1) (sprN b k N E n ((k : Int) + 1) (firstL k)) (sprN b k N E n ((k : Int) + 1) (firstL k)).length k 0 = 0 := by
    unfold fixC
    rw [if_pos hau, if_pos ⟨⟨by omega, by omega⟩, by omega, by omega⟩]
  refine ⟨_, _, hc1, rfl, rfl, hc2, ?_⟩
  have e3 : ((manyU b (k : Int)).toNat : Int) = manyU b (k : Int) := by omega
  have e4 : ((manyU b ((k : Int) + 1)).toNat : Int) = manyU b ((k : Int) + 1) := by omega
  have hpm : pw (kindsI b) k = ((manyU b (k : Int)).toNat : Int) := by rw [e3, h6]
  have hpm' : pw (kindsI b) (k + 1) = ((manyU b ((k : Int) + 1)).toNat : Int) := by rw [e4, g6]
  have hok1 := spread_ok b h2 (k + 1) (firstL k) (manyU b ((k : Int) + 1)).toNat (manyU b (k : Int)).toNat (by rw [firstL_len]; exact hpm)
  have hok2 := fix_ok b h2 (Nat.le_refl k) (x := 0) ⟨by omega, by omega⟩ (manyU b (k : Int)).toNat (manyU b ((k : Int) + 1)).toNat hpm'
  have hback := fun x h0 hx => more_back h2 hpm hpm' (first := firstL k) rfl x h0 hx
  have hR := rel_back hG E hok1 (spread_len _ _ _ _) (by omega) (by omega) hok2 (fix_len _ _ _ _ _) hback
  have hx1 : sprN b k N E n ((k : Int) + 1) (firstL k) = leastN (relN N (spreadT b (k + 1) (firstL k) (manyU b ((k : Int) + 1)).toNat)) E (manyU b ((k : Int) + 1)).toNat := by unfold sprN; rw [if_pos hc1, show ((k : Int) + 1).toNat = k + 1 by omega]
  have hx2 : sprE b k N E n ((k : Int) + 1) (firstL k) = leastE (relN N (spreadT b (k + 1) (firstL k) (manyU b ((k : Int) + 1)).toNat)) E (manyU b ((k : Int) + 1)).toNat := by unfold sprE; rw [if_pos hc1, show ((k : Int) + 1).toNat = k + 1 by omega]
  constructor
  · rw [fixN_eq hc2, Int.toNat_natCast, show ((k : Int) + 1).toNat - 1 = k by omega, show (k : Int) + 1 - 1 = (k : Int) by omega, hx1, hx2]
    exact hR.1
  · rw [fixE_eq hc2, Int.toNat_natCast, show ((k : Int) + 1).toNat - 1 = k by omega, show (k : Int) + 1 - 1 = (k : Int) by omega, hx1, hx2]
    exact hR.2.1
theorem more_no {b : Int} {k n : Nat} {N : List (List Int)} (hA : autoC b (k : Int) N n = 0) (hM' : codeM b ((k : Int) + 1) ≠ 0) : sprC b k N n ((k : Int) + 1) (firstL k) = codeM b ((k : Int) + 1) := by
  unfold sprC
  rw [if_pos hA, if_neg hM']
theorem fact_fix : fixC 2 1 [[0, 1], [1, 0]] 2 0 1 = 0 ∧ (fixN 2 1 [[0, 1], [1, 0]] [false, true] 2 0 1).length = 2 := by
  refine ⟨?_, ?_⟩ <;> decide +kernel

def pickN (c : Int) (n : Nat) : Nat := ((if c < 0 then -(c + 1) else c) % (n : Int)).toNat
theorem pickN_lt (c : Int) {n : Nat} (hn : 0 < n) : pickN c n < n := by
  unfold pickN
  have h := Int.emod_lt_of_pos (if c < 0 then -(c + 1) else c) (show (0 : Int) < (n : Int) by omega)
  omega
set_option maxHeartbeats 1000000 in
set_option maxRecDepth 4000 in
theorem pick_any (c : Int) (n : Nat) (w : World) (hn : 0 < n) (hn5 : n ≤ 5) (hc : (Lit.int .i64 c).wf = true) :
    Calls Try.prog 19 #[.int .i64 c, .int .i64 (n : Int)] w fun e w' => e = .returned (.int .i64 (pickN c n : Int)) ∧ w' = w := by
  have hb := bounds_i64 hc
  have hn0 : ((n : Int) == 0) = false := by simp; omega
  by_cases h0 : c < 0
  · have he : (pickN c n : Int) = -(c + 1) % (n : Int) := by
      unfold pickN
      rw [if_pos h0]
      have := Int.emod_nonneg (-(c + 1)) (show (n : Int) ≠ 0 by omega)
      omega
    have hn1 : 0 ≤ -(c + 1) := by omega
    have hn2 : -(c + 1) ≤ 9223372036854775807 := by omega
    have hd : decide (c < 0) = true := by simpa using h0
    have ht : -((c + 1).tmod (n : Int)) = -(c + 1) % (n : Int) := by rw [← Int.neg_tmod, Int.tmod_eq_emod_of_nonneg hn1]
    have hw1 : IntKind.i64.wrap (c + 1) = c + 1 := by rw [IntKind.wrap_i64]; omega
    have hw2 : IntKind.i64.wrap (-(c + 1)) = -(c + 1) := by rw [IntKind.wrap_i64]; omega
    rw [he]
    go_enter Try.func19, Try.ntmps19
    go_wp2
    go_ret
    exact ⟨by simp, rfl⟩
  · have he : (pickN c n : Int) = c % (n : Int) := by
      unfold pickN
      rw [if_neg h0]
      have := Int.emod_nonneg c (show (n : Int) ≠ 0 by omega)
      omega
    have hn1 : 0 ≤ c := by omega
    have hd : decide (c < 0) = false := by simpa using h0
    rw [he]
    go_enter Try.func19, Try.ntmps19
    go_wp2
    go_ret
    exact ⟨by simp, rfl⟩
end Go.Proofs.Ytkighkpmebcnhac
