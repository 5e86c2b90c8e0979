/- Sets of states as package turn keeps them: two words of 64 bits; has, with: contracts. -/
import Derived.Laws.BitsLemmas
import Derived.Test.YtokcejakjaimlaeZCf
namespace Go.Proofs.Ytokcejakjaimlae
open Go.RowKit

/-- The states below 64, and the others. -/
def loT (M : Nat) : Int := ((M % 2 ^ 64 : Nat) : Int)
def hiT (M : Nat) : Int := ((M / 2 ^ 64 : Nat) : Int)
def setT (M : Nat) : Value := .agg #[.int .u64 (loT M), .int .u64 (hiT M)]
theorem loT_bd (M : Nat) : 0 ≤ loT M ∧ loT M < 18446744073709551616 := by
  unfold loT
  have := Nat.mod_lt M (show 0 < 2 ^ 64 by decide)
  omega
theorem hiT_lt {M : Nat} (h : M < 2 ^ 80) : M / 2 ^ 64 < 2 ^ 16 := Nat.div_lt_of_lt_mul (by rw [← Nat.pow_add]; exact h)
theorem hiT_bd {M : Nat} (h : M < 2 ^ 80) : 0 ≤ hiT M ∧ hiT M < 18446744073709551616 := by
  unfold hiT
  have := hiT_lt h
  omega
theorem setT_split (M : Nat) : M = (M / 2 ^ 64) * 2 ^ 64 + M % 2 ^ 64 := by
  have := Nat.div_add_mod M (2 ^ 64)
  omega
theorem setT_eq {M M' : Nat} (h1 : loT M = loT M') (h2 : hiT M = hiT M') : M = M' := by
  unfold loT at h1
  unfold hiT at h2
  have e1 := setT_split M
  have e2 := setT_split M'
  omega
theorem wrap_u64_in (n : Int) (h0 : 0 ≤ n) (h1 : n < 2 ^ 64) : IntKind.u64.wrap n = n := by rw [IntKind.wrap_u64]; omega
theorem nat_div_pow (x s : Nat) : ((x : Int) / 2 ^ s) = ((x / 2 ^ s : Nat) : Int) := by
  rw [Int.natCast_ediv, Int.natCast_pow]
  rfl
theorem u64_and (x : Nat) (hx : x < 2 ^ 64) : (bits BinOp.and IntKind.u64 (x : Int) 1 == 1) = decide (x % 2 = 1) := by
  have h := (bits_nat .u64 64 (by decide) wrap_u64_in x 1 hx (by decide)).1
  have e : ((1 : Nat) : Int) = 1 := rfl
  rw [e] at h
  rw [h, Nat.and_one_is_mod]
  generalize x % 2 = r
  by_cases h : r = 1
  · simp [h]
  · have : ¬ ((r : Int) = 1) := by omega
    simp [h, this]
theorem u64_or (x y : Nat) (hx : x < 2 ^ 64) (hy : y < 2 ^ 64) : bits BinOp.or IntKind.u64 (x : Int) (y : Int) = ((x ||| y : Nat) : Int) := (bits_nat .u64 64 (by decide) wrap_u64_in x y hx hy).2
theorem lowT_bit {M s : Nat} (hs : s < 64) : (M % 2 ^ 64).testBit s = M.testBit s := by
  rw [Nat.testBit_mod_two_pow]; simp [hs]
theorem highT_bit (M s : Nat) : (M / 2 ^ 64).testBit s = M.testBit (64 + s) := by
  rw [Nat.testBit_div_two_pow]; rw [Nat.add_comm]
theorem div_lt64 {x : Nat} (hx : x < 2 ^ 64) (s : Nat) : x / 2 ^ s < 2 ^ 64 := Nat.lt_of_le_of_lt (Nat.div_le_self _ _) hx
theorem loT_test {M s : Nat} (hs : s < 64) : (bits BinOp.and IntKind.u64 (loT M / 2 ^ s) 1 == 1) = M.testBit s := by
  unfold loT
  rw [nat_div_pow, u64_and _ (div_lt64 (Nat.mod_lt _ (by decide)) _), ← bit_div, lowT_bit hs]
theorem hiT_test {M s : Nat} (hM : M < 2 ^ 80) (hs : 64 ≤ s) : (bits BinOp.and IntKind.u64 (hiT M / 2 ^ (s - 64)) 1 == 1) = M.testBit s := by
  unfold hiT
  rw [nat_div_pow, u64_and _ (div_lt64 (Nat.lt_trans (hiT_lt hM) (by decide)) _), ← bit_div, highT_bit, show 64 + (s - 64) = s by omega]
/-- Two sets in one. -/
theorem loT_or (M M' : Nat) : bits BinOp.or IntKind.u64 (loT M) (loT M') = loT (M ||| M') := by
  unfold loT
  rw [u64_or _ _ (Nat.mod_lt _ (by decide)) (Nat.mod_lt _ (by decide)), Nat.or_mod_two_pow]
theorem hiT_or {M M' : Nat} (h : M < 2 ^ 80) (h' : M' < 2 ^ 80) : bits BinOp.or IntKind.u64 (hiT M) (hiT M') = hiT (M ||| M') := by
  unfold hiT
  rw [u64_or _ _ (Nat.lt_trans (hiT_lt h) (by decide)) (Nat.lt_trans (hiT_lt h') (by decide)), Nat.or_div_two_pow]
theorem pow_lo {s : Nat} (hs : s < 64) : loT (2 ^ s) = 2 ^ s ∧ hiT (2 ^ s) = 0 := by
  have h : 2 ^ s < 2 ^ 64 := Nat.pow_lt_pow_right (by decide) hs
  unfold loT hiT
  rw [Nat.mod_eq_of_lt h, Nat.div_eq_of_lt h]
  exact ⟨by rw [Int.natCast_pow]; rfl, rfl⟩
theorem pow_hi {s : Nat} (hs : 64 ≤ s) : loT (2 ^ s) = 0 ∧ hiT (2 ^ s) = 2 ^ (s - 64) := by
  obtain ⟨r, rfl⟩ : ∃ r, s = 64 + r := ⟨s - 64, by omega⟩
  unfold loT hiT
  rw [Nat.pow_add, Nat.mul_mod_right, Nat.mul_div_cancel_left _ (by decide), Nat.add_sub_cancel_left]
  exact ⟨rfl, by rw [Int.natCast_pow]; rfl⟩
theorem put_loT {M s : Nat} (hs : s < 64) : bits BinOp.or IntKind.u64 (loT M) (2 ^ s) = loT (putM M s) ∧ hiT (putM M s) = hiT M := by
  have h := loT_or M (2 ^ s)
  rw [(pow_lo hs).1] at h
  refine ⟨h, ?_⟩
  unfold hiT putM
  rw [Nat.or_div_two_pow, Nat.div_eq_of_lt (show 2 ^ s < 2 ^ 64 from Nat.pow_lt_pow_right (by decide) hs), Nat.or_zero]
theorem put_hiT {M s : Nat} (hM : M < 2 ^ 80) (hs : 64 ≤ s) (h80 : s < 80) : loT (putM M s) = loT M ∧ bits BinOp.or IntKind.u64 (hiT M) (2 ^ (s - 64)) = hiT (putM M s) := by
  have h := hiT_or hM (show 2 ^ s < 2 ^ 80 from Nat.pow_lt_pow_right (by decide) h80)
  rw [(pow_hi hs).2] at h
  refine ⟨?_, h⟩
  have e := (pow_hi hs).1
  unfold loT at e ⊢
  unfold putM
  rw [Nat.or_mod_two_pow, show 2 ^ s % 2 ^ 64 = 0 by omega, Nat.or_zero]

set_option maxHeartbeats 1000000 in
set_option maxRecDepth 4000 in
theorem has_any (M s : Nat) (w : World) (hM : M < 2 ^ 80) (hs : s < 80) :
    Calls Try.prog 17 #[setT M, .int .i64 (s : Int)] w fun e w' => e = .returned (.bool (M.testBit s)) ∧ Below w.heap.size w w' := by
  have hl := loT_bd M
  have hh := hiT_bd hM
  have HB := hide ((Below.refl w.heap.size w).alloc (Nat.le_refl _) (.cells #[.int .u64 (loT M), .int .u64 (hiT M)] 45))
  unfold setT
  by_cases h64 : s < 64
  · have h1 : (s : Int).tdiv 64 = 0 := by rw [Int.tdiv_eq_ediv_of_nonneg (by omega)]; omega
    have h2 : (s : Int).tmod 64 = s := by rw [Int.tmod_eq_emod_of_nonneg (by omega)]; omega
    rw [← loT_test (M := M) h64]
    go_enter Try.func17, Try.ntmps17
    go_wp2
    go_ret
    exact ⟨by simp, HB.out⟩
  · have h1 : (s : Int).tdiv 64 = 1 := by rw [Int.tdiv_eq_ediv_of_nonneg (by omega)]; omega
    have h2 : (s : Int).tmod 64 = ((s - 64 : Nat) : Int) := by rw [Int.tmod_eq_emod_of_nonneg (by omega)]; omega
    rw [← hiT_test hM (by omega : 64 ≤ s)]
    go_enter Try.func17, Try.ntmps17
    go_wp2
    go_ret
    exact ⟨by simp, HB.out⟩

def GivesT (w : World) (M : Nat) (e : Ending) (w' : World) : Prop := e = .returned (setT M) ∧ Below w.heap.size w w'
theorem pow_small64 {s : Nat} (hs : s < 64) : (0 : Int) ≤ 2 ^ s ∧ (2 : Int) ^ s < 18446744073709551616 := by
  have h : 2 ^ s < 2 ^ 64 := Nat.pow_lt_pow_right (by decide) hs
  have e : ((2 ^ s : Nat) : Int) = (2 : Int) ^ s := by rw [Int.natCast_pow]; rfl
  rw [← e]
  generalize 2 ^ s = x at h
  omega
theorem box2_set1 {W : World} {B i : Nat} {u0 u1 v : Value} {T : TypeId} (h : W.heap[B]? = some (.cells #[u0, u1] T (0, 0))) :
    ((W.setCell ⟨B, i, none⟩ v).heap[B]? = some (.cells (#[u0, u1].setIfInBounds i v) T (0, 0)) ∧ (W.setCell ⟨B, i, none⟩ v).heap.size = W.heap.size ∧ ∀ x, x ≠ B → (W.setCell ⟨B, i, none⟩ v).heap[x]? = W.heap[x]?) ∧ ∀ (w : World) (k : Nat), Below k w W → k ≤ B → Below k w (W.setCell ⟨B, i, none⟩ v) := by
  refine ⟨⟨?_, by simp [World.setCell], fun x hx => Below.heap_setCell _ _ _ _ hx⟩, fun w k hb hk => hb.setCell hk _⟩
  simp [World.setCell, Array.getElem?_modify, h]

set_option maxHeartbeats 4000000 in
set_option maxRecDepth 4000 in
theorem with_any (M s : Nat) (w : World) (hM : M < 2 ^ 80) (hs : s < 80) : Calls Try.prog 24 #[setT M, .int .i64 (s : Int)] w (GivesT w (putM M s)) := by
  have hl := loT_bd M
  have hh := hiT_bd hM
  have hB0 := below_two w (.cells #[.int .u64 (loT M), .int .u64 (hiT M)] 45) (.cells #[.int .u64 0, .int .u64 0] 45)
  have hx1 := heap_alloc2_fst w (.cells #[.int .u64 (loT M), .int .u64 (hiT M)] 45) (.cells #[.int .u64 0, .int .u64 0] 45)
  have hx2 := heap_alloc2_snd w (.cells #[.int .u64 (loT M), .int .u64 (hiT M)] 45) (.cells #[.int .u64 0, .int .u64 0] 45)
  generalize hW0 : (w.alloc (.cells #[.int .u64 (loT M), .int .u64 (hiT M)] 45)).alloc (.cells #[.int .u64 0, .int .u64 0] 45) = wb at hB0 hx1 hx2
  have HB0 := hide hB0
  have HX1 := hide hx1
  have HX2 := hide hx2
  obtain ⟨⟨p0, p1⟩, pf⟩ := box2_cells hx1
  clear hB0 hx1 hx2
  unfold setT
  by_cases h64 : s < 64
  · have h1 : (s : Int).tdiv 64 = 0 := by rw [Int.tdiv_eq_ediv_of_nonneg (by omega)]; omega
    have h2 : (s : Int).tmod 64 = s := by rw [Int.tmod_eq_emod_of_nonneg (by omega)]; omega
    have HP := hide (@put_loT M s h64)
    have hp := pow_small64 h64
    go_enter Try.func24, Try.ntmps24
    go_wp2
    clear hW0
    go_region
    rw [HP.out.1]
    obtain ⟨⟨e1, -, k1⟩, hb1⟩ := box2_set1 (i := 0) (v := .int .u64 (loT (putM M s))) HX1.out
    have e2 := (k1 _ (show w.heap.size + 1 ≠ w.heap.size by omega)).trans HX2.out
    have HB1 := hide (hb1 w w.heap.size HB0.out (Nat.le_refl _)).drew
    have HE2 : Hid (((wb.setCell ⟨w.heap.size, 0, none⟩ (.int .u64 (loT (putM M s)))).drew).heap[w.heap.size + 1]? = _) := e2
    have e3 : ((wb.setCell ⟨w.heap.size, 0, none⟩ (.int .u64 (loT (putM M s)))).drew).heap[w.heap.size]? = _ := e1
    generalize (wb.setCell ⟨w.heap.size, 0, none⟩ (.int .u64 (loT (putM M s)))).drew = w3 at HB1 HE2 e3 ⊢
    obtain ⟨⟨p0, p1⟩, pf⟩ := box2_cells e3
    obtain ⟨⟨q0, q1⟩, qf⟩ := box2_cells HE2.out
    clear e1 e2 e3 k1 hb1
    go_wp2
    obtain ⟨⟨hset, -, -⟩, hbel⟩ := box2_set (v0 := .int .u64 (loT (putM M s))) (v1 := .int .u64 (hiT M)) HE2.out rfl
    obtain ⟨⟨z0, z1⟩, -⟩ := box2_cells hset
    exact bodyPost_ret (v := .agg #[.int .u64 (loT (putM M s)), .int .u64 (hiT M)]) (by simp [results, Try.results24, go_sem, z0, z1]) rfl ⟨by unfold setT; rw [HP.out.2], hbel _ _ HB1.out (by omega)⟩
  · have h1 : (s : Int).tdiv 64 = 1 := by rw [Int.tdiv_eq_ediv_of_nonneg (by omega)]; omega
    have h2 : (s : Int).tmod 64 = ((s - 64 : Nat) : Int) := by rw [Int.tmod_eq_emod_of_nonneg (by omega)]; omega
    have HP := hide (@put_hiT M s hM (by omega) hs)
    have hp := pow_small64 (s := s - 64) (by omega)
    go_enter Try.func24, Try.ntmps24
    go_wp2
    clear hW0
    go_region
    rw [HP.out.2]
    obtain ⟨⟨e1, -, k1⟩, hb1⟩ := box2_set1 (i := 1) (v := .int .u64 (hiT (putM M s))) HX1.out
    have e2 := (k1 _ (show w.heap.size + 1 ≠ w.heap.size by omega)).trans HX2.out
    have HB1 := hide (hb1 w w.heap.size HB0.out (Nat.le_refl _)).drew
    have HE2 : Hid (((wb.setCell ⟨w.heap.size, 1, none⟩ (.int .u64 (hiT (putM M s)))).drew).heap[w.heap.size + 1]? = _) := e2
    have e3 : ((wb.setCell ⟨w.heap.size, 1, none⟩ (.int .u64 (hiT (putM M s)))).drew).heap[w.heap.size]? = _ := e1
    generalize (wb.setCell ⟨w.heap.size, 1, none⟩ (.int .u64 (hiT (putM M s)))).drew = w3 at HB1 HE2 e3 ⊢
    obtain ⟨⟨p0, p1⟩, pf⟩ := box2_cells e3
    obtain ⟨⟨q0, q1⟩, qf⟩ := box2_cells HE2.out
    clear e1 e2 e3 k1 hb1
    go_wp2
    obtain ⟨⟨hset, -, -⟩, hbel⟩ := box2_set (v0 := .int .u64 (loT M)) (v1 := .int .u64 (hiT (putM M s))) HE2.out rfl
    obtain ⟨⟨z0, z1⟩, -⟩ := box2_cells hset
    exact bodyPost_ret (v := .agg #[.int .u64 (loT M), .int .u64 (hiT (putM M s))]) (by simp [results, Try.results24, go_sem, z0, z1]) rfl ⟨by unfold setT; rw [HP.out.1], hbel _ _ HB1.out (by omega)⟩
end Go.Proofs.Ytokcejakjaimlae
