/- 2 texts in one. -/
import Derived.BigQuiet
import Derived.BigRegion
import Derived.Test.YtleebojibobgaaaGreatDoorZCd
import Derived.Test.YtleebojibobgaaaGreatDoorBt
import Derived.Test.YtleebojibobgaaaGreatDoorZMp
/- The closures of package least: contracts. -/
namespace Go.Proofs.YtleebojibobgaaaGreatDoor
open Go.RowKit

theorem below_two (w : World) (u v : Obj) : Below w.heap.size w ((w.alloc u).alloc v) := ((Below.refl _ _).alloc (Nat.le_refl _) _).alloc (by simp) _

end Go.Proofs.YtleebojibobgaaaGreatDoor

/- The reference's sets of states: In, Put: contracts. -/
namespace Go.Proofs.YtleebojibobgaaaGreatDoor
open Go.RowKit

/-- A set as the reference keeps it: of the first 40 states, and of the others. -/
def loS (M : Nat) : Int := ((M % 2 ^ 40 : Nat) : Int)
def hiS (M : Nat) : Int := ((M / 2 ^ 40 : Nat) : Int)
theorem loS_bd (M : Nat) : 0 ≤ loS M ∧ loS M < 1099511627776 := by
  unfold loS
  have := Nat.mod_lt M (show 0 < 2 ^ 40 by decide)
  omega
theorem hiS_bd {M : Nat} (h : M < 2 ^ 80) : 0 ≤ hiS M ∧ hiS M < 1099511627776 := by
  unfold hiS
  have : M / 2 ^ 40 < 2 ^ 40 := Nat.div_lt_of_lt_mul (by rw [← Nat.pow_add]; exact h)
  omega
theorem set_split (M : Nat) : M = (M / 2 ^ 40) * 2 ^ 40 + M % 2 ^ 40 := by
  have := Nat.div_add_mod M (2 ^ 40)
  omega
theorem set_eq {M M' : Nat} (h1 : loS M = loS M') (h2 : hiS M = hiS M') : M = M' := by
  unfold loS at h1
  unfold hiS at h2
  have e1 := set_split M
  have e2 := set_split M'
  omega
theorem low_bit {M s : Nat} (hs : s < 40) : (M % 2 ^ 40).testBit s = M.testBit s := by
  rw [Nat.testBit_mod_two_pow]; simp [hs]
theorem high_bit (M s : Nat) : (M / 2 ^ 40).testBit s = M.testBit (40 + s) := by
  rw [Nat.testBit_div_two_pow]; rw [Nat.add_comm]
theorem bit_div (x s : Nat) : x.testBit s = decide (x / 2 ^ s % 2 = 1) := Nat.testBit_eq_decide_div_mod_eq

/-- A state put in. -/
def putM (M s : Nat) : Nat := M ||| 2 ^ s
theorem putM_bit (M s t : Nat) : (putM M s).testBit t = (M.testBit t || decide (s = t)) := by
  unfold putM
  rw [Nat.testBit_or, Nat.testBit_two_pow]
theorem putM_lt {M s n : Nat} (h : M < 2 ^ n) (hs : s < n) : putM M s < 2 ^ n := Nat.or_lt_two_pow h (Nat.pow_lt_pow_right (by decide) hs)
theorem putM_old {M s : Nat} (h : M.testBit s = true) : putM M s = M := by
  apply Nat.eq_of_testBit_eq
  intro i
  rw [putM_bit]
  by_cases e : s = i
  · subst e; simp [h]
  · simp [e]
theorem putM_new {M s : Nat} (h : M.testBit s = false) : putM M s = M + 2 ^ s := by
  apply Nat.eq_of_testBit_eq
  intro i
  rw [putM_bit]
  rcases Nat.lt_trichotomy i s with hi | hi | hi
  · rw [Nat.add_comm, Nat.testBit_two_pow_add_gt hi]
    have : s ≠ i := by omega
    simp [this]
  · subst hi
    rw [Nat.add_comm, Nat.testBit_two_pow_add_eq]
    simp [h]
  · have hlo : M % 2 ^ (s + 1) < 2 ^ s := by
      apply Nat.lt_pow_two_of_testBit
      intro j hj
      rw [Nat.testBit_mod_two_pow]
      by_cases e : j = s
      · subst e; simp [h]
      · have : ¬ j < s + 1 := by omega
        simp [this]
    have e1 : M = 2 ^ (s + 1) * (M / 2 ^ (s + 1)) + M % 2 ^ (s + 1) := (Nat.div_add_mod _ _).symm
    have hp : 2 ^ (s + 1) = 2 ^ s + 2 ^ s := by rw [Nat.pow_succ]; omega
    have e2 : M + 2 ^ s = 2 ^ (s + 1) * (M / 2 ^ (s + 1)) + (M % 2 ^ (s + 1) + 2 ^ s) := by omega
    have e3 : M.testBit i = (M / 2 ^ (s + 1)).testBit (i - (s + 1)) := by
      conv => lhs; rw [e1]
      rw [Nat.testBit_two_pow_mul_add _ (by omega), if_neg (by omega)]
    rw [e2, Nat.testBit_two_pow_mul_add _ (by omega), if_neg (by omega), e3]
    have : s ≠ i := by omega
    simp [this]
theorem put_low {M s : Nat} (hs : s < 40) (h : M.testBit s = false) : loS (putM M s) = loS M + 2 ^ s ∧ hiS (putM M s) = hiS M := by
  have h1 : (M % 2 ^ 40).testBit s = false := by rw [low_bit hs]; exact h
  have h2 : M % 2 ^ 40 + 2 ^ s < 2 ^ 40 := by
    rw [← putM_new h1]
    exact putM_lt (Nat.mod_lt _ (by decide)) hs
  rw [putM_new h]
  unfold loS hiS
  have e := set_split M
  have h3 : (M + 2 ^ s) % 2 ^ 40 = M % 2 ^ 40 + 2 ^ s := by
    have : M + 2 ^ s = (M % 2 ^ 40 + 2 ^ s) + 2 ^ 40 * (M / 2 ^ 40) := by omega
    rw [this, Nat.add_mul_mod_self_left, Nat.mod_eq_of_lt h2]
  have h4 : (M + 2 ^ s) / 2 ^ 40 = M / 2 ^ 40 := by
    have : M + 2 ^ s = (M % 2 ^ 40 + 2 ^ s) + 2 ^ 40 * (M / 2 ^ 40) := by omega
    rw [this, Nat.add_mul_div_left _ _ (by decide), Nat.div_eq_of_lt h2, Nat.zero_add]
  rw [h3, h4]
  simp
theorem put_high {M s : Nat} (hs : 40 ≤ s) (h : M.testBit s = false) : loS (putM M s) = loS M ∧ hiS (putM M s) = hiS M + 2 ^ (s - 40) := by
  rw [putM_new h]
  unfold loS hiS
  have hp : 2 ^ s = 2 ^ 40 * 2 ^ (s - 40) := by rw [← Nat.pow_add]; congr 1; omega
  have h3 : (M + 2 ^ s) % 2 ^ 40 = M % 2 ^ 40 := by rw [hp, Nat.add_mul_mod_self_left]
  have h4 : (M + 2 ^ s) / 2 ^ 40 = M / 2 ^ 40 + 2 ^ (s - 40) := by rw [hp, Nat.add_mul_div_left _ _ (by decide)]
  rw [h3, h4]
  simp

theorem nat_test (x s : Nat) : ((((x : Nat) : Int) / 2 ^ s).tmod 2 == 1) = x.testBit s := by
  have e : ((x : Int) / 2 ^ s) = ((x / 2 ^ s : Nat) : Int) := by
    rw [Int.natCast_ediv, Int.natCast_pow]
    rfl
  have e2 : (((x / 2 ^ s : Nat) : Int)).tmod 2 = ((x / 2 ^ s % 2 : Nat) : Int) := by
    rw [Int.tmod_eq_emod_of_nonneg (Int.natCast_nonneg _)]
    exact (Int.natCast_emod _ 2).symm
  rw [e, e2, bit_div]
  generalize x / 2 ^ s % 2 = r
  by_cases h : r = 1
  · simp [h]
  · have : ¬ ((r : Int) = 1) := by omega
    simp [h, this]
theorem pow_small {s : Nat} (hs : s < 40) : (0 : Int) ≤ 2 ^ s ∧ (2 : Int) ^ s ≤ 1099511627776 := by
  have h : 2 ^ s ≤ 2 ^ 40 := Nat.pow_le_pow_right (by decide) (by omega)
  have e : ((2 ^ s : Nat) : Int) = (2 : Int) ^ s := by rw [Int.natCast_pow]; rfl
  rw [← e]
  generalize 2 ^ s = x at h
  omega
theorem low_test {M s : Nat} (hs : s < 40) : ((loS M / 2 ^ s).tmod 2 == 1) = M.testBit s := by
  unfold loS
  rw [nat_test, low_bit hs]
theorem high_test {M s : Nat} (hs : 40 ≤ s) : ((hiS M / 2 ^ (s - 40)).tmod 2 == 1) = M.testBit s := by
  unfold hiS
  rw [nat_test, high_bit, show 40 + (s - 40) = s by omega]

set_option maxHeartbeats 1000000 in
set_option maxRecDepth 4000 in
theorem in_any (M s : Nat) (w : World) (hM : M < 2 ^ 80) (hs : s < 80) :
    Calls Tryz.prog 24 #[.agg #[.int .i64 (loS M), .int .i64 (hiS M)], .int .i64 (s : Int)] w fun e w' => e = .returned (.bool (M.testBit s)) ∧ Below w.heap.size w w' := by
  have hl := loS_bd M
  have hh := hiS_bd hM
  have HB := hide ((Below.refl w.heap.size w).alloc (Nat.le_refl _) (.cells #[.int .i64 (loS M), .int .i64 (hiS M)] 48))
  by_cases h40 : s < 40
  · have hsi : (s : Int) < 40 := by omega
    rw [← low_test (M := M) h40]
    go_enter Tryz.func24, Tryz.ntmps24
    go_wp2
    go_ret
    exact ⟨by simp, HB.out⟩
  · have hsi : ¬ (s : Int) < 40 := by omega
    rw [← high_test (M := M) (by omega : 40 ≤ s)]
    go_enter Tryz.func24, Tryz.ntmps24
    go_wp2
    go_ret
    exact ⟨by simp, HB.out⟩

def GivesSet (w : World) (M : Nat) (e : Ending) (w' : World) : Prop := e = .returned (.agg #[.int .i64 (loS M), .int .i64 (hiS M)]) ∧ Below w.heap.size w w'
theorem box2_cells {W : World} {B : Nat} {v0 v1 : Value} {T : TypeId} (h : W.heap[B]? = some (.cells #[v0, v1] T (0, 0))) : (W.cell? ⟨B, 0, none⟩ = some v0 ∧ W.cell? ⟨B, 1, none⟩ = some v1) ∧ ∀ i, W.frozen? ⟨B, i, none⟩ = false := by
  refine ⟨⟨by simp [World.cell?, h], by simp [World.cell?, h]⟩, fun i => by simp [World.frozen?, h]⟩
theorem box2_set {W : World} {B : Nat} {u0 u1 v0 v1 : Value} {T : TypeId} (h : W.heap[B]? = some (.cells #[u0, u1] T (0, 0))) {W' : World} (e : W' = (W.setCell ⟨B, 0, none⟩ v0).setCell ⟨B, 1, none⟩ v1) :
    (W'.heap[B]? = some (.cells #[v0, v1] T (0, 0)) ∧ W'.heap.size = W.heap.size ∧ ∀ x, x ≠ B → W'.heap[x]? = W.heap[x]?) ∧ ∀ (w : World) (k : Nat), Below k w W → k ≤ B → Below k w W' := by
  subst e
  refine ⟨⟨?_, by simp [World.setCell], fun x hx => ?_⟩, fun w k hb hk => (hb.setCell hk _).setCell hk _⟩
  · simp [World.setCell, Array.getElem?_modify, h]
  · rw [Below.heap_setCell _ _ _ _ hx, Below.heap_setCell _ _ _ _ hx]

theorem below_setOne {W : World} {B : Nat} {o : Obj} (h : W.heap[B]? = some o) (B' i : Nat) (v : Value) (hne : B ≠ B') : (W.setCell ⟨B', i, none⟩ v).heap[B]? = some o := by rw [Below.heap_setCell _ _ _ _ hne]; exact h
set_option maxHeartbeats 4000000 in
set_option maxRecDepth 4000 in
theorem put_any (M s : Nat) (w : World) (hM : M < 2 ^ 80) (hs : s < 80) :
    Calls Tryz.prog 25 #[.agg #[.int .i64 (loS M), .int .i64 (hiS M)], .int .i64 (s : Int)] w (GivesSet w (putM M s)) := by
  have hl := loS_bd M
  have hh := hiS_bd hM
  have hB0 := below_two w (.cells #[.int .i64 (loS M), .int .i64 (hiS M)] 48) (.cells #[.int .i64 0, .int .i64 0] 48)
  have hx1 := heap_alloc2_fst w (.cells #[.int .i64 (loS M), .int .i64 (hiS M)] 48) (.cells #[.int .i64 0, .int .i64 0] 48)
  have hx2 := heap_alloc2_snd w (.cells #[.int .i64 (loS M), .int .i64 (hiS M)] 48) (.cells #[.int .i64 0, .int .i64 0] 48)
  have HI := hide (fun W => in_any M s W hM hs)
  generalize hW0 : (w.alloc (.cells #[.int .i64 (loS M), .int .i64 (hiS M)] 48)).alloc (.cells #[.int .i64 0, .int .i64 0] 48) = wb at hB0 hx1 hx2
  have HB0 := hide hB0
  have HX1 := hide hx1
  have HX2 := hide hx2
  obtain ⟨⟨p0, p1⟩, -⟩ := box2_cells hx1
  clear hB0 hx1 hx2
  go_enter Tryz.func25, Tryz.ntmps25
  go_wp2_with fail
  clear hW0 p0 p1
  refine (HI.out wb).mono ?_
  rintro e w1 ⟨rfl, hb1⟩
  have HB1 := hide (below_step HB0.out hb1)
  have hy1 := (hb1.block _ (Array.getElem?_eq_some_iff.1 HX1.out).1).trans HX1.out
  have hy2 := (hb1.block _ (Array.getElem?_eq_some_iff.1 HX2.out).1).trans HX2.out
  have HY1 := hide hy1
  have HY2 := hide hy2
  obtain ⟨⟨p0, p1⟩, pf⟩ := box2_cells hy1
  obtain ⟨⟨q0, q1⟩, qf⟩ := box2_cells hy2
  clear hb1 hy1 hy2 HB0 HX1 HX2
  cases hb : M.testBit s with
  | true =>
    have HO := hide (putM_old hb)
    clear hb
    go_wp2
    rw [HO.out]
    obtain ⟨⟨hset, -, -⟩, hbel⟩ := box2_set (v0 := .int .i64 (loS M)) (v1 := .int .i64 (hiS M)) HY2.out rfl
    obtain ⟨⟨z0, z1⟩, -⟩ := box2_cells hset
    exact bodyPost_ret (v := .agg #[.int .i64 (loS M), .int .i64 (hiS M)]) (by simp [results, Tryz.results25, go_sem, z0, z1]) rfl ⟨rfl, hbel _ _ HB1.out (by omega)⟩
  | false =>
    have hpb := hiS_bd (putM_lt hM hs)
    have hpl := loS_bd (putM M s)
    by_cases h40 : s < 40
    · have hsi : (s : Int) < 40 := by omega
      obtain ⟨e1, e2⟩ := put_low h40 hb
      have HE1 := hide e1
      have HE2 := hide e2
      have hp := pow_small h40
      clear hb e1 e2
      go_wp2
      rw [← HE1.out]
      have hk := (below_setOne HY2.out w.heap.size 0 (.int .i64 (loS (putM M s))) (by omega))
      obtain ⟨⟨hset, -, -⟩, hbel⟩ := box2_set (v0 := .int .i64 (loS (putM M s))) (v1 := .int .i64 (hiS M)) hk rfl
      obtain ⟨⟨z0, z1⟩, -⟩ := box2_cells hset
      exact bodyPost_ret (v := .agg #[.int .i64 (loS (putM M s)), .int .i64 (hiS M)]) (by simp [results, Tryz.results25, go_sem, z0, z1]) rfl ⟨by rw [HE2.out], hbel _ _ (HB1.out.setCell (by simp) _) (by omega)⟩
    · have hsi : ¬ (s : Int) < 40 := by omega
      obtain ⟨e1, e2⟩ := put_high (by omega : 40 ≤ s) hb
      have HE1 := hide e1
      have HE2 := hide e2
      have hp := pow_small (s := s - 40) (by omega)
      clear hb e1 e2
      go_wp2
      rw [← HE2.out]
      have hk := (below_setOne HY2.out w.heap.size 1 (.int .i64 (hiS (putM M s))) (by omega))
      obtain ⟨⟨hset, -, -⟩, hbel⟩ := box2_set (v0 := .int .i64 (loS M)) (v1 := .int .i64 (hiS (putM M s))) hk rfl
      obtain ⟨⟨z0, z1⟩, -⟩ := box2_cells hset
      exact bodyPost_ret (v := .agg #[.int .i64 (loS M), .int .i64 (hiS (putM M s))]) (by simp [results, Tryz.results25, go_sem, z0, z1]) rfl ⟨by rw [HE1.out], hbel _ _ (HB1.out.setCell (by simp) _) (by omega)⟩
end Go.Proofs.YtleebojibobgaaaGreatDoor
