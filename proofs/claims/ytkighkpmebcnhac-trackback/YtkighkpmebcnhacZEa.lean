/- 2 texts in one. -/
import Derived.Test.YtkighkpmebcnhacZMp
import Derived.Test.YtkighkpmebcnhacLf
/- Letters read anew: an automaton over other letters; tracks moved, a digit held on a track: mathematics. -/
namespace Go.Proofs.Ytkighkpmebcnhac
open Go.RowKit

/-- The automaton that reads letter j as the letter to[j]. -/
def relN (N : List (List Int)) (to : List Int) : List (List Int) := N.map fun r => to.map fun x => r.getD x.toNat 0
def okTo (m : Nat) (to : List Int) : Prop := ∀ x ∈ to, 0 ≤ x ∧ x < (m : Int)
def reW (to : List Int) (w : List Int) : List Int := w.map fun x => to.getD x.toNat 0
theorem relN_len (N : List (List Int)) (to : List Int) : (relN N to).length = N.length := by simp [relN]
theorem relN_get {N : List (List Int)} {s : Nat} (hs : s < N.length) (to : List Int) : (relN N to).getD s [] = to.map fun x => (N.getD s []).getD x.toNat 0 := by simp [relN, List.getD, hs]
theorem okTo_get {m : Nat} {to : List Int} (h : okTo m to) {j : Nat} (hj : j < to.length) : 0 ≤ to.getD j 0 ∧ to.getD j 0 < (m : Int) := h _ (by rw [getD_at _ j hj]; exact List.getElem_mem hj)
theorem rel_cell {m n : Nat} {N : List (List Int)} (hG : GoodN m n N) {to : List Int} {s j : Nat} (hs : s < n) (hj : j < to.length) : ((relN N to).getD s []).getD j 0 = (N.getD s []).getD (to.getD j 0).toNat 0 := by
  rw [relN_get (by rw [hG.1]; exact hs)]
  simp [List.getD, hj]
theorem rel_good {m n : Nat} {N : List (List Int)} (hG : GoodN m n N) {to : List Int} (ht : okTo m to) (h1 : 1 ≤ to.length) (h36 : to.length ≤ 36) : GoodN to.length n (relN N to) := by
  refine ⟨by rw [relN_len]; exact hG.1, hG.2.1, hG.2.2.1, h36, h1, fun s hs => ⟨?_, fun j hj => ?_⟩⟩
  · rw [relN_get (by rw [hG.1]; exact hs)]; simp
  · rw [rel_cell hG hs hj]
    have := okTo_get ht hj
    exact (hG.2.2.2.2.2 s hs).2 _ (by omega)
theorem reW_ok {m : Nat} {to w : List Int} (ht : okTo m to) (hw : okW to.length w) : okW m (reW to w) := by
  intro x hx
  obtain ⟨y, hy, rfl⟩ := List.mem_map.1 hx
  have := hw y hy
  exact okTo_get ht (by omega)
theorem rel_run {m n : Nat} {N : List (List Int)} (hG : GoodN m n N) {to : List Int} (ht : okTo m to) (h1 : 1 ≤ to.length) (h36 : to.length ≤ 36) (w : List Int) (hw : okW to.length w) : runL (relN N to) w = runL N (reW to w) := by
  induction w using list_snoc_ind with
  | h0 => rfl
  | h1 w x ih =>
    rw [okW_snoc] at hw
    have hr := run_lt (rel_good hG ht h1 h36) w hw.1
    have e : reW to (w ++ [x]) = reW to w ++ [to.getD x.toNat 0] := by simp [reW]
    rw [e, runL_snoc, runL_snoc, ← ih hw.1]
    unfold stepL
    rw [rel_cell hG hr (by omega)]
theorem rel_tk {m n : Nat} {N : List (List Int)} (hG : GoodN m n N) {to : List Int} (ht : okTo m to) (h1 : 1 ≤ to.length) (h36 : to.length ≤ 36) (E : List Bool) (w : List Int) (hw : okW to.length w) : tkB (relN N to) E w = tkB N E (reW to w) := by
  unfold tkB
  rw [rel_run hG ht h1 h36 w hw]

/-- A letter is what its digits make. -/
theorem split_snoc (b : Int) (h2 : b ≤ 6) (t : Nat) (l : Int) : splitL b (t + 1) l = splitL b t (l / kindsI b) ++ [l % kindsI b] := by
  have hk := kinds_bd2 b h2
  unfold splitL
  rw [List.range_succ, List.map_append]
  congr 1
  · apply List.map_congr_left
    intro i hi
    rw [List.mem_range] at hi
    unfold dOf
    have e : l / kindsI b / pw (kindsI b) (t - 1 - i) = l / pw (kindsI b) (t - 1 - i + 1) := by rw [pw_succ, Int.ediv_ediv, if_neg (by omega), Int.sub_zero, Int.mul_comm]
    rw [show t + 1 - 1 - i = t - 1 - i + 1 by omega, e]
  · simp [dOf, pw]
theorem pack_split (b : Int) (h2 : b ≤ 6) (t : Nat) (l : Int) (h0 : 0 ≤ l) (hl : l < pw (kindsI b) t) : packL b (splitL b t l) = l := by
  have hk := kinds_bd2 b h2
  induction t generalizing l with
  | zero =>
    simp [pw] at hl
    simp [splitL, packL]
    omega
  | succ t ih =>
    rw [split_snoc b h2, packL_snoc, ih (l / kindsI b) (Int.ediv_nonneg h0 (by omega)) (by rw [pw_succ] at hl; exact Int.ediv_lt_of_lt_mul (by omega) hl), Int.mul_comm]
    exact Int.mul_ediv_add_emod l (kindsI b)
theorem split_bd (b : Int) (h2 : b ≤ 6) (t : Nat) (l : Int) (j : Nat) (hj : j < (splitL b t l).length) : 0 ≤ (splitL b t l).getD j 0 ∧ (splitL b t l).getD j 0 < kindsI b := by
  rw [splitL_length] at hj
  rw [splitL_get b t l j hj]
  exact dOf_bd b h2 t l j
theorem pack_bd (b : Int) (h2 : b ≤ 6) (ds : List Int) (hd : ∀ j, j < ds.length → 0 ≤ ds.getD j 0 ∧ ds.getD j 0 < kindsI b) : 0 ≤ packL b ds ∧ packL b ds < pw (kindsI b) ds.length := by
  have := packL_bd b h2 ds ds.length (Nat.le_refl _) hd
  rwa [List.take_length] at this

/-- T1: letter l of tr tracks as one of those that stand at 'at'. -/
def spreadD (b : Int) (tr : Nat) (at_ : List Int) (l : Int) : List Int := at_.map fun i => dOf b tr l i.toNat
def spreadT (b : Int) (tr : Nat) (at_ : List Int) (n : Nat) : List Int := (List.range n).map fun l : Nat => packL b (spreadD b tr at_ (l : Int))
theorem spreadD_bd (b : Int) (h2 : b ≤ 6) (tr : Nat) (at_ : List Int) (l : Int) (j : Nat) (hj : j < (spreadD b tr at_ l).length) : 0 ≤ (spreadD b tr at_ l).getD j 0 ∧ (spreadD b tr at_ l).getD j 0 < kindsI b := by
  unfold spreadD at hj ⊢
  rw [List.length_map] at hj
  rw [getD_at _ j (by rw [List.length_map]; exact hj), List.getElem_map]
  exact dOf_bd b h2 tr l _
theorem spread_ok (b : Int) (h2 : b ≤ 6) (tr : Nat) (at_ : List Int) (n m : Nat) (hm : pw (kindsI b) at_.length = (m : Int)) : okTo m (spreadT b tr at_ n) := by
  intro x hx
  obtain ⟨l, -, rfl⟩ := List.mem_map.1 hx
  have := pack_bd b h2 (spreadD b tr at_ (l : Int)) (spreadD_bd b h2 tr at_ l)
  rw [show (spreadD b tr at_ (l : Int)).length = at_.length by simp [spreadD], hm] at this
  exact this
theorem spread_len (b : Int) (tr : Nat) (at_ : List Int) (n : Nat) : (spreadT b tr at_ n).length = n := by simp [spreadT]
theorem spread_get (b : Int) (tr : Nat) (at_ : List Int) {n : Nat} {x : Int} (h0 : 0 ≤ x) (hx : x < (n : Int)) : (spreadT b tr at_ n).getD x.toNat 0 = packL b (spreadD b tr at_ x) := by
  have hl : x.toNat < n := by omega
  simp only [spreadT, List.getD, List.getElem?_map, List.getElem?_range hl, Option.map_some, Option.getD_some]
  rw [show ((x.toNat : Nat) : Int) = x by omega]

/-- T2: letter l of the other tracks, with digit x put in at track t. -/
def putD (b : Int) (tr : Nat) (t : Nat) (x l : Int) : List Int := (splitL b tr l).take t ++ [x] ++ (splitL b tr l).drop t
def fixT (b : Int) (tr : Nat) (t : Nat) (x : Int) (n : Nat) : List Int := (List.range n).map fun l : Nat => packL b (putD b tr t x (l : Int))
theorem putD_len {b : Int} {tr t : Nat} (ht : t ≤ tr) (x l : Int) : (putD b tr t x l).length = tr + 1 := by
  unfold putD
  simp [splitL_length]
  omega
theorem putD_bd (b : Int) (h2 : b ≤ 6) {tr t : Nat} {x : Int} (hx : 0 ≤ x ∧ x < kindsI b) (l : Int) (j : Nat) (hj : j < (putD b tr t x l).length) : 0 ≤ (putD b tr t x l).getD j 0 ∧ (putD b tr t x l).getD j 0 < kindsI b := by
  have hm : (putD b tr t x l).getD j 0 ∈ putD b tr t x l := by rw [getD_at _ j hj]; exact List.getElem_mem hj
  have hall : ∀ y ∈ splitL b tr l, 0 ≤ y ∧ y < kindsI b := fun y hy => by
    obtain ⟨i, hi, rfl⟩ := List.getElem_of_mem hy
    have := split_bd b h2 tr l i hi
    rwa [getD_at _ i hi] at this
  unfold putD at hm
  rcases List.mem_append.1 hm with h | h
  · rcases List.mem_append.1 h with h | h
    · exact hall _ (List.mem_of_mem_take h)
    · rw [List.mem_singleton] at h
      unfold putD
      rw [h]; exact hx
  · exact hall _ (List.mem_of_mem_drop h)
theorem fix_ok (b : Int) (h2 : b ≤ 6) {tr t : Nat} (ht : t ≤ tr) {x : Int} (hx : 0 ≤ x ∧ x < kindsI b) (n m : Nat) (hm : pw (kindsI b) (tr + 1) = (m : Int)) : okTo m (fixT b tr t x n) := by
  intro y hy
  obtain ⟨l, -, rfl⟩ := List.mem_map.1 hy
  have := pack_bd b h2 (putD b tr t x (l : Int)) (putD_bd b h2 hx l)
  rwa [putD_len ht, hm] at this
theorem fix_len (b : Int) (tr t : Nat) (x : Int) (n : Nat) : (fixT b tr t x n).length = n := by simp [fixT]
theorem fix_get (b : Int) (tr t : Nat) (x : Int) {n : Nat} {y : Int} (h0 : 0 ≤ y) (hy : y < (n : Int)) : (fixT b tr t x n).getD y.toNat 0 = packL b (putD b tr t x y) := by
  have hl : y.toNat < n := by omega
  simp only [fixT, List.getD, List.getElem?_map, List.getElem?_range hl, Option.map_some, Option.getD_some]
  rw [show ((y.toNat : Nat) : Int) = y by omega]
end Go.Proofs.Ytkighkpmebcnhac

/- Tracks moved and moved back: mathematics. -/
namespace Go.Proofs.Ytkighkpmebcnhac
open Go.RowKit

theorem reW_reW {t1 t2 : List Int} {m : Nat} (h : ∀ x : Int, 0 ≤ x → x < (m : Int) → t1.getD (t2.getD x.toNat 0).toNat 0 = x) (w : List Int) (hw : okW m w) : reW t1 (reW t2 w) = w := by
  unfold reW
  rw [List.map_map]
  conv => rhs; rw [← List.map_id w]
  apply List.map_congr_left
  intro x hx
  have := hw x hx
  exact h x this.1 this.2
/-- In another order, and back. -/
theorem turn_back {b : Int} (h2 : b ≤ 6) {k m : Nat} (hm : pw (kindsI b) k = (m : Int)) {to back : List Int} (ht : to.length = k) (hb : back.length = k) (hr : ∀ i, i < k → 0 ≤ to.getD i 0 ∧ to.getD i 0 < (k : Int)) (hi : ∀ i, i < k → back.getD (to.getD i 0).toNat 0 = (i : Int)) (x : Int) (h0 : 0 ≤ x) (hx : x < (m : Int)) :
    (spreadT b k to m).getD ((spreadT b k back m).getD x.toNat 0).toNat 0 = x := by
  have hD := spreadD_bd b h2 k back x
  have hDl : (spreadD b k back x).length = k := by simp [spreadD, hb]
  have hp := pack_bd b h2 _ hD
  rw [hDl, hm] at hp
  rw [spread_get b k back h0 hx, spread_get b k to hp.1 hp.2]
  conv => rhs; rw [← pack_split b h2 k x h0 (by rw [hm]; exact hx)]
  congr 1
  apply List.ext_getElem
  · rw [splitL_length]; simp [spreadD, ht]
  · intro i h1 h3
    have hik : i < k := by rwa [splitL_length] at h3
    have hto := hr i hik
    rw [← getD_at _ i h3, splitL_get b k x i hik]
    have e1 : (spreadD b k to (packL b (spreadD b k back x)))[i] = dOf b k (packL b (spreadD b k back x)) (to.getD i 0).toNat := by
      simp [spreadD, List.getD, show i < to.length by omega]
    have e2 : dOf b k (packL b (spreadD b k back x)) (to.getD i 0).toNat = (spreadD b k back x).getD (to.getD i 0).toNat 0 := by
      have := dOf_pack b h2 (spreadD b k back x) hD (to.getD i 0).toNat (by rw [hDl]; omega)
      rwa [hDl] at this
    have hj : (to.getD i 0).toNat < back.length := by omega
    have e3 : (spreadD b k back x).getD (to.getD i 0).toNat 0 = dOf b k x (back.getD (to.getD i 0).toNat 0).toNat := by
      unfold spreadD
      rw [getD_at _ _ (by rw [List.length_map]; exact hj), List.getElem_map, getD_at _ _ hj]
    rw [e1, e2, e3, hi i hik, Int.toNat_natCast]
/-- One track more, with a digit held there. -/
theorem more_back {b : Int} (h2 : b ≤ 6) {k m m' : Nat} (hm : pw (kindsI b) k = (m : Int)) (hm' : pw (kindsI b) (k + 1) = (m' : Int)) {first : List Int} (hf : first = (List.range k).map fun i : Nat => (i : Int)) (x : Int) (h0 : 0 ≤ x) (hx : x < (m : Int)) :
    (spreadT b (k + 1) first m').getD ((fixT b k k 0 m).getD x.toNat 0).toNat 0 = x := by
  have hk := kinds_bd2 b h2
  have hD := putD_bd b h2 (tr := k) (t := k) (x := 0) ⟨by omega, by omega⟩ x
  have hDl := putD_len (b := b) (Nat.le_refl k) 0 x
  have hp := pack_bd b h2 _ hD
  rw [hDl, hm'] at hp
  rw [fix_get b k k 0 h0 hx, spread_get b (k + 1) first hp.1 hp.2]
  conv => rhs; rw [← pack_split b h2 k x h0 (by rw [hm]; exact hx)]
  congr 1
  apply List.ext_getElem
  · rw [splitL_length]; simp [spreadD, hf]
  · intro i h1 h3
    have hik : i < k := by rwa [splitL_length] at h3
    have e1 : (spreadD b (k + 1) first (packL b (putD b k k 0 x)))[i] = dOf b (k + 1) (packL b (putD b k k 0 x)) i := by
      simp [spreadD, hf]
    have e2 : dOf b (k + 1) (packL b (putD b k k 0 x)) i = (putD b k k 0 x).getD i 0 := by
      have := dOf_pack b h2 (putD b k k 0 x) hD i (by rw [hDl]; omega)
      rwa [hDl] at this
    rw [e1, e2, ← getD_at _ i h3]
    unfold putD
    rw [List.take_of_length_le (by rw [splitL_length]; exact Nat.le_refl _), List.append_assoc]
    rw [pre_getD (List.prefix_append _ _) i (by rw [splitL_length]; exact hik)]
/-- What is read anew twice, back to what it was, has the same least automaton. -/
theorem rel_back {m m' n : Nat} {N : List (List Int)} (hG : GoodN m n N) (E : List Bool) {t1 t2 : List Int} (h1 : okTo m t1) (l1 : t1.length = m') (g1 : 1 ≤ m') (g36 : m' ≤ 36) (h2 : okTo m' t2) (l2 : t2.length = m) (hb : ∀ x : Int, 0 ≤ x → x < (m : Int) → t1.getD (t2.getD x.toNat 0).toNat 0 = x) :
    let X := leastN (relN N t1) E m'
    let XE := leastE (relN N t1) E m'
    leastN (relN X t2) XE m = leastN N E m ∧ leastE (relN X t2) XE m = leastE N E m ∧ leastK (relN X t2) XE m = leastK N E m := by
  intro X XE
  have hR := rel_good hG h1 (by omega) (by omega)
  rw [l1] at hR
  have hX := least_good hR E
  have hm1 := hG.2.2.2.2.1
  have hm36 := hG.2.2.2.1
  have hR2 := rel_good hX h2 (by omega) (by omega)
  rw [l2] at hR2
  refine least_tk hR2 hG _ _ fun w hw => ?_
  have hw2 : okW t2.length w := by rw [l2]; exact hw
  have hw1 := reW_ok h2 hw2
  rw [rel_tk hX h2 (by omega) (by omega) XE w hw2, tk_least hR E _ hw1, rel_tk hG h1 (by omega) (by omega) E _ (by rw [l1]; exact hw1), reW_reW hb w hw]
/-- The order of the law: turned by p, and by p the other way. -/
theorem turn_idx {k p i : Nat} (hp : p < k) (hi : i < k) : ((i + p) % k + k - p) % k = i := by
  by_cases h : i + p < k
  · rw [Nat.mod_eq_of_lt h, show i + p + k - p = i + k by omega, Nat.add_mod_right, Nat.mod_eq_of_lt hi]
  · have e : (i + p) % k = i + p - k := by
      rw [Nat.mod_eq_sub_mod (by omega), Nat.mod_eq_of_lt (by omega)]
    rw [e, show i + p - k + k - p = i by omega, Nat.mod_eq_of_lt hi]
end Go.Proofs.Ytkighkpmebcnhac
