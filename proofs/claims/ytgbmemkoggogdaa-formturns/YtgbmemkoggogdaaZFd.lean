/- 4 texts in one. -/
import Derived.Deep.Slices
import Derived.Test.YtgbmemkoggogdaaFb
import Derived.Test.YtgbmemkoggogdaaZEg
/- Automata with outputs, in a slice, that came in: opened. -/
namespace Go.Proofs.Ytgbmemkoggogdaa
open Go.ChangeShapes Go.WideShapes Go.ChangeAt Go.RowKit Go.Joins Go.Deep

/-- An automaton with outputs. -/
structure Om where
  b : Int
  N : List (List Int)
  O : List Int
instance : Inhabited Om := ⟨⟨0, [], []⟩⟩
def zOm : Om := ⟨0, [], []⟩
/-- Three cells are one. -/
def OmC (W : World) (b o : Nat) (m : Om) (a : Option Addr) (c : Nat) (a' : Option Addr) (c' : Nat) : Prop :=
  W.cell? ⟨b, o, none⟩ = some (.int .i64 m.b) ∧ W.cell? ⟨b, o + 1, none⟩ = some (.slice a m.N.length c) ∧ W.cell? ⟨b, o + 2, none⟩ = some (.slice a' m.O.length c') ∧ Sl2 W a m.N.length m.N ∧ Sl W a' m.O.length m.O
def SlO (W : World) (a : Option Addr) (len : Nat) (os : List Om) : Prop :=
  os.length = len ∧ len ≤ maxLen ∧ (len = 0 ∨ ∃ b o, a = some ⟨b, o, none⟩ ∧ ∀ i, i < len → ∃ a1 c1 a2 c2, OmC W b (o + i * 3) (os.getD i zOm) a1 c1 a2 c2)
set_option maxRecDepth 8000 in
theorem outs_open {H : Type} {enc : TypeId × Value → H} {W : World} {base : Nat} {held : Bool} {fuel : Nat} {v : Value} {x : DataW H × List MemPlace} (h : DataW.trod enc Try.prog W base (fun _ => true) held fuel 42 [v] = some x) :
    ∃ a len cap os, v = .slice a len cap ∧ SlO W a len os := by
  rcases open_slice Try.underlying42 h with ⟨hcs, _⟩ | ⟨a, len, cap, m, n, D, Pl, hcs, hb, hl, hm, hmm, _, hx⟩
  · simp at hcs
    exact ⟨none, 0, 0, [], hcs, rfl, by decide, Or.inl rfl⟩
  · simp at hcs
    have hmc : m = cap := by simpa using hmm
    subst hmc
    have each : ∀ i, i < m → ∃ q : Om × (Option Addr × Nat) × (Option Addr × Nat), (W.cell? (a.add (i * 3)) = some (.int .i64 q.1.b) ∧ W.cell? (a.add (i * 3 + 1)) = some (.slice q.2.1.1 q.1.N.length q.2.1.2) ∧ W.cell? (a.add (i * 3 + 2)) = some (.slice q.2.2.1 q.1.O.length q.2.2.2)) ∧ Sl2 W q.2.1.1 q.1.N.length q.1.N ∧ Sl W q.2.2.1 q.1.O.length q.1.O := by
      intro i hi
      obtain ⟨cs', h1, h2⟩ := hx i hi
      rw [show Try.prog.cellsOf 25 = 3 by kernel_rfl] at h1
      obtain ⟨_, hlen, hcell⟩ := World.cells?_some h1
      obtain ⟨xs, k, hk, hxy, _, hxl, hf⟩ := DataW.trod_struct Try.underlying25 h2
      match xs, hxl, cs', hlen with
      | [y0, y1, y2], _, [c0, c1, c2], _ =>
        have g0 := hf 0 _ rfl
        have g1 := hf 1 _ rfl
        have g2 := hf 2 _ rfl
        have ci : Try.prog.cellsOf 3 = 1 := by kernel_rfl
        have cl : Try.prog.cellsOf 23 = 1 := by kernel_rfl
        have cr : Try.prog.cellsOf 22 = 1 := by kernel_rfl
        simp [ci, cl, cr] at g0 g1 g2
        obtain ⟨z0, e0, _, w0⟩ := DataW.trod_int Try.underlying3 g0
        obtain ⟨a1, l1, k1, N, e1, hs1⟩ := rows_open g1
        obtain ⟨a2, l2, k2, O, e2, hs2⟩ := ints_open g2
        simp at e0
        subst e0 e1 e2
        have hl1 := hs1.1
        have hl2 := hs2.1
        subst hl1 hl2
        have q0 := hcell 0 (by decide)
        have q1 := hcell 1 (by decide)
        have q2 := hcell 2 (by decide)
        rw [add_add] at q0 q1 q2
        exact ⟨(⟨z0, N, O⟩, (a1, k1), (a2, k2)), ⟨by simpa using q0, by simpa using q1, by simpa using q2⟩, hs1, hs2⟩
    obtain ⟨q, hq⟩ := choose_lt each
    refine ⟨some a, len, m, (List.range len).map fun i => (q i).1, hcs, by simp, by omega, ?_⟩
    by_cases h0 : len = 0
    · exact .inl h0
    · obtain ⟨b, off, spot⟩ := a
      have hspot : spot = none := by simpa [Addr.add] using World.cell?_spot (hq 0 (by omega)).1.1
      subst hspot
      refine .inr ⟨b, off, rfl, fun i hi => ⟨(q i).2.1.1, (q i).2.1.2, (q i).2.2.1, (q i).2.2.2, ?_⟩⟩
      have hget : ((List.range len).map fun i => (q i).1).getD i zOm = (q i).1 := by simp [List.getD, hi]
      rw [hget]
      obtain ⟨⟨e0, e1, e2⟩, hs1, hs2⟩ := hq i (by omega)
      rw [Go.WideShapes.add_plain] at e0 e1 e2
      exact ⟨e0, by rw [Nat.add_assoc]; exact e1, by rw [Nat.add_assoc]; exact e2, hs1, hs2⟩
end Go.Proofs.Ytgbmemkoggogdaa

/- Formulas: mathematics: renaming, bounding, truth. -/
namespace Go.Proofs.Ytgbmemkoggogdaa
open Go.RowKit

/-- Behind the last one that is not 0. -/
def lastN (l : List Int) : Nat → Nat
  | 0 => 0
  | k + 1 => if l.getD k 0 = 0 then lastN l k else k + 1
def trimL (l : List Int) : List Int := l.take (lastN l l.length)
def zer5 : List Int := [0, 0, 0, 0, 0]
def movK (to cf : List Int) : Nat → List Int
  | 0 => zer5
  | k + 1 => (movK to cf k).set (to.getD k 0).toNat (cf.getD k 0)
def movL (to cf : List Int) : List Int := movK to cf cf.length
/-- New names, each of another one. -/
def Names5 (to : List Int) : Prop := to.length = 5 ∧ (∀ i, i < 5 → 0 ≤ to.getD i 0 ∧ to.getD i 0 < 5) ∧ ∀ i j, i < 5 → j < 5 → to.getD i 0 = to.getD j 0 → i = j
def renN (to : List Int) (n : Nd) : Nd := ⟨n.op, if n.op = 3 ∨ n.op = 4 ∨ n.op = 8 ∨ n.op = 9 then to.getD n.var.toNat 0 else n.var, if n.op = 4 then to.getD n.oth.toNat 0 else n.oth, n.wd, n.wd2, n.num, trimL (movL to n.cf)⟩
/-- What is wrong with the i-th new name. -/
def nameC (to : List Int) (i : Nat) : Int := if 0 ≤ to.getD i 0 ∧ to.getD i 0 < 5 then (if ∃ k, k < i ∧ to.getD k 0 = to.getD i 0 then 6 else 0) else 1
def namesC (to : List Int) : Int := if to.length = 5 then firstC ((List.range 5).map (nameC to)) else 2
def renC (ns : List Nd) (to : List Int) : Int := if (formP ns).2 = 0 then namesC to else (formP ns).2
def renL (ns : List Nd) (to : List Int) : List Nd := if renC ns to = 0 then ns.map (renN to) else []
theorem lastN_le (l : List Int) (k : Nat) : lastN l k ≤ k := by
  induction k with
  | zero => exact Nat.le_refl _
  | succ k ih => unfold lastN; split <;> omega
theorem lastN_zero (l : List Int) (k : Nat) : ∀ i, lastN l k ≤ i → i < k → l.getD i 0 = 0 := by
  induction k with
  | zero => intro i h1 h2; omega
  | succ k ih =>
    intro i h1 h2
    unfold lastN at h1
    by_cases h : l.getD k 0 = 0
    · rw [if_pos h] at h1
      by_cases e : i = k
      · subst e; exact h
      · exact ih i h1 (by omega)
    · rw [if_neg h] at h1; omega
theorem lastN_last (l : List Int) (k : Nat) (h : 0 < lastN l k) : l.getD (lastN l k - 1) 0 ≠ 0 := by
  induction k with
  | zero => unfold lastN at h; omega
  | succ k ih =>
    unfold lastN at h ⊢
    by_cases e : l.getD k 0 = 0
    · rw [if_pos e] at h ⊢; exact ih h
    · rw [if_neg e] at h ⊢; exact e
theorem lastN_is {l : List Int} {k m : Nat} (hm : m ≤ k) (h1 : ∀ i, m ≤ i → i < k → l.getD i 0 = 0) (h2 : 0 < m → l.getD (m - 1) 0 ≠ 0) : lastN l k = m := by
  by_cases h : lastN l k < m
  · exact absurd (lastN_zero l k (m - 1) (by omega) (by omega)) (h2 (by omega))
  · by_cases h' : m < lastN l k
    · exact absurd (h1 (lastN l k - 1) (by omega) (by have := lastN_le l k; omega)) (lastN_last l k (by omega))
    · omega
theorem getD_big {l : List Int} {i : Nat} (h : l.length ≤ i) : l.getD i 0 = 0 := by simp [List.getD, h]
theorem set_getD (l : List Int) (j : Nat) (c : Int) (i : Nat) : (l.set j c).getD i 0 = if i = j ∧ j < l.length then c else l.getD i 0 := by
  by_cases e : i = j
  · subst e
    by_cases h : i < l.length
    · rw [if_pos ⟨rfl, h⟩]; simp [List.getD, h]
    · rw [if_neg (fun q => h q.2), getD_big (by rw [List.length_set]; omega), getD_big (by omega)]
  · rw [if_neg (fun q => e q.1)]
    simp only [List.getD]
    rw [List.getElem?_set_ne (Ne.symm e)]
theorem take_getD (l : List Int) (m i : Nat) : (l.take m).getD i 0 = if i < m then l.getD i 0 else 0 := by
  by_cases h : i < m
  · rw [if_pos h]; simp [List.getD, h]
  · rw [if_neg h]; exact getD_big (by rw [List.length_take]; omega)
theorem trim_getD (l : List Int) (i : Nat) : (trimL l).getD i 0 = l.getD i 0 := by
  unfold trimL
  rw [take_getD]
  by_cases h : i < lastN l l.length
  · rw [if_pos h]
  · rw [if_neg h]
    by_cases h' : i < l.length
    · exact (lastN_zero l l.length i (by omega) h').symm
    · simp [List.getD, Nat.le_of_not_lt h']
theorem trim_len (l : List Int) : (trimL l).length = lastN l l.length := by
  unfold trimL
  rw [List.length_take]
  have := lastN_le l l.length
  omega
theorem trim_last (l : List Int) (h : 0 < (trimL l).length) : (trimL l).getD ((trimL l).length - 1) 0 ≠ 0 := by
  rw [trim_getD, trim_len]
  rw [trim_len] at h
  exact lastN_last l _ h
theorem list_ext0 {l m : List Int} (hl : l.length = m.length) (h : ∀ i, i < l.length → l.getD i 0 = m.getD i 0) : l = m := by
  apply List.ext_getElem hl
  intro i h1 h2
  have := h i h1
  simpa [List.getD, h1, h2] using this
theorem trim_eq {l m : List Int} (hle : m.length ≤ l.length) (h : ∀ i, l.getD i 0 = m.getD i 0) (hm : 0 < m.length → m.getD (m.length - 1) 0 ≠ 0) : trimL l = m := by
  have hl : lastN l l.length = m.length := lastN_is hle (fun i h1 h2 => by rw [h]; simp [List.getD, h1]) (fun h0 => by rw [h]; exact hm h0)
  exact list_ext0 (by rw [trim_len, hl]) (fun i _ => by rw [trim_getD, h])
theorem movK_len (to cf : List Int) (k : Nat) : (movK to cf k).length = 5 := by
  induction k with
  | zero => rfl
  | succ k ih => unfold movK; rw [List.length_set]; exact ih
/-- What stands where behind some of them. -/
theorem movK_at {to : List Int} (h : Names5 to) (cf : List Int) (k : Nat) (hk : k ≤ 5) : ∀ i, i < 5 → (movK to cf k).getD (to.getD i 0).toNat 0 = if i < k then cf.getD i 0 else 0 := by
  induction k with
  | zero =>
    intro i hi
    rw [if_neg (by omega)]
    show zer5.getD _ 0 = 0
    have := h.2.1 i hi
    obtain ⟨q, hq⟩ : ∃ q : Nat, to.getD i 0 = (q : Int) := ⟨(to.getD i 0).toNat, by omega⟩
    rw [hq] at this ⊢
    have : q < 5 := by omega
    rw [Int.toNat_natCast]
    match q, this with
    | 0, _ => rfl
    | 1, _ => rfl
    | 2, _ => rfl
    | 3, _ => rfl
    | 4, _ => rfl
  | succ k ih =>
    intro i hi
    have hki := h.2.1 k (by omega)
    have hii := h.2.1 i hi
    unfold movK
    by_cases e : i = k
    · subst e
      rw [if_pos (by omega), set_getD, if_pos ⟨rfl, by rw [movK_len]; omega⟩]
    · have hne : (to.getD k 0).toNat ≠ (to.getD i 0).toNat := fun he => e (h.2.2 i k hi (by omega) (by omega))
      rw [set_getD, if_neg (fun q => hne q.1.symm), ih (by omega) i hi]
      by_cases h1 : i < k
      · rw [if_pos h1, if_pos (by omega)]
      · rw [if_neg h1, if_neg (by omega)]
theorem movL_at {to cf : List Int} (h : Names5 to) (hc : cf.length ≤ 5) {i : Nat} (hi : i < 5) : (movL to cf).getD (to.getD i 0).toNat 0 = cf.getD i 0 := by
  unfold movL
  rw [movK_at h cf _ hc i hi]
  by_cases h1 : i < cf.length
  · rw [if_pos h1]
  · rw [if_neg h1]; simp [List.getD, Nat.le_of_not_lt h1]
theorem namesC_ok {to : List Int} (h : namesC to = 0) : Names5 to := by
  unfold namesC at h
  by_cases h5 : to.length = 5
  · rw [if_pos h5] at h
    have hz := firstC_get0 _ h
    have hi : ∀ i, i < 5 → nameC to i = 0 := fun i hi => by
      have := hz i (by simpa using hi)
      simpa [List.getD, hi] using this
    have hr : ∀ i, i < 5 → (0 ≤ to.getD i 0 ∧ to.getD i 0 < 5) ∧ ¬ ∃ k, k < i ∧ to.getD k 0 = to.getD i 0 := fun i h5' => by
      have := hi i h5'
      unfold nameC at this
      by_cases h1 : 0 ≤ to.getD i 0 ∧ to.getD i 0 < 5
      · rw [if_pos h1] at this
        by_cases h2 : ∃ k, k < i ∧ to.getD k 0 = to.getD i 0
        · rw [if_pos h2] at this; omega
        · exact ⟨h1, h2⟩
      · rw [if_neg h1] at this; omega
    refine ⟨h5, fun i h => (hr i h).1, fun i j h1 h2 he => ?_⟩
    by_cases h3 : i < j
    · exact absurd ⟨i, h3, he⟩ (hr j h2).2
    · by_cases h4 : j < i
      · exact absurd ⟨j, h4, he.symm⟩ (hr i h1).2
      · omega
  · rw [if_neg h5] at h; omega
theorem slO_below {W W' : World} {a : Option Addr} {len : Nat} {os : List Om} (h : SlO W a len os) (hb : Below W.heap.size W W') : SlO W' a len os := by
  obtain ⟨h1, h2, h4⟩ := h
  refine ⟨h1, h2, ?_⟩
  rcases h4 with h4 | ⟨b, o, e, h4⟩
  · exact .inl h4
  · refine .inr ⟨b, o, e, fun i hi => ?_⟩
    obtain ⟨a1, c1, a2, c2, h5, h6, h7, h8, h9⟩ := h4 i hi
    have hk : ∀ (k : Nat) (v : Value), W.cell? ⟨b, k, none⟩ = some v → W'.cell? ⟨b, k, none⟩ = some v := fun k v h => (hb.cell (p := ⟨b, k, none⟩) (World.block_lt_of_cell? W _ h)).trans h
    exact ⟨a1, c1, a2, c2, hk _ _ h5, hk _ _ h6, hk _ _ h7, sl2_below h8 hb, sl_below h9 hb⟩
theorem slO_cell {W : World} {a : Option Addr} {len : Nat} {os : List Om} (h : SlO W a len os) (i : Nat) (hi : i < len) : ∃ b o a1 c1 a2 c2, a = some ⟨b, o, none⟩ ∧ OmC W b (o + i * 3) (os.getD i zOm) a1 c1 a2 c2 := by
  rcases h.2.2 with h4 | ⟨b, o, e, h4⟩
  · omega
  · obtain ⟨a1, c1, a2, c2, hc⟩ := h4 i hi
    exact ⟨b, o, a1, c1, a2, c2, e, hc⟩
def omF (base : Int) (m : Om) : Int := if outC m.b m.N m.O = 0 then (if 0 < base ∧ m.b ≠ base then 2 else 0) else outC m.b m.N m.O
def wdB (k : Nat) (n : Nd) : Prop := ((n.op = 3 ∨ n.op = 4) ∧ n.wd ≥ (k : Int)) ∨ (n.op = 4 ∧ n.wd2 ≥ (k : Int))
instance (k : Nat) (n : Nd) : Decidable (wdB k n) := by unfold wdB; exact inferInstance
def wdF (ns : List Nd) (os : List Om) (base : Int) : Int := if 3 < os.length then 3 else if firstC (os.map (omF base)) = 0 then (if (ns.all fun n => decide (¬ wdB os.length n)) = true then 0 else 4) else firstC (os.map (omF base))
theorem omF_get {os : List Om} (base : Int) {k : Nat} (h : k < os.length) : (os.map (omF base)).getD k 0 = omF base (os.getD k zOm) := by simp [List.getD, h]
theorem wdF_pre {ns : List Nd} {os : List Om} {base : Int} (h3 : ¬ 3 < os.length) {k : Nat} (hk : k < os.length) (h : ∀ j, j < k → omF base (os.getD j zOm) = 0) (hc : omF base (os.getD k zOm) ≠ 0) : wdF ns os base = omF base (os.getD k zOm) := by
  have e := firstC_pre (os.map (omF base)) k (fun j hj => by rw [omF_get base (by omega)]; exact h j hj) (by simpa using hk) (by rw [omF_get base hk]; exact hc)
  rw [omF_get base hk] at e
  unfold wdF
  rw [if_neg h3, e, if_neg hc]
theorem wdF_rest {ns : List Nd} {os : List Om} {base : Int} (h3 : ¬ 3 < os.length) (h : ∀ j, j < os.length → omF base (os.getD j zOm) = 0) : wdF ns os base = if (ns.all fun n => decide (¬ wdB os.length n)) = true then 0 else 4 := by
  have e := firstC_all (os.map (omF base)) (fun j hj => by
    have hj' : j < os.length := by simpa using hj
    rw [omF_get base hj']
    exact h j hj')
  unfold wdF
  rw [if_neg h3, if_pos e]
theorem wd_take (ns : List Nd) (m : Nat) {k : Nat} (h : k < ns.length) : ((ns.take (k + 1)).all fun n => decide (¬ wdB m n)) = (((ns.take k).all fun n => decide (¬ wdB m n)) && decide (¬ wdB m (ns.getD k zNd))) := by
  rw [List.take_succ_eq_append_getElem h, List.all_append]
  simp [List.getD, h]
/-- Is a node without parts so? -/
def holdB (os : List Om) (nums : List Int) (n : Nd) : Bool :=
  if n.op = 1 then lnEnd n.num false (sumT n.cf (fun i => nums.getD i 0) n.cf.length)
  else if n.op = 2 then lnEnd n.num true (sumT n.cf (fun i => nums.getD i 0) n.cf.length)
  else if n.op = 3 then decide (sayN (os.getD n.wd.toNat zOm).b (os.getD n.wd.toNat zOm).N (os.getD n.wd.toNat zOm).O (nums.getD n.var.toNat 0) = n.num)
  else if n.op = 4 then decide (sayN (os.getD n.wd.toNat zOm).b (os.getD n.wd.toNat zOm).N (os.getD n.wd.toNat zOm).O (nums.getD n.var.toNat 0) = sayN (os.getD n.wd2.toNat zOm).b (os.getD n.wd2.toNat zOm).N (os.getD n.wd2.toNat zOm).O (nums.getD n.oth.toNat 0))
  else false
def Fm.tru (os : List Om) (nums : List Int) : Fm → Bool
  | .at0 n => holdB os nums n
  | .un _ f => !f.tru os nums
  | .bin n f g => if n.op = 6 then f.tru os nums && g.tru os nums else f.tru os nums || g.tru os nums
/-- Is there a free variable that has no number? -/
def shortB (t : Fm) (k : Nat) : Bool := (freL t).any fun v => decide ((k : Int) ≤ v)
end Go.Proofs.Ytgbmemkoggogdaa

/- Formulas: mathematics of FormTurns: names turned round. -/
namespace Go.Proofs.Ytgbmemkoggogdaa
open Go.RowKit

/-- Names turned by p. -/
def turnL (p : Nat) : List Int := (List.range 5).map fun v : Nat => (((v + p) % 5 : Nat) : Int)
def nbkL (p : Nat) : List Int := (List.range 5).map fun v : Nat => (((v + 5 - p) % 5 : Nat) : Int)
theorem turnL_at {p i : Nat} (hi : i < 5) : (turnL p).getD i 0 = (((i + p) % 5 : Nat) : Int) := by
  unfold turnL; simp [List.getD, hi]
theorem nbkL_at {p i : Nat} (hi : i < 5) : (nbkL p).getD i 0 = (((i + 5 - p) % 5 : Nat) : Int) := by
  unfold nbkL; simp [List.getD, hi]
theorem turn_names {p : Nat} (_hp : p < 5) : Names5 (turnL p) := by
  refine ⟨by simp [turnL], fun i hi => by rw [turnL_at hi]; omega, fun i j hi hj h => ?_⟩
  rw [turnL_at hi, turnL_at hj] at h
  omega
theorem back_names {p : Nat} (hp : p < 5) : Names5 (nbkL p) := by
  refine ⟨by simp [nbkL], fun i hi => by rw [nbkL_at hi]; omega, fun i j hi hj h => ?_⟩
  rw [nbkL_at hi, nbkL_at hj] at h
  omega
theorem turn_cf {p : Nat} (hp : p < 5) {cf : List Int} (hc : cf.length ≤ 5) {i : Nat} (hi : i < 5) : (trimL (movL (turnL p) cf)).getD ((i + p) % 5) 0 = cf.getD i 0 := by
  rw [trim_getD]
  have := movL_at (turn_names hp) hc hi
  rw [turnL_at hi, Int.toNat_natCast] at this
  exact this
theorem trim_le5 (to cf : List Int) : (trimL (movL to cf)).length ≤ 5 := by
  rw [trim_len]
  have := lastN_le (movL to cf) (movL to cf).length
  have h5 : (movL to cf).length = 5 := movK_len _ _ _
  omega
/-- Back it is as it was. -/
theorem turn_back_cf {p : Nat} (hp : p < 5) {cf : List Int} (hc : cf.length ≤ 5) (hl : 0 < cf.length → cf.getD (cf.length - 1) 0 ≠ 0) : trimL (movL (nbkL p) (trimL (movL (turnL p) cf))) = cf := by
  have h5 : (movL (nbkL p) (trimL (movL (turnL p) cf))).length = 5 := movK_len _ _ _
  refine trim_eq (by omega) (fun i => ?_) hl
  by_cases hi : i < 5
  · have hj : (i + p) % 5 < 5 := by omega
    have := movL_at (back_names hp) (trim_le5 (turnL p) cf) hj
    rw [nbkL_at hj, Int.toNat_natCast, turn_cf hp hc hi] at this
    rw [← this]
    congr 1
    omega
  · rw [getD_big (by omega), getD_big (by omega)]
theorem absT_ext (l : List Int) {k m : Nat} (h : k ≤ m) (h2 : l.length ≤ k) : absT l m = absT l k := by
  induction m with
  | zero => obtain rfl : k = 0 := by omega
            rfl
  | succ m ih =>
    by_cases e : k = m + 1
    · subst e; rfl
    · rw [absT, ih (by omega), getD_big (by omega)]; simp [absI]
theorem sumT_ext (l : List Int) (f : Nat → Int) {k m : Nat} (h : k ≤ m) (h2 : l.length ≤ k) : sumT l f m = sumT l f k := by
  induction m with
  | zero => obtain rfl : k = 0 := by omega
            rfl
  | succ m ih =>
    by_cases e : k = m + 1
    · subst e; rfl
    · rw [sumT, ih (by omega), getD_big (by omega)]; simp
theorem absT_five (l : List Int) (h : l.length ≤ 5) : absT l l.length = absI (l.getD 0 0) + absI (l.getD 1 0) + absI (l.getD 2 0) + absI (l.getD 3 0) + absI (l.getD 4 0) := by
  rw [← absT_ext l h (Nat.le_refl _)]
  simp only [absT, Int.zero_add]
theorem sumT_five (l : List Int) (f : Nat → Int) (h : l.length ≤ 5) : sumT l f l.length = l.getD 0 0 * f 0 + l.getD 1 0 * f 1 + l.getD 2 0 * f 2 + l.getD 3 0 * f 3 + l.getD 4 0 * f 4 := by
  rw [← sumT_ext l f h (Nat.le_refl _)]
  simp only [sumT, Int.zero_add]
theorem turn_abs {p : Nat} (hp : p < 5) {cf : List Int} (hc : cf.length ≤ 5) : absT (trimL (movL (turnL p) cf)) (trimL (movL (turnL p) cf)).length = absT cf cf.length := by
  rw [absT_five _ (trim_le5 _ _), absT_five _ hc]
  have h0 := turn_cf hp hc (i := 0) (by decide)
  have h1 := turn_cf hp hc (i := 1) (by decide)
  have h2 := turn_cf hp hc (i := 2) (by decide)
  have h3 := turn_cf hp hc (i := 3) (by decide)
  have h4 := turn_cf hp hc (i := 4) (by decide)
  generalize trimL (movL (turnL p) cf) = l at *
  match p, hp with
  | 0, _ => simp only [Nat.add_zero, Nat.reduceMod] at h0 h1 h2 h3 h4; rw [← h0, ← h1, ← h2, ← h3, ← h4]
  | 1, _ => simp only [Nat.reduceMod, Nat.reduceAdd] at h0 h1 h2 h3 h4; rw [← h0, ← h1, ← h2, ← h3, ← h4]; omega
  | 2, _ => simp only [Nat.reduceMod, Nat.reduceAdd] at h0 h1 h2 h3 h4; rw [← h0, ← h1, ← h2, ← h3, ← h4]; omega
  | 3, _ => simp only [Nat.reduceMod, Nat.reduceAdd] at h0 h1 h2 h3 h4; rw [← h0, ← h1, ← h2, ← h3, ← h4]; omega
  | 4, _ => simp only [Nat.reduceMod, Nat.reduceAdd] at h0 h1 h2 h3 h4; rw [← h0, ← h1, ← h2, ← h3, ← h4]; omega
/-- Numbers moved along. -/
def moved (p : Nat) (nums : List Int) : List Int := (List.range 5).map fun j : Nat => nums.getD ((j + 5 - p) % 5) 0
theorem moved_at {p : Nat} (hp : p < 5) (nums : List Int) {i : Nat} (hi : i < 5) : (moved p nums).getD ((i + p) % 5) 0 = nums.getD i 0 := by
  have hj : (i + p) % 5 < 5 := by omega
  unfold moved
  simp only [List.getD, List.getElem?_map, List.getElem?_range hj, Option.map_some, Option.getD_some]
  congr 2
  omega
theorem turn_sum {p : Nat} (hp : p < 5) {cf : List Int} (hc : cf.length ≤ 5) (nums : List Int) : sumT (trimL (movL (turnL p) cf)) (fun i => (moved p nums).getD i 0) (trimL (movL (turnL p) cf)).length = sumT cf (fun i => nums.getD i 0) cf.length := by
  rw [sumT_five _ _ (trim_le5 _ _), sumT_five _ _ hc]
  have h0 := turn_cf hp hc (i := 0) (by decide)
  have h1 := turn_cf hp hc (i := 1) (by decide)
  have h2 := turn_cf hp hc (i := 2) (by decide)
  have h3 := turn_cf hp hc (i := 3) (by decide)
  have h4 := turn_cf hp hc (i := 4) (by decide)
  have g0 := moved_at hp nums (i := 0) (by decide)
  have g1 := moved_at hp nums (i := 1) (by decide)
  have g2 := moved_at hp nums (i := 2) (by decide)
  have g3 := moved_at hp nums (i := 3) (by decide)
  have g4 := moved_at hp nums (i := 4) (by decide)
  generalize trimL (movL (turnL p) cf) = l at *
  generalize moved p nums = m at *
  match p, hp with
  | 0, _ => simp only [Nat.add_zero, Nat.reduceMod] at h0 h1 h2 h3 h4 g0 g1 g2 g3 g4; rw [← h0, ← h1, ← h2, ← h3, ← h4, ← g0, ← g1, ← g2, ← g3, ← g4]
  | 1, _ => simp only [Nat.reduceMod, Nat.reduceAdd] at h0 h1 h2 h3 h4 g0 g1 g2 g3 g4; rw [← h0, ← h1, ← h2, ← h3, ← h4, ← g0, ← g1, ← g2, ← g3, ← g4]; omega
  | 2, _ => simp only [Nat.reduceMod, Nat.reduceAdd] at h0 h1 h2 h3 h4 g0 g1 g2 g3 g4; rw [← h0, ← h1, ← h2, ← h3, ← h4, ← g0, ← g1, ← g2, ← g3, ← g4]; omega
  | 3, _ => simp only [Nat.reduceMod, Nat.reduceAdd] at h0 h1 h2 h3 h4 g0 g1 g2 g3 g4; rw [← h0, ← h1, ← h2, ← h3, ← h4, ← g0, ← g1, ← g2, ← g3, ← g4]; omega
  | 4, _ => simp only [Nat.reduceMod, Nat.reduceAdd] at h0 h1 h2 h3 h4 g0 g1 g2 g3 g4; rw [← h0, ← h1, ← h2, ← h3, ← h4, ← g0, ← g1, ← g2, ← g3, ← g4]; omega
theorem nd_parts {n : Nd} (h : ndF n = 0) : n.cf.length ≤ 5 := by
  obtain ⟨hr, hs⟩ := ndF_zero h
  by_cases hl : lineP n
  · exact (hr.2.2.2.2.2.2 hl).1
  · have := hs.2.2.2.2.1 hl; omega
theorem turn_at {p : Nat} {v : Int} (h : 0 ≤ v ∧ v < 5) : (turnL p).getD v.toNat 0 = (v + p) % 5 := by
  obtain ⟨q, rfl⟩ : ∃ q : Nat, v = (q : Int) := ⟨v.toNat, by omega⟩
  rw [Int.toNat_natCast, turnL_at (by omega)]
  omega
theorem back_at {p : Nat} (hp : p < 5) {v : Int} (h : 0 ≤ v ∧ v < 5) : (nbkL p).getD v.toNat 0 = (v + 5 - p) % 5 := by
  obtain ⟨q, rfl⟩ : ∃ q : Nat, v = (q : Int) := ⟨v.toNat, by omega⟩
  rw [Int.toNat_natCast, nbkL_at (by omega)]
  omega
theorem ren_ndF {p : Nat} (hp : p < 5) {n : Nd} (h : ndF n = 0) : ndF (renN (turnL p) n) = 0 := by
  have h5 := nd_parts h
  obtain ⟨hr, hs⟩ := ndF_zero h
  have hab := turn_abs hp h5
  have hle := trim_le5 (turnL p) n.cf
  have hlast := trim_last (movL (turnL p) n.cf)
  have hnil : n.cf.length = 0 → (trimL (movL (turnL p) n.cf)).length = 0 := fun h0 => by
    have : n.cf = [] := List.eq_nil_of_length_eq_zero h0
    rw [this]
    rfl
  have hv : (n.op = 3 ∨ n.op = 4 ∨ n.op = 8 ∨ n.op = 9) → (turnL p).getD n.var.toNat 0 = (n.var + p) % 5 := fun hq => turn_at (hr.2.1 hq)
  have ho : n.op = 4 → (turnL p).getD n.oth.toNat 0 = (n.oth + p) % 5 := fun hq => turn_at (hr.2.2.1 hq)
  unfold ndR at hr
  unfold ndS at hs
  unfold ndF
  have hR : ndR (renN (turnL p) n) := by
    unfold ndR varsP wordsP lineP renN
    unfold varsP wordsP lineP at hr
    simp only
    refine ⟨hr.1, fun hq => ?_, fun hq => ?_, hr.2.2.2.1, hr.2.2.2.2.1, hr.2.2.2.2.2.1, fun hq => ⟨hle, ?_, (hr.2.2.2.2.2.2 hq).2.2⟩⟩
    · rw [if_pos hq, hv hq]; omega
    · rw [if_pos hq, ho hq]; omega
    · rw [hab]; exact (hr.2.2.2.2.2.2 hq).2.1
  have hS : ndS (renN (turnL p) n) := by
    unfold ndS varsP wordsP lineP renN
    unfold varsP wordsP lineP at hs
    simp only
    refine ⟨fun hq => ?_, fun hq => ?_, hs.2.2.1, hs.2.2.2.1, fun hq => hnil (hs.2.2.2.2.1 hq), hlast⟩
    · rw [if_neg hq]; exact hs.1 hq
    · rw [if_neg hq]; exact hs.2.1 hq
  rw [if_pos hR, if_pos hS]
theorem ren_back {p : Nat} (hp : p < 5) {n : Nd} (h : ndF n = 0) : renN (nbkL p) (renN (turnL p) n) = n := by
  have h5 := nd_parts h
  obtain ⟨hr, hs⟩ := ndF_zero h
  have hcf := turn_back_cf hp h5 hs.2.2.2.2.2
  have hv : (n.op = 3 ∨ n.op = 4 ∨ n.op = 8 ∨ n.op = 9) → (nbkL p).getD ((turnL p).getD n.var.toNat 0).toNat 0 = n.var := fun hq => by
    have := hr.2.1 hq
    rw [turn_at this, back_at hp (by omega)]
    omega
  have ho : n.op = 4 → (nbkL p).getD ((turnL p).getD n.oth.toNat 0).toNat 0 = n.oth := fun hq => by
    have := hr.2.2.1 hq
    rw [turn_at this, back_at hp (by omega)]
    omega
  obtain ⟨op, var, oth, wd, wd2, num, cf⟩ := n
  unfold renN
  simp only at hv ho hcf ⊢
  rw [hcf]
  by_cases h1 : op = 3 ∨ op = 4 ∨ op = 8 ∨ op = 9
  · rw [if_pos h1, if_pos h1, hv h1]
    by_cases h2 : op = 4
    · rw [if_pos h2, if_pos h2, ho h2]
    · rw [if_neg h2, if_neg h2]
  · rw [if_neg h1, if_neg h1]
    by_cases h2 : op = 4
    · rw [if_pos h2, if_pos h2, ho h2]
    · rw [if_neg h2, if_neg h2]
def Fm.ren (to : List Int) : Fm → Fm
  | .at0 n => .at0 (renN to n)
  | .un n f => .un (renN to n) (f.ren to)
  | .bin n f g => .bin (renN to n) (f.ren to) (g.ren to)
theorem ren_flat (to : List Int) (t : Fm) : (t.ren to).flat = t.flat.map (renN to) := by
  induction t with
  | at0 n => rfl
  | un n f ih => simp [Fm.ren, Fm.flat, ih]
  | bin n f g ih1 ih2 => simp [Fm.ren, Fm.flat, ih1, ih2]
theorem ren_ok {p : Nat} (hp : p < 5) (t : Fm) (h : t.ok) : (t.ren (turnL p)).ok := by
  induction t with
  | at0 n => exact ⟨ren_ndF hp h.1, h.2⟩
  | un n f ih => exact ⟨ren_ndF hp h.1, h.2.1, ih h.2.2⟩
  | bin n f g ih1 ih2 => exact ⟨ren_ndF hp h.1, h.2.1, ih1 h.2.2.1, ih2 h.2.2.2⟩
theorem ok_ndF (t : Fm) (h : t.ok) : ∀ n ∈ t.flat, ndF n = 0 := by
  induction t with
  | at0 n => intro m hm; simp [Fm.flat] at hm; subst hm; exact h.1
  | un n f ih =>
    intro m hm
    simp [Fm.flat] at hm
    rcases hm with rfl | hm
    · exact h.1
    · exact ih h.2.2 m hm
  | bin n f g ih1 ih2 =>
    intro m hm
    simp [Fm.flat] at hm
    rcases hm with rfl | hm | hm
    · exact h.1
    · exact ih1 h.2.2.1 m hm
    · exact ih2 h.2.2.2 m hm
theorem ren_back_all {p : Nat} (hp : p < 5) {ns : List Nd} (h : ∀ n ∈ ns, ndF n = 0) : (ns.map (renN (turnL p))).map (renN (nbkL p)) = ns := by
  rw [List.map_map]
  conv => rhs; rw [← List.map_id ns]
  exact List.map_congr_left fun n hn => ren_back hp (h n hn)
/-- Whatever is a tree is right. -/
theorem ffGo_flat (ts : List Fm) : ∀ (N i : Nat), (flatL ts).length ≤ N → (∀ t ∈ ts, t.ok) → ffGo (flatL ts) i ts.length = (0, 0) := by
  intro N
  induction N generalizing ts with
  | zero =>
    intro i hl hok
    match ts, hl, hok with
    | [], _, _ => rfl
    | t :: ts, hl, _ => rw [flatL_cons, List.length_append] at hl; have := flat_pos t; omega
  | succ N ih =>
    intro i hl hok
    match ts, hl, hok with
    | [], _, _ => rfl
    | t :: ts, hl, hok =>
      obtain ⟨h1, h2, h3⟩ := trees_step hok
      obtain ⟨hn, -, -⟩ := ok_node (hok t (by simp))
      rw [h1] at hl ⊢
      unfold ffGo
      rw [if_pos hn, if_neg (by simp)]
      have := ih (t.kids ++ ts) (i + 1) (by simpa using hl) h3
      rw [h2] at this
      simpa using this
theorem formP_flat {t : Fm} (h : t.ok) (hl : t.flat.length ≤ 40) : formP t.flat = (0, 0) := by
  have := flat_pos t
  unfold formP
  rw [if_neg (by omega), if_neg (by omega)]
  have := ffGo_flat [t] t.flat.length 0 (by simp [flatL]) (by simpa using h)
  simpa [flatL] using this
theorem ren_use {p : Nat} (hp : p < 5) {n : Nd} (h : ndF n = 0) {v : Nat} (hv : v < 5) : useB (renN (turnL p) n) (((v + p) % 5 : Nat) : Int) = useB n (v : Int) := by
  have h5 := nd_parts h
  have hcf := turn_cf hp h5 hv
  obtain ⟨hr, -⟩ := ndF_zero h
  have hra := hr.2.1
  have hro := hr.2.2.1
  clear hr
  unfold varsP at hra
  unfold useB renN
  simp only
  by_cases h1 : n.op = 1 ∨ n.op = 2
  · rw [if_pos h1, if_pos h1]
    rw [Int.toNat_natCast, Int.toNat_natCast, hcf]
    by_cases hz : n.cf.getD v 0 = 0
    · rw [hz]; simp
    · have e1 : v < n.cf.length := by
        by_cases q : v < n.cf.length
        · exact q
        · exact absurd (getD_big (by omega)) hz
      have e2 : (v + p) % 5 < (trimL (movL (turnL p) n.cf)).length := by
        by_cases q : (v + p) % 5 < (trimL (movL (turnL p) n.cf)).length
        · exact q
        · rw [getD_big (by omega)] at hcf; exact absurd hcf.symm hz
      rw [decide_eq_true (show (((v + p) % 5 : Nat) : Int) < ((trimL (movL (turnL p) n.cf)).length : Int) by omega), decide_eq_true (show (v : Int) < (n.cf.length : Int) by omega)]
  · rw [if_neg h1, if_neg h1]
    have key : ∀ a : Int, 0 ≤ a ∧ a < 5 → decide ((turnL p).getD a.toNat 0 = (((v + p) % 5 : Nat) : Int)) = decide (a = (v : Int)) := fun a ha => by
      rw [turn_at ha]
      exact decide_eq_decide.2 (by omega)
    by_cases h3 : n.op = 3
    · rw [if_pos (show n.op = 3 ∨ n.op = 4 ∨ n.op = 8 ∨ n.op = 9 from .inl h3), key _ (hra (.inl h3))]
      simp [h3]
    · by_cases h4 : n.op = 4
      · rw [if_pos (show n.op = 3 ∨ n.op = 4 ∨ n.op = 8 ∨ n.op = 9 from .inr (.inl h4)), if_pos h4, key _ (hra (.inr (.inl h4))), key _ (hro h4)]
      · simp [h3, h4]
theorem ren_fre {p : Nat} (hp : p < 5) (t : Fm) (h : t.ok) {v : Nat} (hv : v < 5) : (t.ren (turnL p)).fre (((v + p) % 5 : Nat) : Int) = t.fre (v : Int) := by
  have hb : ∀ n : Nd, ndF n = 0 → (((renN (turnL p) n).op = 8 ∨ (renN (turnL p) n).op = 9) ∧ (renN (turnL p) n).var = (((v + p) % 5 : Nat) : Int) ↔ (n.op = 8 ∨ n.op = 9) ∧ n.var = (v : Int)) := fun n hn => by
    obtain ⟨hr, -⟩ := ndF_zero hn
    have hra := hr.2.1
    unfold varsP at hra
    unfold renN
    simp only
    by_cases h8 : n.op = 8 ∨ n.op = 9
    · have := hra (by omega)
      rw [if_pos (show n.op = 3 ∨ n.op = 4 ∨ n.op = 8 ∨ n.op = 9 by omega), turn_at this]
      omega
    · simp [h8]
  induction t with
  | at0 n =>
    have hq := hb n h.1
    simp only [Fm.ren, Fm.fre]
    rw [ren_use hp h.1 hv]
    by_cases q : (n.op = 8 ∨ n.op = 9) ∧ n.var = (v : Int)
    · rw [if_pos q, if_pos (hq.2 q)]
    · rw [if_neg q, if_neg (fun x => q (hq.1 x))]
  | un n f ih =>
    have hq := hb n h.1
    simp only [Fm.ren, Fm.fre]
    rw [ren_use hp h.1 hv, ih h.2.2]
    by_cases q : (n.op = 8 ∨ n.op = 9) ∧ n.var = (v : Int)
    · rw [if_pos q, if_pos (hq.2 q)]
    · rw [if_neg q, if_neg (fun x => q (hq.1 x))]
  | bin n f g ih1 ih2 =>
    have hq := hb n h.1
    simp only [Fm.ren, Fm.fre]
    rw [ren_use hp h.1 hv, ih1 h.2.2.1, ih2 h.2.2.2]
    by_cases q : (n.op = 8 ∨ n.op = 9) ∧ n.var = (v : Int)
    · rw [if_pos q, if_pos (hq.2 q)]
    · rw [if_neg q, if_neg (fun x => q (hq.1 x))]
theorem fil_len (f : Int → Bool) : (([0, 1, 2, 3, 4] : List Int).filter f).length = (f 0).toNat + (f 1).toNat + (f 2).toNat + (f 3).toNat + (f 4).toNat := by
  simp only [List.filter_cons, List.filter_nil]
  cases f 0 <;> cases f 1 <;> cases f 2 <;> cases f 3 <;> cases f 4 <;> rfl
theorem ren_many {p : Nat} (hp : p < 5) (t : Fm) (h : t.ok) : (freL (t.ren (turnL p))).length = (freL t).length := by
  have h0 := ren_fre hp t h (v := 0) (by decide)
  have h1 := ren_fre hp t h (v := 1) (by decide)
  have h2 := ren_fre hp t h (v := 2) (by decide)
  have h3 := ren_fre hp t h (v := 3) (by decide)
  have h4 := ren_fre hp t h (v := 4) (by decide)
  unfold freL
  rw [fil_len, fil_len]
  generalize (t.ren (turnL p)).fre = F at *
  generalize t.fre = G at *
  match p, hp with
  | 0, _ => simp at h0 h1 h2 h3 h4; rw [← h0, ← h1, ← h2, ← h3, ← h4]
  | 1, _ => simp at h0 h1 h2 h3 h4; rw [← h0, ← h1, ← h2, ← h3, ← h4]; omega
  | 2, _ => simp at h0 h1 h2 h3 h4; rw [← h0, ← h1, ← h2, ← h3, ← h4]; omega
  | 3, _ => simp at h0 h1 h2 h3 h4; rw [← h0, ← h1, ← h2, ← h3, ← h4]; omega
  | 4, _ => simp at h0 h1 h2 h3 h4; rw [← h0, ← h1, ← h2, ← h3, ← h4]; omega
theorem freL_mem (t : Fm) (v : Int) : v ∈ freL t ↔ (0 ≤ v ∧ v < 5) ∧ t.fre v = true := by
  unfold freL
  rw [List.mem_filter]
  have : v ∈ ([0, 1, 2, 3, 4] : List Int) ↔ 0 ≤ v ∧ v < 5 := by simp; omega
  rw [this]
/-- Each free variable's new name is free. -/
theorem ren_mem {p : Nat} (hp : p < 5) (t : Fm) (h : t.ok) {v : Int} (hv : v ∈ freL t) : (turnL p).getD v.toNat 0 ∈ freL (t.ren (turnL p)) := by
  rw [freL_mem] at hv ⊢
  obtain ⟨q, rfl⟩ : ∃ q : Nat, v = (q : Int) := ⟨v.toNat, by omega⟩
  rw [Int.toNat_natCast, turnL_at (by omega), ren_fre hp t h (by omega)]
  exact ⟨by omega, hv.2⟩
theorem ren_hold {p : Nat} (hp : p < 5) {n : Nd} (h : ndF n = 0) (os : List Om) (nums : List Int) : holdB os (moved p nums) (renN (turnL p) n) = holdB os nums n := by
  have h5 := nd_parts h
  have hs := turn_sum hp h5 nums
  obtain ⟨hr, -⟩ := ndF_zero h
  have hra := hr.2.1
  have hro := hr.2.2.1
  clear hr
  unfold varsP at hra
  have key : ∀ a : Int, 0 ≤ a ∧ a < 5 → (moved p nums).getD ((turnL p).getD a.toNat 0).toNat 0 = nums.getD a.toNat 0 := fun a ha => by
    rw [turnL_at (by omega), Int.toNat_natCast]
    exact moved_at hp nums (by omega)
  unfold holdB renN
  simp only
  rw [hs]
  by_cases h1 : n.op = 1
  · rw [if_pos h1, if_pos h1]
  · rw [if_neg h1, if_neg h1]
    by_cases h2 : n.op = 2
    · rw [if_pos h2, if_pos h2]
    · rw [if_neg h2, if_neg h2]
      by_cases h3 : n.op = 3
      · rw [if_pos h3, if_pos h3, if_pos (show n.op = 3 ∨ n.op = 4 ∨ n.op = 8 ∨ n.op = 9 from .inl h3), key _ (hra (.inl h3))]
      · rw [if_neg h3, if_neg h3]
        by_cases h4 : n.op = 4
        · rw [if_pos h4, if_pos h4, if_pos (show n.op = 3 ∨ n.op = 4 ∨ n.op = 8 ∨ n.op = 9 from .inr (.inl h4)), if_pos h4, key _ (hra (.inr (.inl h4))), key _ (hro h4)]
        · rw [if_neg h4, if_neg h4]
theorem ren_tru {p : Nat} (hp : p < 5) (t : Fm) (h : t.ok) (os : List Om) (nums : List Int) : (t.ren (turnL p)).tru os (moved p nums) = t.tru os nums := by
  induction t with
  | at0 n => exact ren_hold hp h.1 os nums
  | un n f ih => simp only [Fm.ren, Fm.tru]; rw [ih h.2.2]
  | bin n f g ih1 ih2 => simp only [Fm.ren, Fm.tru]; rw [ih1 h.2.2.1, ih2 h.2.2.2]; rfl
theorem ren_wdF (to : List Int) (ns : List Nd) (os : List Om) (base : Int) : wdF (ns.map (renN to)) os base = wdF ns os base := by
  unfold wdF
  rw [List.all_map]
  rfl
theorem moved_ok {p : Nat} (hp : p < 5) {nums : List Int} (hl : nums.length = 5) : numOk (moved p nums) = numOk nums := by
  have e : nums = [nums.getD 0 0, nums.getD 1 0, nums.getD 2 0, nums.getD 3 0, nums.getD 4 0] := by
    apply list_ext0 (by simpa using hl)
    intro i hi
    rw [hl] at hi
    match i, hi with
    | 0, _ => rfl
    | 1, _ => rfl
    | 2, _ => rfl
    | 3, _ => rfl
    | 4, _ => rfl
  have e2 : moved p nums = [nums.getD ((0 + 5 - p) % 5) 0, nums.getD ((1 + 5 - p) % 5) 0, nums.getD ((2 + 5 - p) % 5) 0, nums.getD ((3 + 5 - p) % 5) 0, nums.getD ((4 + 5 - p) % 5) 0] := rfl
  rw [e2]
  conv => rhs; rw [e]
  unfold numOk
  simp only [List.all_cons, List.all_nil, Bool.and_true]
  generalize hg : (fun i => decide (0 ≤ nums.getD i 0 ∧ nums.getD i 0 ≤ 1099511627776)) = g
  have hgi : ∀ i, decide (0 ≤ nums.getD i 0 ∧ nums.getD i 0 ≤ 1099511627776) = g i := fun i => by rw [← hg]
  simp only [hgi]
  match p, hp with
  | 0, _ => rfl
  | 1, _ => show (g 4 && (g 0 && (g 1 && (g 2 && g 3)))) = _; cases g 0 <;> cases g 1 <;> cases g 2 <;> cases g 3 <;> cases g 4 <;> rfl
  | 2, _ => show (g 3 && (g 4 && (g 0 && (g 1 && g 2)))) = _; cases g 0 <;> cases g 1 <;> cases g 2 <;> cases g 3 <;> cases g 4 <;> rfl
  | 3, _ => show (g 2 && (g 3 && (g 4 && (g 0 && g 1)))) = _; cases g 0 <;> cases g 1 <;> cases g 2 <;> cases g 3 <;> cases g 4 <;> rfl
  | 4, _ => show (g 1 && (g 2 && (g 3 && (g 4 && g 0)))) = _; cases g 0 <;> cases g 1 <;> cases g 2 <;> cases g 3 <;> cases g 4 <;> rfl
theorem short_five (t : Fm) : shortB t 5 = false := by
  unfold shortB
  rw [List.any_eq_false]
  intro v hv
  rw [freL_mem] at hv
  simp
  omega
end Go.Proofs.Ytgbmemkoggogdaa

/- Formulas, and automata with outputs, that came in: opened. -/
namespace Go.Proofs.Ytgbmemkoggogdaa
open Go.ChangeShapes Go.WideShapes Go.ChangeAt Go.RowKit Go.Joins Go.Deep

instance : Inhabited Nd := ⟨zNd⟩
set_option maxRecDepth 8000 in
theorem nodes_open {H : Type} {enc : TypeId × Value → H} {W : World} {base : Nat} {held : Bool} {fuel : Nat} {v : Value} {x : DataW H × List MemPlace} (h : DataW.trod enc Try.prog W base (fun _ => true) held fuel 41 [v] = some x) :
    ∃ a len cap ns, v = .slice a len cap ∧ SlF W a len ns := by
  rcases open_slice Try.underlying41 h with ⟨hcs, _⟩ | ⟨a, len, cap, m, n, D, Pl, hcs, hb, hl, hm, hmm, _, hx⟩
  · simp at hcs
    exact ⟨none, 0, 0, [], hcs, rfl, by decide, (fun n hn => by cases hn), Or.inl rfl⟩
  · simp at hcs
    have hmc : m = cap := by simpa using hmm
    subst hmc
    have each : ∀ i, i < m → ∃ q : Nd × Option Addr × Nat, ndWf q.1 ∧ (W.cell? (a.add (i * 7)) = some (.int .i64 q.1.op) ∧ W.cell? (a.add (i * 7 + 1)) = some (.int .i64 q.1.var) ∧ W.cell? (a.add (i * 7 + 2)) = some (.int .i64 q.1.oth) ∧ W.cell? (a.add (i * 7 + 3)) = some (.int .i64 q.1.wd) ∧ W.cell? (a.add (i * 7 + 4)) = some (.int .i64 q.1.wd2) ∧ W.cell? (a.add (i * 7 + 5)) = some (.int .i64 q.1.num) ∧ W.cell? (a.add (i * 7 + 6)) = some (.slice q.2.1 q.1.cf.length q.2.2)) ∧ Sl W q.2.1 q.1.cf.length q.1.cf := by
      intro i hi
      obtain ⟨cs', h1, h2⟩ := hx i hi
      rw [show Try.prog.cellsOf 68 = 7 by kernel_rfl] at h1
      obtain ⟨_, hlen, hcell⟩ := World.cells?_some h1
      obtain ⟨xs, k, hk, hxy, _, hxl, hf⟩ := DataW.trod_struct Try.underlying68 h2
      match xs, hxl, cs', hlen with
      | [y0, y1, y2, y3, y4, y5, y6], _, [c0, c1, c2, c3, c4, c5, c6], _ =>
        have g0 := hf 0 _ rfl
        have g1 := hf 1 _ rfl
        have g2 := hf 2 _ rfl
        have g3 := hf 3 _ rfl
        have g4 := hf 4 _ rfl
        have g5 := hf 5 _ rfl
        have g6 := hf 6 _ rfl
        have ci : Try.prog.cellsOf 3 = 1 := by kernel_rfl
        have cl : Try.prog.cellsOf 23 = 1 := by kernel_rfl
        simp [ci, cl] at g0 g1 g2 g3 g4 g5 g6
        obtain ⟨z0, e0, _, w0⟩ := DataW.trod_int Try.underlying3 g0
        obtain ⟨z1, e1, _, w1⟩ := DataW.trod_int Try.underlying3 g1
        obtain ⟨z2, e2, _, w2⟩ := DataW.trod_int Try.underlying3 g2
        obtain ⟨z3, e3, _, w3⟩ := DataW.trod_int Try.underlying3 g3
        obtain ⟨z4, e4, _, w4⟩ := DataW.trod_int Try.underlying3 g4
        obtain ⟨z5, e5, _, w5⟩ := DataW.trod_int Try.underlying3 g5
        obtain ⟨a', l', c', cf, e6, hs⟩ := ints_open g6
        simp at e0 e1 e2 e3 e4 e5
        subst e0 e1 e2 e3 e4 e5 e6
        have hl' := hs.1
        subst hl'
        have q0 := hcell 0 (by decide)
        have q1 := hcell 1 (by decide)
        have q2 := hcell 2 (by decide)
        have q3 := hcell 3 (by decide)
        have q4 := hcell 4 (by decide)
        have q5 := hcell 5 (by decide)
        have q6 := hcell 6 (by decide)
        rw [add_add] at q0 q1 q2 q3 q4 q5 q6
        refine ⟨(⟨z0, z1, z2, z3, z4, z5, cf⟩, a', c'), fun x hx => ?_, ⟨by simpa using q0, by simpa using q1, by simpa using q2, by simpa using q3, by simpa using q4, by simpa using q5, by simpa using q6⟩, hs⟩
        simp at hx
        rcases hx with rfl | rfl | rfl | rfl | rfl | rfl <;> assumption
    obtain ⟨q, hq⟩ := choose_lt each
    refine ⟨some a, len, m, (List.range len).map fun i => (q i).1, hcs, by simp, by omega, fun x hx => ?_, ?_⟩
    · obtain ⟨i, hi, rfl⟩ := List.mem_map.1 hx
      exact (hq i (by have := List.mem_range.1 hi; omega)).1
    · by_cases h0 : len = 0
      · exact .inl h0
      · obtain ⟨b, off, spot⟩ := a
        have hspot : spot = none := by simpa [Addr.add] using World.cell?_spot (hq 0 (by omega)).2.1.1
        subst hspot
        refine .inr ⟨b, off, rfl, fun i hi => ⟨(q i).2.1, (q i).2.2, ?_⟩⟩
        have hget : ((List.range len).map fun i => (q i).1).getD i zNd = (q i).1 := by simp [List.getD, hi]
        rw [hget]
        obtain ⟨-, ⟨e0, e1, e2, e3, e4, e5, e6⟩, hs⟩ := hq i (by omega)
        rw [Go.WideShapes.add_plain] at e0 e1 e2 e3 e4 e5 e6
        exact ⟨e0, by rw [Nat.add_assoc]; exact e1, by rw [Nat.add_assoc]; exact e2, by rw [Nat.add_assoc]; exact e3, by rw [Nat.add_assoc]; exact e4, by rw [Nat.add_assoc]; exact e5, by rw [Nat.add_assoc]; exact e6, hs⟩
end Go.Proofs.Ytgbmemkoggogdaa
