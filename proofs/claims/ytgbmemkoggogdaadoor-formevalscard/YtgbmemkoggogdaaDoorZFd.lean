/- 4 texts in one. -/
import Derived.Deep.Slices
import Derived.Test.YtgbmemkoggogdaaDoorFb
import Derived.Test.YtgbmemkoggogdaaDoorZEg
/- Automata with outputs, in a slice, that came in: opened. -/
namespace Go.Proofs.YtgbmemkoggogdaaDoor
open Go.ChangeShapes Go.WideShapes Go.ChangeAt Go.RowKit Go.Joins Go.Deep

/-- An automaton with outputs. -/
structure Om where
  b : Int
  N : List (List Int)
  O : List Int
instance : Inhabited Om := ⟨⟨0, [], []⟩⟩
def zOm : Om := ⟨0, [], []⟩
/-- Three cells are one. -/
def OmC (W : World) (b o : Nat) (m : Om) (a : Option Addr) (c : Nat) (a' : Option Addr) (c' : Nat) : Prop :=
  W.cell? ⟨b, o, none⟩ = some (.int .i64 m.b) ∧ W.cell? ⟨b, o + 1, none⟩ = some (.slice a m.N.length c) ∧ W.cell? ⟨b, o + 2, none⟩ = some (.slice a' m.O.length c') ∧ Sl2 W a m.N.length m.N ∧ Sl W a' m.O.length m.O
def SlO (W : World) (a : Option Addr) (len : Nat) (os : List Om) : Prop :=
  os.length = len ∧ len ≤ maxLen ∧ (len = 0 ∨ ∃ b o, a = some ⟨b, o, none⟩ ∧ ∀ i, i < len → ∃ a1 c1 a2 c2, OmC W b (o + i * 3) (os.getD i zOm) a1 c1 a2 c2)
set_option maxRecDepth 8000 in
theorem outs_open {H : Type} {enc : TypeId × Value → H} {W : World} {base : Nat} {held : Bool} {fuel : Nat} {v : Value} {x : DataW H × List MemPlace} (h : DataW.trod enc Tryd.prog W base (fun _ => true) held fuel 41 [v] = some x) :
    ∃ a len cap os, v = .slice a len cap ∧ SlO W a len os := by
  rcases open_slice Tryd.underlying41 h with ⟨hcs, _⟩ | ⟨a, len, cap, m, n, D, Pl, hcs, hb, hl, hm, hmm, _, hx⟩
  · simp at hcs
    exact ⟨none, 0, 0, [], hcs, rfl, by decide, Or.inl rfl⟩
  · simp at hcs
    have hmc : m = cap := by simpa using hmm
    subst hmc
    have each : ∀ i, i < m → ∃ q : Om × (Option Addr × Nat) × (Option Addr × Nat), (W.cell? (a.add (i * 3)) = some (.int .i64 q.1.b) ∧ W.cell? (a.add (i * 3 + 1)) = some (.slice q.2.1.1 q.1.N.length q.2.1.2) ∧ W.cell? (a.add (i * 3 + 2)) = some (.slice q.2.2.1 q.1.O.length q.2.2.2)) ∧ Sl2 W q.2.1.1 q.1.N.length q.1.N ∧ Sl W q.2.2.1 q.1.O.length q.1.O := by
      intro i hi
      obtain ⟨cs', h1, h2⟩ := hx i hi
      rw [show Tryd.prog.cellsOf 25 = 3 by kernel_rfl] at h1
      obtain ⟨_, hlen, hcell⟩ := World.cells?_some h1
      obtain ⟨xs, k, hk, hxy, _, hxl, hf⟩ := DataW.trod_struct Tryd.underlying25 h2
      match xs, hxl, cs', hlen with
      | [y0, y1, y2], _, [c0, c1, c2], _ =>
        have g0 := hf 0 _ rfl
        have g1 := hf 1 _ rfl
        have g2 := hf 2 _ rfl
        have ci : Tryd.prog.cellsOf 3 = 1 := by kernel_rfl
        have cl : Tryd.prog.cellsOf 23 = 1 := by kernel_rfl
        have cr : Tryd.prog.cellsOf 22 = 1 := by kernel_rfl
        simp [ci, cl, cr] at g0 g1 g2
        obtain ⟨z0, e0, _, w0⟩ := DataW.trod_int Tryd.underlying3 g0
        obtain ⟨a1, l1, k1, N, e1, hs1⟩ := rows_open g1
        obtain ⟨a2, l2, k2, O, e2, hs2⟩ := ints_open g2
        simp at e0
        subst e0 e1 e2
        have hl1 := hs1.1
        have hl2 := hs2.1
        subst hl1 hl2
        have q0 := hcell 0 (by decide)
        have q1 := hcell 1 (by decide)
        have q2 := hcell 2 (by decide)
        rw [add_add] at q0 q1 q2
        exact ⟨(⟨z0, N, O⟩, (a1, k1), (a2, k2)), ⟨by simpa using q0, by simpa using q1, by simpa using q2⟩, hs1, hs2⟩
    obtain ⟨q, hq⟩ := choose_lt each
    refine ⟨some a, len, m, (List.range len).map fun i => (q i).1, hcs, by simp, by omega, ?_⟩
    by_cases h0 : len = 0
    · exact .inl h0
    · obtain ⟨b, off, spot⟩ := a
      have hspot : spot = none := by simpa [Addr.add] using World.cell?_spot (hq 0 (by omega)).1.1
      subst hspot
      refine .inr ⟨b, off, rfl, fun i hi => ⟨(q i).2.1.1, (q i).2.1.2, (q i).2.2.1, (q i).2.2.2, ?_⟩⟩
      have hget : ((List.range len).map fun i => (q i).1).getD i zOm = (q i).1 := by simp [List.getD, hi]
      rw [hget]
      obtain ⟨⟨e0, e1, e2⟩, hs1, hs2⟩ := hq i (by omega)
      rw [Go.WideShapes.add_plain] at e0 e1 e2
      exact ⟨e0, by rw [Nat.add_assoc]; exact e1, by rw [Nat.add_assoc]; exact e2, hs1, hs2⟩
end Go.Proofs.YtgbmemkoggogdaaDoor

/- Formulas: mathematics: renaming, bounding, truth. -/
namespace Go.Proofs.YtgbmemkoggogdaaDoor
open Go.RowKit

/-- Behind the last one that is not 0. -/
def lastN (l : List Int) : Nat → Nat
  | 0 => 0
  | k + 1 => if l.getD k 0 = 0 then lastN l k else k + 1
def trimL (l : List Int) : List Int := l.take (lastN l l.length)
def zer5 : List Int := [0, 0, 0, 0, 0]
def movK (to cf : List Int) : Nat → List Int
  | 0 => zer5
  | k + 1 => (movK to cf k).set (to.getD k 0).toNat (cf.getD k 0)
def movL (to cf : List Int) : List Int := movK to cf cf.length
def renN (to : List Int) (n : Nd) : Nd := ⟨n.op, if n.op = 3 ∨ n.op = 4 ∨ n.op = 8 ∨ n.op = 9 then to.getD n.var.toNat 0 else n.var, if n.op = 4 then to.getD n.oth.toNat 0 else n.oth, n.wd, n.wd2, n.num, trimL (movL to n.cf)⟩
theorem getD_big {l : List Int} {i : Nat} (h : l.length ≤ i) : l.getD i 0 = 0 := by simp [List.getD, h]
theorem take_getD (l : List Int) (m i : Nat) : (l.take m).getD i 0 = if i < m then l.getD i 0 else 0 := by
  by_cases h : i < m
  · rw [if_pos h]; simp [List.getD, h]
  · rw [if_neg h]; exact getD_big (by rw [List.length_take]; omega)
theorem slO_below {W W' : World} {a : Option Addr} {len : Nat} {os : List Om} (h : SlO W a len os) (hb : Below W.heap.size W W') : SlO W' a len os := by
  obtain ⟨h1, h2, h4⟩ := h
  refine ⟨h1, h2, ?_⟩
  rcases h4 with h4 | ⟨b, o, e, h4⟩
  · exact .inl h4
  · refine .inr ⟨b, o, e, fun i hi => ?_⟩
    obtain ⟨a1, c1, a2, c2, h5, h6, h7, h8, h9⟩ := h4 i hi
    have hk : ∀ (k : Nat) (v : Value), W.cell? ⟨b, k, none⟩ = some v → W'.cell? ⟨b, k, none⟩ = some v := fun k v h => (hb.cell (p := ⟨b, k, none⟩) (World.block_lt_of_cell? W _ h)).trans h
    exact ⟨a1, c1, a2, c2, hk _ _ h5, hk _ _ h6, hk _ _ h7, sl2_below h8 hb, sl_below h9 hb⟩
theorem slO_cell {W : World} {a : Option Addr} {len : Nat} {os : List Om} (h : SlO W a len os) (i : Nat) (hi : i < len) : ∃ b o a1 c1 a2 c2, a = some ⟨b, o, none⟩ ∧ OmC W b (o + i * 3) (os.getD i zOm) a1 c1 a2 c2 := by
  rcases h.2.2 with h4 | ⟨b, o, e, h4⟩
  · omega
  · obtain ⟨a1, c1, a2, c2, hc⟩ := h4 i hi
    exact ⟨b, o, a1, c1, a2, c2, e, hc⟩
def omF (base : Int) (m : Om) : Int := if outC m.b m.N m.O = 0 then (if 0 < base ∧ m.b ≠ base then 2 else 0) else outC m.b m.N m.O
def wdB (k : Nat) (n : Nd) : Prop := ((n.op = 3 ∨ n.op = 4) ∧ n.wd ≥ (k : Int)) ∨ (n.op = 4 ∧ n.wd2 ≥ (k : Int))
instance (k : Nat) (n : Nd) : Decidable (wdB k n) := by unfold wdB; exact inferInstance
def wdF (ns : List Nd) (os : List Om) (base : Int) : Int := if 3 < os.length then 3 else if firstC (os.map (omF base)) = 0 then (if (ns.all fun n => decide (¬ wdB os.length n)) = true then 0 else 4) else firstC (os.map (omF base))
theorem omF_get {os : List Om} (base : Int) {k : Nat} (h : k < os.length) : (os.map (omF base)).getD k 0 = omF base (os.getD k zOm) := by simp [List.getD, h]
theorem wdF_pre {ns : List Nd} {os : List Om} {base : Int} (h3 : ¬ 3 < os.length) {k : Nat} (hk : k < os.length) (h : ∀ j, j < k → omF base (os.getD j zOm) = 0) (hc : omF base (os.getD k zOm) ≠ 0) : wdF ns os base = omF base (os.getD k zOm) := by
  have e := firstC_pre (os.map (omF base)) k (fun j hj => by rw [omF_get base (by omega)]; exact h j hj) (by simpa using hk) (by rw [omF_get base hk]; exact hc)
  rw [omF_get base hk] at e
  unfold wdF
  rw [if_neg h3, e, if_neg hc]
theorem wdF_rest {ns : List Nd} {os : List Om} {base : Int} (h3 : ¬ 3 < os.length) (h : ∀ j, j < os.length → omF base (os.getD j zOm) = 0) : wdF ns os base = if (ns.all fun n => decide (¬ wdB os.length n)) = true then 0 else 4 := by
  have e := firstC_all (os.map (omF base)) (fun j hj => by
    have hj' : j < os.length := by simpa using hj
    rw [omF_get base hj']
    exact h j hj')
  unfold wdF
  rw [if_neg h3, if_pos e]
theorem wd_take (ns : List Nd) (m : Nat) {k : Nat} (h : k < ns.length) : ((ns.take (k + 1)).all fun n => decide (¬ wdB m n)) = (((ns.take k).all fun n => decide (¬ wdB m n)) && decide (¬ wdB m (ns.getD k zNd))) := by
  rw [List.take_succ_eq_append_getElem h, List.all_append]
  simp [List.getD, h]
theorem wd_no {ns : List Nd} {m k : Nat} (h : k < ns.length) (hb : wdB m (ns.getD k zNd)) : (ns.all fun n => decide (¬ wdB m n)) = false := by
  rw [List.all_eq_false]
  refine ⟨ns.getD k zNd, by simp [List.getD, h], fun h' => ?_⟩
  exact of_decide_eq_true h' hb
/-- Is a node without parts so? -/
def holdB (os : List Om) (nums : List Int) (n : Nd) : Bool :=
  if n.op = 1 then lnEnd n.num false (sumT n.cf (fun i => nums.getD i 0) n.cf.length)
  else if n.op = 2 then lnEnd n.num true (sumT n.cf (fun i => nums.getD i 0) n.cf.length)
  else if n.op = 3 then decide (sayN (os.getD n.wd.toNat zOm).b (os.getD n.wd.toNat zOm).N (os.getD n.wd.toNat zOm).O (nums.getD n.var.toNat 0) = n.num)
  else if n.op = 4 then decide (sayN (os.getD n.wd.toNat zOm).b (os.getD n.wd.toNat zOm).N (os.getD n.wd.toNat zOm).O (nums.getD n.var.toNat 0) = sayN (os.getD n.wd2.toNat zOm).b (os.getD n.wd2.toNat zOm).N (os.getD n.wd2.toNat zOm).O (nums.getD n.oth.toNat 0))
  else false
def Fm.tru (os : List Om) (nums : List Int) : Fm → Bool
  | .at0 n => holdB os nums n
  | .un _ f => !f.tru os nums
  | .bin n f g => if n.op = 6 then f.tru os nums && g.tru os nums else f.tru os nums || g.tru os nums
/-- Is there a free variable that has no number? -/
def shortB (t : Fm) (k : Nat) : Bool := (freL t).any fun v => decide ((k : Int) ≤ v)
end Go.Proofs.YtgbmemkoggogdaaDoor

/- Formulas: mathematics of FormTurns: names turned round. -/
namespace Go.Proofs.YtgbmemkoggogdaaDoor
open Go.RowKit

def Fm.ren (to : List Int) : Fm → Fm
  | .at0 n => .at0 (renN to n)
  | .un n f => .un (renN to n) (f.ren to)
  | .bin n f g => .bin (renN to n) (f.ren to) (g.ren to)
theorem ok_ndF (t : Fm) (h : t.ok) : ∀ n ∈ t.flat, ndF n = 0 := by
  induction t with
  | at0 n => intro m hm; simp [Fm.flat] at hm; subst hm; exact h.1
  | un n f ih =>
    intro m hm
    simp [Fm.flat] at hm
    rcases hm with rfl | hm
    · exact h.1
    · exact ih h.2.2 m hm
  | bin n f g ih1 ih2 =>
    intro m hm
    simp [Fm.flat] at hm
    rcases hm with rfl | hm | hm
    · exact h.1
    · exact ih1 h.2.2.1 m hm
    · exact ih2 h.2.2.2 m hm
end Go.Proofs.YtgbmemkoggogdaaDoor

/- Formulas, and automata with outputs, that came in: opened. -/
namespace Go.Proofs.YtgbmemkoggogdaaDoor
open Go.ChangeShapes Go.WideShapes Go.ChangeAt Go.RowKit Go.Joins Go.Deep

instance : Inhabited Nd := ⟨zNd⟩
set_option maxRecDepth 8000 in
theorem nodes_open {H : Type} {enc : TypeId × Value → H} {W : World} {base : Nat} {held : Bool} {fuel : Nat} {v : Value} {x : DataW H × List MemPlace} (h : DataW.trod enc Tryd.prog W base (fun _ => true) held fuel 40 [v] = some x) :
    ∃ a len cap ns, v = .slice a len cap ∧ SlF W a len ns := by
  rcases open_slice Tryd.underlying40 h with ⟨hcs, _⟩ | ⟨a, len, cap, m, n, D, Pl, hcs, hb, hl, hm, hmm, _, hx⟩
  · simp at hcs
    exact ⟨none, 0, 0, [], hcs, rfl, by decide, (fun n hn => by cases hn), Or.inl rfl⟩
  · simp at hcs
    have hmc : m = cap := by simpa using hmm
    subst hmc
    have each : ∀ i, i < m → ∃ q : Nd × Option Addr × Nat, ndWf q.1 ∧ (W.cell? (a.add (i * 7)) = some (.int .i64 q.1.op) ∧ W.cell? (a.add (i * 7 + 1)) = some (.int .i64 q.1.var) ∧ W.cell? (a.add (i * 7 + 2)) = some (.int .i64 q.1.oth) ∧ W.cell? (a.add (i * 7 + 3)) = some (.int .i64 q.1.wd) ∧ W.cell? (a.add (i * 7 + 4)) = some (.int .i64 q.1.wd2) ∧ W.cell? (a.add (i * 7 + 5)) = some (.int .i64 q.1.num) ∧ W.cell? (a.add (i * 7 + 6)) = some (.slice q.2.1 q.1.cf.length q.2.2)) ∧ Sl W q.2.1 q.1.cf.length q.1.cf := by
      intro i hi
      obtain ⟨cs', h1, h2⟩ := hx i hi
      rw [show Tryd.prog.cellsOf 65 = 7 by kernel_rfl] at h1
      obtain ⟨_, hlen, hcell⟩ := World.cells?_some h1
      obtain ⟨xs, k, hk, hxy, _, hxl, hf⟩ := DataW.trod_struct Tryd.underlying65 h2
      match xs, hxl, cs', hlen with
      | [y0, y1, y2, y3, y4, y5, y6], _, [c0, c1, c2, c3, c4, c5, c6], _ =>
        have g0 := hf 0 _ rfl
        have g1 := hf 1 _ rfl
        have g2 := hf 2 _ rfl
        have g3 := hf 3 _ rfl
        have g4 := hf 4 _ rfl
        have g5 := hf 5 _ rfl
        have g6 := hf 6 _ rfl
        have ci : Tryd.prog.cellsOf 3 = 1 := by kernel_rfl
        have cl : Tryd.prog.cellsOf 23 = 1 := by kernel_rfl
        simp [ci, cl] at g0 g1 g2 g3 g4 g5 g6
        obtain ⟨z0, e0, _, w0⟩ := DataW.trod_int Tryd.underlying3 g0
        obtain ⟨z1, e1, _, w1⟩ := DataW.trod_int Tryd.underlying3 g1
        obtain ⟨z2, e2, _, w2⟩ := DataW.trod_int Tryd.underlying3 g2
        obtain ⟨z3, e3, _, w3⟩ := DataW.trod_int Tryd.underlying3 g3
        obtain ⟨z4, e4, _, w4⟩ := DataW.trod_int Tryd.underlying3 g4
        obtain ⟨z5, e5, _, w5⟩ := DataW.trod_int Tryd.underlying3 g5
        obtain ⟨a', l', c', cf, e6, hs⟩ := ints_open g6
        simp at e0 e1 e2 e3 e4 e5
        subst e0 e1 e2 e3 e4 e5 e6
        have hl' := hs.1
        subst hl'
        have q0 := hcell 0 (by decide)
        have q1 := hcell 1 (by decide)
        have q2 := hcell 2 (by decide)
        have q3 := hcell 3 (by decide)
        have q4 := hcell 4 (by decide)
        have q5 := hcell 5 (by decide)
        have q6 := hcell 6 (by decide)
        rw [add_add] at q0 q1 q2 q3 q4 q5 q6
        refine ⟨(⟨z0, z1, z2, z3, z4, z5, cf⟩, a', c'), fun x hx => ?_, ⟨by simpa using q0, by simpa using q1, by simpa using q2, by simpa using q3, by simpa using q4, by simpa using q5, by simpa using q6⟩, hs⟩
        simp at hx
        rcases hx with rfl | rfl | rfl | rfl | rfl | rfl <;> assumption
    obtain ⟨q, hq⟩ := choose_lt each
    refine ⟨some a, len, m, (List.range len).map fun i => (q i).1, hcs, by simp, by omega, fun x hx => ?_, ?_⟩
    · obtain ⟨i, hi, rfl⟩ := List.mem_map.1 hx
      exact (hq i (by have := List.mem_range.1 hi; omega)).1
    · by_cases h0 : len = 0
      · exact .inl h0
      · obtain ⟨b, off, spot⟩ := a
        have hspot : spot = none := by simpa [Addr.add] using World.cell?_spot (hq 0 (by omega)).2.1.1
        subst hspot
        refine .inr ⟨b, off, rfl, fun i hi => ⟨(q i).2.1, (q i).2.2, ?_⟩⟩
        have hget : ((List.range len).map fun i => (q i).1).getD i zNd = (q i).1 := by simp [List.getD, hi]
        rw [hget]
        obtain ⟨-, ⟨e0, e1, e2, e3, e4, e5, e6⟩, hs⟩ := hq i (by omega)
        rw [Go.WideShapes.add_plain] at e0 e1 e2 e3 e4 e5 e6
        exact ⟨e0, by rw [Nat.add_assoc]; exact e1, by rw [Nat.add_assoc]; exact e2, by rw [Nat.add_assoc]; exact e3, by rw [Nat.add_assoc]; exact e4, by rw [Nat.add_assoc]; exact e5, by rw [Nat.add_assoc]; exact e6, hs⟩
end Go.Proofs.YtgbmemkoggogdaaDoor
