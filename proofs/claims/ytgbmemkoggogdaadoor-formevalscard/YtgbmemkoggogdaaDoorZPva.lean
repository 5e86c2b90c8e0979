/- 2 texts in one. -/
import Derived.Test.YtgbmemkoggogdaaDoorCi
import Derived.Test.YtgbmemkoggogdaaDoorZFd
import Derived.Test.YtgbmemkoggogdaaDoorZYa
import Derived.Test.YtgbmemkoggogdaaDoorZG
/- Package formula: Needs: contract. -/
namespace Go.Proofs.YtgbmemkoggogdaaDoor
open Go.RowKit

/-- How many words must be there. -/
def needN (k : Int) (n : Nd) : Int := if n.op = 3 ∨ n.op = 4 then max (max k (n.wd + 1)) (n.wd2 + 1) else k
def needL (ns : List Nd) : Int := ns.foldl needN 0
theorem need_take {ns : List Nd} {k : Nat} (h : k < ns.length) : needL (ns.take (k + 1)) = needN (needL (ns.take k)) (ns.getD k zNd) := by
  unfold needL
  rw [List.take_succ_eq_append_getElem h, List.foldl_append]
  simp [List.getD, h]
theorem need_bd {ns : List Nd} (hall : ∀ x ∈ ns, ndF x = 0) : ∀ k, k ≤ ns.length → 0 ≤ needL (ns.take k) ∧ needL (ns.take k) ≤ 3 := by
  intro k
  induction k with
  | zero => intro _; simp [needL]
  | succ k ih =>
    intro hk
    have h1 := ih (by omega)
    rw [need_take (by omega)]
    have hnd := hall (ns.getD k zNd) (by simp [List.getD, show k < ns.length by omega])
    obtain ⟨hr, h2, h3, h4, h5⟩ := ndF_zero hnd
    unfold needN
    split
    · rename_i h34
      have hw := hr.2.2.2.1 h34
      by_cases e4 : (ns.getD k zNd).op = 4
      · have hw2 := hr.2.2.2.2.1 e4
        omega
      · have hw2 := h3 e4
        omega
    · exact h1
theorem need_iff {ns : List Nd} (hall : ∀ x ∈ ns, ndF x = 0) (m : Nat) : ∀ k, k ≤ ns.length → (needL (ns.take k) ≤ (m : Int) ↔ ((ns.take k).all fun n => decide (¬ wdB m n)) = true) := by
  intro k
  induction k with
  | zero => intro _; simp [needL]
  | succ k ih =>
    intro hk
    have h1 := ih (by omega)
    rw [need_take (by omega), wd_take ns m (by omega), Bool.and_eq_true, ← h1, decide_eq_true_iff]
    have hnd := hall (ns.getD k zNd) (by simp [List.getD, show k < ns.length by omega])
    obtain ⟨hr, h2, h3, h4, h5⟩ := ndF_zero hnd
    unfold needN wdB
    split
    · rename_i h34
      have hw := hr.2.2.2.1 h34
      by_cases e4 : (ns.getD k zNd).op = 4
      · have hw2 := hr.2.2.2.2.1 e4
        constructor
        · intro h; omega
        · intro h; omega
      · have hw2 := (h3 e4).2
        constructor
        · intro h; omega
        · intro h; omega
    · rename_i h34
      constructor
      · intro h; exact ⟨h, by omega⟩
      · intro h; exact h.1
theorem need_all {ns : List Nd} (hall : ∀ x ∈ ns, ndF x = 0) (m : Nat) : needL ns ≤ (m : Int) ↔ (ns.all fun n => decide (¬ wdB m n)) = true := by
  have h := need_iff hall m ns.length (Nat.le_refl _)
  rw [List.take_length] at h
  exact h
theorem run_max3 {P : Program} {u v z M : Int} (hM : max (max u v) z = M) (ts : Array TypeId) (t : TypeId) (W : World) : (Builtin.max_ ts t #[.int .i64 u, .int .i64 v, .int .i64 z]).run P W = .ok (.int .i64 M) W := by
  have hv : (if z > (if v > u then v else u) then z else (if v > u then v else u)) = M := by
    rw [← hM]
    split <;> split <;> omega
  rw [← hv]
  simp [Builtin.max_, Builtin.max2]
set_option maxHeartbeats 8000000 in
set_option maxRecDepth 4000 in
theorem needs_any (a : Option Addr) (n cap : Nat) (ns : List Nd) (w : World) (hs : SlF w a n ns) (hall : ∀ x ∈ ns, ndF x = 0) : Calls Tryd.prog 49 #[.slice a n cap] w fun e w' => e = .returned (.int .i64 (needL ns)) ∧ Below w.heap.size w w' := by
  have hL := hs.1
  have hnx := hs.2.1
  unfold maxLen at hnx
  have HS := hide hs
  have HTK := hide (fun k (hk : k < n) => @need_take ns k (by omega))
  have HBD := hide (fun k (hk : k ≤ n) => need_bd hall k (by omega))
  have HND := hide (fun k (hk : k < n) => ndF_zero (hall (ns.getD k zNd) (by simp [List.getD, show k < ns.length by omega])))
  have HE : Hid (ns.take n = ns) := by show _ = _; rw [← hL]; exact List.take_length
  clear hs hall hL
  go_enter Tryd.func49, Tryd.ntmps49
  go_wp2
  go_loopw [3, 8] (fun mv jv wx => ∃ j : Nat, j ≤ n ∧ jv = .int .i64 j ∧ mv = .int .i64 (needL (ns.take j)) ∧ Below w.heap.size w wx) (fun _ jv _ => n - (intOf jv).toNat)
  case atStart => exact ⟨0, by omega, rfl, rfl, Below.refl _ _⟩
  case round =>
    obtain ⟨j, hj, rfl, rfl, hb⟩ := hrel
    have HBr := hide hb
    clear hb
    have hbd := HBD.out j hj
    by_cases hlt2 : j < n
    · have hlti2 : (j : Int) < (n : Int) := by omega
      obtain ⟨bb, oo, a', c', rfl, x0, x1, x2, x3, x4, x5, x6, -⟩ := slF_cell (slF_below HS.out HBr.out) j hlt2
      have HTj := hide (HTK.out j hlt2)
      have hz := HND.out j hlt2
      generalize ns.getD j zNd = nd at x0 x1 x2 x3 x4 x5 x6 HTj hz
      have HB1 := hide (HBr.out.alloc HBr.out.size (ndO nd a' c'))
      have HX := hide (heap_alloc_last wr (ndO nd a' c'))
      generalize hW1 : wr.alloc (ndO nd a' c') = W1 at HB1 HX
      obtain ⟨⟨z0, z1, z2, z3, z4, z5, z6⟩, -⟩ := box7_cells HX.out
      generalize needL (ns.take j) = k at hbd HTj ⊢
      by_cases h34 : nd.op = 3 ∨ nd.op = 4
      · have e34 : (nd.op == 3) = true ∨ ((nd.op == 3) = false ∧ (nd.op == 4) = true) := by
          by_cases h3 : nd.op = 3
          · exact .inl (by simp [h3])
          · exact .inr ⟨by simp [h3], by simp; omega⟩
        have hn := HTj.out
        unfold needN at hn
        rw [if_pos h34] at hn
        have HN := hide hn
        have hwd := hz.1.2.2.2.1 h34
        have hwd2 : 0 ≤ nd.wd2 ∧ nd.wd2 < 3 := by
          by_cases h4 : nd.op = 4
          · exact hz.1.2.2.2.2.1 h4
          · have := (hz.2.2.1 h4).2; omega
        obtain ⟨X, hX⟩ : ∃ X, X = nd.wd + 1 := ⟨_, rfl⟩
        obtain ⟨Y, hY⟩ : ∃ Y, Y = nd.wd2 + 1 := ⟨_, rfl⟩
        have hw1 : IntKind.i64.wrap (nd.wd + 1) = X := by rw [hX]; exact wrap_small (by omega) (by omega)
        have hw2 : IntKind.i64.wrap (nd.wd2 + 1) = Y := by rw [hY]; exact wrap_small (by omega) (by omega)
        rw [← hX, ← hY] at HN
        obtain ⟨M, hM⟩ : ∃ M, max (max k X) Y = M := ⟨_, rfl⟩
        rw [hM] at HN
        have hmx := @run_max3 Tryd.prog k X Y M hM
        clear h34 hn hz HTj hX hY hM
        rcases e34 with e3 | ⟨e3, e4⟩
        all_goals
          go_wp2
          go_roundw
          case rel => exact ⟨j + 1, by omega, by go_num, by rw [HN.out], HB1.out⟩
          case measure => simp [intOf]; omega
      · have e3 : (nd.op == 3) = false := by simp; omega
        have e4 : (nd.op == 4) = false := by simp; omega
        have hn := HTj.out
        unfold needN at hn
        rw [if_neg h34] at hn
        have HN := hide hn
        clear h34 hn hz HTj
        go_wp2
        go_roundw
        case rel => exact ⟨j + 1, by omega, by go_num, by rw [HN.out], HB1.out⟩
        case measure => simp [intOf]; omega
    · have hlti2 : ¬ (j : Int) < (n : Int) := by omega
      obtain rfl : j = n := by omega
      go_wp2
      go_ret
      exact ⟨by rw [HE.out]; rfl, HBr.out⟩
end Go.Proofs.YtgbmemkoggogdaaDoor

/- Package formula: varsOf: contract; arrays of five truths. -/
namespace Go.Proofs.YtgbmemkoggogdaaDoor
open Go.RowKit

def bArr (l : List Bool) : Array Value := (l.map Value.bool).toArray
theorem bArr_get (l : List Bool) (k : Nat) (h : k < l.length) : (bArr l)[k]? = some (.bool (l.getD k false)) := by simp [bArr, h]
theorem bArr_set (l : List Bool) (k : Nat) (b : Bool) : (bArr l).setIfInBounds k (.bool b) = bArr (l.set k b) := by
  unfold bArr
  rw [List.setIfInBounds_toArray, List.map_set]
theorem index58 (C : Array Value) (k : Nat) (hk : k < 5) (v : Value) (hv : C[k]? = some v) (W : World) : (Instr.index 95 (.agg C) (.int .i64 k)).run Tryd.prog W = .ok v W := by
  simp [Instr.index, asIntOf, run_underlying Tryd.underlying95, part, Tryd.isAgg4, Tryd.sizeOf4, hv]
  omega
/-- An array of five truths in a block. -/
abbrev BoAt (W : World) (B : Nat) (l : List Bool) : Prop := W.heap[B]? = some (.cells (bArr l) 95 (0, 0))
theorem bo_cell {W : World} {B : Nat} {l : List Bool} (h : BoAt W B l) {k : Nat} (hk : k < l.length) : W.cell? ⟨B, k, none⟩ = some (.bool (l.getD k false)) ∧ W.frozen? ⟨B, k, none⟩ = false := by
  refine ⟨?_, by simp [World.frozen?, h]⟩
  rw [cell_of_row _ _ k _ _ _ h, bArr_get _ _ hk]
theorem bo_set {W : World} {B : Nat} {l : List Bool} (h : BoAt W B l) (k : Nat) (b : Bool) : BoAt (W.setCell ⟨B, k, none⟩ (.bool b)) B (l.set k b) := by
  have := heap_setCell_at (k := k) (v := .bool b) h
  rw [bArr_set] at this
  exact this
theorem heap3_snd (w : World) (o o' o'' : Obj) : (((w.alloc o).alloc o').alloc o'').heap[w.heap.size + 1]? = some o' := by
  rw [Below.heap_alloc _ _ _ (by simp), heap_alloc2_snd]
def useL (n : Nd) : List Bool := [useB n 0, useB n 1, useB n 2, useB n 3, useB n 4]
def zb5 : List Bool := [false, false, false, false, false]
/-- The first k coefficients that are not 0. -/
def nzK (cf : List Int) (k : Nat) : List Bool := (List.range 5).map fun i => decide (i < k) && decide (cf.getD i 0 ≠ 0)
theorem nzK_len (cf : List Int) (k : Nat) : (nzK cf k).length = 5 := by simp [nzK]
theorem nzK_set (cf : List Int) (k : Nat) : (nzK cf k).set k (decide (cf.getD k 0 ≠ 0)) = nzK cf (k + 1) := by
  apply List.ext_getElem?
  intro i
  unfold nzK
  by_cases e : k = i
  · subst e
    by_cases h5 : k < 5
    · rw [List.getElem?_set_self (by simpa using h5)]
      simp [h5]
    · rw [List.getElem?_eq_none (by simp; omega), List.getElem?_eq_none (by simp; omega)]
  · rw [List.getElem?_set_ne e]
    by_cases h5 : i < 5
    · simp only [List.getElem?_map, List.getElem?_range h5, Option.map_some]
      congr 1
      have : decide (i < k) = decide (i < k + 1) := decide_eq_decide.2 (by omega)
      rw [this]
    · rw [List.getElem?_eq_none (by simp; omega), List.getElem?_eq_none (by simp; omega)]
theorem nzK_end {n : Nd} (h : n.op = 1 ∨ n.op = 2) : nzK n.cf n.cf.length = useL n := by
  have hi : ∀ i : Nat, (decide (i < n.cf.length) && decide (n.cf.getD i 0 ≠ 0)) = useB n (i : Int) := fun i => by
    unfold useB
    rw [if_pos h, Int.toNat_natCast]
    congr 1
    exact decide_eq_decide.2 (by omega)
  show [_, _, _, _, _] = _
  unfold useL
  simp only [hi]
  rfl
theorem use_var {n : Nd} (h : n.op = 3) (hv : 0 ≤ n.var ∧ n.var < 5) : zb5.set n.var.toNat true = useL n := by
  have hi : ∀ i : Int, useB n i = decide (n.var = i) := fun i => by
    unfold useB
    rw [if_neg (by omega)]
    simp [h]
  unfold useL
  simp only [hi]
  obtain ⟨q, hq⟩ : ∃ q : Nat, n.var = (q : Int) := ⟨n.var.toNat, by omega⟩
  rw [hq] at hv ⊢
  have : q < 5 := by omega
  match q, this with
  | 0, _ => rfl
  | 1, _ => rfl
  | 2, _ => rfl
  | 3, _ => rfl
  | 4, _ => rfl
theorem use_two {n : Nd} (h : n.op = 4) (hv : 0 ≤ n.var ∧ n.var < 5) (ho : 0 ≤ n.oth ∧ n.oth < 5) : (zb5.set n.var.toNat true).set n.oth.toNat true = useL n := by
  have hi : ∀ i : Int, useB n i = (decide (n.var = i) || decide (n.oth = i)) := fun i => by
    unfold useB
    rw [if_neg (by omega)]
    simp [h]
  unfold useL
  simp only [hi]
  obtain ⟨q, hq⟩ : ∃ q : Nat, n.var = (q : Int) := ⟨n.var.toNat, by omega⟩
  obtain ⟨r, hr⟩ : ∃ r : Nat, n.oth = (r : Int) := ⟨n.oth.toNat, by omega⟩
  rw [hq] at hv ⊢
  rw [hr] at ho ⊢
  have h1 : q < 5 := by omega
  have h2 : r < 5 := by omega
  have key : ∀ q r : Fin 5, (zb5.set q.val true).set r.val true = [decide (((q.val : Nat) : Int) = 0) || decide (((r.val : Nat) : Int) = 0), decide (((q.val : Nat) : Int) = 1) || decide (((r.val : Nat) : Int) = 1), decide (((q.val : Nat) : Int) = 2) || decide (((r.val : Nat) : Int) = 2), decide (((q.val : Nat) : Int) = 3) || decide (((r.val : Nat) : Int) = 3), decide (((q.val : Nat) : Int) = 4) || decide (((r.val : Nat) : Int) = 4)] := by decide +kernel
  exact key ⟨q, h1⟩ ⟨r, h2⟩
theorem use_none {n : Nd} (h : 5 ≤ n.op) : zb5 = useL n := by
  have hi : ∀ i : Int, useB n i = false := fun i => by
    unfold useB
    rw [if_neg (by omega)]
    simp
    omega
  unfold useL
  simp only [hi]
  rfl
theorem box5_cells {W : World} {B : Nat} {v0 v1 v2 v3 v4 : Value} {T : TypeId} (h : W.heap[B]? = some (.cells #[v0, v1, v2, v3, v4] T (0, 0))) : (W.cell? ⟨B, 0, none⟩ = some v0 ∧ W.cell? ⟨B, 1, none⟩ = some v1 ∧ W.cell? ⟨B, 2, none⟩ = some v2 ∧ W.cell? ⟨B, 3, none⟩ = some v3 ∧ W.cell? ⟨B, 4, none⟩ = some v4) ∧ W.frozen? ⟨B, 0, none⟩ = false ∧ W.frozen? ⟨B, 1, none⟩ = false ∧ W.frozen? ⟨B, 2, none⟩ = false ∧ W.frozen? ⟨B, 3, none⟩ = false ∧ W.frozen? ⟨B, 4, none⟩ = false := by
  refine ⟨⟨by simp [World.cell?, h], by simp [World.cell?, h], by simp [World.cell?, h], by simp [World.cell?, h], by simp [World.cell?, h]⟩, by simp [World.frozen?, h], by simp [World.frozen?, h], by simp [World.frozen?, h], by simp [World.frozen?, h], by simp [World.frozen?, h]⟩
theorem box5_set {W : World} {B : Nat} {u0 u1 u2 u3 u4 v0 v1 v2 v3 v4 : Value} {T : TypeId} (h : W.heap[B]? = some (.cells #[u0, u1, u2, u3, u4] T (0, 0))) : (((((W.setCell ⟨B, 0, none⟩ v0).setCell ⟨B, 1, none⟩ v1).setCell ⟨B, 2, none⟩ v2).setCell ⟨B, 3, none⟩ v3).setCell ⟨B, 4, none⟩ v4).heap[B]? = some (.cells #[v0, v1, v2, v3, v4] T (0, 0)) := by
  simp [World.setCell, Array.getElem?_modify, h]
/-- Five stores into a row of five: the world behind. -/
theorem five_behind {k B : Nat} {w W : World} {u0 u1 u2 u3 u4 : Value} {T : TypeId} (h : W.heap[B]? = some (.cells #[u0, u1, u2, u3, u4] T (0, 0))) (hb : Below k w W) (hk : k ≤ B) (v0 v1 v2 v3 v4 : Value) : ∃ Wf, (((((W.setCell ⟨B, 0, none⟩ v0).setCell ⟨B, 1, none⟩ v1).setCell ⟨B, 2, none⟩ v2).setCell ⟨B, 3, none⟩ v3).setCell ⟨B, 4, none⟩ v4) = Wf ∧ Wf.heap[B]? = some (.cells #[v0, v1, v2, v3, v4] T (0, 0)) ∧ Below k w Wf :=
  ⟨_, rfl, box5_set h, ((((hb.setCell hk _).setCell hk _).setCell hk _).setCell hk _).setCell hk _⟩
theorem five_of {l : List Bool} (h : l.length = 5) : ∃ b0 b1 b2 b3 b4, l = [b0, b1, b2, b3, b4] := by
  match l, h with
  | [b0, b1, b2, b3, b4], _ => exact ⟨b0, b1, b2, b3, b4, rfl⟩
theorem useL_len (n : Nd) : (useL n).length = 5 := rfl
def VarsR (w : World) (n : Nd) (e : Ending) (w' : World) : Prop := e = .returned (.agg (bArr (useL n))) ∧ Below w.heap.size w w'
set_option maxHeartbeats 8000000 in
set_option maxRecDepth 4000 in
theorem varsOf_any (n : Nd) (a : Option Addr) (c : Nat) (w : World) (hs : Sl w a n.cf.length n.cf) (hok : ndF n = 0) : Calls Tryd.prog 76 #[ndV n a c] w (VarsR w n) := by
  obtain ⟨hr, hsh⟩ := ndF_zero hok
  have hop := hr.1
  have hB1 := (Below.refl w.heap.size w).alloc (Nat.le_refl _) (ndO n a c)
  have hB2 := hB1.alloc hB1.size (.cells #[.bool false, .bool false, .bool false, .bool false, .bool false] 95)
  have hB3 := hB2.alloc hB2.size (.cells #[.bool false, .bool false, .bool false, .bool false, .bool false] 95)
  have HB := hide hB3
  unfold ndV
  by_cases h5 : 5 ≤ n.op
  · have HU := hide (use_none h5)
    have e1 : (n.op == 1) = false := by simp; omega
    have e2 : (n.op == 2) = false := by simp; omega
    have e3 : (n.op == 3) = false := by simp; omega
    have e4 : (n.op == 4) = false := by simp; omega
    clear hr hsh hop hok h5 hs hB1 hB2 hB3
    go_enter Tryd.func76, Tryd.ntmps76
    go_wp2
    exact bodyPost_ret (v := .agg #[.bool false, .bool false, .bool false, .bool false, .bool false]) (by simp [results, Tryd.results76, go_sem]) rfl ⟨by rw [← HU.out]; rfl, HB.out⟩
  have HX := hide (heap_alloc3_fst w (ndO n a c) (.cells #[.bool false, .bool false, .bool false, .bool false, .bool false] 95) (.cells #[.bool false, .bool false, .bool false, .bool false, .bool false] 95))
  have HR2 : Hid (BoAt (((w.alloc (ndO n a c)).alloc (.cells #[.bool false, .bool false, .bool false, .bool false, .bool false] 95)).alloc (.cells #[.bool false, .bool false, .bool false, .bool false, .bool false] 95)) (w.heap.size + 1) zb5) := heap3_snd w _ _ _
  have HR3 : Hid (BoAt (((w.alloc (ndO n a c)).alloc (.cells #[.bool false, .bool false, .bool false, .bool false, .bool false] 95)).alloc (.cells #[.bool false, .bool false, .bool false, .bool false, .bool false] 95)) (w.heap.size + 1 + 1) zb5) := heap_alloc3_last w _ _ _
  have HS := hide hs
  have hmx := hs.2.1
  unfold maxLen at hmx
  have HFIN : Hid (∀ (W : World) (l : List Bool), BoAt W (w.heap.size + 1) zb5 → BoAt W (w.heap.size + 1 + 1) l → l.length = 5 → ∃ b0 b1 b2 b3 b4, l = [b0, b1, b2, b3, b4] ∧ W.heap[w.heap.size + 1]? = some (.cells #[.bool false, .bool false, .bool false, .bool false, .bool false] 95 (0, 0)) ∧ W.heap[w.heap.size + 1 + 1]? = some (.cells #[.bool b0, .bool b1, .bool b2, .bool b3, .bool b4] 95 (0, 0))) := fun W l h1 h2 h3 => by
    obtain ⟨b0, b1, b2, b3, b4, rfl⟩ := five_of h3
    exact ⟨b0, b1, b2, b3, b4, rfl, h1, h2⟩
  obtain ⟨op, var, oth, wd, wd2, num, cf⟩ := n
  simp only at HX HR2 HR3 HB HS hmx h5 hop ⊢
  generalize hW3 : ((w.alloc (ndO ⟨op, var, oth, wd, wd2, num, cf⟩ a c)).alloc (.cells #[.bool false, .bool false, .bool false, .bool false, .bool false] 95)).alloc (.cells #[.bool false, .bool false, .bool false, .bool false, .bool false] 95) = W3 at HX HR2 HR3 HB
  clear hB1 hB2 hB3 hs
  obtain ⟨z0, z1, z2, z3, z4, z5, z6⟩ := (box7_cells HX.out).1
  by_cases h3 : op = 3
  · have hv := hr.2.1 (.inl h3)
    simp only at hv
    have HU := hide (use_var (n := ⟨op, var, oth, wd, wd2, num, cf⟩) h3 hv)
    obtain ⟨q, rfl⟩ : ∃ q : Nat, var = (q : Int) := ⟨var.toNat, by omega⟩
    have hq5 : q < 5 := by omega
    have hq5i : (q : Int) < 5 := by omega
    obtain ⟨hc, hf⟩ := bo_cell HR3.out (k := q) hq5
    have HN := hide (bo_set HR3.out q true)
    have HN2 : Hid (BoAt (W3.setCell ⟨w.heap.size + 1 + 1, q, none⟩ (.bool true)) (w.heap.size + 1) zb5) := by show _ = _; rw [Below.heap_setCell _ _ _ _ (show w.heap.size + 1 ≠ w.heap.size + 1 + 1 by omega)]; exact HR2.out
    have HBN : Hid (Below w.heap.size w (W3.setCell ⟨w.heap.size + 1 + 1, q, none⟩ (.bool true))) := HB.out.setCell (show w.heap.size ≤ w.heap.size + 1 + 1 by omega) _
    have e1 : (op == 1) = false := by simp [h3]
    have e2 : (op == 2) = false := by simp [h3]
    have e3 : (op == 3) = true := by simp [h3]
    simp only [Int.toNat_natCast] at HU
    clear hr hsh hop hok h5 h3 hv
    obtain ⟨b0, b1, b2, b3, b4, hl, g1, g2⟩ := HFIN.out _ _ HN2.out HN.out (by simp [zb5])
    rw [hl] at HU
    generalize hWs : W3.setCell ⟨w.heap.size + 1 + 1, q, none⟩ (.bool true) = Ws at HN HN2 HBN g1 g2
    obtain ⟨⟨y0, y1, y2, y3, y4⟩, -⟩ := box5_cells g2
    obtain ⟨⟨x0, x1, x2, x3, x4⟩, f0, f1, f2, f3, f4⟩ := box5_cells g1
    obtain ⟨Wf, hWf, g3, hbf⟩ := five_behind g1 HBN.out (by omega) (.bool b0) (.bool b1) (.bool b2) (.bool b3) (.bool b4)
    obtain ⟨⟨t0, t1, t2, t3, t4⟩, -⟩ := box5_cells g3
    clear hl HN HN2 g1 g2 g3
    go_enter Tryd.func76, Tryd.ntmps76
    go_wp2
    exact bodyPost_ret (v := .agg #[.bool b0, .bool b1, .bool b2, .bool b3, .bool b4]) (by simp [results, Tryd.results76, go_sem, t0, t1, t2, t3, t4]) rfl ⟨by rw [← HU.out]; rfl, hbf⟩
  by_cases h4 : op = 4
  · have hv := hr.2.1 (.inr (.inl h4))
    have ho := hr.2.2.1 h4
    simp only at hv ho
    have HU := hide (use_two (n := ⟨op, var, oth, wd, wd2, num, cf⟩) h4 hv ho)
    obtain ⟨q, rfl⟩ : ∃ q : Nat, var = (q : Int) := ⟨var.toNat, by omega⟩
    obtain ⟨r, rfl⟩ : ∃ r : Nat, oth = (r : Int) := ⟨oth.toNat, by omega⟩
    have hq5 : q < 5 := by omega
    have hq5i : (q : Int) < 5 := by omega
    have hr5 : r < 5 := by omega
    have hr5i : (r : Int) < 5 := by omega
    obtain ⟨hc, hf⟩ := bo_cell HR3.out (k := q) hq5
    have HN := hide (bo_set HR3.out q true)
    obtain ⟨hc2, hf2⟩ := bo_cell HN.out (k := r) (by simpa [zb5] using hr5)
    have HM := hide (bo_set HN.out r true)
    have HM2 : Hid (BoAt ((W3.setCell ⟨w.heap.size + 1 + 1, q, none⟩ (.bool true)).setCell ⟨w.heap.size + 1 + 1, r, none⟩ (.bool true)) (w.heap.size + 1) zb5) := by show _ = _; rw [Below.heap_setCell _ _ _ _ (show w.heap.size + 1 ≠ w.heap.size + 1 + 1 by omega), Below.heap_setCell _ _ _ _ (show w.heap.size + 1 ≠ w.heap.size + 1 + 1 by omega)]; exact HR2.out
    have HBN : Hid (Below w.heap.size w ((W3.setCell ⟨w.heap.size + 1 + 1, q, none⟩ (.bool true)).setCell ⟨w.heap.size + 1 + 1, r, none⟩ (.bool true))) := (HB.out.setCell (show w.heap.size ≤ w.heap.size + 1 + 1 by omega) _).setCell (show w.heap.size ≤ w.heap.size + 1 + 1 by omega) _
    have e1 : (op == 1) = false := by simp [h4]
    have e2 : (op == 2) = false := by simp [h4]
    have e3 : (op == 3) = false := by simp [h4]
    have e4 : (op == 4) = true := by simp [h4]
    simp only [Int.toNat_natCast] at HU
    clear hr hsh hop hok h5 h3 h4 hv ho
    obtain ⟨b0, b1, b2, b3, b4, hl, g1, g2⟩ := HFIN.out _ _ HM2.out HM.out (by simp [zb5])
    rw [hl] at HU
    generalize hWs : (W3.setCell ⟨w.heap.size + 1 + 1, q, none⟩ (.bool true)).setCell ⟨w.heap.size + 1 + 1, r, none⟩ (.bool true) = Ws at HM HM2 HBN g1 g2
    have HG1 : Hid (Ws.drew.heap[w.heap.size + 1]? = _) := g1
    have HG2 : Hid (Ws.drew.heap[w.heap.size + 1 + 1]? = _) := g2
    have HBD := hide HBN.out.drew
    clear hl HM HM2 g1 g2
    go_enter Tryd.func76, Tryd.ntmps76
    go_wp2
    go_region
    clear hWs hW3 z0 z1 z2 z3 z4 z5 z6 hc hf hc2 hf2
    generalize Ws.drew = Wd at HG1 HG2 HBD ⊢
    obtain ⟨⟨y0, y1, y2, y3, y4⟩, -⟩ := box5_cells HG2.out
    obtain ⟨⟨x0, x1, x2, x3, x4⟩, f0, f1, f2, f3, f4⟩ := box5_cells HG1.out
    obtain ⟨Wf, hWf, g3, hbf⟩ := five_behind HG1.out HBD.out (by omega) (.bool b0) (.bool b1) (.bool b2) (.bool b3) (.bool b4)
    obtain ⟨⟨t0, t1, t2, t3, t4⟩, -⟩ := box5_cells g3
    clear g3
    go_wp2
    exact bodyPost_ret (v := .agg #[.bool b0, .bool b1, .bool b2, .bool b3, .bool b4]) (by simp [results, Tryd.results76, go_sem, t0, t1, t2, t3, t4]) rfl ⟨by rw [← HU.out]; rfl, hbf⟩
  have h12 : op = 1 ∨ op = 2 := by omega
  have HU := hide (nzK_end (n := ⟨op, var, oth, wd, wd2, num, cf⟩) h12)
  have h5c : cf.length ≤ 5 := (hr.2.2.2.2.2.2 h12).1
  have HZ0 : Hid (nzK cf 0 = zb5) := by show _ = _; unfold nzK; simp; rfl
  have e12 : (op == 1) = true ∨ ((op == 1) = false ∧ (op == 2) = true) := by
    rcases h12 with h | h
    · exact .inl (by simp [h])
    · exact .inr ⟨by simp [h], by simp [h]⟩
  simp only at HU
  have HLN := hide (fun k => nzK_len cf k)
  have HST := hide (fun k => nzK_set cf k)
  have HB0 : Hid (BoAt W3 (w.heap.size + 1 + 1) (nzK cf 0)) := by show BoAt _ _ _; rw [HZ0.out]; exact HR3.out
  clear hr hsh hop hok h5 h3 h4 h12 HZ0
  rcases e12 with e1 | ⟨e1, e2⟩
  all_goals
    go_enter Tryd.func76, Tryd.ntmps76
    go_wp2
    clear hW3 z0 z1 z2 z3 z4 z5 z6
    go_loopw [14] (fun iv wx => ∃ k : Nat, k ≤ cf.length ∧ iv = .int .i64 k ∧ BoAt wx (w.heap.size + 1) zb5 ∧ BoAt wx (w.heap.size + 1 + 1) (nzK cf k) ∧ Below w.heap.size w wx) (fun iv _ => cf.length - (intOf iv).toNat)
    case atStart => exact ⟨0, by omega, rfl, HR2.out, HB0.out, HB.out⟩
    case round =>
      obtain ⟨k, hk, rfl, g1, g2, hb⟩ := hrel
      have HBr := hide hb
      have HG1 := hide g1
      have HG2 := hide g2
      by_cases hlt : k < cf.length
      · have hlti : (k : Int) < (cf.length : Int) := by omega
        have hk5 : (k : Int) < 5 := by omega
        obtain ⟨bo, oo, rfl, hc⟩ := sl_cell (sl_below HS.out hb) k hlt
        obtain ⟨hd, hf⟩ := bo_cell g2 (k := k) (by rw [HLN.out]; omega)
        have HNS := hide (HST.out k)
        rw [← ne_dec] at HNS
        clear g1 g2 hb
        generalize cf.getD k 0 = z at hc HNS
        generalize (nzK cf k).getD k false = y at hd
        go_wp2
        go_roundw
        case rel => exact ⟨k + 1, by omega, by go_num, by show _ = _; rw [Below.heap_setCell _ _ _ _ (show w.heap.size + 1 ≠ w.heap.size + 1 + 1 by omega)]; exact HG1.out, by rw [← HNS.out]; exact bo_set HG2.out k _, HBr.out.setCell (show w.heap.size ≤ w.heap.size + 1 + 1 by omega) _⟩
        case measure => simp [intOf]; omega
      · have hlti : ¬ (k : Int) < (cf.length : Int) := by omega
        obtain rfl : k = cf.length := by omega
        rw [HU.out] at g2
        obtain ⟨b0, b1, b2, b3, b4, hl, g1', g2'⟩ := HFIN.out _ _ g1 g2 (useL_len _)
        have HUL := hide hl
        obtain ⟨⟨y0, y1, y2, y3, y4⟩, -⟩ := box5_cells g2'
        obtain ⟨⟨x0, x1, x2, x3, x4⟩, f0, f1, f2, f3, f4⟩ := box5_cells g1'
        obtain ⟨Wf, hWf, g3, hbf⟩ := five_behind g1' hb (by omega) (.bool b0) (.bool b1) (.bool b2) (.bool b3) (.bool b4)
        obtain ⟨⟨t0, t1, t2, t3, t4⟩, -⟩ := box5_cells g3
        clear g3 g1 g2 g1' g2' hl hb
        go_wp2
        exact bodyPost_ret (v := .agg #[.bool b0, .bool b1, .bool b2, .bool b3, .bool b4]) (by simp [results, Tryd.results76, go_sem, t0, t1, t2, t3, t4]) rfl ⟨by rw [HUL.out]; rfl, hbf⟩
end Go.Proofs.YtgbmemkoggogdaaDoor
