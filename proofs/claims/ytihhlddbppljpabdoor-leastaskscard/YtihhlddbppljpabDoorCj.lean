/- The reference's Earliest: contract. -/
import Derived.Test.YtihhlddbppljpabDoorAx
import Derived.Test.YtihhlddbppljpabDoorCe
import Derived.BigRegion
namespace Go.Proofs.YtihhlddbppljpabDoor
open Go.RowKit

/-- From which state one was met, and by which letter. -/
def entP (o : List (Int × List Int)) (q : Nat) : Option (Int × List Int) := o.find? fun p => p.1 == (q : Int)
def fromF (N : List (List Int)) (o : List (Int × List Int)) (q : Nat) : Int := match entP o q with | some p => if p.2 = [] then -1 else (runL N p.2.dropLast : Int) | none => -1
def howF (o : List (Int × List Int)) (q : Nat) : Int := match entP o q with | some p => p.2.getLastD 0 | none => 0
theorem entP_none {o : List (Int × List Int)} {q : Nat} (h : ¬ (q : Int) ∈ o.map Prod.fst) : entP o q = none := by
  unfold entP
  rw [List.find?_eq_none]
  intro p hp e
  exact h (List.mem_map.2 ⟨p, hp, by simpa using e⟩)
theorem entP_some {o : List (Int × List Int)} (hB : BackP o) {p : Int × List Int} (hp : p ∈ o) {q : Nat} (hq : p.1 = (q : Int)) : entP o q = some p := by
  cases e : entP o q with
  | none =>
    unfold entP at e
    rw [List.find?_eq_none] at e
    exact absurd (e p hp) (by simp [hq])
  | some p' =>
    have h1 := List.mem_of_find?_eq_some e
    have h2 := List.find?_some e
    rw [nodup_fst hB.2.1 h1 hp (by rw [hq]; simpa using h2)]
theorem entP_put {o : List (Int × List Int)} {x : Nat} {u : List Int} (h : ¬ (x : Int) ∈ o.map Prod.fst) (q : Nat) : entP (o ++ [((x : Int), u)]) q = if q = x then some ((x : Int), u) else entP o q := by
  unfold entP
  rw [List.find?_append]
  by_cases e : q = x
  · subst e
    rw [if_pos rfl]
    have := entP_none h
    unfold entP at this
    rw [this]; simp
  · rw [if_neg e]
    have : List.find? (fun p : Int × List Int => p.1 == (q : Int)) [((x : Int), u)] = none := by
      simp
      omega
    rw [this]; simp
theorem fromF_put {N : List (List Int)} {o : List (Int × List Int)} {x : Nat} {wd : List Int} {l : Nat} {s : Nat} (hs : runL N wd = s) (h : ¬ (x : Int) ∈ o.map Prod.fst) (q : Nat) : fromF N (o ++ [((x : Int), wd ++ [(l : Int)])]) q = if q = x then (s : Int) else fromF N o q := by
  unfold fromF
  rw [entP_put h]
  by_cases e : q = x
  · rw [if_pos e, if_pos e]; simp [hs]
  · rw [if_neg e, if_neg e]
theorem howF_put {o : List (Int × List Int)} {x : Nat} {wd : List Int} {l : Nat} (h : ¬ (x : Int) ∈ o.map Prod.fst) (q : Nat) : howF (o ++ [((x : Int), wd ++ [(l : Int)])]) q = if q = x then (l : Int) else howF o q := by
  unfold howF
  rw [entP_put h]
  by_cases e : q = x
  · rw [if_pos e, if_pos e]; simp
  · rw [if_neg e, if_neg e]
theorem fromF_no {N : List (List Int)} {o : List (Int × List Int)} {q : Nat} (h : ¬ (q : Int) ∈ o.map Prod.fst) : fromF N o q = -1 := by unfold fromF; rw [entP_none h]
theorem fromF_yes {N : List (List Int)} {m : Nat} {o : List (Int × List Int)} (hO : OkP N m o) (hB : BackP o) {q : Nat} (h : (q : Int) ∈ o.map Prod.fst) (hq : q ≠ 0) : 0 ≤ fromF N o q := by
  obtain ⟨p, hp, e⟩ := List.mem_map.1 h
  unfold fromF
  rw [entP_some hB hp e]
  have h1 := (hO.run p hp).2.2
  have : p.2 ≠ [] := fun e' => by rw [e', e] at h1; simp [runL] at h1; omega
  simp only [if_neg this]
  omega
theorem rowP_okP {m n : Nat} {N : List (List Int)} (hG : GoodN m n N) {i l : Nat} (hi : i < (outsP N i).length) (hl : l ≤ m) : OkP N m (rowP N i l) := by
  obtain ⟨h1, h2, _⟩ := stP hG i
  obtain ⟨r1, r2, r3⟩ := h1.run _ (getD_memP hi)
  have hsn := (outs_ok hG i).2 ((outsP N i).getD i (0, [])).1 (by rw [← outsP_fst]; exact List.mem_map_of_mem (getD_memP hi))
  have hrow := hG.2.2.2.2.2 ((outsP N i).getD i (0, [])).1.toNat (by omega)
  refine (okP_row (m := m) ⟨r1, r3⟩ ((N.getD ((outsP N i).getD i (0, [])).1.toNat []).take l) 0 (outsP N i) (by rw [List.length_take]; omega) (fun j hj => ?_) h1 (by simpa using h2 hi)).1
  rw [List.length_take] at hj
  have := hrow.2 j (by omega)
  rw [Nat.zero_add]
  have e : ((N.getD ((outsP N i).getD i (0, [])).1.toNat []).take l).getD j 0 = (N.getD ((outsP N i).getD i (0, [])).1.toNat []).getD j 0 := by
    rw [getD_at _ j (by rw [List.length_take]; omega), getD_at _ j (by omega), List.getElem_take]
  rw [e]
  unfold stepL
  rw [Int.toNat_natCast]
  omega
/-- The way back, in these two. -/
theorem back_from {N : List (List Int)} {m : Nat} {o : List (Int × List Int)} (hO : OkP N m o) (hB : BackP o) {p : Int × List Int} (hp : p ∈ o) {j : Nat} (hj : j < p.2.length) : fromF N o (runL N (p.2.take (j + 1))) = (runL N (p.2.take j) : Int) ∧ howF o (runL N (p.2.take (j + 1))) = p.2.getD j 0 := by
  have h1 := way_at hO hB hp (show j + 1 ≤ p.2.length from hj)
  have e : p.2.take (j + 1) = p.2.take j ++ [p.2.getD j 0] := by rw [List.take_succ_eq_append_getElem hj, getD_at _ j hj]
  have h2 := entP_some hB h1 (q := runL N (p.2.take (j + 1))) rfl
  unfold fromF howF
  rw [h2]
  simp only [e, List.dropLast_concat, List.getLastD_concat]
  simp
theorem met_outsP {m n : Nat} {N : List (List Int)} (hG : GoodN m n N) {i : Nat} (hi : i < (metL N).length) : i < (outsP N i).length ∧ (metL N).getD i 0 = ((outsP N i).getD i (0, [])).1 := by
  have hml := met_len hG
  have hlt : i < (outs N i).length := by
    rcases Nat.lt_or_ge i (outs N i).length with h | h
    · exact h
    · have := outs_end hG i h (by omega)
      rw [← this] at hi
      omega
  have hp : outs N i <+: metL N := by
    have := outs_pre N i (n - i)
    unfold metL
    rwa [show i + (n - i) = N.length by rw [hG.1]; omega] at this
  refine ⟨by rw [outsP_len]; exact hlt, ?_⟩
  rw [pre_getD hp i hlt, fst_get, outsP_fst]
theorem met_metP {m n : Nat} {N : List (List Int)} (hG : GoodN m n N) : outsP N (metL N).length = metP N ∧ (metP N).map Prod.fst = metL N := by
  have e : (metP N).map Prod.fst = metL N := by unfold metP metL; exact outsP_fst N _
  refine ⟨outsP_end hG ?_ (met_len hG), e⟩
  rw [outsP_len]
  have hp : outs N (metL N).length <+: metL N := by
    have h := met_len hG
    have := outs_pre N (metL N).length (n - (metL N).length)
    rw [show (metL N).length + (n - (metL N).length) = n by omega] at this
    have e2 : metL N = outs N n := by unfold metL; rw [hG.1]
    rw [e2] at this ⊢
    exact this
  exact hp.length_le
theorem find_at {N : List (List Int)} {E : List Bool} {i : Nat} (hi : i < (metP N).length) (h : ∀ k, k < i → E.getD ((metP N).getD k (0, [])).1.toNat false = false) (he : E.getD ((metP N).getD i (0, [])).1.toNat false = true) : firstP N E = some ((metP N).getD i (0, [])) := by
  have eg : ∀ k (hk : k < (metP N).length), (metP N)[k] = (metP N).getD k (0, []) := fun k hk => by simp [List.getD, hk]
  unfold firstP
  rw [List.find?_eq_some_iff_getElem]
  refine ⟨he, i, hi, eg i hi, fun j hj => ?_⟩
  rw [eg j (by omega)]
  show (!(E.getD _ false)) = true
  rw [h j hj]; rfl
theorem find_no {N : List (List Int)} {E : List Bool} (h : ∀ k, k < (metP N).length → E.getD ((metP N).getD k (0, [])).1.toNat false = false) : firstP N E = none := by
  unfold firstP
  rw [List.find?_eq_none]
  intro p hp
  obtain ⟨k, hk, rfl⟩ := List.getElem_of_mem hp
  have := h k hk
  rw [show (metP N).getD k (0, []) = (metP N)[k] by simp [List.getD, hk]] at this
  simpa using this

/-- The two rows, and all that was there beside them. -/
def EaAt (N : List (List Int)) (n : Nat) (w w2 : World) (o : List (Int × List Int)) (wx : World) : Prop :=
  (wx.rowIs w.heap.size 3 n fun q => .int .i64 (fromF N o q)) ∧ (wx.rowIs (w.heap.size + 1) 3 n fun q => .int .i64 (howF o q)) ∧ Below w.heap.size w wx ∧ (∀ x, x < w2.heap.size → x ≠ w.heap.size → x ≠ w.heap.size + 1 → wx.heap[x]? = w2.heap[x]?) ∧ w2.heap.size ≤ wx.heap.size
theorem eaAt_drew {N : List (List Int)} {n : Nat} {w w2 : World} {o : List (Int × List Int)} {wx : World} (h : EaAt N n w w2 o wx) (k : Nat) : EaAt N n w w2 o (wx.drewN k) := by
  obtain ⟨h1, h2, h3, h4, h5⟩ := h
  exact ⟨h1, h2, below_drewN h3 k, h4, h5⟩
theorem eaAt_sl {N : List (List Int)} {n : Nat} {w w1 w2 : World} {o : List (Int × List Int)} {wx : World} (h : EaAt N n w w2 o wx) {a : Option Addr} {len : Nat} {l : List Int} (hs : SlN w1.heap.size w2 a len l) (h1 : w.heap.size + 2 ≤ w1.heap.size) : Sl wx a len l := by
  refine sl_keep hs.1 fun x hx => ?_
  have hlt := slB_lt hs.1 hx
  obtain ⟨_, ad, e, rfl⟩ := hx
  have := hs.2 ad e
  exact h.2.2.2.1 _ hlt (by omega) (by omega)
theorem eaAt_put {N : List (List Int)} {n : Nat} {w w2 : World} {o : List (Int × List Int)} {wx : World} {x l s : Nat} {wd : List Int} (h : EaAt N n w w2 o wx) (hx : ¬ (x : Int) ∈ o.map Prod.fst) (hs : runL N wd = s) :
    EaAt N n w w2 (o ++ [((x : Int), wd ++ [(l : Int)])]) ((wx.setCell ⟨w.heap.size, x, none⟩ (.int .i64 (s : Int))).setCell ⟨w.heap.size + 1, x, none⟩ (.int .i64 (l : Int))) := by
  obtain ⟨h1, h2, h3, h4, h5⟩ := h
  have k1 : (wx.setCell ⟨w.heap.size, x, none⟩ (.int .i64 (s : Int))).rowIs w.heap.size 3 n (fun q => .int .i64 (fromF N (o ++ [((x : Int), wd ++ [(l : Int)])]) q)) := (h1.set _ _).congr fun q hq => by rw [fromF_put hs hx]; split <;> rfl
  have k2 : (wx.setCell ⟨w.heap.size, x, none⟩ (.int .i64 (s : Int))).rowIs (w.heap.size + 1) 3 n (fun q => .int .i64 (howF o q)) := h2.of_block (Below.heap_setCell _ _ _ _ (by simp))
  refine ⟨k1.of_block (Below.heap_setCell _ _ _ _ (by simp)), (k2.set _ _).congr fun q hq => by rw [howF_put hx]; split <;> rfl, (h3.setCell (Nat.le_refl _) _).setCell (by simp) _, fun y hy e1 e2 => ?_, by simp [World.setCell]; exact h5⟩
  rw [Below.heap_setCell _ _ _ _ (by simpa using e2), Below.heap_setCell _ _ _ _ (by simpa using e1)]
  exact h4 y hy e1 e2
end Go.Proofs.YtihhlddbppljpabDoor
