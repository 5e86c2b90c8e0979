/- 2 texts in one. -/
import Derived.OwnWalk
import Derived.WalkSmall
import Derived.Test.YtgbmemkoggogdaaDoorZC
import Derived.Test.YtgbmemkoggogdaaDoorA
/- The contract of digit.withoutZeros. -/
namespace Go.Proofs.YtgbmemkoggogdaaDoor
open Go.RowKit

def iArr (d : List Int) : Array Value := (d.map (Value.int .i64)).toArray
theorem iArr_size (d : List Int) : (iArr d).size = d.length := by simp [iArr]
theorem iArr_get (d : List Int) (k : Nat) (h : k < d.length) : (iArr d)[k]? = some (.int .i64 (d.getD k 0)) := by simp [iArr, h]
def dropZ (d : List Int) : List Int := d.dropWhile (· == 0)
theorem dropZ_eq : ∀ (d : List Int) (k : Nat), k ≤ d.length → (∀ j, j < k → d.getD j 0 = 0) → (k < d.length → d.getD k 0 ≠ 0) → dropZ d = d.drop k := by
  intro d
  induction d with
  | nil => intro k hk _ _; simp at hk; subst hk; rfl
  | cons x r ih =>
    intro k hk h0 h1
    cases k with
    | zero =>
      have : x ≠ 0 := by simpa using h1 (by simp)
      simp [dropZ, this]
    | succ k =>
      have hx : x = 0 := by simpa using h0 0 (by omega)
      have := ih k (by simpa using hk) (fun j hj => by simpa using h0 (j + 1) (by omega)) (fun hj => by simpa using h1 (by simpa using hj))
      simp only [dropZ] at this
      simp [dropZ, hx, this]

/-- .. and lies in a block from base on. -/
def SlN (base : Nat) (w : World) (a : Option Addr) (len : Nat) (l : List Int) : Prop := Sl w a len l ∧ ∀ ad, a = some ad → base ≤ ad.block
theorem SlN.mono {base base' : Nat} {w : World} {a : Option Addr} {len : Nat} {l : List Int} (h : SlN base w a len l) (hb : base' ≤ base) : SlN base' w a len l := ⟨h.1, fun ad e => Nat.le_trans hb (h.2 ad e)⟩

/-- A row of the call's own reads as its numbers. -/
theorem sl_of_owns {w : World} {base : Nat} {v : Value} {n : Nat} {l : List Int} (hl : l.length = n) (hm : n ≤ maxLen) (hw : ∀ x ∈ l, (Lit.int .i64 x).wf = true)
    (h : w.ownsRow base 3 1 v n (l.map (Value.int .i64))) : ∃ a cap, v = .slice a n cap ∧ SlN base w a n l := by
  obtain ⟨h1, h2⟩ := h
  rcases h2 with ⟨rfl, rfl⟩ | ⟨g, cap, cur, rfl, hg, hh, hc, hcm, hcs, ht⟩
  · exact ⟨none, 0, rfl, ⟨hl, hm, hw, Or.inl rfl⟩, fun _ h => by cases h⟩
  · refine ⟨_, _, rfl, ⟨hl, hm, hw, Or.inr ⟨g, 0, rfl, fun i hi => ?_⟩⟩, fun ad h => by cases h; exact hg⟩
    rw [cell_of_row w g (0 + i) cur 3 (0, 0) hh, Nat.zero_add]
    have h3 : (cur.toList.take (n * 1))[i]? = (l.map (Value.int .i64))[i]? := by rw [ht]
    rw [List.getElem?_take, if_pos (by omega)] at h3
    rw [Array.getElem?_toList] at h3
    rw [h3]
    simp [List.getD, hl, hi]

theorem info3 : (Tryd.prog.info? 3).map (fun i => (i.zero, i.size, i.bytes)) = some (some (.int .i64 0), 1, 8) := by kernel_rfl

/-- A slice with the numbers l is handed back; nothing that was there has turned. -/
def GivesRow (w : World) (l : List Int) (e : Ending) (w' : World) : Prop := ∃ a cap, e = .returned (.slice a l.length cap) ∧ SlN w.heap.size w' a l.length l ∧ Below w.heap.size w w'

theorem gives_of {w w3 : World} {d : List Int} {k : Nat} {v : Value} {o : Obj} (hL : d.length = 60) (hwf : ∀ x ∈ d, (Lit.int .i64 x).wf = true) (hE : dropZ d = d.drop k)
    (hown : w3.ownsRow w.heap.size 3 1 v (0 + (60 - k)) ([] ++ (d.drop k).map (Value.int .i64))) (hg : (w.alloc o).grownBy w3 none) : GivesRow w (dropZ d) (.returned v) w3 := by
  have hl : (d.drop k).length = 60 - k := by simp [hL]
  rw [Nat.zero_add, List.nil_append] at hown
  obtain ⟨a, cap, rfl, hs⟩ := sl_of_owns (l := d.drop k) hl (by unfold maxLen; omega) (fun x hx => hwf x (List.mem_of_mem_drop hx)) hown
  refine ⟨a, cap, by rw [hE, hl], by rw [hE, hl]; exact hs, ?_⟩
  exact Below.grown ((Below.refl _ _).alloc (Nat.le_refl _) o) hg (by simp) (fun k h => by cases h)

set_option maxHeartbeats 1000000 in
set_option maxRecDepth 4000 in
theorem without_any (d : List Int) (hd : d.length = 60) (hw : ∀ x ∈ d, (Lit.int .i64 x).wf = true) (w : World) :
    Calls Tryd.prog 91 #[.agg (iArr d)] w (GivesRow w (dropZ d)) := by
  have HL := hide hd
  have HWF := hide hw
  have HZ := hide (dropZ_eq d)
  clear hd hw
  obtain ⟨i0, hi, hz0, hz1, hz2⟩ := info_parts info3
  go_enter Tryd.func91, Tryd.ntmps91
  go_wp2
  go_loop [3] (fun i => ∃ k : Nat, k ≤ 60 ∧ i = .int .i64 k ∧ ∀ j, j < k → d.getD j 0 = 0) (fun i => 60 - (intOf i).toNat)
  case atStart => exact ⟨0, by omega, rfl, by omega⟩
  case round =>
    obtain ⟨k, hk, rfl, hz⟩ := hrel
    have HK := hide hz
    clear hz
    by_cases hx : k < 60 ∧ d.getD k 0 = 0
    · obtain ⟨hk6, hx⟩ := hx
      have hki : (k : Int) < 60 := by omega
      have hcell := iArr_get d k (by rw [HL.out]; exact hk6)
      have HK' : Hid (∀ j, j < k + 1 → d.getD j 0 = 0) := by
        intro j hj
        by_cases e : j = k
        · subst e; exact hx
        · exact HK.out j (by omega)
      rw [hx] at hcell
      clear hx
      go_wp2
      go_round
      case rel => exact ⟨k + 1, by omega, by go_num, HK'.out⟩
      case measure => simp [intOf]; omega
    · have HE : Hid (dropZ d = d.drop k) := HZ.out k (by rw [HL.out]; exact hk) HK.out (fun h => by rw [HL.out] at h; exact fun e => hx ⟨h, e⟩)
      obtain ⟨o, hsl, ho⟩ := slice37 (k : Int) (by omega) (by omega)
      rw [Int.toNat_natCast] at hsl
      have HO : Hid (k < 60 → o = k) := fun h => by have := ho (by omega); omega
      clear ho
      have HLen : Hid (((d.drop k).map (Value.int .i64)).length = (60 - k) * 1) := by show _ = _; simp [HL.out]
      have HCell : Hid (∀ j u, ((d.drop k).map (Value.int .i64))[j]? = some u → (w.alloc (Obj.cells (iArr d) 155)).cell? ((⟨w.heap.size, o, none⟩ : Addr).add j) = some u) := by
        intro j u hu
        have hj : j < 60 - k := by
          have := (List.getElem?_eq_some_iff.1 hu).1
          simp [HL.out] at this
          exact this
        have hadd : (⟨w.heap.size, o, none⟩ : Addr).add j = ⟨w.heap.size, o + j, none⟩ := by unfold Addr.add; split <;> simp_all
        rw [hadd, HO.out (by omega), cell_of_row _ _ (k + j) (iArr d) 155 (0, 0) (heap_alloc_last w _)]
        rw [← hu]
        simp [iArr]
      have HOne : Hid (∀ u ∈ (d.drop k).map (Value.int .i64), u.oneCell' = true) := by
        intro u hu
        simp only [List.mem_map] at hu
        obtain ⟨x, _, rfl⟩ := hu
        rfl
      have hx' : (k < 60 ∧ (d.getD k 0 == 0) = false) ∨ 60 ≤ k := by
        by_cases e : k < 60
        · exact Or.inl ⟨e, by simpa using fun h => hx ⟨e, h⟩⟩
        · exact Or.inr (by omega)
      clear hx HZ
      rcases hx' with ⟨hk6, hx⟩ | hk6
      · have hki : (k : Int) < 60 := by omega
        have hcell := iArr_get d k (by rw [HL.out]; exact hk6)
        generalize d.getD k 0 = y at hcell hx
        go_wp2_with (at_builtin; refine wpList_append_own _ rfl _ _ 23 rfl w.heap.size 3 i0 (.int .i64 0) 1 8 Tryd.underlying23 hi hz0 hz1 hz2 rfl (by decide) _ _ _ rfl (World.ownsRow_nil _ _ _ _) ⟨w.heap.size, o, none⟩ (60 - k) (60 - k) ((d.drop k).map (Value.int .i64)) rfl HLen.out HCell.out HOne.out (by unfold maxLen; omega) (by omega) (by simp) ?_; intro v' w3 hown hgrow hnil)
        go_ret
        exact gives_of HL.out HWF.out HE.out hown hgrow
      · obtain rfl : k = 60 := by omega
        have HLen' : Hid (((d.drop 60).map (Value.int .i64)).length = 0 * 1) := HLen.out
        have HCell' : Hid (∀ j u, ((d.drop 60).map (Value.int .i64))[j]? = some u → (w.alloc (Obj.cells (iArr d) 155)).cell? ((⟨w.heap.size, 0, none⟩ : Addr).add j) = some u) := by
          intro j u hu
          have h1 := (List.getElem?_eq_some_iff.1 hu).1
          have h2 := HLen'.out
          omega
        clear hk6 HLen HCell HO
        go_wp2_with (at_builtin; refine wpList_append_own _ rfl _ _ 23 rfl w.heap.size 3 i0 (.int .i64 0) 1 8 Tryd.underlying23 hi hz0 hz1 hz2 rfl (by decide) _ _ _ rfl (World.ownsRow_nil _ _ _ _) ⟨w.heap.size, 0, none⟩ 0 0 ((d.drop 60).map (Value.int .i64)) rfl HLen'.out HCell'.out HOne.out (by unfold maxLen; omega) (by omega) (by simp) ?_; intro v' w3 hown hgrow hnil)
        go_ret
        exact gives_of (k := 60) HL.out HWF.out HE.out hown hgrow
end Go.Proofs.YtgbmemkoggogdaaDoor

/- Small laws that all later texts use: readings carried on, one call behind another, a row of the call's own. -/
namespace Go.Proofs.YtgbmemkoggogdaaDoor
open Go.RowKit

theorem sl_below {w W : World} {a : Option Addr} {len : Nat} {l : List Int} (h : Sl w a len l) (hb : Below w.heap.size w W) : Sl W a len l := by
  obtain ⟨h1, h2, h3, h4⟩ := h
  refine ⟨h1, h2, h3, ?_⟩
  rcases h4 with h4 | ⟨b, o, rfl, hc⟩
  · exact Or.inl h4
  · refine Or.inr ⟨b, o, rfl, fun i hi => ?_⟩
    have := hc i hi
    rw [hb.cell (p := ⟨b, o + i, none⟩) (World.block_lt_of_cell? w _ this)]
    exact this

theorem below_step {w a b : World} (h : Below w.heap.size w a) (k : Below a.heap.size a b) : Below w.heap.size w b := h.trans (k.mono h.size)


theorem sl_nil (w : World) : Sl w none 0 [] := ⟨rfl, by decide, by simp, Or.inl rfl⟩

/-- A row of the call's own that is not empty: where it lies. -/
theorem owns_at {w : World} {base k : Nat} {v : Value} {l : List Int} (hl : l.length = k + 1) (h : w.ownsRow base 3 1 v (k + 1) (l.map (Value.int .i64))) :
    ∃ g cap, v = .slice (some ⟨g, 0, none⟩) (k + 1) cap ∧ base ≤ g ∧ ∀ i, i < k + 1 → w.cell? ⟨g, i, none⟩ = some (.int .i64 (l.getD i 0)) := by
  obtain ⟨h1, h2⟩ := h
  rcases h2 with ⟨_, h0⟩ | ⟨g, cap, cur, rfl, hg, hh, hc, hcm, hcs, ht⟩
  · omega
  · refine ⟨g, cap, rfl, hg, fun i hi => ?_⟩
    rw [cell_of_row w g i cur 3 (0, 0) hh]
    have h3 : (cur.toList.take ((k + 1) * 1))[i]? = (l.map (Value.int .i64))[i]? := by rw [ht]
    rw [List.getElem?_take, if_pos (by omega)] at h3
    rw [Array.getElem?_toList] at h3
    rw [h3]
    simp [List.getD, hl, hi]


/-- The one cell of a block that was just made. -/
theorem one_new (w : World) (x : Value) (t : TypeId) : ∀ j u, [x][j]? = some u → (w.alloc (.cells #[x] t)).cell? ((⟨w.heap.size, 0, none⟩ : Addr).add j) = some u := by
  intro j u h
  have hj : j = 0 := by
    have := (List.getElem?_eq_some_iff.1 h).1
    simp at this
    exact this
  subst hj
  have hadd : (⟨w.heap.size, 0, none⟩ : Addr).add 0 = ⟨w.heap.size, 0, none⟩ := by unfold Addr.add; split <;> simp_all
  rw [hadd, cell_of_row _ _ 0 _ t (0, 0) (heap_alloc_last w _)]
  simpa using h

end Go.Proofs.YtgbmemkoggogdaaDoor
