/- 2 texts in one. -/
import Derived.Deep.Cut
import Derived.Deep.RegionWith
import Derived.Test.YtlgjadnkokmjoaaDoorZNx
import Derived.Test.YtlgjadnkokmjoaaDoorEn
import Derived.Test.YtlgjadnkokmjoaaDoorZLb
/- count.through: contract. -/
namespace Go.Proofs.YtlgjadnkokmjoaaDoor
open Go.RowKit

/-- A row of numbers that a call makes, in a block of its own. -/
def NewRow (w : World) (l : List Int) (e : Ending) (w' : World) : Prop := ∃ g, e = .returned (.slice (some ⟨g, 0, none⟩) l.length l.length) ∧ w.heap.size ≤ g ∧ (w'.rowIs g 3 l.length fun i => .int .i64 (l.getD i 0)) ∧ Below w.heap.size w w'
def bdL (n : Nat) (l : List Int) : Prop := l.length = n ∧ ∀ i, i < n → 0 ≤ l.getD i 0 ∧ l.getD i 0 ≤ 1152921504606846977
set_option maxHeartbeats 4000000 in
set_option maxRecDepth 4000 in
theorem through_any (ar : Option Addr) (n cr : Nat) (row : List Int) (th : Option Addr) (ct : Nat) (S : List (List Int)) (w : World) (hs : Sl w ar n row) (hS : Sl2 w th n S) (hn : n ≤ 1000) (hr : bdL n row) (hq : ∀ s, s < n → bdL n (S.getD s [])) :
    Calls Tryd.prog 24 #[.slice ar n cr, .slice th n ct] w (NewRow w (thrL row S)) := by
  have hTL : (thrL row S).length = n := by rw [thrL_len]; exact hr.1
  have HAD : Hid (∀ (W : World) (B t : Nat), Below w.heap.size w W → t < n → W.cell? ⟨B, 0, none⟩ = some (.int .i64 (t : Int)) → Calls Tryd.prog 49 #[.slice ar n cr, .slice th n ct, .func (.func 50) #[] #[.pointer (some ⟨B, 0, none⟩)]] W (retI ((thrL row S).getD t 0) W)) := fun W B t hb ht hB => by
    have hS' := sl2_below hS hb
    rw [thrL_get (by rw [hr.1]; exact ht), hr.1]
    have hv : ∀ i, ∃ v, i < n → (∃ b o, th = some ⟨b, o, none⟩ ∧ W.cell? ⟨b, o + i, none⟩ = some v) ∧ Calls Tryd.prog 50 (#[v] ++ #[.pointer (some ⟨B, 0, none⟩)]) W (retI ((S.getD i []).getD t 0) W) := fun i => by
      by_cases hi : i < n
      · obtain ⟨b, o, a1, c1, rfl, hc, hsl⟩ := sl2_cell hS' i hi
        exact ⟨_, fun _ => ⟨⟨b, o, rfl, hc⟩, thr1_any a1 _ c1 _ t B W hsl (by rw [(hq i hi).1]; exact ht) hB⟩⟩
      · exact ⟨.nilIface, fun h => absurd h hi⟩
    exact addedL_any 50 #[.pointer (some ⟨B, 0, none⟩)] (fun i => (hv i).choose) (fun i => (S.getD i []).getD t 0) ar n cr row th n ct W (enters_of Tryd.func50 (by kernel_rfl) rfl) (sl_below hs hb) (fun i hi => ((hv i).choose_spec hi).1) (Nat.le_refl _) (fun i hi => ((hv i).choose_spec hi).2) hr.2 (fun i hi => (hq i hi).2 t ht)
  have hmk := make_ints n (by omega)
  have H0 := hide (fillAt_start w (thrL row S) n)
  unfold NewRow
  rw [hTL]
  unfold retI at HAD
  clear hs hS hr hq hTL
  generalize thrL row S = T at HAD H0 ⊢
  go_enter Tryd.func24, Tryd.ntmps24
  go_wp2
  generalize w.alloc (.cells (madeCells #[.int .i64 0] n) 3) = w0 at H0 ⊢
  go_loopw [12] (fun i wx => ∃ k : Nat, k ≤ n ∧ i = .int .i64 k ∧ FillAt w T n k wx) (fun i _ => n - (intOf i).toNat)
  case atStart => exact ⟨0, by omega, rfl, H0.out⟩
  case round =>
    obtain ⟨k, hk, rfl, hfl⟩ := hrel
    have HFL := hide hfl
    clear hfl
    by_cases hlt : k < n
    · have hlti : (k : Int) < (n : Int) := by omega
      go_upto_region 5 with fail
      have hba := (Below.refl wr.heap.size wr).alloc (Nat.le_refl _) (.cells #[.int .i64 (k : Int)] 3)
      have HFL2 := hide (fillAt_below HFL.out hba.drew)
      have hB : (wr.alloc (.cells #[.int .i64 (k : Int)] 3)).drew.cell? ⟨wr.heap.size, 0, none⟩ = some (.int .i64 (k : Int)) := cell_of_row _ _ 0 _ 3 (0, 0) (heap_alloc_last wr _)
      have HC := hide (HAD.out (wr.alloc (.cells #[.int .i64 (k : Int)] 3)).drew wr.heap.size k HFL2.out.2 hlt hB)
      clear hba
      generalize wr.alloc (.cells #[.int .i64 (k : Int)] 3) = W2 at HFL2 hB HC ⊢
      have hcell := HFL2.out.1.cell hlt
      have hfz := HFL2.out.1.frozen k
      have HNX := hide (fillAt_step HFL2.out)
      rw [if_neg (Nat.lt_irrefl _)] at hcell
      generalize T.getD k 0 = x at HNX HC ⊢
      go_region_with (go_at_call 49; refine HC.out.mono ?_; rintro e w' ⟨rfl, hw⟩; rw [hw]; clear hw w')
      all_goals
        go_wp2
        go_roundw
        case rel => exact ⟨k + 1, by omega, by go_num, HNX.out⟩
        case measure => simp [intOf]; omega
    · have hlti : ¬ (k : Int) < (n : Int) := by omega
      obtain rfl : n = k := by omega
      go_wp2
      go_ret
      exact ⟨_, rfl, Nat.le_refl _, HFL.out.1.congr fun i hi => by rw [if_pos hi]; rfl, HFL.out.2⟩
end Go.Proofs.YtlgjadnkokmjoaaDoor

/- A row that is filled in, number by number. -/
namespace Go.Proofs.YtlgjadnkokmjoaaDoor
open Go.RowKit

/-- A row of which t numbers are there, and the next one comes up. -/
def PartAt (w : World) (T : List Int) (n t : Nat) (v : Int) (wx : World) : Prop := wx.rowIs w.heap.size 3 n (fun i => .int .i64 (if i < t then T.getD i 0 else if i = t then v else 0)) ∧ Below w.heap.size w wx
theorem partAt_start {w : World} {T : List Int} {n t : Nat} {wx : World} (h : FillAt w T n t wx) : PartAt w T n t 0 wx :=
  ⟨h.1.congr fun i _ => by
    by_cases e : i < t
    · rw [if_pos e, if_pos e]
    · rw [if_neg e, if_neg e]
      by_cases e2 : i = t
      · rw [if_pos e2]
      · rw [if_neg e2], h.2⟩
theorem partAt_end {w : World} {T : List Int} {n t : Nat} {wx : World} (h : PartAt w T n t (T.getD t 0) wx) : FillAt w T n (t + 1) wx :=
  ⟨h.1.congr fun i _ => by
    by_cases e : i < t
    · rw [if_pos e, if_pos (by omega)]
    · rw [if_neg e]
      by_cases e2 : i = t
      · subst e2; rw [if_pos rfl, if_pos (by omega)]
      · rw [if_neg e2, if_neg (by omega)], h.2⟩
theorem partAt_below {w : World} {T : List Int} {n t : Nat} {v : Int} {wx W : World} (h : PartAt w T n t v wx) (hb : Below wx.heap.size wx W) : PartAt w T n t v W := by
  obtain ⟨⟨c, h1, h2, h3⟩, h4⟩ := h
  exact ⟨⟨c, (hb.block _ (Array.getElem?_eq_some_iff.1 h1).1).trans h1, h2, h3⟩, below_step h4 hb⟩
theorem partAt_put {w : World} {T : List Int} {n t : Nat} {v : Int} {wx : World} (h : PartAt w T n t v wx) (v' : Int) : PartAt w T n t v' (wx.setCell ⟨w.heap.size, t, none⟩ (.int .i64 v')) := by
  refine ⟨(h.1.set t _).congr fun i _ => ?_, h.2.setCell (Nat.le_refl _) _⟩
  by_cases e : i = t
  · subst e; rw [if_pos rfl, if_neg (by omega), if_pos rfl]
  · rw [if_neg e]
    by_cases e2 : i < t
    · rw [if_pos e2, if_pos e2]
    · rw [if_neg e2, if_neg e2, if_neg e, if_neg e]
end Go.Proofs.YtlgjadnkokmjoaaDoor
