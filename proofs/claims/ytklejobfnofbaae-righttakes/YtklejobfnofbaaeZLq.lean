/- 2 texts in one. -/
import Derived.Deep.RegionWith
import Derived.Test.YtklejobfnofbaaeZE
import Derived.Test.YtklejobfnofbaaeG
import Derived.Test.YtklejobfnofbaaeZNx
import Derived.Test.YtklejobfnofbaaeZLp
/- The reference's words: TrackOf, WordFault, RightWord: contracts. -/
namespace Go.Proofs.Ytklejobfnofbaae
open Go.RowKit

/-- A row that the call appends to, and what it has. -/
def Grow (w : World) (xs : List Int) (v : Value) (wr : World) : Prop := wr.ownsRow w.heap.size 3 1 v xs.length (xs.map (Value.int .i64)) ∧ Below w.heap.size w wr

theorem grow_nil (w : World) : Grow w [] (.slice none 0 0) w := ⟨World.ownsRow_nil _ _ _ _, Below.refl _ _⟩
theorem grow_size {w : World} {xs : List Int} {v : Value} {wr : World} (h : Grow w xs v wr) : w.heap.size ≤ wr.heap.size := h.2.size
theorem grow_push {w wr w3 : World} {xs : List Int} {v v' : Value} {x : Int} {o : Obj} (h : Grow w xs v wr) (hown : w3.ownsRow w.heap.size 3 1 v' (xs.length + 1) (xs.map (Value.int .i64) ++ [.int .i64 x])) (hgrow : (wr.alloc o).grownBy w3 v.ownBlock) : Grow w (xs ++ [x]) v' w3 := by
  refine ⟨by rw [List.length_append, List.map_append]; exact hown, ?_⟩
  exact Below.grown (h.2.alloc h.2.size o) hgrow (by have := h.2.size; simp; omega) (fun k hk => (h.1.lt k hk).1)
theorem grow_end {w wr : World} {xs : List Int} {v : Value} (h : Grow w xs v wr) (hm : xs.length ≤ maxLen) (hwf : ∀ x ∈ xs, (Lit.int .i64 x).wf = true) : GivesRow w xs (.returned v) wr := by
  obtain ⟨a, cap, rfl, hs⟩ := sl_of_owns rfl hm hwf h.1
  exact ⟨a, cap, rfl, hs, h.2⟩

end Go.Proofs.Ytklejobfnofbaae

/- The reference's TrackOf and RightWord, of words of up to four hundred letters. -/
namespace Go.Proofs.Ytklejobfnofbaae
open Go.RowKit

set_option maxHeartbeats 1000000 in
set_option maxRecDepth 4000 in
theorem trackOf_w (b : Int) (n : Nat) (a : Option Addr) (len cap : Nat) (l : List Int) (i : Nat) (w : World) (hM : codeM b n = 0) (hlen : l.length ≤ 400) (hlet : letB b n l = true) (hi : i < n) (hs : Sl w a len l) :
    Calls Try.prog 27 #[.int .i64 b, .int .i64 n, .slice a len cap, .int .i64 i] w (GivesRow w (trackL b n l i)) := by
  obtain ⟨i0, hi0, hz0, hz1, hz2⟩ := info_parts info3
  obtain ⟨h1, h2, h3, h4, h5, h6⟩ := codeM_zero hM
  have HL := hide hs.1
  have HS := hide hs
  have hlen' : len ≤ 400 := by rw [← hs.1]; exact hlen
  have HDO : Hid (∀ k, k < len → ∀ W, Calls Try.prog 47 #[.int .i64 b, .int .i64 n, .int .i64 (l.getD k 0), .int .i64 i] W fun e w' => e = .returned (.int .i64 (dOf b n (l.getD k 0) i)) ∧ w' = W) := by
    intro k hk W
    have := letB_get hlet k (by rw [hs.1]; exact hk)
    exact digitOf_any b n (l.getD k 0) i W h1 h2 (by omega) hi this.1 (by omega)
  have HT := hide (fun k => trackL_take_succ b n l k i)
  have HLEN : Hid (∀ k, k ≤ len → (trackL b n (l.take k) i).length = k) := fun k hk => by rw [trackL_length, List.length_take, hs.1]; omega
  have HEND : Hid (∀ v wr, Grow w (trackL b n l i) v wr → GivesRow w (trackL b n l i) (.returned v) wr) := fun v wr h => grow_end h (by rw [trackL_length, hs.1]; unfold maxLen; omega) (trackL_wf b h2 n l i)
  clear hs hM hlet hlen
  go_enter Try.func27, Try.ntmps27
  go_wp2
  go_loopw [9, 10] (fun v u wx => ∃ k : Nat, k ≤ len ∧ u = .int .i64 k ∧ Grow w (trackL b n (l.take k) i) v wx) (fun _ u _ => len - (intOf u).toNat)
  case atStart => exact ⟨0, by omega, rfl, grow_nil w⟩
  case round =>
    obtain ⟨k, hk, rfl, hgr⟩ := hrel
    have HGR := hide hgr
    clear hgr
    by_cases hlt : k < len
    · have hlti : (k : Int) < (len : Int) := by omega
      obtain ⟨bb, o, rfl, hck⟩ := sl_cell (sl_below HS.out HGR.out.2) k hlt
      have HDK := hide (HDO.out k hlt)
      have HT' := hide (HT.out k (by rw [HL.out]; exact hlt))
      have HLK := hide (HLEN.out k hk)
      generalize dOf b n (l.getD k 0) i = y at HDK HT'
      generalize l.getD k 0 = x at hck HDK
      generalize trackL b n (l.take k) i = xs at HGR HLK HT'
      have HOWN := hide HGR.out.1
      rw [HLK.out] at HOWN
      have HSZ := hide (grow_size HGR.out)
      go_wp2_with fail
      refine (HDK.out wr).mono ?_
      rintro e w' ⟨rfl, hw⟩
      rw [hw]
      clear hw w'
      go_wp2_with (at_builtin; refine wpList_append_own _ rfl _ _ 26 rfl w.heap.size 3 i0 (.int .i64 0) 1 8 Try.underlying26 hi0 hz0 hz1 hz2 rfl (by decide) _ k (xs.map (Value.int .i64)) rfl (HOWN.out.alloc _) ⟨wr.heap.size, 0, none⟩ 1 1 [.int .i64 y] rfl rfl (one_new _ _ _) (fun u hu => by simp at hu; subst hu; rfl) (by unfold maxLen; omega) (by omega) (by have := HSZ.out; simp; omega) ?_; intro v' w3 hown hgrow hnil)
      go_roundw
      case rel =>
        rw [← HLK.out] at hown
        exact ⟨k + 1, by omega, by go_num, by rw [HT'.out]; exact grow_push HGR.out hown hgrow⟩
      case measure => simp [intOf]; omega
    · have hlti : ¬ ((k : Int) < (len : Int)) := by omega
      obtain rfl : k = len := by omega
      have HA : Hid (l.take k = l) := List.take_of_length_le (by rw [HL.out]; omega)
      rw [HA.out] at HGR
      have HE := hide (HEND.out _ _ HGR.out)
      go_wp2
      go_ret
      exact HE.out

set_option maxHeartbeats 1000000 in
set_option maxRecDepth 4000 in
theorem rightWord_w (b : Int) (n : Nat) (a : Option Addr) (len cap : Nat) (l : List Int) (w : World) (hM : codeM b n = 0) (hlen : l.length ≤ 400) (hlet : letB b n l = true) (hs : Sl w a len l) :
    Calls Try.prog 13 #[.int .i64 b, .int .i64 n, .slice a len cap] w fun e w' => e = .returned (.bool (rightW b n l)) ∧ Below w.heap.size w w' := by
  obtain ⟨h1, h2, h3, h4, h5, h6⟩ := codeM_zero hM
  have hn : n ≤ 5 := by omega
  have HS := hide hs
  have HTO := hide (fun i W hi h => trackOf_w b n a len cap l i W hM hlen hlet hi h)
  have HRN := hide (fun i => @rightW_not b n l i)
  have HRY := hide (@rightW_yes b n l)
  generalize rightW b n l = R at HRN HRY ⊢
  clear hs hM hlen hlet h5 h6
  go_enter Try.func13, Try.ntmps13
  go_wp2
  go_loopw [7] (fun i wx => ∃ k : Nat, k ≤ n ∧ i = .int .i64 k ∧ (∀ j, j < k → rightB b (trackL b n l j) = true) ∧ Below w.heap.size w wx) (fun i _ => n - (intOf i).toNat)
  case atStart => exact ⟨0, by omega, rfl, by omega, Below.refl _ _⟩
  case round =>
    obtain ⟨k, hk, rfl, hd, hb⟩ := hrel
    have HD := hide hd
    have HB := hide hb
    clear hd hb
    by_cases hlt : k < n
    · have hlti : (k : Int) < (n : Int) := by omega
      have HRN' := hide (HRN.out k hlt)
      have HX : Hid (rightB b (trackL b n l k) = true → ∀ j, j < k + 1 → rightB b (trackL b n l j) = true) := by
        intro h j hj
        by_cases e : j = k
        · subst e; exact h
        · exact HD.out j (by omega)
      have HTK := hide (HTO.out k wr hlt (sl_below HS.out HB.out))
      generalize trackL b n l k = T at HRN' HX HTK
      go_wp2_with fail
      refine HTK.out.mono ?_
      rintro e w1 ⟨a1, cap1, rfl, ⟨hs1, -⟩, hb1⟩
      have HB1 := hide (below_step HB.out hb1)
      have HRO := hide (rightOf_any b a1 _ cap1 T w1 hs1)
      clear hs1 hb1 HTK
      generalize T.length = m at HRO ⊢
      generalize rightB b T = r at HRO HRN' HX
      go_wp2_with fail
      refine HRO.out.mono ?_
      rintro e w' ⟨rfl, hw⟩
      rw [hw]
      clear hw w' HRO
      cases r with
      | true =>
        replace HX := hide (HX.out rfl)
        go_wp2
        go_roundw
        case rel => exact ⟨k + 1, by omega, by go_num, HX.out, HB1.out⟩
        case measure => simp [intOf]; omega
      | false =>
        replace HRN' := hide (HRN'.out rfl)
        clear HX
        go_wp2
        go_ret
        exact ⟨by rw [HRN'.out]; simp, HB1.out⟩
    · have hlti : ¬ ((k : Int) < (n : Int)) := by omega
      obtain rfl : k = n := by omega
      have HR := hide (HRY.out HD.out)
      go_wp2
      go_ret
      exact ⟨by rw [HR.out]; simp, HB.out⟩
end Go.Proofs.Ytklejobfnofbaae
