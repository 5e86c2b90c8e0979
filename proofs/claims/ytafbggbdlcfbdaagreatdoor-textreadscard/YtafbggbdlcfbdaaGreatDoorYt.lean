/- Package formula: Trim: coefficients without 0s at their end: contract. -/
import Derived.Laws.EntriesVeiled
import Derived.Test.YtafbggbdlcfbdaaGreatDoorZF
import Derived.Test.YtafbggbdlcfbdaaGreatDoorZG
import Derived.Test.YtafbggbdlcfbdaaGreatDoorZFd
import Derived.Test.YtafbggbdlcfbdaaGreatDoorZYa
namespace Go.Proofs.YtafbggbdlcfbdaaGreatDoor
open Go.RowKit

theorem lastN_step {l : List Int} {k : Nat} (h : l.getD k 0 = 0) : lastN l (k + 1) = lastN l k := by
  show (if l.getD k 0 = 0 then lastN l k else k + 1) = _
  rw [if_pos h]
theorem lastN_stop {l : List Int} {k : Nat} (h : l.getD k 0 ≠ 0) : lastN l (k + 1) = k + 1 := by
  show (if l.getD k 0 = 0 then lastN l k else k + 1) = _
  rw [if_neg h]
theorem gives_trim {w w3 : World} {l : List Int} {n k : Nat} {v : Value} (hL : l.length = n) (hk : k ≤ n) (hn : n ≤ 1000) (hwf : ∀ x ∈ l, (Lit.int .i64 x).wf = true) (hE : trimL l = l.take k)
    (hown : w3.ownsRow w.heap.size 3 1 v (0 + k) ([] ++ (l.take k).map (Value.int .i64))) (hg : w.grownBy w3 none) : GivesRow w (trimL l) (.returned v) w3 := by
  have hl : (l.take k).length = k := by rw [List.length_take]; omega
  rw [Nat.zero_add, List.nil_append] at hown
  obtain ⟨a, cap, rfl, hs⟩ := sl_of_owns (l := l.take k) hl (by unfold maxLen; omega) (fun x hx => hwf x (List.mem_of_mem_take hx)) hown
  refine ⟨a, cap, by rw [hE, hl], by rw [hE, hl]; exact hs, ?_⟩
  exact Below.grown (Below.refl _ _) hg (Nat.le_refl _) (fun k h => by cases h)
set_option maxHeartbeats 4000000 in
set_option maxRecDepth 4000 in
theorem trim_any (B o n c : Nat) (l : List Int) (w : World) (hs : Sl w (some ⟨B, o, none⟩) n l) (hc : n ≤ c) (hn : n ≤ 1000) : Calls Tryz.prog 72 #[.slice (some ⟨B, o, none⟩) n c] w (GivesRow w (trimL l)) := by
  obtain ⟨i0, hi, hz0, hz1, hz2⟩ := info_parts info3
  obtain ⟨hL, -, hw, hcl⟩ := hs
  have HCE : Hid (∀ i, i < n → w.cell? ⟨B, o + i, none⟩ = some (.int .i64 (l.getD i 0))) := by
    intro i hi
    rcases hcl with h | ⟨b', o', e, h⟩
    · omega
    · cases e; exact h i hi
  have HWF := hide hw
  have HST := hide (fun k => @lastN_step l k)
  have HSP := hide (fun k => @lastN_stop l k)
  have HTL : Hid (trimL l = l.take (lastN l n)) := by show _ = _; unfold trimL; rw [hL]
  have HLL := hide hL
  have HC := hide hc
  have HN := hide hn
  clear hw hL hc hn hcl
  go_enter Tryz.func72, Tryz.ntmps72
  go_wp2
  go_loop [3] (fun kv => ∃ k : Nat, k ≤ n ∧ kv = .int .i64 k ∧ lastN l n = lastN l k) (fun kv => (intOf kv).toNat)
  case atStart => exact ⟨n, Nat.le_refl _, rfl, rfl⟩
  case round =>
    obtain ⟨k, hk, rfl, hz⟩ := hrel
    have HZ := hide hz
    have HK := hide hk
    clear hz
    have HLen : Hid (((l.take k).map (Value.int .i64)).length = k * 1) := by show _ = _; simp [HLL.out]; omega
    have HCell : Hid (∀ j u, ((l.take k).map (Value.int .i64))[j]? = some u → w.cell? ((⟨B, o, none⟩ : Addr).add j) = some u) := by
      intro j u hu
      have hj : j < k := by
        have h1 := (List.getElem?_eq_some_iff.1 hu).1
        have h2 := HLen.out
        omega
      have hadd : (⟨B, o, none⟩ : Addr).add j = ⟨B, o + j, none⟩ := by unfold Addr.add; split <;> simp_all
      have hjl : j < l.length := by rw [HLL.out]; omega
      rw [hadd, HCE.out j (by omega), ← hu]
      simp [hj, hjl, List.getD]
    have HOne : Hid (∀ u ∈ (l.take k).map (Value.int .i64), u.oneCell' = true) := by
      intro u hu
      simp only [List.mem_map] at hu
      obtain ⟨x, _, rfl⟩ := hu
      rfl
    have hkc : (k : Int) ≤ (c : Int) := by have := HC.out; omega
    by_cases h0 : k = 0
    · subst h0
      have HE : Hid (trimL l = l.take 0) := by show _ = _; rw [HTL.out, HZ.out]; rfl
      go_wp2_with (at_builtin; refine wpList_append_own _ rfl _ _ 39 rfl w.heap.size 3 i0 (.int .i64 0) 1 8 Tryz.underlying39 hi hz0 hz1 hz2 rfl (by decide) _ _ _ rfl (World.ownsRow_nil _ _ _ _) ⟨B, o, none⟩ 0 c ((l.take 0).map (Value.int .i64)) rfl HLen.out HCell.out HOne.out (by unfold maxLen; omega) (by omega) (Nat.le_refl _) ?_; intro v' w3 hown hgrow hni)
      go_ret
      exact gives_trim HLL.out HK.out HN.out HWF.out HE.out hown hgrow
    · obtain ⟨j, rfl⟩ : ∃ j, k = j + 1 := ⟨k - 1, by omega⟩
      have hj0 : ((j + 1 : Nat) : Int) > 0 := by omega
      have hjn : (j : Int) < (n : Int) := by omega
      have hj2 : (j : Int) < 1000 := by have := HN.out; omega
      have hjx : ((j + 1 : Nat) : Int) = (j : Int) + 1 := by omega
      have hce := HCE.out j (by omega)
      by_cases hz : l.getD j 0 = 0
      · have HZN : Hid (lastN l n = lastN l j) := by show _ = _; rw [HZ.out, HST.out j hz]
        rw [hz] at hce
        clear hz HLen HCell HOne
        go_wp2
        exact ⟨⟨j, by omega, by go_num, HZN.out⟩, by simp [intOf]⟩
      · have HE : Hid (trimL l = l.take (j + 1)) := by show _ = _; rw [HTL.out, HZ.out, HSP.out j hz]
        have ez : (l.getD j 0 == 0) = false := by simpa using hz
        generalize l.getD j 0 = z at hce ez
        clear hz
        go_wp2_with (at_builtin; refine wpList_append_own _ rfl _ _ 39 rfl w.heap.size 3 i0 (.int .i64 0) 1 8 Tryz.underlying39 hi hz0 hz1 hz2 rfl (by decide) _ _ _ rfl (World.ownsRow_nil _ _ _ _) ⟨B, o, none⟩ (j + 1) c ((l.take (j + 1)).map (Value.int .i64)) rfl HLen.out HCell.out HOne.out (by unfold maxLen; have := HN.out; have := HK.out; omega) (by have := HN.out; have := HK.out; omega) (Nat.le_refl _) ?_; intro v' w3 hown hgrow hni)
        go_ret
        exact gives_trim HLL.out HK.out HN.out HWF.out HE.out hown hgrow
end Go.Proofs.YtafbggbdlcfbdaaGreatDoor
