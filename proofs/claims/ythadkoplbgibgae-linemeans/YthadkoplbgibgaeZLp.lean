/- 3 texts in one. -/
import Derived.Test.YthadkoplbgibgaeRows
import Derived.Below
import Derived.LaidEql
import Derived.OwnWalk
import Derived.RowKitTokens
import Derived.Stop.Asserts
import Derived.WalkKit
import Derived.Test.YthadkoplbgibgaeZC
import Derived.Test.YthadkoplbgibgaeZNx
import Derived.Test.YthadkoplbgibgaeZG
import Derived.Test.YthadkoplbgibgaeZF
/- Letters by the reference (Letters, DigitOf, PackOf), letter.Pack and letter.Unpack: contracts. -/
namespace Go.Proofs.Ythadkoplbgibgae
open Go.RowKit

/-- The fault of a letter. -/
def codeU (b t l : Int) : Int := if codeM b t = 0 then (if 0 ≤ l ∧ l < manyU b t then 0 else 1) else codeM b t

theorem codeU_zero {b t l : Int} (h : codeU b t l = 0) : codeM b t = 0 ∧ 0 ≤ l ∧ l < manyU b t := by
  unfold codeU at h
  split at h
  · split at h
    · exact ⟨by assumption, by omega, by omega⟩
    · cases h
  · contradiction

end Go.Proofs.Ythadkoplbgibgae

/- filbertsame.Lists, Autos: two that read alike are the same; the reference's Alike: contracts. -/
namespace Go.Proofs.Ythadkoplbgibgae
open Go.RowKit

/-- Two automata in their boxes, one behind the other. -/
theorem two_boxes {w w' : World} {v0 v1 v2 v3 u0 u1 u2 u3 : Value} {T : TypeId} (hb : Below ((w.alloc (.cells #[v0, v1, v2, v3] T)).alloc (.cells #[u0, u1, u2, u3] T)).heap.size ((w.alloc (.cells #[v0, v1, v2, v3] T)).alloc (.cells #[u0, u1, u2, u3] T)) w') :
    (w'.cell? ⟨w.heap.size, 0, none⟩ = some v0 ∧ w'.cell? ⟨w.heap.size, 1, none⟩ = some v1 ∧ w'.cell? ⟨w.heap.size, 2, none⟩ = some v2 ∧ w'.cell? ⟨w.heap.size, 3, none⟩ = some v3) ∧
    (w'.cell? ⟨w.heap.size + 1, 0, none⟩ = some u0 ∧ w'.cell? ⟨w.heap.size + 1, 1, none⟩ = some u1 ∧ w'.cell? ⟨w.heap.size + 1, 2, none⟩ = some u2 ∧ w'.cell? ⟨w.heap.size + 1, 3, none⟩ = some u3) := by
  have h2 := box4 hb
  rw [World.size_alloc] at h2
  exact ⟨box4 (below_step ((Below.refl _ _).alloc (Nat.le_refl _) _) hb), h2⟩

end Go.Proofs.Ythadkoplbgibgae

/- letter.split and letter.Unpack, with the capacity of what they make. -/
namespace Go.Proofs.Ythadkoplbgibgae
open Go.RowKit

def GivesRowC (w : World) (l : List Int) (e : Ending) (w' : World) : Prop := ∃ g, e = .returned (.slice (some ⟨g, 0, none⟩) l.length l.length) ∧ w.heap.size ≤ g ∧ Sl w' (some ⟨g, 0, none⟩) l.length l ∧ Below w.heap.size w w'
def UnpackC (w : World) (l : List Int) (e : Ending) (w' : World) : Prop := ∃ g, e = .returned (.tuple #[.slice (some ⟨g, 0, none⟩) l.length l.length, .nilIface]) ∧ w.heap.size ≤ g ∧ Sl w' (some ⟨g, 0, none⟩) l.length l ∧ Below w.heap.size w w'

theorem spAt_cap {b : Int} {n : Nat} {l : Int} {w wr : World} (h2 : b ≤ 6) (hn : n ≤ 5) (h : SpAt b n l w n wr) : GivesRowC w (splitL b n l) (.returned (.slice (some ⟨w.heap.size, 0, none⟩) n n)) wr := by
  refine ⟨w.heap.size, by rw [splitL_length], Nat.le_refl _, ?_, h.2⟩
  rw [splitL_length]
  refine sl_of_rowIs (splitL_length _ _ _) (by unfold maxLen; omega) (fun x hx => ?_) (h.1.congr fun i hi => ?_)
  · simp only [splitL, List.mem_map, List.mem_range] at hx
    obtain ⟨i, _, rfl⟩ := hx
    have := dOf_bd b h2 n l i
    have := kinds_bd2 b h2
    exact Go.WalkArith.wf_i64 (by omega)
  · rw [if_pos (by omega), splitL_get _ _ _ _ hi]

set_option maxHeartbeats 1000000 in
set_option maxRecDepth 4000 in
theorem split_cap (b : Int) (n : Nat) (l : Int) (w : World) (h1 : 1 ≤ b) (h2 : b ≤ 6) (hn : n ≤ 5) (hl : 0 ≤ l) (hl' : l ≤ 100000000) :
    Calls Try.prog 79 #[.int .i64 b, .int .i64 n, .int .i64 l] w (GivesRowC w (splitL b n l)) := by
  have hk := kinds_bd2 b h2
  obtain ⟨hk1, hk2⟩ := hk
  have HK := hide (fun w => kinds_any b w h1 h2)
  have hmk := make_ints n (by omega)
  have HE := hide (fun wr => @spAt_cap b n l w wr h2 hn)
  have HST := hide (fun wr k m => @spAt_step b n l w wr k m)
  have HDB := hide (div_bd (kindsI b) hk1 l hl)
  have HDP := hide (div_pw (kindsI b) hk1 l)
  have hk0 : (kindsI b == 0) = false := by simp; omega
  have H0 : Hid (SpAt b n l w 0 (w.alloc (.cells (madeCells #[.int .i64 0] n) 3))) := by
    refine ⟨(World.rowIs_made w (.int .i64 0) n 3).congr fun p hp => ?_, (Below.refl _ _).alloc (Nat.le_refl _) _⟩
    rw [if_neg (by omega)]
  have HD0 : Hid (l / pw (kindsI b) 0 = l) := by show _ = _; simp [pw]
  go_enter Try.func79, Try.ntmps79
  go_wp2
  generalize w.alloc (.cells (madeCells #[.int .i64 0] n) 3) = W at H0 ⊢
  generalize kindsI b = K at hk1 hk2 HK HST HDB HDP hk0 HD0
  go_loopw [2, 12] (fun s i wx => ∃ k : Nat, k ≤ n ∧ i = .int .i64 k ∧ s = .int .i64 (l / pw K k) ∧ SpAt b n l w k wx) (fun _ i _ => n - (intOf i).toNat)
  case atStart => exact ⟨0, by omega, rfl, by rw [HD0.out], H0.out⟩
  case round =>
    obtain ⟨k, hk, rfl, rfl, ho⟩ := hrel
    have HA := hide ho
    clear ho
    by_cases hlt : k < n
    · have hlti : (k : Int) < (n : Int) := by omega
      obtain ⟨m, hm⟩ : ∃ m, n = m + 1 + k := ⟨n - 1 - k, by omega⟩
      have HM := hide hm
      have hmi : (n : Int) - 1 - (k : Int) = (m : Int) := by omega
      have hmn : m < n := by omega
      clear hm
      have HS' := hide (HST.out wr k m HA.out HM.out)
      have hdb := HDB.out k
      obtain ⟨hd1, hd2⟩ := hdb
      have HDP' := hide (HDP.out k)
      have hcell := HA.out.1.cell hmn
      have hfz := HA.out.1.frozen m
      have hmni : (m : Int) < (n : Int) := by omega
      generalize (Value.int IntKind.i64 (if n ≤ m + k then dOf b n l m else 0)) = old at hcell
      generalize l / pw K k = q at hd1 hd2 HDP' HS' ⊢
      go_wp2_with (go_at_call 66; refine (HK.out _).mono ?_; rintro e w' ⟨rfl, hw⟩; rw [hw]; clear hw w')
      go_roundw
      case rel => exact ⟨k + 1, by omega, by go_num, by rw [HDP'.out], HS'.out⟩
      case measure => simp [intOf]; omega
    · have hlti : ¬ ((k : Int) < (n : Int)) := by omega
      obtain rfl : k = n := by omega
      go_wp2
      go_ret
      exact HE.out wr HA.out

set_option maxHeartbeats 1000000 in
set_option maxRecDepth 4000 in
theorem unpack_cap (b : Int) (n : Nat) (l : Int) (w : World) (h : codeU b n l = 0) :
    Calls Try.prog 72 #[.int .i64 b, .int .i64 n, .int .i64 l] w (UnpackC w (splitL b n l)) := by
  obtain ⟨hM, hl1, hl2⟩ := codeU_zero h
  obtain ⟨h1, h2, h3, h4, h5, h6⟩ := codeM_zero hM
  have HMC := hide (many_u b n w)
  rw [hM, errV_zero] at HMC
  have HSP := hide (split_cap b n l w h1 h2 (by omega) hl1 (by omega))
  generalize manyU b n = M at HMC hl2 h6
  have hl3 : decide (M ≤ l) = false := by simp; omega
  clear h hM h5 h6
  go_enter Try.func72, Try.ntmps72
  go_wp2_with (go_at_call 29; refine HMC.out.mono ?_; rintro e w' ⟨rfl, hw⟩; rw [hw]; clear hw w')
  refine HSP.out.mono ?_
  rintro e w1 ⟨g1, rfl, hg1, hs1, hb1⟩
  rw [splitL_length] at hs1 ⊢
  have HS1 := hide hs1
  have HB1 := hide hb1
  clear hs1 hb1 HSP
  go_wp2
  go_ret2
  exact ⟨g1, by rw [splitL_length]; simp, hg1, by rw [splitL_length]; exact HS1.out, HB1.out⟩
end Go.Proofs.Ythadkoplbgibgae
