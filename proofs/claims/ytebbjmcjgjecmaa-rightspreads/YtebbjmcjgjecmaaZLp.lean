/- 3 texts in one. -/
import Derived.Test.YtebbjmcjgjecmaaRows
import Derived.Below
import Derived.LaidEql
import Derived.OwnWalk
import Derived.RowKitTokens
import Derived.Stop.Asserts
import Derived.WalkKit
import Derived.Test.YtebbjmcjgjecmaaMa
import Derived.Test.YtebbjmcjgjecmaaB
import Derived.Test.YtebbjmcjgjecmaaZNx
import Derived.Test.YtebbjmcjgjecmaaZG
import Derived.Test.YtebbjmcjgjecmaaZF
/- Letters by the reference (Letters, DigitOf, PackOf), letter.Pack and letter.Unpack: contracts. -/
namespace Go.Proofs.Ytebbjmcjgjecmaa
open Go.RowKit

/-- The fault of digits that are to be one letter; the letter. -/
def codeP (b : Int) (l : List Int) : Int := if codeM b l.length = 0 then (if digB b l = true then 0 else 1) else codeM b l.length
def packU (b : Int) (l : List Int) : Int := if codeP b l = 0 then packL b l else 0

set_option maxHeartbeats 1000000 in
set_option maxRecDepth 4000 in
theorem pack_many (b : Int) (a : Option Addr) (len cap : Nat) (w : World) (hM : codeM b len ≠ 0) :
    Calls Try.prog 37 #[.int .i64 b, .slice a len cap] w fun e w' => e = .returned (.tuple #[.int .i64 0, errV (codeM b len)]) ∧ w' = w := by
  have HMC := hide (many_u b len w)
  rw [errV_ne hM] at HMC ⊢
  generalize codeM b len = c at HMC ⊢
  generalize manyU b len = M at HMC
  clear hM
  go_enter Try.func37, Try.ntmps37
  go_wp2_with (go_at_call 9; refine HMC.out.mono ?_; rintro e w' ⟨rfl, hw⟩; rw [hw]; clear hw w')
  go_ret2
  exact ⟨by simp, rfl⟩

set_option maxHeartbeats 1000000 in
set_option maxRecDepth 4000 in
theorem pack_ok (b : Int) (a : Option Addr) (len cap : Nat) (l : List Int) (w : World) (hM : codeM b len = 0) (hs : Sl w a len l) :
    Calls Try.prog 37 #[.int .i64 b, .slice a len cap] w fun e w' => e = .returned (.tuple #[.int .i64 (if digB b l = true then packL b l else 0), errV (if digB b l = true then 0 else 1)]) ∧ w' = w := by
  obtain ⟨h1, h2, h3, h4, _, _⟩ := codeM_zero hM
  have HL := hide hs.1
  have HS := hide hs
  have hk := kinds_bd2 b h2
  obtain ⟨hk1, hk2⟩ := hk
  have HMC := hide (many_u b len w)
  rw [hM, errV_zero] at HMC
  generalize manyU b len = M at HMC
  have HK := hide (fun w => kinds_any b w h1 h2)
  have HT := hide (packL_take_succ b l)
  have HBD : Hid (∀ k, k ≤ len → digB b (l.take k) = true → 0 ≤ packL b (l.take k) ∧ packL b (l.take k) ≤ 7776) := by
    intro k hk hd
    have hlk : (l.take k).length = k := by rw [List.length_take, hs.1]; omega
    have := packL_bd b h2 (l.take k) k (by rw [hlk]; omega) (fun j hj => digB_get2 hd j (by rw [hlk]; omega))
    rw [List.take_take, Nat.min_self] at this
    have := pw_bd (kindsI b) hk1 hk2 k (by omega)
    omega
  have HDT := hide (digB_take_succ b l)
  have HDN : Hid (∀ k, k < len → ¬ (0 ≤ l.getD k 0 ∧ l.getD k 0 < kindsI b) → digB b l = false) := by
    intro k hk hx
    have := digB_not b l k (by rw [hs.1]; exact hk) hx
    unfold chkV at this
    split at this
    · cases this
    · rename_i h; simpa using h
  have HR1 : Hid (digB b l = true → (Value.tuple #[.int .i64 (if digB b l = true then packL b l else 0), errV (if digB b l = true then 0 else 1)]) = .tuple #[.int .i64 (packL b l), .nilIface]) := by
    intro h; rw [if_pos h, if_pos h, errV_zero]
  have HR2 : Hid (digB b l = false → (Value.tuple #[.int .i64 (if digB b l = true then packL b l else 0), errV (if digB b l = true then 0 else 1)]) = .tuple #[.int .i64 0, .iface 44 (.int .i64 1)]) := by
    intro h; rw [if_neg (by simp [h]), if_neg (by simp [h]), errV_ne (by decide)]
  generalize Value.tuple #[.int .i64 (if digB b l = true then packL b l else 0), errV (if digB b l = true then 0 else 1)] = R at HR1 HR2 ⊢
  clear hs hM
  generalize kindsI b = K at hk1 hk2 HK HT HDT HDN
  go_enter Try.func37, Try.ntmps37
  go_wp2_with (go_at_call 9; refine HMC.out.mono ?_; rintro e w' ⟨rfl, hw⟩; rw [hw]; clear hw w')
  clear HMC
  go_loop [8, 23] (fun s i => ∃ k : Nat, k ≤ len ∧ i = .int .i64 k ∧ s = .int .i64 (packL b (l.take k)) ∧ digB b (l.take k) = true) (fun _ i => len - (intOf i).toNat)
  case atStart => exact ⟨0, Nat.zero_le _, rfl, rfl, rfl⟩
  case round =>
    obtain ⟨k, hk, rfl, rfl, hd⟩ := hrel
    have hbd := HBD.out k hk hd
    obtain ⟨hb1, hb2⟩ := hbd
    have HD := hide hd
    clear hd
    by_cases hlt : k < len
    · obtain ⟨bb, o, rfl, hck⟩ := sl_cell HS.out k hlt
      have hlti : (k : Int) < (len : Int) := by omega
      have HT' := hide (HT.out k (by rw [HL.out]; exact hlt))
      have HDT' := hide (HDT.out k (by rw [HL.out]; exact hlt))
      have HDN' := hide (HDN.out k hlt)
      generalize l.getD k 0 = x at hck HT' HDT' HDN'
      generalize packL b (l.take k) = p at hb1 hb2 HT' ⊢
      by_cases hx : 0 ≤ x ∧ x < K
      · obtain ⟨hx1, hx2⟩ := hx
        have hm1 : 0 ≤ p * K := Int.mul_nonneg hb1 (by omega)
        have hm2 : p * K ≤ 7776 * 6 := Int.mul_le_mul hb2 hk2 (by omega) (by omega)
        go_wp2_with (go_at_call 22; refine (HK.out _).mono ?_; rintro e w' ⟨rfl, rfl⟩)
        go_round
        case rel => exact ⟨k + 1, by omega, by go_num, by rw [HT'.out], by rw [HDT'.out, HD.out]; simp [hx1, hx2]⟩
        case measure => simp [intOf]; omega
      · have HF := hide (HR2.out (HDN'.out hx))
        have hx' : x < 0 ∨ (0 ≤ x ∧ K ≤ x) := by omega
        clear hx
        rcases hx' with hx | ⟨hx1, hx2⟩
        all_goals
          go_wp2_with (go_at_call 22; refine (HK.out _).mono ?_; rintro e w' ⟨rfl, rfl⟩)
          go_ret2
          exact ⟨by rw [HF.out]; simp, rfl⟩
    · have hlti : ¬ ((k : Int) < (len : Int)) := by omega
      obtain rfl : k = len := by omega
      have HA : Hid (l.take k = l) := List.take_of_length_le (by rw [HL.out]; omega)
      rw [HA.out] at HD hb1 hb2 ⊢
      have HF := hide (HR1.out HD.out)
      generalize packL b l = p at hb1 hb2 HF ⊢
      go_wp2
      go_ret2
      exact ⟨by rw [HF.out]; simp, rfl⟩

theorem pack_u (b : Int) (a : Option Addr) (len cap : Nat) (l : List Int) (w : World) (hs : Sl w a len l) :
    Calls Try.prog 37 #[.int .i64 b, .slice a len cap] w fun e w' => e = .returned (.tuple #[.int .i64 (packU b l), errV (codeP b l)]) ∧ w' = w := by
  by_cases hM : codeM b len = 0
  · have := pack_ok b a len cap l w hM hs
    have hc : codeP b l = if digB b l = true then 0 else 1 := by unfold codeP; rw [hs.1, if_pos hM]
    have hp : packU b l = if digB b l = true then packL b l else 0 := by
      unfold packU; rw [hc]; split <;> simp
    rw [hc, hp]
    exact this
  · have := pack_many b a len cap w hM
    have hc : codeP b l = codeM b len := by unfold codeP; rw [hs.1, if_neg hM]
    have hp : packU b l = 0 := by unfold packU; rw [hc, if_neg hM]
    rw [hc, hp]
    exact this

/-- The fault of a letter. -/
def codeU (b t l : Int) : Int := if codeM b t = 0 then (if 0 ≤ l ∧ l < manyU b t then 0 else 1) else codeM b t

theorem codeU_zero {b t l : Int} (h : codeU b t l = 0) : codeM b t = 0 ∧ 0 ≤ l ∧ l < manyU b t := by
  unfold codeU at h
  split at h
  · split at h
    · exact ⟨by assumption, by omega, by omega⟩
    · cases h
  · contradiction

end Go.Proofs.Ytebbjmcjgjecmaa

/- filbertsame.Lists, Autos: two that read alike are the same; the reference's Alike: contracts. -/
namespace Go.Proofs.Ytebbjmcjgjecmaa
open Go.RowKit

theorem sl_drew {w : World} {a : Option Addr} {len : Nat} {l : List Int} (h : Sl w a len l) (n : Nat) : Sl (w.drewN n) a len l := sl_below h (below_drewN (Below.refl _ _) n)

set_option maxHeartbeats 2000000 in
set_option maxRecDepth 4000 in
theorem lists_eq (a a' : Option Addr) (n cap cap' : Nat) (N : List (List Int)) (w : World) (hs : Sl2 w a n N) (hs' : Sl2 w a' n N) :
    Calls Try.prog 19 #[.slice a n cap, .slice a' n cap'] w fun e w' => e = .returned (.bool true) ∧ ∃ k, w' = w.drewN k := by
  have hm := hs.2.1
  unfold maxLen at hm
  have HS := hide hs
  have HS' := hide hs'
  have hnn : ((n : Int) != (n : Int)) = false := by simp
  have HI : Hid (∀ W (a1 a2 : Option Addr) (l1 c1 c2 : Nat) (r : List Int), Sl W a1 l1 r → Sl W a2 l1 r → Calls Try.prog 29 #[.slice a1 l1 c1, .slice a2 l1 c2] W fun e w' => e = .returned (.bool true) ∧ ∃ k, w' = W.drewN k) := by
    intro W a1 a2 l1 c1 c2 r h1 h2
    have := ints_long a1 a2 l1 c1 c2 r r W h1 h2
    rwa [decide_eq_true rfl] at this
  clear hs hs'
  go_enter Try.func19, Try.ntmps19
  go_wp2
  go_loopw [5] (fun i wx => ∃ k q : Nat, k ≤ n ∧ i = .int .i64 k ∧ wx = w.drewN q) (fun i _ => n - (intOf i).toNat)
  case atStart => exact ⟨0, 0, by omega, rfl, rfl⟩
  case round =>
    obtain ⟨k, q, hk, rfl, hwx⟩ := hrel
    have HWX := hide hwx
    by_cases hlt : k < n
    · have hlti : (k : Int) < (n : Int) := by omega
      obtain ⟨b1, o1, a1, c1, rfl, h1, s1⟩ := sl2_cell HS.out k hlt
      obtain ⟨b2, o2, a2, c2, rfl, h2, s2⟩ := sl2_cell HS'.out k hlt
      have g1 : wr.cell? ⟨b1, o1 + k, none⟩ = some (.slice a1 (N.getD k []).length c1) := by rw [hwx]; exact h1
      have g2 : wr.cell? ⟨b2, o2 + k, none⟩ = some (.slice a2 (N.getD k []).length c2) := by rw [hwx]; exact h2
      have HK := hide (fun j => HI.out (wr.drewN j) a1 a2 (N.getD k []).length c1 c2 (N.getD k []) (by rw [hwx, World.drewN_drewN]; exact sl_drew s1 _) (by rw [hwx, World.drewN_drewN]; exact sl_drew s2 _))
      clear h1 h2 s1 s2 hwx
      generalize (N.getD k []).length = rl at g1 g2 HK
      go_wp2
      go_quiet (first | (go_at_call 29; refine Calls.quiet_of (HK.out _)))
      go_wp2
      go_roundw
      case rel => exact ⟨k + 1, q + nq, by omega, by go_num, by rw [HWX.out, World.drewN_drewN]⟩
      case measure => simp [intOf]; omega
    · have hlti : ¬ ((k : Int) < (n : Int)) := by omega
      clear hwx
      go_wp2
      go_ret
      exact ⟨by simp, q, HWX.out⟩

/-- Two automata in their boxes, one behind the other. -/
theorem two_boxes {w w' : World} {v0 v1 v2 v3 u0 u1 u2 u3 : Value} {T : TypeId} (hb : Below ((w.alloc (.cells #[v0, v1, v2, v3] T)).alloc (.cells #[u0, u1, u2, u3] T)).heap.size ((w.alloc (.cells #[v0, v1, v2, v3] T)).alloc (.cells #[u0, u1, u2, u3] T)) w') :
    (w'.cell? ⟨w.heap.size, 0, none⟩ = some v0 ∧ w'.cell? ⟨w.heap.size, 1, none⟩ = some v1 ∧ w'.cell? ⟨w.heap.size, 2, none⟩ = some v2 ∧ w'.cell? ⟨w.heap.size, 3, none⟩ = some v3) ∧
    (w'.cell? ⟨w.heap.size + 1, 0, none⟩ = some u0 ∧ w'.cell? ⟨w.heap.size + 1, 1, none⟩ = some u1 ∧ w'.cell? ⟨w.heap.size + 1, 2, none⟩ = some u2 ∧ w'.cell? ⟨w.heap.size + 1, 3, none⟩ = some u3) := by
  have h2 := box4 hb
  rw [World.size_alloc] at h2
  exact ⟨box4 (below_step ((Below.refl _ _).alloc (Nat.le_refl _) _) hb), h2⟩

set_option maxHeartbeats 4000000 in
set_option maxRecDepth 4000 in
theorem autos_eq (b t : Int) (a1 : Option Addr) (n c1 : Nat) (e1 : Option Addr) (k d1 : Nat) (a2 : Option Addr) (c2 : Nat) (e2 : Option Addr) (d2 : Nat) (N : List (List Int)) (E : List Bool) (w : World) (h1 : Sl2 w a1 n N) (g1 : SlB w e1 k E) (h2 : Sl2 w a2 n N) (g2 : SlB w e2 k E) :
    Calls Try.prog 7 #[.agg #[.int .i64 b, .int .i64 t, .slice a1 n c1, .slice e1 k d1], .agg #[.int .i64 b, .int .i64 t, .slice a2 n c2, .slice e2 k d2]] w fun e w' => e = .returned (.bool true) ∧ Below w.heap.size w w' := by
  have hB : Below w.heap.size w ((w.alloc (.cells #[.int .i64 b, .int .i64 t, .slice a1 n c1, .slice e1 k d1] 25)).alloc (.cells #[.int .i64 b, .int .i64 t, .slice a2 n c2, .slice e2 k d2] 25)) := ((Below.refl _ _).alloc (Nat.le_refl _) _).alloc (by simp) _
  have HB := hide hB
  have HL := hide (lists_eq a1 a2 n c1 c2 N _ (sl2_below h1 hB) (sl2_below h2 hB))
  have HG1 := hide (slB_below g1 hB)
  have HG2 := hide (slB_below g2 hB)
  have HBX := hide (two_boxes (Below.refl _ ((w.alloc (.cells #[.int .i64 b, .int .i64 t, .slice a1 n c1, .slice e1 k d1] 25)).alloc (.cells #[.int .i64 b, .int .i64 t, .slice a2 n c2, .slice e2 k d2] 25))))
  have hm := g1.2.1
  unfold maxLen at hm
  have hbb : (b != b) = false := by simp
  have htt : (t != t) = false := by simp
  have hkk : ((k : Int) != (k : Int)) = false := by simp
  clear h1 h2 g1 g2 hB
  go_enter Try.func7, Try.ntmps7
  obtain ⟨⟨p0, p1, p2, p3⟩, q0, q1, q2, q3⟩ := HBX.out
  go_wp2_with fail
  generalize (w.alloc (.cells #[.int .i64 b, .int .i64 t, .slice a1 n c1, .slice e1 k d1] 25)).alloc (.cells #[.int .i64 b, .int .i64 t, .slice a2 n c2, .slice e2 k d2] 25) = W at HB HL HG1 HG2 HBX p0 p1 p2 p3 q0 q1 q2 q3 ⊢
  clear p0 p1 p2 p3 q0 q1 q2 q3
  refine HL.out.mono ?_
  rintro e w1 ⟨rfl, k1, hw1⟩
  have HW1 := hide hw1
  obtain ⟨⟨p0, p1, p2, p3⟩, q0, q1, q2, q3⟩ := HBX.out
  replace p0 : w1.cell? ⟨w.heap.size, 0, none⟩ = some (.int .i64 b) := by rw [hw1]; exact p0
  replace p1 : w1.cell? ⟨w.heap.size, 1, none⟩ = some (.int .i64 t) := by rw [hw1]; exact p1
  replace p3 : w1.cell? ⟨w.heap.size, 3, none⟩ = some (.slice e1 k d1) := by rw [hw1]; exact p3
  replace q0 : w1.cell? ⟨w.heap.size + 1, 0, none⟩ = some (.int .i64 b) := by rw [hw1]; exact q0
  replace q1 : w1.cell? ⟨w.heap.size + 1, 1, none⟩ = some (.int .i64 t) := by rw [hw1]; exact q1
  replace q3 : w1.cell? ⟨w.heap.size + 1, 3, none⟩ = some (.slice e2 k d2) := by rw [hw1]; exact q3
  clear p2 q2 hw1
  go_wp2
  have HP3 := hide p3
  have HQ3 := hide q3
  clear p0 p1 p3 q0 q1 q3
  go_loopw [6] (fun i wx => ∃ j q : Nat, j ≤ k ∧ i = .int .i64 j ∧ wx = w1.drewN q) (fun i _ => k - (intOf i).toNat)
  case atStart => exact ⟨0, 0, by omega, rfl, rfl⟩
  case round =>
    obtain ⟨j, q, hj, rfl, hwx⟩ := hrel
    have HWX := hide hwx
    have p3 : wr.cell? ⟨w.heap.size, 3, none⟩ = some (.slice e1 k d1) := by rw [hwx]; exact HP3.out
    have q3 : wr.cell? ⟨w.heap.size + 1, 3, none⟩ = some (.slice e2 k d2) := by rw [hwx]; exact HQ3.out
    clear hwx
    by_cases hlt : j < k
    · have hlti : (j : Int) < (k : Int) := by omega
      obtain ⟨b1, o1, rfl, h1⟩ := slB_cell HG1.out j hlt
      obtain ⟨b2, o2, rfl, h2⟩ := slB_cell HG2.out j hlt
      have r1 : wr.cell? ⟨b1, o1 + j, none⟩ = some (.bool (E.getD j false)) := by rw [HWX.out, HW1.out]; exact h1
      have r2 : wr.cell? ⟨b2, o2 + j, none⟩ = some (.bool (E.getD j false)) := by rw [HWX.out, HW1.out]; exact h2
      clear h1 h2
      generalize E.getD j false = x at r1 r2
      have hxx : (x != x) = false := by simp
      go_wp2
      go_quiet (fail)
      go_wp2
      go_roundw
      case rel => exact ⟨j + 1, q + nq, by omega, by go_num, by rw [HWX.out, World.drewN_drewN]⟩
      case measure => simp [intOf]; omega
    · have hlti : ¬ ((j : Int) < (k : Int)) := by omega
      have HE : Hid (Below w.heap.size w wr) := by rw [HWX.out, HW1.out]; exact below_drewN (below_drewN HB.out _) _
      go_wp2
      go_ret
      exact ⟨by simp, HE.out⟩

/-- What is wrong with two automata. -/
def alikeC (b t : Int) (N : List (List Int)) (k : Nat) (b' t' : Int) (N' : List (List Int)) (k' : Nat) : Int :=
  if autoC b t N k = 0 then (if autoC b' t' N' k' = 0 then (if b = b' ∧ t = t' then 0 else 2) else autoC b' t' N' k') else autoC b t N k

end Go.Proofs.Ytebbjmcjgjecmaa

/- letter.split and letter.Unpack, with the capacity of what they make. -/
namespace Go.Proofs.Ytebbjmcjgjecmaa
open Go.RowKit

def GivesRowC (w : World) (l : List Int) (e : Ending) (w' : World) : Prop := ∃ g, e = .returned (.slice (some ⟨g, 0, none⟩) l.length l.length) ∧ w.heap.size ≤ g ∧ Sl w' (some ⟨g, 0, none⟩) l.length l ∧ Below w.heap.size w w'
def UnpackC (w : World) (l : List Int) (e : Ending) (w' : World) : Prop := ∃ g, e = .returned (.tuple #[.slice (some ⟨g, 0, none⟩) l.length l.length, .nilIface]) ∧ w.heap.size ≤ g ∧ Sl w' (some ⟨g, 0, none⟩) l.length l ∧ Below w.heap.size w w'

theorem spAt_cap {b : Int} {n : Nat} {l : Int} {w wr : World} (h2 : b ≤ 6) (hn : n ≤ 5) (h : SpAt b n l w n wr) : GivesRowC w (splitL b n l) (.returned (.slice (some ⟨w.heap.size, 0, none⟩) n n)) wr := by
  refine ⟨w.heap.size, by rw [splitL_length], Nat.le_refl _, ?_, h.2⟩
  rw [splitL_length]
  refine sl_of_rowIs (splitL_length _ _ _) (by unfold maxLen; omega) (fun x hx => ?_) (h.1.congr fun i hi => ?_)
  · simp only [splitL, List.mem_map, List.mem_range] at hx
    obtain ⟨i, _, rfl⟩ := hx
    have := dOf_bd b h2 n l i
    have := kinds_bd2 b h2
    exact Go.WalkArith.wf_i64 (by omega)
  · rw [if_pos (by omega), splitL_get _ _ _ _ hi]

set_option maxHeartbeats 1000000 in
set_option maxRecDepth 4000 in
theorem split_cap (b : Int) (n : Nat) (l : Int) (w : World) (h1 : 1 ≤ b) (h2 : b ≤ 6) (hn : n ≤ 5) (hl : 0 ≤ l) (hl' : l ≤ 100000000) :
    Calls Try.prog 47 #[.int .i64 b, .int .i64 n, .int .i64 l] w (GivesRowC w (splitL b n l)) := by
  have hk := kinds_bd2 b h2
  obtain ⟨hk1, hk2⟩ := hk
  have HK := hide (fun w => kinds_any b w h1 h2)
  have hmk := make_ints n (by omega)
  have HE := hide (fun wr => @spAt_cap b n l w wr h2 hn)
  have HST := hide (fun wr k m => @spAt_step b n l w wr k m)
  have HDB := hide (div_bd (kindsI b) hk1 l hl)
  have HDP := hide (div_pw (kindsI b) hk1 l)
  have hk0 : (kindsI b == 0) = false := by simp; omega
  have H0 : Hid (SpAt b n l w 0 (w.alloc (.cells (madeCells #[.int .i64 0] n) 3))) := by
    refine ⟨(World.rowIs_made w (.int .i64 0) n 3).congr fun p hp => ?_, (Below.refl _ _).alloc (Nat.le_refl _) _⟩
    rw [if_neg (by omega)]
  have HD0 : Hid (l / pw (kindsI b) 0 = l) := by show _ = _; simp [pw]
  go_enter Try.func47, Try.ntmps47
  go_wp2
  generalize w.alloc (.cells (madeCells #[.int .i64 0] n) 3) = W at H0 ⊢
  generalize kindsI b = K at hk1 hk2 HK HST HDB HDP hk0 HD0
  go_loopw [2, 12] (fun s i wx => ∃ k : Nat, k ≤ n ∧ i = .int .i64 k ∧ s = .int .i64 (l / pw K k) ∧ SpAt b n l w k wx) (fun _ i _ => n - (intOf i).toNat)
  case atStart => exact ⟨0, by omega, rfl, by rw [HD0.out], H0.out⟩
  case round =>
    obtain ⟨k, hk, rfl, rfl, ho⟩ := hrel
    have HA := hide ho
    clear ho
    by_cases hlt : k < n
    · have hlti : (k : Int) < (n : Int) := by omega
      obtain ⟨m, hm⟩ : ∃ m, n = m + 1 + k := ⟨n - 1 - k, by omega⟩
      have HM := hide hm
      have hmi : (n : Int) - 1 - (k : Int) = (m : Int) := by omega
      have hmn : m < n := by omega
      clear hm
      have HS' := hide (HST.out wr k m HA.out HM.out)
      have hdb := HDB.out k
      obtain ⟨hd1, hd2⟩ := hdb
      have HDP' := hide (HDP.out k)
      have hcell := HA.out.1.cell hmn
      have hfz := HA.out.1.frozen m
      have hmni : (m : Int) < (n : Int) := by omega
      generalize (Value.int IntKind.i64 (if n ≤ m + k then dOf b n l m else 0)) = old at hcell
      generalize l / pw K k = q at hd1 hd2 HDP' HS' ⊢
      go_wp2_with (go_at_call 22; refine (HK.out _).mono ?_; rintro e w' ⟨rfl, hw⟩; rw [hw]; clear hw w')
      go_roundw
      case rel => exact ⟨k + 1, by omega, by go_num, by rw [HDP'.out], HS'.out⟩
      case measure => simp [intOf]; omega
    · have hlti : ¬ ((k : Int) < (n : Int)) := by omega
      obtain rfl : k = n := by omega
      go_wp2
      go_ret
      exact HE.out wr HA.out

set_option maxHeartbeats 1000000 in
set_option maxRecDepth 4000 in
theorem unpack_cap (b : Int) (n : Nat) (l : Int) (w : World) (h : codeU b n l = 0) :
    Calls Try.prog 36 #[.int .i64 b, .int .i64 n, .int .i64 l] w (UnpackC w (splitL b n l)) := by
  obtain ⟨hM, hl1, hl2⟩ := codeU_zero h
  obtain ⟨h1, h2, h3, h4, h5, h6⟩ := codeM_zero hM
  have HMC := hide (many_u b n w)
  rw [hM, errV_zero] at HMC
  have HSP := hide (split_cap b n l w h1 h2 (by omega) hl1 (by omega))
  generalize manyU b n = M at HMC hl2 h6
  have hl3 : decide (M ≤ l) = false := by simp; omega
  clear h hM h5 h6
  go_enter Try.func36, Try.ntmps36
  go_wp2_with (go_at_call 9; refine HMC.out.mono ?_; rintro e w' ⟨rfl, hw⟩; rw [hw]; clear hw w')
  refine HSP.out.mono ?_
  rintro e w1 ⟨g1, rfl, hg1, hs1, hb1⟩
  rw [splitL_length] at hs1 ⊢
  have HS1 := hide hs1
  have HB1 := hide hb1
  clear hs1 hb1 HSP
  go_wp2
  go_ret2
  exact ⟨g1, by rw [splitL_length]; simp, hg1, by rw [splitL_length]; exact HS1.out, HB1.out⟩
end Go.Proofs.Ytebbjmcjgjecmaa
