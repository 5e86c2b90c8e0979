/- 2 texts in one. -/
import Derived.Test.YtgbmemkoggogdaaDoorZNx
import Derived.Test.YtgbmemkoggogdaaDoorRe
/- Letters by the reference (Letters, DigitOf, PackOf), letter.Pack and letter.Unpack: contracts. -/
namespace Go.Proofs.YtgbmemkoggogdaaDoor
open Go.RowKit

set_option maxHeartbeats 1000000 in
set_option maxRecDepth 4000 in
theorem letters_range (b t : Int) (w : World) (h : ¬ ((1 ≤ b ∧ b ≤ 6) ∧ 0 ≤ t ∧ t ≤ 5)) :
    Calls Tryd.prog 13 #[.int .i64 b, .int .i64 t] w fun e w' => e = .returned (.tuple #[.int .i64 0, .int .i64 1]) ∧ w' = w := by
  by_cases hb : 1 ≤ b ∧ b ≤ 6
  · obtain ⟨h1, h2⟩ := hb
    have ht : t < 0 ∨ (0 ≤ t ∧ 5 < t) := by omega
    have hk := kinds_bd2 b h2
    have hk0 : (kindsI b == 0) = false := by simp; omega
    have HR := hide (fun w => radix_yes b w h1 h2)
    generalize kindsI b = K at hk0 HR hk
    clear h
    rcases ht with ht | ⟨ht0, ht⟩
    all_goals
      go_enter Tryd.func13, Tryd.ntmps13
      go_wp2_with (go_at_call 12; refine (HR.out _).mono ?_; rintro e w' ⟨rfl, rfl⟩)
      go_ret2
      exact ⟨by simp, rfl⟩
  · have hb : b < 1 ∨ 6 < b := by omega
    clear h
    go_enter Tryd.func13, Tryd.ntmps13
    go_wp2_with (go_at_call 12; refine (radix_no _ _ hb).mono ?_; rintro e w' ⟨rfl, rfl⟩)
    go_ret2
    exact ⟨by simp, rfl⟩

set_option maxHeartbeats 1000000 in
set_option maxRecDepth 4000 in
theorem letters_ok (b : Int) (n : Nat) (w : World) (h1 : 1 ≤ b) (h2 : b ≤ 6) (hn : n ≤ 5) :
    Calls Tryd.prog 13 #[.int .i64 b, .int .i64 n] w fun e w' => e = .returned (if pw (kindsI b) n ≤ 36 then .tuple #[.int .i64 (pw (kindsI b) n), .int .i64 0] else .tuple #[.int .i64 0, .int .i64 3]) ∧ w' = w := by
  have hk := kinds_bd2 b h2
  obtain ⟨hk1, hk2⟩ := hk
  have HP := hide (pw_bd (kindsI b) hk1 hk2)
  have hni : ¬ (5 : Int) < (n : Int) := by omega
  have HK := hide (fun w => radix_yes b w h1 h2)
  have HS := hide (pw_succ (kindsI b))
  have hk0 : (kindsI b == 0) = false := by simp; omega
  have HR1 : Hid (pw (kindsI b) n ≤ 36 → (if pw (kindsI b) n ≤ 36 then Value.tuple #[.int .i64 (pw (kindsI b) n), .int .i64 0] else .tuple #[.int .i64 0, .int .i64 3]) = .tuple #[.int .i64 (pw (kindsI b) n), .int .i64 0]) := fun h => if_pos h
  have HR2 : Hid (¬ pw (kindsI b) n ≤ 36 → (if pw (kindsI b) n ≤ 36 then Value.tuple #[.int .i64 (pw (kindsI b) n), .int .i64 0] else .tuple #[.int .i64 0, .int .i64 3]) = .tuple #[.int .i64 0, .int .i64 3]) := fun h => if_neg h
  generalize (if pw (kindsI b) n ≤ 36 then Value.tuple #[.int .i64 (pw (kindsI b) n), .int .i64 0] else .tuple #[.int .i64 0, .int .i64 3]) = R at HR1 HR2 ⊢
  generalize kindsI b = K at hk1 hk2 HP HK HS HR1 HR2 hk0
  go_enter Tryd.func13, Tryd.ntmps13
  go_wp2_with (go_at_call 12; refine (HK.out _).mono ?_; rintro e w' ⟨rfl, rfl⟩)
  go_loop [7, 8] (fun s i => ∃ k : Nat, k ≤ n ∧ i = .int .i64 k ∧ s = .int .i64 (pw K k)) (fun _ i => n - (intOf i).toNat)
  case atStart => exact ⟨0, Nat.zero_le _, rfl, rfl⟩
  case round =>
    obtain ⟨k, hk, rfl, rfl⟩ := hrel
    have hpb := HP.out k (by omega)
    obtain ⟨hp1, hp2⟩ := hpb
    by_cases hlt : k < n
    · have hlti : (k : Int) < (n : Int) := by omega
      have HS' := hide (HS.out k)
      have hpb' := HP.out (k + 1) (by omega)
      rw [HS'.out] at hpb'
      obtain ⟨hq1, hq2⟩ := hpb'
      generalize pw K k = p at hp1 hp2 hq1 hq2 HS' ⊢
      go_wp2
      go_round
      case rel => exact ⟨k + 1, by omega, by go_num, by rw [HS'.out]⟩
      case measure => simp [intOf]; omega
    · have hlti : ¬ ((k : Int) < (n : Int)) := by omega
      obtain rfl : k = n := by omega
      generalize pw K k = p at hp1 hp2 HR1 HR2 ⊢
      by_cases hp : p ≤ 36
      · replace HR1 := hide (HR1.out (by omega))
        clear HR2
        go_wp2
        go_ret2
        exact ⟨by rw [HR1.out]; simp, rfl⟩
      · replace HR2 := hide (HR2.out (by omega))
        have hp' : 36 < p := by omega
        clear hp HR1
        go_wp2
        go_ret2
        exact ⟨by rw [HR2.out]; simp, rfl⟩

theorem letters_u (b t : Int) (w : World) :
    Calls Tryd.prog 13 #[.int .i64 b, .int .i64 t] w fun e w' => e = .returned (.tuple #[.int .i64 (manyU b t), .int .i64 (codeM b t)]) ∧ w' = w := by
  by_cases h : (1 ≤ b ∧ b ≤ 6) ∧ 0 ≤ t ∧ t ≤ 5
  · obtain ⟨n, rfl⟩ : ∃ n : Nat, t = n := ⟨t.toNat, by omega⟩
    have := letters_ok b n w h.1.1 h.1.2 (by omega)
    unfold manyU codeM
    rw [if_pos h, Int.toNat_natCast]
    by_cases hp : pw (kindsI b) n ≤ 36
    · simpa [hp] using this
    · simpa [hp] using this
  · have := letters_range b t w h
    unfold manyU codeM
    rw [if_neg h]
    simpa using this

set_option maxHeartbeats 1000000 in
set_option maxRecDepth 4000 in
theorem digitOf_any (b : Int) (n : Nat) (l : Int) (i : Nat) (w : World) (h1 : 1 ≤ b) (h2 : b ≤ 6) (hn : n ≤ 5) (hi : i < n) (hl : 0 ≤ l) (hl' : l ≤ 100000000) :
    Calls Tryd.prog 54 #[.int .i64 b, .int .i64 n, .int .i64 l, .int .i64 i] w fun e w' => e = .returned (.int .i64 (dOf b n l i)) ∧ w' = w := by
  have hk := kinds_bd2 b h2
  obtain ⟨hk1, hk2⟩ := hk
  have HK := hide (fun w => radix_yes b w h1 h2)
  have HDB := hide (div_bd (kindsI b) hk1 l hl)
  have HDP := hide (div_pw (kindsI b) hk1 l)
  have hk0 : (kindsI b == 0) = false := by simp; omega
  have HD0 : Hid (l / pw (kindsI b) 0 = l) := by show _ = _; simp [pw]
  have HEND : Hid (dOf b n l i = l / pw (kindsI b) (n - 1 - i) % kindsI b) := rfl
  generalize dOf b n l i = D at HEND ⊢
  generalize kindsI b = K at hk1 hk2 HK HDB HDP hk0 HD0 HEND
  go_enter Tryd.func54, Tryd.ntmps54
  go_wp2_with (go_at_call 12; refine (HK.out _).mono ?_; rintro e w' ⟨rfl, rfl⟩)
  go_loop [2, 10] (fun s u => ∃ k m : Nat, m + 1 + k = n ∧ i ≤ m ∧ u = .int .i64 m ∧ s = .int .i64 (l / pw K k)) (fun _ u => (intOf u).toNat)
  case atStart => exact ⟨0, n - 1, by omega, by omega, by congr 1; omega, by rw [HD0.out]⟩
  case round =>
    obtain ⟨k, m, hm, him, rfl, rfl⟩ := hrel
    have hdb := HDB.out k
    obtain ⟨hd1, hd2⟩ := hdb
    by_cases hlt : i < m
    · have hlti : (i : Int) < (m : Int) := by omega
      have HDP' := hide (HDP.out k)
      generalize l / pw K k = q at hd1 hd2 HDP' ⊢
      go_wp2
      go_round
      case rel => exact ⟨k + 1, m - 1, by omega, by omega, by congr 1; omega, by rw [HDP'.out]⟩
      case measure => simp [intOf]; omega
    · have hlti : ¬ ((i : Int) < (m : Int)) := by omega
      have HE : Hid (D = l / pw K k % K) := by rw [show k = n - 1 - i by omega]; exact HEND.out
      clear HEND
      generalize l / pw K k = q at hd1 hd2 HE ⊢
      go_wp2
      go_ret
      exact ⟨by rw [HE.out]; simp, rfl⟩

end Go.Proofs.YtgbmemkoggogdaaDoor

/- filbertsame.Lists, Autos: two that read alike are the same; the reference's Alike: contracts. -/
namespace Go.Proofs.YtgbmemkoggogdaaDoor
open Go.RowKit

theorem sl_drew {w : World} {a : Option Addr} {len : Nat} {l : List Int} (h : Sl w a len l) (n : Nat) : Sl (w.drewN n) a len l := sl_below h (below_drewN (Below.refl _ _) n)

set_option maxHeartbeats 2000000 in
set_option maxRecDepth 4000 in
theorem lists_eq (a a' : Option Addr) (n cap cap' : Nat) (N : List (List Int)) (w : World) (hs : Sl2 w a n N) (hs' : Sl2 w a' n N) :
    Calls Tryd.prog 20 #[.slice a n cap, .slice a' n cap'] w fun e w' => e = .returned (.bool true) ∧ ∃ k, w' = w.drewN k := by
  have hm := hs.2.1
  unfold maxLen at hm
  have HS := hide hs
  have HS' := hide hs'
  have hnn : ((n : Int) != (n : Int)) = false := by simp
  have HI : Hid (∀ W (a1 a2 : Option Addr) (l1 c1 c2 : Nat) (r : List Int), Sl W a1 l1 r → Sl W a2 l1 r → Calls Tryd.prog 41 #[.slice a1 l1 c1, .slice a2 l1 c2] W fun e w' => e = .returned (.bool true) ∧ ∃ k, w' = W.drewN k) := by
    intro W a1 a2 l1 c1 c2 r h1 h2
    have := ints_long a1 a2 l1 c1 c2 r r W h1 h2
    rwa [decide_eq_true rfl] at this
  clear hs hs'
  go_enter Tryd.func20, Tryd.ntmps20
  go_wp2
  go_loopw [5] (fun i wx => ∃ k q : Nat, k ≤ n ∧ i = .int .i64 k ∧ wx = w.drewN q) (fun i _ => n - (intOf i).toNat)
  case atStart => exact ⟨0, 0, by omega, rfl, rfl⟩
  case round =>
    obtain ⟨k, q, hk, rfl, hwx⟩ := hrel
    have HWX := hide hwx
    by_cases hlt : k < n
    · have hlti : (k : Int) < (n : Int) := by omega
      obtain ⟨b1, o1, a1, c1, rfl, h1, s1⟩ := sl2_cell HS.out k hlt
      obtain ⟨b2, o2, a2, c2, rfl, h2, s2⟩ := sl2_cell HS'.out k hlt
      have g1 : wr.cell? ⟨b1, o1 + k, none⟩ = some (.slice a1 (N.getD k []).length c1) := by rw [hwx]; exact h1
      have g2 : wr.cell? ⟨b2, o2 + k, none⟩ = some (.slice a2 (N.getD k []).length c2) := by rw [hwx]; exact h2
      have HK := hide (fun j => HI.out (wr.drewN j) a1 a2 (N.getD k []).length c1 c2 (N.getD k []) (by rw [hwx, World.drewN_drewN]; exact sl_drew s1 _) (by rw [hwx, World.drewN_drewN]; exact sl_drew s2 _))
      clear h1 h2 s1 s2 hwx
      generalize (N.getD k []).length = rl at g1 g2 HK
      go_wp2
      go_quiet (first | (go_at_call 41; refine Calls.quiet_of (HK.out _)))
      go_wp2
      go_roundw
      case rel => exact ⟨k + 1, q + nq, by omega, by go_num, by rw [HWX.out, World.drewN_drewN]⟩
      case measure => simp [intOf]; omega
    · have hlti : ¬ ((k : Int) < (n : Int)) := by omega
      clear hwx
      go_wp2
      go_ret
      exact ⟨by simp, q, HWX.out⟩

/-- Two automata in their boxes, one behind the other. -/
theorem two_boxes {w w' : World} {v0 v1 v2 v3 u0 u1 u2 u3 : Value} {T : TypeId} (hb : Below ((w.alloc (.cells #[v0, v1, v2, v3] T)).alloc (.cells #[u0, u1, u2, u3] T)).heap.size ((w.alloc (.cells #[v0, v1, v2, v3] T)).alloc (.cells #[u0, u1, u2, u3] T)) w') :
    (w'.cell? ⟨w.heap.size, 0, none⟩ = some v0 ∧ w'.cell? ⟨w.heap.size, 1, none⟩ = some v1 ∧ w'.cell? ⟨w.heap.size, 2, none⟩ = some v2 ∧ w'.cell? ⟨w.heap.size, 3, none⟩ = some v3) ∧
    (w'.cell? ⟨w.heap.size + 1, 0, none⟩ = some u0 ∧ w'.cell? ⟨w.heap.size + 1, 1, none⟩ = some u1 ∧ w'.cell? ⟨w.heap.size + 1, 2, none⟩ = some u2 ∧ w'.cell? ⟨w.heap.size + 1, 3, none⟩ = some u3) := by
  have h2 := box4 hb
  rw [World.size_alloc] at h2
  exact ⟨box4 (below_step ((Below.refl _ _).alloc (Nat.le_refl _) _) hb), h2⟩

set_option maxHeartbeats 4000000 in
set_option maxRecDepth 4000 in
theorem autos_eq (b t : Int) (a1 : Option Addr) (n c1 : Nat) (e1 : Option Addr) (k d1 : Nat) (a2 : Option Addr) (c2 : Nat) (e2 : Option Addr) (d2 : Nat) (N : List (List Int)) (E : List Bool) (w : World) (h1 : Sl2 w a1 n N) (g1 : SlB w e1 k E) (h2 : Sl2 w a2 n N) (g2 : SlB w e2 k E) :
    Calls Tryd.prog 9 #[.agg #[.int .i64 b, .int .i64 t, .slice a1 n c1, .slice e1 k d1], .agg #[.int .i64 b, .int .i64 t, .slice a2 n c2, .slice e2 k d2]] w fun e w' => e = .returned (.bool true) ∧ Below w.heap.size w w' := by
  have hB : Below w.heap.size w ((w.alloc (.cells #[.int .i64 b, .int .i64 t, .slice a1 n c1, .slice e1 k d1] 30)).alloc (.cells #[.int .i64 b, .int .i64 t, .slice a2 n c2, .slice e2 k d2] 30)) := ((Below.refl _ _).alloc (Nat.le_refl _) _).alloc (by simp) _
  have HB := hide hB
  have HL := hide (lists_eq a1 a2 n c1 c2 N _ (sl2_below h1 hB) (sl2_below h2 hB))
  have HG1 := hide (slB_below g1 hB)
  have HG2 := hide (slB_below g2 hB)
  have HBX := hide (two_boxes (Below.refl _ ((w.alloc (.cells #[.int .i64 b, .int .i64 t, .slice a1 n c1, .slice e1 k d1] 30)).alloc (.cells #[.int .i64 b, .int .i64 t, .slice a2 n c2, .slice e2 k d2] 30))))
  have hm := g1.2.1
  unfold maxLen at hm
  have hbb : (b != b) = false := by simp
  have htt : (t != t) = false := by simp
  have hkk : ((k : Int) != (k : Int)) = false := by simp
  clear h1 h2 g1 g2 hB
  go_enter Tryd.func9, Tryd.ntmps9
  obtain ⟨⟨p0, p1, p2, p3⟩, q0, q1, q2, q3⟩ := HBX.out
  go_wp2_with fail
  generalize (w.alloc (.cells #[.int .i64 b, .int .i64 t, .slice a1 n c1, .slice e1 k d1] 30)).alloc (.cells #[.int .i64 b, .int .i64 t, .slice a2 n c2, .slice e2 k d2] 30) = W at HB HL HG1 HG2 HBX p0 p1 p2 p3 q0 q1 q2 q3 ⊢
  clear p0 p1 p2 p3 q0 q1 q2 q3
  refine HL.out.mono ?_
  rintro e w1 ⟨rfl, k1, hw1⟩
  have HW1 := hide hw1
  obtain ⟨⟨p0, p1, p2, p3⟩, q0, q1, q2, q3⟩ := HBX.out
  replace p0 : w1.cell? ⟨w.heap.size, 0, none⟩ = some (.int .i64 b) := by rw [hw1]; exact p0
  replace p1 : w1.cell? ⟨w.heap.size, 1, none⟩ = some (.int .i64 t) := by rw [hw1]; exact p1
  replace p3 : w1.cell? ⟨w.heap.size, 3, none⟩ = some (.slice e1 k d1) := by rw [hw1]; exact p3
  replace q0 : w1.cell? ⟨w.heap.size + 1, 0, none⟩ = some (.int .i64 b) := by rw [hw1]; exact q0
  replace q1 : w1.cell? ⟨w.heap.size + 1, 1, none⟩ = some (.int .i64 t) := by rw [hw1]; exact q1
  replace q3 : w1.cell? ⟨w.heap.size + 1, 3, none⟩ = some (.slice e2 k d2) := by rw [hw1]; exact q3
  clear p2 q2 hw1
  go_wp2
  have HP3 := hide p3
  have HQ3 := hide q3
  clear p0 p1 p3 q0 q1 q3
  go_loopw [6] (fun i wx => ∃ j q : Nat, j ≤ k ∧ i = .int .i64 j ∧ wx = w1.drewN q) (fun i _ => k - (intOf i).toNat)
  case atStart => exact ⟨0, 0, by omega, rfl, rfl⟩
  case round =>
    obtain ⟨j, q, hj, rfl, hwx⟩ := hrel
    have HWX := hide hwx
    have p3 : wr.cell? ⟨w.heap.size, 3, none⟩ = some (.slice e1 k d1) := by rw [hwx]; exact HP3.out
    have q3 : wr.cell? ⟨w.heap.size + 1, 3, none⟩ = some (.slice e2 k d2) := by rw [hwx]; exact HQ3.out
    clear hwx
    by_cases hlt : j < k
    · have hlti : (j : Int) < (k : Int) := by omega
      obtain ⟨b1, o1, rfl, h1⟩ := slB_cell HG1.out j hlt
      obtain ⟨b2, o2, rfl, h2⟩ := slB_cell HG2.out j hlt
      have r1 : wr.cell? ⟨b1, o1 + j, none⟩ = some (.bool (E.getD j false)) := by rw [HWX.out, HW1.out]; exact h1
      have r2 : wr.cell? ⟨b2, o2 + j, none⟩ = some (.bool (E.getD j false)) := by rw [HWX.out, HW1.out]; exact h2
      clear h1 h2
      generalize E.getD j false = x at r1 r2
      have hxx : (x != x) = false := by simp
      go_wp2
      go_quiet (fail)
      go_wp2
      go_roundw
      case rel => exact ⟨j + 1, q + nq, by omega, by go_num, by rw [HWX.out, World.drewN_drewN]⟩
      case measure => simp [intOf]; omega
    · have hlti : ¬ ((j : Int) < (k : Int)) := by omega
      have HE : Hid (Below w.heap.size w wr) := by rw [HWX.out, HW1.out]; exact below_drewN (below_drewN HB.out _) _
      go_wp2
      go_ret
      exact ⟨by simp, HE.out⟩

end Go.Proofs.YtgbmemkoggogdaaDoor
