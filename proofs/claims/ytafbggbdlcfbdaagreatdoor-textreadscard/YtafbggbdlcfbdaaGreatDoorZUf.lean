/- 5 texts in one. -/
import Derived.Test.YtafbggbdlcfbdaaGreatDoorLb
import Derived.Test.YtafbggbdlcfbdaaGreatDoorZUd
import Derived.Test.YtafbggbdlcfbdaaGreatDoorZNr
import Derived.Test.YtafbggbdlcfbdaaGreatDoorZWi
/- Package text: variable, digit, number: contracts. -/
namespace Go.Proofs.YtafbggbdlcfbdaaGreatDoor
open Go.RowKit

def ltS : List UInt8 := [97, 98, 99, 100, 101]
def dgS : List UInt8 := [48, 49, 50, 51, 52, 53, 54, 55, 56, 57]
theorem lt_mem (c : UInt8) : (c ∈ ltS) ↔ isLt c = true := by
  have h : ∀ n : Fin 256, decide (UInt8.ofNat n.val ∈ ltS) = isLt (UInt8.ofNat n.val) := by decide +kernel
  have h2 := h ⟨c.toNat, c.toNat_lt⟩
  simp only [UInt8.ofNat_toNat] at h2
  rw [← h2, decide_eq_true_iff]
theorem dg_mem (c : UInt8) : (c ∈ dgS) ↔ isDg c = true := by
  have h : ∀ n : Fin 256, decide (UInt8.ofNat n.val ∈ dgS) = isDg (UInt8.ofNat n.val) := by decide +kernel
  have h2 := h ⟨c.toNat, c.toNat_lt⟩
  simp only [UInt8.ofNat_toNat] at h2
  rw [← h2, decide_eq_true_iff]
theorem lt_0 : (0 : UInt8) ∉ ltS := by decide
theorem dg_0 : (0 : UInt8) ∉ dgS := by decide
theorem wrap8 {x : Int} (h0 : 0 ≤ x) (h1 : x < 256) : IntKind.u8.wrap x = x := by
  show x % 256 = x
  omega
set_option maxHeartbeats 4000000 in
set_option maxRecDepth 4000 in
theorem variable_ok (s : List UInt8) (i rb : Nat) (v : Value) (W : World) (h : RdAt W rb s i v) (hs : s.length ≤ 2000) (hm : isLt (bt s i) = true) :
    Calls Tryz.prog 68 #[.pointer (some ⟨rb, 0, none⟩)] W fun e w' => e = .returned (.int .i64 (((bt s i).toNat - 97 : Nat) : Int)) ∧ RdAt w' rb s (i + 1) v ∧ But [rb] W w' := by
  have HT := hide (fun k => take_ok s ltS i rb v (W.drewN k) h lt_0 hs ((lt_mem _).2 hm))
  obtain ⟨b1, b2⟩ := lt_bd hm
  generalize (bt s i).toNat = c at HT b1 b2 ⊢
  have hx0 : ∀ h, ((⟨#[97, 98, 99, 100, 101]⟩ : ByteArray)[0]'h).toNat = 97 := fun _ => rfl
  have b3 : (97 : Int) ≤ (c : Int) := by omega
  have b4 : (c : Int) < 102 := by omega
  have hw : IntKind.u8.wrap ((c : Int) - 97) = (c : Int) - 97 := wrap8 (by omega) (by omega)
  have HE : Hid (((c - 97 : Nat) : Int) = (c : Int) - 97) := by show _ = _; omega
  have HK : Hid (∀ k w', But [rb] (W.drewN k) w' → But [rb] W w') := fun k w' h => (But.of_below (below_drewN (Below.refl _ _) k)).trans h
  rw [HE.out]
  clear h hm b1 b2
  go_enter Tryz.func68, Tryz.ntmps68
  go_wp2
  go_region_with (first | (go_at_call 66; refine (HT.out _).mono ?_; rintro e w1 ⟨rfl, hr, hb⟩))
  all_goals go_wp2
  all_goals go_ret
  all_goals refine ⟨?_, hr, HK.out _ _ hb⟩
  all_goals simp [Act.put]
  all_goals exact wrap_i64_id ⟨by omega, by omega⟩
def vaS (i : Nat) : Nat := ([3, 4, 5, 6, 7, 2] : List Nat).getD i 0
theorem vaS_inj : ∀ i : Fin 6, ∀ j : Fin 6, vaS i.val = vaS j.val → i = j := by decide +kernel
theorem vaS_lt : ∀ i : Fin 6, vaS i.val < 8 := by decide +kernel
set_option maxHeartbeats 4000000 in
set_option maxRecDepth 4000 in
theorem variable_no (s : List UInt8) (i rb : Nat) (v : Value) (W : World) (h : RdAt W rb s i v) (hm : ¬ isLt (bt s i) = true) :
    Calls Tryz.prog 68 #[.pointer (some ⟨rb, 0, none⟩)] W fun e w' => e = .panicked [{ v := stopV i, recovered := false }] ∧ Below W.heap.size W w' := by
  have HT := hide (fun Wx (hx : Below W.heap.size W Wx) => take_no s ltS i rb v Wx (rd_below h hx) lt_0 (fun h => hm ((lt_mem _).1 h)))
  have hx0 : ∀ h, ((⟨#[97, 98, 99, 100, 101]⟩ : ByteArray)[0]'h).toNat = 97 := fun _ => rfl
  clear h hm
  go_enter Tryz.func68, Tryz.ntmps68
  go_wp2
  refine region_stops (by kernel_rfl) (rvOn_spec (by decide +kernel)) 7 1 (by decide +kernel) vaS (fun i => ([.pointer (some ⟨rb, 0, none⟩), undef, .int .u8 97, undef, undef, undef] : List Value).getD i undef) (fun i j hi hj e => by have := vaS_inj ⟨i, hi⟩ ⟨j, hj⟩ e; injection this) (fun i hi => vaS_lt ⟨i, hi⟩) ?_ ?_
  · intro T W i o ho hik hr hsz hdep hst hb
    have hi : i < 6 := (Array.getElem?_eq_some_iff.1 ho).1
    have e0 : T[0]? = some (.pointer (some ⟨rb, 0, none⟩)) := hst 0 (by decide +kernel)
    have HBW := hide hb
    have HR := hide hr
    clear hsz hst hb hr
    rcases (by omega : i = 0 ∨ i = 1 ∨ i = 2 ∨ i = 3 ∨ i = 4 ∨ i = 5) with rfl | rfl | rfl | rfl | rfl | rfl
    · injection ho with ho
      subst ho
      clear hdep HR hik
      refine wpOp_step (o := _) rfl fun K2 hK => ?_
      rw [if_pos (by rfl)]
      have HK := hide hK
      clear hK
      go_simp
      exact HK.out _ _ ⟨rfl, HBW.out⟩
    · exact absurd rfl hik
    · injection ho with ho
      subst ho
      clear hdep HR hik
      refine wpOp_step (o := _) rfl fun K2 hK => ?_
      rw [if_pos (by rfl)]
      have HK := hide hK
      clear hK
      go_simp
      exact HK.out _ _ ⟨rfl, HBW.out⟩
    · exact absurd HR.out (by decide +kernel)
    · exact absurd HR.out (by decide +kernel)
    · exact absurd HR.out (by decide +kernel)
  · intro T W o ho hdep hst hb
    have e0 : T[0]? = some (.pointer (some ⟨rb, 0, none⟩)) := hst 0 (by decide +kernel)
    injection ho with ho
    subst ho
    have d0 : T[3]? = some (.pointer (some ⟨rb, 0, none⟩)) := hdep { on := 0, ground := .data } (by simp) rfl
    have HBW := hide hb
    clear hst hb hdep
    refine wpOp_step (o := _) rfl fun K2 hK => ?_
    rw [if_pos (by rfl)]
    clear hK
    go_simp
    refine (HT.out W HBW.out).mono ?_
    rintro e w1 ⟨rfl, hb⟩
    exact ⟨rfl, rfl, below_step HBW.out hb⟩
set_option maxHeartbeats 4000000 in
set_option maxRecDepth 4000 in
theorem digit_ok (s : List UInt8) (i rb : Nat) (v : Value) (W : World) (h : RdAt W rb s i v) (hs : s.length ≤ 2000) (hm : isDg (bt s i) = true) :
    Calls Tryz.prog 78 #[.pointer (some ⟨rb, 0, none⟩)] W fun e w' => e = .returned (.int .i64 (((bt s i).toNat - 48 : Nat) : Int)) ∧ RdAt w' rb s (i + 1) v ∧ But [rb] W w' := by
  have HT := hide (fun k => take_ok s dgS i rb v (W.drewN k) h dg_0 hs ((dg_mem _).2 hm))
  obtain ⟨b1, b2⟩ := dg_bd hm
  generalize (bt s i).toNat = c at HT b1 b2 ⊢
  have hx0 : ∀ h, ((⟨#[48, 49, 50, 51, 52, 53, 54, 55, 56, 57]⟩ : ByteArray)[0]'h).toNat = 48 := fun _ => rfl
  have b3 : (48 : Int) ≤ (c : Int) := by omega
  have b4 : (c : Int) < 58 := by omega
  have hw : IntKind.u8.wrap ((c : Int) - 48) = (c : Int) - 48 := wrap8 (by omega) (by omega)
  have HE : Hid (((c - 48 : Nat) : Int) = (c : Int) - 48) := by show _ = _; omega
  have HK : Hid (∀ k w', But [rb] (W.drewN k) w' → But [rb] W w') := fun k w' h => (But.of_below (below_drewN (Below.refl _ _) k)).trans h
  rw [HE.out]
  clear h hm b1 b2
  go_enter Tryz.func78, Tryz.ntmps78
  go_wp2
  go_region_with (first | (go_at_call 66; refine (HT.out _).mono ?_; rintro e w1 ⟨rfl, hr, hb⟩))
  all_goals go_wp2
  all_goals go_ret
  all_goals refine ⟨?_, hr, HK.out _ _ hb⟩
  all_goals simp [Act.put]
  all_goals exact wrap_i64_id ⟨by omega, by omega⟩
def diS (i : Nat) : Nat := ([3, 4, 5, 6, 7, 2] : List Nat).getD i 0
theorem diS_inj : ∀ i : Fin 6, ∀ j : Fin 6, diS i.val = diS j.val → i = j := by decide +kernel
theorem diS_lt : ∀ i : Fin 6, diS i.val < 8 := by decide +kernel
set_option maxHeartbeats 4000000 in
set_option maxRecDepth 4000 in
theorem digit_no (s : List UInt8) (i rb : Nat) (v : Value) (W : World) (h : RdAt W rb s i v) (hm : ¬ isDg (bt s i) = true) :
    Calls Tryz.prog 78 #[.pointer (some ⟨rb, 0, none⟩)] W fun e w' => e = .panicked [{ v := stopV i, recovered := false }] ∧ Below W.heap.size W w' := by
  have HT := hide (fun Wx (hx : Below W.heap.size W Wx) => take_no s dgS i rb v Wx (rd_below h hx) dg_0 (fun h => hm ((dg_mem _).1 h)))
  have hx0 : ∀ h, ((⟨#[48, 49, 50, 51, 52, 53, 54, 55, 56, 57]⟩ : ByteArray)[0]'h).toNat = 48 := fun _ => rfl
  clear h hm
  go_enter Tryz.func78, Tryz.ntmps78
  go_wp2
  refine region_stops (by kernel_rfl) (rvOn_spec (by decide +kernel)) 7 1 (by decide +kernel) diS (fun i => ([.pointer (some ⟨rb, 0, none⟩), undef, .int .u8 48, undef, undef, undef] : List Value).getD i undef) (fun i j hi hj e => by have := diS_inj ⟨i, hi⟩ ⟨j, hj⟩ e; injection this) (fun i hi => diS_lt ⟨i, hi⟩) ?_ ?_
  · intro T W i o ho hik hr hsz hdep hst hb
    have hi : i < 6 := (Array.getElem?_eq_some_iff.1 ho).1
    have e0 : T[0]? = some (.pointer (some ⟨rb, 0, none⟩)) := hst 0 (by decide +kernel)
    have HBW := hide hb
    have HR := hide hr
    clear hsz hst hb hr
    rcases (by omega : i = 0 ∨ i = 1 ∨ i = 2 ∨ i = 3 ∨ i = 4 ∨ i = 5) with rfl | rfl | rfl | rfl | rfl | rfl
    · injection ho with ho
      subst ho
      clear hdep HR hik
      refine wpOp_step (o := _) rfl fun K2 hK => ?_
      rw [if_pos (by rfl)]
      have HK := hide hK
      clear hK
      go_simp
      exact HK.out _ _ ⟨rfl, HBW.out⟩
    · exact absurd rfl hik
    · injection ho with ho
      subst ho
      clear hdep HR hik
      refine wpOp_step (o := _) rfl fun K2 hK => ?_
      rw [if_pos (by rfl)]
      have HK := hide hK
      clear hK
      go_simp
      exact HK.out _ _ ⟨rfl, HBW.out⟩
    · exact absurd HR.out (by decide +kernel)
    · exact absurd HR.out (by decide +kernel)
    · exact absurd HR.out (by decide +kernel)
  · intro T W o ho hdep hst hb
    have e0 : T[0]? = some (.pointer (some ⟨rb, 0, none⟩)) := hst 0 (by decide +kernel)
    injection ho with ho
    subst ho
    have d0 : T[3]? = some (.pointer (some ⟨rb, 0, none⟩)) := hdep { on := 0, ground := .data } (by simp) rfl
    have HBW := hide hb
    clear hst hb hdep
    refine wpOp_step (o := _) rfl fun K2 hK => ?_
    rw [if_pos (by rfl)]
    clear hK
    go_simp
    refine (HT.out W HBW.out).mono ?_
    rintro e w1 ⟨rfl, hb⟩
    exact ⟨rfl, rfl, below_step HBW.out hb⟩
end Go.Proofs.YtafbggbdlcfbdaaGreatDoor

/- Package text: number: contract. -/
namespace Go.Proofs.YtafbggbdlcfbdaaGreatDoor
open Go.RowKit

/-- What is read of a number, from within: m digits behind, counting n, at place j. -/
def numI (s : List UInt8) (m n j : Nat) : Nat × Nat := if n = 0 then (0, j) else numGo s (3 - m) j n
theorem numI_start {s : List UInt8} {i : Nat} (h : isDg (bt s i) = true) : numA s i = numI s 1 ((bt s i).toNat - 48) (i + 1) := by
  have hb := dg_bd h
  unfold numA numI
  by_cases h1 : bt s i = 48
  · rw [if_pos h1, if_pos (by rw [h1]; rfl)]
  · have h2 : (bt s i).toNat ≠ 48 := fun e => h1 (UInt8.toNat_inj.1 e)
    rw [if_neg h1, if_neg (by omega), show (3 : Nat) = 2 + 1 from rfl, numGo, if_pos h]
    simp
theorem numI_next {s : List UInt8} {m n j : Nat} (hm : m < 3) (hn : n ≠ 0) (h : isDg (bt s j) = true) : numI s m n j = numI s (m + 1) (n * 10 + ((bt s j).toNat - 48)) (j + 1) := by
  unfold numI
  rw [if_neg hn, if_neg (by omega), show 3 - m = (3 - (m + 1)) + 1 by omega, numGo, if_pos h]
theorem numI_full {s : List UInt8} {m n j : Nat} (hm : ¬ m < 3) : numI s m n j = (n, j) := by
  unfold numI
  split
  · rename_i h; rw [h]
  · rw [show 3 - m = 0 by omega, numGo]
theorem numI_zero {s : List UInt8} {m j : Nat} : numI s m 0 j = (0, j) := by unfold numI; rw [if_pos rfl]
theorem numI_else {s : List UInt8} {m n j : Nat} (h : ¬ isDg (bt s j) = true) : numI s m n j = (n, j) := by
  unfold numI
  split
  · rename_i h; rw [h]
  · cases 3 - m with
    | zero => rfl
    | succ k => rw [numGo, if_neg h]
set_option maxHeartbeats 4000000 in
set_option maxRecDepth 4000 in
theorem number_no (s : List UInt8) (i rb : Nat) (v : Value) (W : World) (h : RdAt W rb s i v) (hm : ¬ isDg (bt s i) = true) :
    Calls Tryz.prog 70 #[.pointer (some ⟨rb, 0, none⟩)] W fun e w' => e = .panicked [{ v := stopV i, recovered := false }] ∧ Below W.heap.size W w' := by
  have HT := hide (digit_no s i rb v W h hm)
  clear h hm
  go_enter Tryz.func70, Tryz.ntmps70
  go_wp2_with fail
  refine HT.out.mono ?_
  rintro e w1 ⟨rfl, hb⟩
  exact ⟨rfl, rfl, hb⟩
set_option maxHeartbeats 8000000 in
set_option maxRecDepth 20000 in
theorem number_ok (s : List UInt8) (i rb : Nat) (v : Value) (W : World) (h : RdAt W rb s i v) (hs : s.length ≤ 2000) (hm : isDg (bt s i) = true) :
    Calls Tryz.prog 70 #[.pointer (some ⟨rb, 0, none⟩)] W fun e w' => e = .returned (.int .i64 ((numA s i).1 : Int)) ∧ RdAt w' rb s (numA s i).2 v ∧ But [rb] W w' := by
  have HT := hide (digit_ok s i rb v W h hs hm)
  have HSA := hide (numI_start hm)
  have hdb := dg_bd hm
  have HD := hide (fun j Wx (hx : RdAt Wx rb s j v) (hj : isDg (bt s j) = true) => digit_ok s j rb v Wx hx hs hj)
  have HS := hide (fun j Wx (hx : RdAt Wx rb s j v) => sees_any s dgS j rb v Wx hx dg_0)
  have HDM := hide (fun c => dg_mem c)
  generalize numA s i = R at HSA ⊢
  generalize (bt s i).toNat = c at HT HSA hdb
  obtain ⟨hc1, hc2⟩ := hdb
  have hc9 : c - 48 ≤ 9 := by omega
  generalize c - 48 = d0 at HT HSA hc9
  clear h hm hs hc1 hc2
  go_enter Tryz.func70, Tryz.ntmps70
  go_wp2_with fail
  refine HT.out.mono ?_
  rintro e w1 ⟨rfl, hr, hb⟩
  have HR1 := hide hr
  have HB1 := hide hb
  clear hr hb HT
  go_wp2
  go_loopw [3, 4] (fun nv mv wx => ∃ n m j : Nat, nv = .int .i64 (n : Int) ∧ mv = .int .i64 (m : Int) ∧ 1 ≤ m ∧ m ≤ 3 ∧ n < 10 ^ m ∧ RdAt wx rb s j v ∧ But [rb] W wx ∧ R = numI s m n j) (fun _ mv _ => 3 - (intOf mv).toNat)
  case atStart => exact ⟨d0, 1, i + 1, rfl, rfl, by omega, by omega, by omega, HR1.out, HB1.out, HSA.out⟩
  case round =>
    obtain ⟨n, m, j, rfl, rfl, hm1, hm3, hn, hr, hb, hR⟩ := hrel
    have HR := hide hr
    have HB := hide hb
    have HE := hide hR
    have hn3 : n < 1000 := Nat.lt_of_lt_of_le hn (by rcases (by omega : m = 1 ∨ m = 2 ∨ m = 3) with rfl | rfl | rfl <;> decide)
    have HN := hide hn
    clear hr hb hR HR1 HB1 HSA hn
    by_cases h3 : m < 3
    · have h3i : (m : Int) < 3 := by omega
      by_cases h0 : n = 0
      · subst h0
        have HF : Hid (R = (0, j)) := by show _ = _; rw [HE.out, numI_zero]
        clear HE
        go_wp2
        go_ret
        exact ⟨by rw [HF.out]; rfl, by rw [HF.out]; exact HR.out, HB.out⟩
      · have h0i : (n : Int) > 0 := by omega
        have HC := hide (HS.out j wr HR.out)
        by_cases hd : isDg (bt s j) = true
        · have hmem : decide (bt s j ∈ dgS) = true := decide_eq_true ((HDM.out _).2 hd)
          rw [hmem] at HC
          have HNX : Hid (R = numI s (m + 1) (n * 10 + ((bt s j).toNat - 48)) (j + 1)) := by show _ = _; rw [HE.out, numI_next h3 h0 hd]
          have HDC := hide (fun Wx hx => HD.out j Wx hx hd)
          have hdb := dg_bd hd
          have hc9 : (bt s j).toNat - 48 ≤ 9 := by omega
          generalize (bt s j).toNat - 48 = d at HDC HNX hc9
          have HDI : Hid ((d : Int) ≤ 9) := by show _ ≤ _; omega
          have HNI : Hid ((n : Int) < 1000) := by show _ < _; omega
          clear hmem hdb hd HE hc9 hn3
          go_wp2_with fail
          refine HC.out.mono ?_
          rintro e w2 ⟨rfl, hb2⟩
          have HC2 := hide (HDC.out w2 (rd_below HR.out hb2))
          have HB2 := hide hb2
          clear hb2 HC
          go_wp2_with fail
          refine HC2.out.mono ?_
          rintro e w3 ⟨rfl, hr3, hb3⟩
          have HR3 := hide hr3
          have HB3 := hide hb3
          clear hr3 hb3 HC2
          have hdi := HDI.out
          have hni := HNI.out
          go_wp2
          refine ⟨⟨n * 10 + d, m + 1, j + 1, (by congr 1; unfold wrap64; omega), by go_num, by omega, by omega, by have := HN.out; rw [Nat.pow_succ]; omega, HR3.out, (HB.out.trans (But.of_below HB2.out)).trans HB3.out, HNX.out⟩, by simp [intOf]; omega⟩
        · have hmem : decide (bt s j ∈ dgS) = false := decide_eq_false (fun h => hd ((HDM.out _).1 h))
          rw [hmem] at HC
          have HF : Hid (R = (n, j)) := by show _ = _; rw [HE.out, numI_else hd]
          clear hmem hd HE
          go_wp2_with fail
          refine HC.out.mono ?_
          rintro e w2 ⟨rfl, hb2⟩
          have HB2 := hide hb2
          clear hb2 HC
          go_wp2
          go_ret
          exact ⟨by rw [HF.out]; rfl, by rw [HF.out]; exact rd_below HR.out HB2.out, HB.out.trans (But.of_below HB2.out)⟩
    · have h3i : ¬ (m : Int) < 3 := by omega
      have HF : Hid (R = (n, j)) := by show _ = _; rw [HE.out, numI_full h3]
      clear HE
      go_wp2
      go_ret
      exact ⟨by rw [HF.out]; rfl, by rw [HF.out]; exact HR.out, HB.out⟩
end Go.Proofs.YtafbggbdlcfbdaaGreatDoor

/- Package text: lookup: contract. -/
namespace Go.Proofs.YtafbggbdlcfbdaaGreatDoor
open Go.RowKit

/-- What lookup does. -/
def LkR (W : World) (rb : Nat) (s : List UInt8) (v : Value) (o : SpO) (e : Ending) (w' : World) : Prop := (o.ok = true → e = .returned (.tuple #[.int .i64 (o.w : Int), .int .i64 (o.v : Int)]) ∧ RdAt w' rb s o.e v ∧ But [rb] W w') ∧ (¬ o.ok = true → e = .panicked [{ v := stopV o.e, recovered := false }] ∧ But [rb] W w')
set_option maxHeartbeats 8000000 in
set_option maxRecDepth 20000 in
theorem lookup_any (s : List UInt8) (i rb : Nat) (v : Value) (W : World) (h : RdAt W rb s i v) (hs : s.length ≤ 2000) :
    Calls Tryz.prog 69 #[.pointer (some ⟨rb, 0, none⟩)] W (LkR W rb s v (spotA s i)) := by
  have HTO := hide (fun k j Wx (hx : RdAt Wx rb s j v) (h0 : (0 : UInt8) ∉ [k]) (hb : bt s j = k) => take_ok s [k] j rb v Wx hx h0 hs (by rw [hb]; simp))
  have HTN := hide (fun k j Wx (hx : RdAt Wx rb s j v) (h0 : (0 : UInt8) ∉ [k]) (hb : ¬ bt s j = k) => take_no s [k] j rb v Wx hx h0 (by simpa using hb))
  have HNO := hide (fun j Wx (hx : RdAt Wx rb s j v) (hd : isDg (bt s j) = true) => number_ok s j rb v Wx hx hs hd)
  have HNN := hide (fun j Wx (hx : RdAt Wx rb s j v) (hd : ¬ isDg (bt s j) = true) => number_no s j rb v Wx hx hd)
  have HVO := hide (fun j Wx (hx : RdAt Wx rb s j v) (hd : isLt (bt s j) = true) => variable_ok s j rb v Wx hx hs hd)
  have HVN := hide (fun j Wx (hx : RdAt Wx rb s j v) (hd : ¬ isLt (bt s j) = true) => variable_no s j rb v Wx hx hd)
  have HR := hide h
  unfold spotA
  by_cases h1 : bt s i = 64
  · rw [if_pos h1]
    have HN1 := hide (fun Wx hx => HTO.out 64 i Wx hx (by decide) h1)
    by_cases h2 : isDg (bt s (i + 1)) = true
    · rw [if_pos h2]
      have HN2 := hide (fun Wx hx => HNO.out (i + 1) Wx hx h2)
      generalize numA s (i + 1) = nj at HN2 ⊢
      obtain ⟨n, j⟩ := nj
      simp only [] at HN2 ⊢
      by_cases h3 : bt s j = 91
      · rw [if_pos h3]
        have HN3 := hide (fun Wx hx => HTO.out 91 j Wx hx (by decide) h3)
        by_cases h4 : isLt (bt s (j + 1)) = true
        · rw [if_pos h4]
          have HN4 := hide (fun Wx hx => HVO.out (j + 1) Wx hx h4)
          generalize (bt s (j + 1)).toNat - 97 = q at HN4 ⊢
          by_cases h5 : bt s (j + 2) = 93
          · rw [if_pos h5]
            have HN5 := hide (fun Wx hx => HTO.out 93 (j + 2) Wx hx (by decide) h5)
            clear h h1 h2 h3 h4 h5 HTO HTN HNO HNN HVO HVN hs
            go_enter Tryz.func69, Tryz.ntmps69
            have HC := hide (HN1.out W HR.out)
            go_wp2_with fail
            refine HC.out.mono ?_
            rintro e w1 ⟨rfl, hr, hb⟩
            have HR1 := hide hr
            have HB1 := hide (hb)
            clear hr hb HC HN1
            have HC := hide (HN2.out w1 HR1.out)
            go_wp2_with fail
            refine HC.out.mono ?_
            rintro e w2 ⟨rfl, hr, hb⟩
            have HR2 := hide hr
            have HB2 := hide (HB1.out.trans hb)
            clear hr hb HC HN2
            have HC := hide (HN3.out w2 HR2.out)
            go_wp2_with fail
            refine HC.out.mono ?_
            rintro e w3 ⟨rfl, hr, hb⟩
            have HR3 := hide hr
            have HB3 := hide (HB2.out.trans hb)
            clear hr hb HC HN3
            have HC := hide (HN4.out w3 HR3.out)
            go_wp2_with fail
            refine HC.out.mono ?_
            rintro e w4 ⟨rfl, hr, hb⟩
            have HR4 := hide hr
            have HB4 := hide (HB3.out.trans hb)
            clear hr hb HC HN4
            have HC := hide (HN5.out w4 HR4.out)
            go_wp2_with fail
            refine HC.out.mono ?_
            rintro e w5 ⟨rfl, hr, hb⟩
            have HR5 := hide hr
            have HB5 := hide (HB4.out.trans hb)
            clear hr hb HC HN5
            go_wp2
            go_ret2
            exact ⟨fun _ => ⟨rfl, HR5.out, HB5.out⟩, fun h => absurd rfl h⟩
          · rw [if_neg h5]
            have HN5 := hide (fun Wx hx => HTN.out 93 (j + 2) Wx hx (by decide) h5)
            clear h h1 h2 h3 h4 h5 HTO HTN HNO HNN HVO HVN hs
            go_enter Tryz.func69, Tryz.ntmps69
            have HC := hide (HN1.out W HR.out)
            go_wp2_with fail
            refine HC.out.mono ?_
            rintro e w1 ⟨rfl, hr, hb⟩
            have HR1 := hide hr
            have HB1 := hide (hb)
            clear hr hb HC HN1
            have HC := hide (HN2.out w1 HR1.out)
            go_wp2_with fail
            refine HC.out.mono ?_
            rintro e w2 ⟨rfl, hr, hb⟩
            have HR2 := hide hr
            have HB2 := hide (HB1.out.trans hb)
            clear hr hb HC HN2
            have HC := hide (HN3.out w2 HR2.out)
            go_wp2_with fail
            refine HC.out.mono ?_
            rintro e w3 ⟨rfl, hr, hb⟩
            have HR3 := hide hr
            have HB3 := hide (HB2.out.trans hb)
            clear hr hb HC HN3
            have HC := hide (HN4.out w3 HR3.out)
            go_wp2_with fail
            refine HC.out.mono ?_
            rintro e w4 ⟨rfl, hr, hb⟩
            have HR4 := hide hr
            have HB4 := hide (HB3.out.trans hb)
            clear hr hb HC HN4
            have HC := hide (HN5.out w4 HR4.out)
            go_wp2_with fail
            refine HC.out.mono ?_
            rintro e w5 ⟨rfl, hb⟩
            exact ⟨rfl, ⟨(fun h => by cases h), fun _ => ⟨rfl, HB4.out.trans (But.of_below hb)⟩⟩⟩
        · rw [if_neg h4]
          have HN4 := hide (fun Wx hx => HVN.out (j + 1) Wx hx h4)
          clear h h1 h2 h3 h4 HTO HTN HNO HNN HVO HVN hs
          go_enter Tryz.func69, Tryz.ntmps69
          have HC := hide (HN1.out W HR.out)
          go_wp2_with fail
          refine HC.out.mono ?_
          rintro e w1 ⟨rfl, hr, hb⟩
          have HR1 := hide hr
          have HB1 := hide (hb)
          clear hr hb HC HN1
          have HC := hide (HN2.out w1 HR1.out)
          go_wp2_with fail
          refine HC.out.mono ?_
          rintro e w2 ⟨rfl, hr, hb⟩
          have HR2 := hide hr
          have HB2 := hide (HB1.out.trans hb)
          clear hr hb HC HN2
          have HC := hide (HN3.out w2 HR2.out)
          go_wp2_with fail
          refine HC.out.mono ?_
          rintro e w3 ⟨rfl, hr, hb⟩
          have HR3 := hide hr
          have HB3 := hide (HB2.out.trans hb)
          clear hr hb HC HN3
          have HC := hide (HN4.out w3 HR3.out)
          go_wp2_with fail
          refine HC.out.mono ?_
          rintro e w4 ⟨rfl, hb⟩
          exact ⟨rfl, ⟨(fun h => by cases h), fun _ => ⟨rfl, HB3.out.trans (But.of_below hb)⟩⟩⟩
      · rw [if_neg h3]
        have HN3 := hide (fun Wx hx => HTN.out 91 j Wx hx (by decide) h3)
        clear h h1 h2 h3 HTO HTN HNO HNN HVO HVN hs
        go_enter Tryz.func69, Tryz.ntmps69
        have HC := hide (HN1.out W HR.out)
        go_wp2_with fail
        refine HC.out.mono ?_
        rintro e w1 ⟨rfl, hr, hb⟩
        have HR1 := hide hr
        have HB1 := hide (hb)
        clear hr hb HC HN1
        have HC := hide (HN2.out w1 HR1.out)
        go_wp2_with fail
        refine HC.out.mono ?_
        rintro e w2 ⟨rfl, hr, hb⟩
        have HR2 := hide hr
        have HB2 := hide (HB1.out.trans hb)
        clear hr hb HC HN2
        have HC := hide (HN3.out w2 HR2.out)
        go_wp2_with fail
        refine HC.out.mono ?_
        rintro e w3 ⟨rfl, hb⟩
        exact ⟨rfl, ⟨(fun h => by cases h), fun _ => ⟨rfl, HB2.out.trans (But.of_below hb)⟩⟩⟩
    · rw [if_neg h2]
      have HN2 := hide (fun Wx hx => HNN.out (i + 1) Wx hx h2)
      clear h h1 h2 HTO HTN HNO HNN HVO HVN hs
      go_enter Tryz.func69, Tryz.ntmps69
      have HC := hide (HN1.out W HR.out)
      go_wp2_with fail
      refine HC.out.mono ?_
      rintro e w1 ⟨rfl, hr, hb⟩
      have HR1 := hide hr
      have HB1 := hide (hb)
      clear hr hb HC HN1
      have HC := hide (HN2.out w1 HR1.out)
      go_wp2_with fail
      refine HC.out.mono ?_
      rintro e w2 ⟨rfl, hb⟩
      exact ⟨rfl, ⟨(fun h => by cases h), fun _ => ⟨rfl, HB1.out.trans (But.of_below hb)⟩⟩⟩
  · rw [if_neg h1]
    have HN1 := hide (fun Wx hx => HTN.out 64 i Wx hx (by decide) h1)
    clear h h1 HTO HTN HNO HNN HVO HVN hs
    go_enter Tryz.func69, Tryz.ntmps69
    have HC := hide (HN1.out W HR.out)
    go_wp2_with fail
    refine HC.out.mono ?_
    rintro e w1 ⟨rfl, hb⟩
    exact ⟨rfl, ⟨(fun h => by cases h), fun _ => ⟨rfl, But.of_below hb⟩⟩⟩
end Go.Proofs.YtafbggbdlcfbdaaGreatDoor

/- Package text: part of a sum: contract. -/
namespace Go.Proofs.YtafbggbdlcfbdaaGreatDoor
open Go.RowKit

/-- What a sum counts, in its box. -/
def TotAt (W : World) (tb : Nat) (cf : List Int) (nm : Int) : Prop := cf.length = 5 ∧ W.heap[tb]? = some (.cells (iArr (cf ++ [nm])) 120 (0, 0))
theorem iArr_put (l : List Int) (k : Nat) (x : Int) : (iArr l).setIfInBounds k (.int .i64 x) = iArr (l.set k x) := by
  unfold iArr
  rw [List.setIfInBounds_toArray, List.map_set]
theorem tot_cell {W : World} {tb : Nat} {cf : List Int} {nm : Int} (h : TotAt W tb cf nm) {q : Nat} (hq : q < 5) : W.cell? ⟨tb, q, none⟩ = some (.int .i64 (cf.getD q 0)) ∧ W.frozen? ⟨tb, q, none⟩ = false := by
  obtain ⟨h1, h2⟩ := h
  refine ⟨?_, by simp [World.frozen?, h2]⟩
  rw [cell_of_row _ _ q _ _ _ h2, iArr_get _ _ (by simp; omega)]
  congr 2
  simp only [List.getD_eq_getElem?_getD]
  rw [List.getElem?_append_left (by omega)]
theorem tot_num {W : World} {tb : Nat} {cf : List Int} {nm : Int} (h : TotAt W tb cf nm) : W.cell? ⟨tb, 5, none⟩ = some (.int .i64 nm) ∧ W.frozen? ⟨tb, 5, none⟩ = false := by
  obtain ⟨h1, h2⟩ := h
  refine ⟨?_, by simp [World.frozen?, h2]⟩
  rw [cell_of_row _ _ 5 _ _ _ h2, iArr_get _ _ (by simp; omega)]
  congr 2
  simp only [List.getD_eq_getElem?_getD]
  rw [List.getElem?_append_right (by omega), h1]
  rfl
theorem tot_set {W : World} {tb : Nat} {cf : List Int} {nm : Int} (h : TotAt W tb cf nm) {q : Nat} (hq : q < 5) (x : Int) : TotAt (W.setCell ⟨tb, q, none⟩ (.int .i64 x)) tb (cf.set q x) nm := by
  obtain ⟨h1, h2⟩ := h
  refine ⟨by simpa using h1, ?_⟩
  have := heap_setCell_at (k := q) (v := .int .i64 x) h2
  rw [iArr_put, List.set_append_left _ _ (by omega)] at this
  exact this
theorem tot_setn {W : World} {tb : Nat} {cf : List Int} {nm : Int} (h : TotAt W tb cf nm) (x : Int) : TotAt (W.setCell ⟨tb, 5, none⟩ (.int .i64 x)) tb cf x := by
  obtain ⟨h1, h2⟩ := h
  refine ⟨h1, ?_⟩
  have := heap_setCell_at (k := 5) (v := .int .i64 x) h2
  rw [iArr_put, List.set_append_right _ _ (by omega), h1] at this
  exact this
theorem tot_lt {W : World} {tb : Nat} {cf : List Int} {nm : Int} (h : TotAt W tb cf nm) : tb < W.heap.size := (Array.getElem?_eq_some_iff.1 h.2).1
theorem tot_but {W W' : World} {X : List Nat} {tb : Nat} {cf : List Int} {nm : Int} (h : TotAt W tb cf nm) (hb : But X W W') (hx : tb ∉ X) : TotAt W' tb cf nm := ⟨h.1, (hb.2 tb (tot_lt h) hx).trans h.2⟩
theorem tot_below {W W' : World} {tb : Nat} {cf : List Int} {nm : Int} (h : TotAt W tb cf nm) (hb : Below W.heap.size W W') : TotAt W' tb cf nm := tot_but h (But.of_below hb (X := [])) (by simp)
def puS (i : Nat) : Nat := ([25, 26, 27, 28, 29, 30, 31, 32, 33, 34, 35, 36] : List Nat).getD i 0
theorem puS_inj : ∀ i : Fin 12, ∀ j : Fin 12, puS i.val = puS j.val → i = j := by decide +kernel
theorem puS_lt : ∀ i : Fin 12, puS i.val < 37 := by decide +kernel
set_option maxHeartbeats 8000000 in
set_option maxRecDepth 20000 in
theorem part_ok (s : List UInt8) (i rb tb : Nat) (v : Value) (sg : Int) (cf : List Int) (nm M : Int) (W : World) (h : RdAt W rb s i v) (hs : s.length ≤ 2000) (ht : TotAt W tb cf nm) (hne : tb ≠ rb) (hsg : sg = 1 ∨ sg = -1) (hM : 0 ≤ M ∧ M ≤ 1000000000) (hbd : BdC M cf nm) (qo : Option Nat) (m e : Nat) (hp : partA s i = some (qo, m, e)) :
    Calls Tryz.prog 79 #[.pointer (some ⟨rb, 0, none⟩), .pointer (some ⟨tb, 0, none⟩), .int .i64 sg] W fun en w' => en = .returned (.tuple #[]) ∧ RdAt w' rb s e v ∧ TotAt w' tb (putC sg qo m cf) (putN sg qo m nm) ∧ But [rb, tb] W w' := by
  have HSD := hide (fun j Wx (hx : RdAt Wx rb s j v) => sees_any s dgS j rb v Wx hx dg_0)
  have HSL := hide (fun j Wx (hx : RdAt Wx rb s j v) => sees_any s ltS j rb v Wx hx lt_0)
  have HTB : Hid (∀ Wx W', TotAt Wx tb cf nm → But [rb] Wx W' → TotAt W' tb cf nm) := fun Wx W' h1 h2 => tot_but h1 h2 (by simpa using hne)
  have HBM : Hid (∀ Wx W', But [rb] Wx W' → But [rb, tb] Wx W') := fun Wx W' h => h.mono (by simp)
  have HMU : Hid (∀ m : Nat, m ≤ 999 → -999 ≤ sg * (m : Int) ∧ sg * (m : Int) ≤ 999 ∧ wrap64 (sg * (m : Int)) = sg * (m : Int)) := fun m hm => by
    have : -999 ≤ sg * (m : Int) ∧ sg * (m : Int) ≤ 999 := by rcases hsg with rfl | rfl <;> omega
    refine ⟨this.1, this.2, ?_⟩
    unfold wrap64
    omega
  have HR := hide h
  have HT := hide ht
  have HBD := hide hbd
  unfold partA at hp
  by_cases hd : isDg (bt s i) = true
  · rw [if_pos hd] at hp
    have HNO := hide (fun Wx (hx : RdAt Wx rb s i v) => number_ok s i rb v Wx hx hs hd)
    have hm9 := (numA_bd hd).1
    generalize numA s i = nj at HNO hp hm9
    obtain ⟨n, j⟩ := nj
    simp only [] at HNO hp hm9
    obtain ⟨x1, x2, x3⟩ := HMU.out n hm9
    have C1 := hide (HSD.out i W h)
    rw [decide_eq_true ((dg_mem _).2 hd)] at C1
    by_cases hl : isLt (bt s j) = true
    · rw [if_pos hl] at hp
      simp only [Option.some.injEq, Prod.mk.injEq] at hp
      obtain ⟨rfl, rfl, rfl⟩ := hp
      have HVO := hide (fun Wx (hx : RdAt Wx rb s j v) => variable_ok s j rb v Wx hx hs hl)
      have hq : (bt s j).toNat - 97 < 5 := by have := lt_bd hl; omega
      have C2 := hide (fun Wx (hx : RdAt Wx rb s j v) => HSL.out j Wx hx)
      rw [decide_eq_true ((lt_mem _).2 hl)] at C2
      generalize (bt s j).toNat - 97 = q at HVO hq ⊢
      have hz := HBD.out.1 q
      have HCE : Hid (∀ Wx, TotAt Wx tb cf nm → Wx.cell? ⟨tb, q, none⟩ = some (.int .i64 (cf.getD q 0)) ∧ Wx.frozen? ⟨tb, q, none⟩ = false) := fun Wx h => tot_cell h hq
      have HFIN : Hid (∀ Wx, RdAt Wx rb s (j + 1) v → TotAt Wx tb cf nm → But [rb, tb] W Wx → (RdAt (Wx.setCell ⟨tb, q, none⟩ (.int .i64 (cf.getD q 0 + sg * (n : Int)))) rb s (j + 1) v ∧ TotAt (Wx.setCell ⟨tb, q, none⟩ (.int .i64 (cf.getD q 0 + sg * (n : Int)))) tb (putC sg (some q) n cf) (putN sg (some q) n nm) ∧ But [rb, tb] W (Wx.setCell ⟨tb, q, none⟩ (.int .i64 (cf.getD q 0 + sg * (n : Int)))))) := fun Wx r1 r2 r3 =>
        ⟨(Below.heap_setCell _ _ _ _ (by simpa using hne.symm)).trans r1, tot_set r2 hq _, r3.set (.inl (by simp)) _⟩
      generalize cf.getD q 0 = z at HCE HFIN hz
      generalize hX : sg * (n : Int) = X at x1 x2 x3 HFIN
      have hw : wrap64 (z + X) = z + X := by unfold wrap64; omega
      have hw2 : IntKind.i64.wrap (z + X) = z + X := by rw [IntKind.wrap_i64]; omega
      have hqi : (q : Int) < 5 := by omega
      clear h ht hbd hd hl hm9 hq hs hM hz x1 x2 HMU HSD HSL HBD hsg
      go_enter Tryz.func79, Tryz.ntmps79
      go_wp2_with fail
      refine C1.out.mono ?_
      rintro e w1 ⟨rfl, hb1⟩
      have C3 := hide (HNO.out w1 (rd_below HR.out hb1))
      have B1 := hide hb1
      clear hb1 C1
      go_wp2_with fail
      refine C3.out.mono ?_
      rintro e w2 ⟨rfl, hr2, hb2⟩
      have B2 := hide hb2
      have R2 := hide hr2
      have C4 := hide (C2.out w2 hr2)
      clear hr2 hb2 C3 C2
      go_wp2_with fail
      refine C4.out.mono ?_
      rintro e w3 ⟨rfl, hb3⟩
      have HPRE : Hid (RdAt w3.drew rb s j v ∧ TotAt w3.drew tb cf nm ∧ But [rb, tb] W w3.drew) := ⟨rd_below R2.out hb3.drew, tot_below (HTB.out _ _ (tot_below HT.out B1.out) B2.out) hb3.drew, ((But.of_below B1.out).trans (HBM.out _ _ B2.out)).trans (But.of_below hb3.drew)⟩
      clear hb3 C4
      go_wp2
      refine region_call (by kernel_rfl) (rvOn_spec (by decide +kernel)) 12 2 rfl (by decide +kernel) puS (fun i => ([.pointer (some ⟨tb, 0, none⟩), .pointer (some ⟨rb, 0, none⟩), .int .i64 (q : Int), .pointer (some ⟨tb, 0, none⟩), .pointer (some ⟨tb, 0, none⟩), .pointer (some ⟨tb, q, none⟩), .int .i64 z, .int .i64 X, .int .i64 (z + X), .pointer (some ⟨tb, 0, none⟩), .pointer (some ⟨tb, 0, none⟩), .pointer (some ⟨tb, q, none⟩)] : List Value).getD i undef) (fun i j hi hj e => by have := puS_inj ⟨i, hi⟩ ⟨j, hj⟩ e; injection this) (fun i hi => puS_lt ⟨i, hi⟩) (by decide +kernel) (fun Wx => RdAt Wx rb s j v ∧ TotAt Wx tb cf nm ∧ But [rb, tb] W Wx) (fun Wx => RdAt Wx rb s (j + 1) v ∧ TotAt Wx tb cf nm ∧ But [rb, tb] W Wx) (HPRE.out) ?_ ?_ ?_
      · intro T W i o hi hik ho hsz hdep hst hpo
        have e0 : T[0]? = some (.pointer (some ⟨rb, 0, none⟩)) := hst 0 (by decide +kernel)
        have e1 : T[1]? = some (.pointer (some ⟨tb, 0, none⟩)) := hst 1 (by decide +kernel)
        have e6 : T[6]? = some (.int .i64 X) := hst 6 (by decide +kernel)
        have HPO := hide hpo
        clear hsz hst hpo
        rcases (by omega : i = 0 ∨ i = 1 ∨ i = 2 ∨ i = 3 ∨ i = 4 ∨ i = 5 ∨ i = 6 ∨ i = 7 ∨ i = 8 ∨ i = 9 ∨ i = 10 ∨ i = 11) with rfl | rfl | rfl | rfl | rfl | rfl | rfl | rfl | rfl | rfl | rfl | rfl
        · injection ho with ho
          subst ho
          clear hdep HPO hik
          refine wpOp_step (o := _) rfl fun K2 hK => ?_
          rw [if_pos (by rfl)]
          have HK := hide hK
          clear hK
          go_simp
          exact HK.out _ _ ⟨rfl, rfl⟩
        · injection ho with ho
          subst ho
          clear hdep HPO hik
          refine wpOp_step (o := _) rfl fun K2 hK => ?_
          rw [if_pos (by rfl)]
          have HK := hide hK
          clear hK
          go_simp
          exact HK.out _ _ ⟨rfl, rfl⟩
        · exact absurd rfl hik
        · injection ho with ho
          subst ho
          have d0 : T[25]? = some (.pointer (some ⟨tb, 0, none⟩)) := hdep { on := 0, ground := .data } (by simp) rfl
          clear hdep HPO hik
          refine wpOp_step (o := _) rfl fun K2 hK => ?_
          rw [if_pos (by rfl)]
          have HK := hide hK
          clear hK
          go_simp
          exact HK.out _ _ ⟨rfl, rfl⟩
        · injection ho with ho
          subst ho
          have d3 : T[28]? = some (.pointer (some ⟨tb, 0, none⟩)) := hdep { on := 3, ground := .data } (by simp) rfl
          clear hdep HPO hik
          refine wpOp_step (o := _) rfl fun K2 hK => ?_
          rw [if_pos (by rfl)]
          have HK := hide hK
          clear hK
          go_simp
          exact HK.out _ _ ⟨rfl, rfl⟩
        · injection ho with ho
          subst ho
          have d2 : T[27]? = some (.int .i64 (q : Int)) := hdep { on := 2, ground := .data } (by simp) rfl
          have d4 : T[29]? = some (.pointer (some ⟨tb, 0, none⟩)) := hdep { on := 4, ground := .data } (by simp) rfl
          have hpo := HPO.out (by decide +kernel)
          obtain ⟨hc, hf⟩ := HCE.out W hpo.2.1
          clear hpo
          clear hdep HPO hik
          refine wpOp_step (o := _) rfl fun K2 hK => ?_
          rw [if_pos (by rfl)]
          have HK := hide hK
          clear hK
          go_simp
          exact HK.out _ _ ⟨rfl, rfl⟩
        · injection ho with ho
          subst ho
          have d5 : T[30]? = some (.pointer (some ⟨tb, q, none⟩)) := hdep { on := 5, ground := .data } (by simp) rfl
          have hpo := HPO.out (by decide +kernel)
          obtain ⟨hc, hf⟩ := HCE.out W hpo.2.1
          clear hpo
          clear hdep HPO hik
          refine wpOp_step (o := _) rfl fun K2 hK => ?_
          rw [if_pos (by rfl)]
          have HK := hide hK
          clear hK
          go_simp
          exact HK.out _ _ ⟨rfl, rfl⟩
        · injection ho with ho
          subst ho
          clear hdep HPO hik
          refine wpOp_step (o := _) rfl fun K2 hK => ?_
          rw [if_pos (by rfl)]
          have HK := hide hK
          clear hK
          go_simp
          exact HK.out _ _ ⟨rfl, rfl⟩
        · injection ho with ho
          subst ho
          have d6 : T[31]? = some (.int .i64 z) := hdep { on := 6, ground := .data } (by simp) rfl
          have d7 : T[32]? = some (.int .i64 X) := hdep { on := 7, ground := .data } (by simp) rfl
          have hpo := HPO.out (by decide +kernel)
          obtain ⟨hc, hf⟩ := HCE.out W hpo.2.1
          clear hpo
          clear hdep HPO hik
          refine wpOp_step (o := _) rfl fun K2 hK => ?_
          rw [if_pos (by rfl)]
          have HK := hide hK
          clear hK
          go_simp
          exact HK.out _ _ ⟨rfl, rfl⟩
        · injection ho with ho
          subst ho
          have d0 : T[25]? = some (.pointer (some ⟨tb, 0, none⟩)) := hdep { on := 0, ground := .data } (by simp) rfl
          clear hdep HPO hik
          refine wpOp_step (o := _) rfl fun K2 hK => ?_
          rw [if_pos (by rfl)]
          have HK := hide hK
          clear hK
          go_simp
          exact HK.out _ _ ⟨rfl, rfl⟩
        · injection ho with ho
          subst ho
          have d9 : T[34]? = some (.pointer (some ⟨tb, 0, none⟩)) := hdep { on := 9, ground := .data } (by simp) rfl
          clear hdep HPO hik
          refine wpOp_step (o := _) rfl fun K2 hK => ?_
          rw [if_pos (by rfl)]
          have HK := hide hK
          clear hK
          go_simp
          exact HK.out _ _ ⟨rfl, rfl⟩
        · injection ho with ho
          subst ho
          have d2 : T[27]? = some (.int .i64 (q : Int)) := hdep { on := 2, ground := .data } (by simp) rfl
          have d10 : T[35]? = some (.pointer (some ⟨tb, 0, none⟩)) := hdep { on := 10, ground := .data } (by simp) rfl
          have hpo := HPO.out (by decide +kernel)
          obtain ⟨hc, hf⟩ := HCE.out W hpo.2.1
          clear hpo
          clear hdep HPO hik
          refine wpOp_step (o := _) rfl fun K2 hK => ?_
          rw [if_pos (by rfl)]
          have HK := hide hK
          clear hK
          go_simp
          exact HK.out _ _ ⟨rfl, rfl⟩
      · intro T W o ho hsz hdep hst hpr
        have e0 : T[0]? = some (.pointer (some ⟨rb, 0, none⟩)) := hst 0 (by decide +kernel)
        have e1 : T[1]? = some (.pointer (some ⟨tb, 0, none⟩)) := hst 1 (by decide +kernel)
        have e6 : T[6]? = some (.int .i64 X) := hst 6 (by decide +kernel)
        injection ho with ho
        subst ho
        have d1 : T[26]? = some (.pointer (some ⟨rb, 0, none⟩)) := hdep { on := 1, ground := .data } (by simp) rfl
        have HPR := hide hpr
        clear hst hdep hsz hpr
        refine wpOp_step (o := _) rfl fun K2 hK => ?_
        rw [if_pos (by rfl)]
        have HK := hide hK
        clear hK
        go_simp
        refine (HVO.out _ HPR.out.1).mono ?_
        rintro e w9 ⟨rfl, hr, hb⟩
        exact HK.out _ _ ⟨rfl, hr, HTB.out _ _ HPR.out.2.1 hb, HPR.out.2.2.trans (HBM.out _ _ hb)⟩
      · intro T W o ho hsz hval hst hpo
        have e0 : T[0]? = some (.pointer (some ⟨rb, 0, none⟩)) := hst 0 (by decide +kernel)
        have e1 : T[1]? = some (.pointer (some ⟨tb, 0, none⟩)) := hst 1 (by decide +kernel)
        have e6 : T[6]? = some (.int .i64 X) := hst 6 (by decide +kernel)
        injection ho with ho
        subst ho
        have d8 : T[33]? = some (.int .i64 (z + X)) := hval 8 (by decide +kernel)
        have d11 : T[36]? = some (.pointer (some ⟨tb, q, none⟩)) := hval 11 (by decide +kernel)
        obtain ⟨hc, hf⟩ := HCE.out W hpo.2.1
        have HPO := hide hpo
        have HST := hide hst
        have HVA := hide hval
        have HSZ := hide hsz
        clear hval hst hpo hsz
        refine wpOp_step (o := _) rfl fun K2 hK => ?_
        rw [if_pos (by rfl)]
        have HK := hide hK
        clear hK
        go_simp
        exact HK.out _ _ (bodyPost_end (v := .tuple #[]) (by simp [results, Tryz.results79]) rfl ⟨rfl, HFIN.out _ HPO.out.1 HPO.out.2.1 HPO.out.2.2⟩)
    · rw [if_neg hl] at hp
      simp only [Option.some.injEq, Prod.mk.injEq] at hp
      obtain ⟨rfl, rfl, rfl⟩ := hp
      have C2 := hide (fun Wx (hx : RdAt Wx rb s j v) => HSL.out j Wx hx)
      rw [decide_eq_false (fun h => hl ((lt_mem _).1 h))] at C2
      have hz := HBD.out.2
      have HCE : Hid (∀ Wx, TotAt Wx tb cf nm → Wx.cell? ⟨tb, 5, none⟩ = some (.int .i64 nm) ∧ Wx.frozen? ⟨tb, 5, none⟩ = false) := fun Wx h => tot_num h
      have HFIN : Hid (∀ Wx, RdAt Wx rb s j v → TotAt Wx tb cf nm → But [rb, tb] W Wx → (RdAt (Wx.setCell ⟨tb, 5, none⟩ (.int .i64 (nm + sg * (n : Int)))) rb s j v ∧ TotAt (Wx.setCell ⟨tb, 5, none⟩ (.int .i64 (nm + sg * (n : Int)))) tb (putC sg none n cf) (putN sg none n nm) ∧ But [rb, tb] W (Wx.setCell ⟨tb, 5, none⟩ (.int .i64 (nm + sg * (n : Int)))))) := fun Wx r1 r2 r3 =>
        ⟨(Below.heap_setCell _ _ _ _ (by simpa using hne.symm)).trans r1, tot_setn r2 _, r3.set (.inl (by simp)) _⟩
      generalize hX : sg * (n : Int) = X at x1 x2 x3 HFIN
      have hw : wrap64 (nm + X) = nm + X := by unfold wrap64; omega
      clear h ht hbd hd hl hm9 hs hM hz x1 x2 HMU HSD HSL HBD hsg
      go_enter Tryz.func79, Tryz.ntmps79
      go_wp2_with fail
      refine C1.out.mono ?_
      rintro e w1 ⟨rfl, hb1⟩
      have C3 := hide (HNO.out w1 (rd_below HR.out hb1))
      have B1 := hide hb1
      clear hb1 C1
      go_wp2_with fail
      refine C3.out.mono ?_
      rintro e w2 ⟨rfl, hr2, hb2⟩
      have B2 := hide hb2
      have R2 := hide hr2
      have C4 := hide (C2.out w2 hr2)
      clear hr2 hb2 C3 C2
      go_wp2_with fail
      refine C4.out.mono ?_
      rintro e w3 ⟨rfl, hb3⟩
      have HT3 : Hid (TotAt w3 tb cf nm) := tot_below (HTB.out _ _ (tot_below HT.out B1.out) B2.out) hb3
      have HF3 := hide (HFIN.out w3 (rd_below R2.out hb3) HT3.out (((But.of_below B1.out).trans (HBM.out _ _ B2.out)).trans (But.of_below hb3)))
      obtain ⟨hc, hf⟩ := HCE.out w3 HT3.out
      clear hb3 C4 HT3 HFIN HCE
      go_wp2
      exact bodyPost_ret (v := .tuple #[]) (by simp [results, Tryz.results79]) rfl ⟨rfl, HF3.out⟩
  · rw [if_neg hd] at hp
    have C1 := hide (HSD.out i W h)
    rw [decide_eq_false (fun h => hd ((dg_mem _).1 h))] at C1
    by_cases hl : isLt (bt s i) = true
    · rw [if_pos hl] at hp
      simp only [Option.some.injEq, Prod.mk.injEq] at hp
      obtain ⟨rfl, rfl, rfl⟩ := hp
      have HVO := hide (fun Wx (hx : RdAt Wx rb s i v) => variable_ok s i rb v Wx hx hs hl)
      have hq : (bt s i).toNat - 97 < 5 := by have := lt_bd hl; omega
      generalize (bt s i).toNat - 97 = q at HVO hq ⊢
      have hz := HBD.out.1 q
      have hx := HMU.out 1 (by omega)
      rw [show sg * ((1 : Nat) : Int) = sg by simp] at hx
      obtain ⟨x1, x2, -⟩ := hx
      have HCE : Hid (∀ Wx, TotAt Wx tb cf nm → Wx.cell? ⟨tb, q, none⟩ = some (.int .i64 (cf.getD q 0)) ∧ Wx.frozen? ⟨tb, q, none⟩ = false) := fun Wx h => tot_cell h hq
      have HFIN : Hid (∀ Wx, RdAt Wx rb s (i + 1) v → TotAt Wx tb cf nm → But [rb, tb] W Wx → (RdAt (Wx.setCell ⟨tb, q, none⟩ (.int .i64 (cf.getD q 0 + sg))) rb s (i + 1) v ∧ TotAt (Wx.setCell ⟨tb, q, none⟩ (.int .i64 (cf.getD q 0 + sg))) tb (putC sg (some q) 1 cf) (putN sg (some q) 1 nm) ∧ But [rb, tb] W (Wx.setCell ⟨tb, q, none⟩ (.int .i64 (cf.getD q 0 + sg))))) := fun Wx r1 r2 r3 =>
        ⟨(Below.heap_setCell _ _ _ _ (by simpa using hne.symm)).trans r1, (by
          have := tot_set r2 hq (cf.getD q 0 + sg)
          show TotAt _ tb (cf.set q (cf.getD q 0 + sg * ((1 : Nat) : Int))) nm
          rw [show sg * ((1 : Nat) : Int) = sg by simp]
          exact this), r3.set (.inl (by simp)) _⟩
      generalize cf.getD q 0 = z at HCE HFIN hz
      have hw : wrap64 (z + sg) = z + sg := by unfold wrap64; omega
      have hw2 : IntKind.i64.wrap (z + sg) = z + sg := by rw [IntKind.wrap_i64]; omega
      have hqi : (q : Int) < 5 := by omega
      clear h ht hbd hd hl hq hs hM hz x1 x2 HMU HSD HSL HBD hsg
      go_enter Tryz.func79, Tryz.ntmps79
      go_wp2_with fail
      refine C1.out.mono ?_
      rintro e w3 ⟨rfl, hb3⟩
      have HPRE : Hid (RdAt w3.drew rb s i v ∧ TotAt w3.drew tb cf nm ∧ But [rb, tb] W w3.drew) := ⟨rd_below HR.out hb3.drew, tot_below HT.out hb3.drew, But.of_below hb3.drew⟩
      clear hb3 C1
      go_wp2
      refine region_call (by kernel_rfl) (rvOn_spec (by decide +kernel)) 12 2 rfl (by decide +kernel) puS (fun i => ([.pointer (some ⟨tb, 0, none⟩), .pointer (some ⟨rb, 0, none⟩), .int .i64 (q : Int), .pointer (some ⟨tb, 0, none⟩), .pointer (some ⟨tb, 0, none⟩), .pointer (some ⟨tb, q, none⟩), .int .i64 z, .int .i64 sg, .int .i64 (z + sg), .pointer (some ⟨tb, 0, none⟩), .pointer (some ⟨tb, 0, none⟩), .pointer (some ⟨tb, q, none⟩)] : List Value).getD i undef) (fun i j hi hj e => by have := puS_inj ⟨i, hi⟩ ⟨j, hj⟩ e; injection this) (fun i hi => puS_lt ⟨i, hi⟩) (by decide +kernel) (fun Wx => RdAt Wx rb s i v ∧ TotAt Wx tb cf nm ∧ But [rb, tb] W Wx) (fun Wx => RdAt Wx rb s (i + 1) v ∧ TotAt Wx tb cf nm ∧ But [rb, tb] W Wx) (HPRE.out) ?_ ?_ ?_
      · intro T W i o hi hik ho hsz hdep hst hpo
        have e0 : T[0]? = some (.pointer (some ⟨rb, 0, none⟩)) := hst 0 (by decide +kernel)
        have e1 : T[1]? = some (.pointer (some ⟨tb, 0, none⟩)) := hst 1 (by decide +kernel)
        have e6 : T[6]? = some (.int .i64 sg) := hst 6 (by decide +kernel)
        have HPO := hide hpo
        clear hsz hst hpo
        rcases (by omega : i = 0 ∨ i = 1 ∨ i = 2 ∨ i = 3 ∨ i = 4 ∨ i = 5 ∨ i = 6 ∨ i = 7 ∨ i = 8 ∨ i = 9 ∨ i = 10 ∨ i = 11) with rfl | rfl | rfl | rfl | rfl | rfl | rfl | rfl | rfl | rfl | rfl | rfl
        · injection ho with ho
          subst ho
          clear hdep HPO hik
          refine wpOp_step (o := _) rfl fun K2 hK => ?_
          rw [if_pos (by rfl)]
          have HK := hide hK
          clear hK
          go_simp
          exact HK.out _ _ ⟨rfl, rfl⟩
        · injection ho with ho
          subst ho
          clear hdep HPO hik
          refine wpOp_step (o := _) rfl fun K2 hK => ?_
          rw [if_pos (by rfl)]
          have HK := hide hK
          clear hK
          go_simp
          exact HK.out _ _ ⟨rfl, rfl⟩
        · exact absurd rfl hik
        · injection ho with ho
          subst ho
          have d0 : T[25]? = some (.pointer (some ⟨tb, 0, none⟩)) := hdep { on := 0, ground := .data } (by simp) rfl
          clear hdep HPO hik
          refine wpOp_step (o := _) rfl fun K2 hK => ?_
          rw [if_pos (by rfl)]
          have HK := hide hK
          clear hK
          go_simp
          exact HK.out _ _ ⟨rfl, rfl⟩
        · injection ho with ho
          subst ho
          have d3 : T[28]? = some (.pointer (some ⟨tb, 0, none⟩)) := hdep { on := 3, ground := .data } (by simp) rfl
          clear hdep HPO hik
          refine wpOp_step (o := _) rfl fun K2 hK => ?_
          rw [if_pos (by rfl)]
          have HK := hide hK
          clear hK
          go_simp
          exact HK.out _ _ ⟨rfl, rfl⟩
        · injection ho with ho
          subst ho
          have d2 : T[27]? = some (.int .i64 (q : Int)) := hdep { on := 2, ground := .data } (by simp) rfl
          have d4 : T[29]? = some (.pointer (some ⟨tb, 0, none⟩)) := hdep { on := 4, ground := .data } (by simp) rfl
          have hpo := HPO.out (by decide +kernel)
          obtain ⟨hc, hf⟩ := HCE.out W hpo.2.1
          clear hpo
          clear hdep HPO hik
          refine wpOp_step (o := _) rfl fun K2 hK => ?_
          rw [if_pos (by rfl)]
          have HK := hide hK
          clear hK
          go_simp
          exact HK.out _ _ ⟨rfl, rfl⟩
        · injection ho with ho
          subst ho
          have d5 : T[30]? = some (.pointer (some ⟨tb, q, none⟩)) := hdep { on := 5, ground := .data } (by simp) rfl
          have hpo := HPO.out (by decide +kernel)
          obtain ⟨hc, hf⟩ := HCE.out W hpo.2.1
          clear hpo
          clear hdep HPO hik
          refine wpOp_step (o := _) rfl fun K2 hK => ?_
          rw [if_pos (by rfl)]
          have HK := hide hK
          clear hK
          go_simp
          exact HK.out _ _ ⟨rfl, rfl⟩
        · injection ho with ho
          subst ho
          clear hdep HPO hik
          refine wpOp_step (o := _) rfl fun K2 hK => ?_
          rw [if_pos (by rfl)]
          have HK := hide hK
          clear hK
          go_simp
          exact HK.out _ _ ⟨rfl, rfl⟩
        · injection ho with ho
          subst ho
          have d6 : T[31]? = some (.int .i64 z) := hdep { on := 6, ground := .data } (by simp) rfl
          have d7 : T[32]? = some (.int .i64 sg) := hdep { on := 7, ground := .data } (by simp) rfl
          have hpo := HPO.out (by decide +kernel)
          obtain ⟨hc, hf⟩ := HCE.out W hpo.2.1
          clear hpo
          clear hdep HPO hik
          refine wpOp_step (o := _) rfl fun K2 hK => ?_
          rw [if_pos (by rfl)]
          have HK := hide hK
          clear hK
          go_simp
          exact HK.out _ _ ⟨rfl, rfl⟩
        · injection ho with ho
          subst ho
          have d0 : T[25]? = some (.pointer (some ⟨tb, 0, none⟩)) := hdep { on := 0, ground := .data } (by simp) rfl
          clear hdep HPO hik
          refine wpOp_step (o := _) rfl fun K2 hK => ?_
          rw [if_pos (by rfl)]
          have HK := hide hK
          clear hK
          go_simp
          exact HK.out _ _ ⟨rfl, rfl⟩
        · injection ho with ho
          subst ho
          have d9 : T[34]? = some (.pointer (some ⟨tb, 0, none⟩)) := hdep { on := 9, ground := .data } (by simp) rfl
          clear hdep HPO hik
          refine wpOp_step (o := _) rfl fun K2 hK => ?_
          rw [if_pos (by rfl)]
          have HK := hide hK
          clear hK
          go_simp
          exact HK.out _ _ ⟨rfl, rfl⟩
        · injection ho with ho
          subst ho
          have d2 : T[27]? = some (.int .i64 (q : Int)) := hdep { on := 2, ground := .data } (by simp) rfl
          have d10 : T[35]? = some (.pointer (some ⟨tb, 0, none⟩)) := hdep { on := 10, ground := .data } (by simp) rfl
          have hpo := HPO.out (by decide +kernel)
          obtain ⟨hc, hf⟩ := HCE.out W hpo.2.1
          clear hpo
          clear hdep HPO hik
          refine wpOp_step (o := _) rfl fun K2 hK => ?_
          rw [if_pos (by rfl)]
          have HK := hide hK
          clear hK
          go_simp
          exact HK.out _ _ ⟨rfl, rfl⟩
      · intro T W o ho hsz hdep hst hpr
        have e0 : T[0]? = some (.pointer (some ⟨rb, 0, none⟩)) := hst 0 (by decide +kernel)
        have e1 : T[1]? = some (.pointer (some ⟨tb, 0, none⟩)) := hst 1 (by decide +kernel)
        have e6 : T[6]? = some (.int .i64 sg) := hst 6 (by decide +kernel)
        injection ho with ho
        subst ho
        have d1 : T[26]? = some (.pointer (some ⟨rb, 0, none⟩)) := hdep { on := 1, ground := .data } (by simp) rfl
        have HPR := hide hpr
        clear hst hdep hsz hpr
        refine wpOp_step (o := _) rfl fun K2 hK => ?_
        rw [if_pos (by rfl)]
        have HK := hide hK
        clear hK
        go_simp
        refine (HVO.out _ HPR.out.1).mono ?_
        rintro e w9 ⟨rfl, hr, hb⟩
        exact HK.out _ _ ⟨rfl, hr, HTB.out _ _ HPR.out.2.1 hb, HPR.out.2.2.trans (HBM.out _ _ hb)⟩
      · intro T W o ho hsz hval hst hpo
        have e0 : T[0]? = some (.pointer (some ⟨rb, 0, none⟩)) := hst 0 (by decide +kernel)
        have e1 : T[1]? = some (.pointer (some ⟨tb, 0, none⟩)) := hst 1 (by decide +kernel)
        have e6 : T[6]? = some (.int .i64 sg) := hst 6 (by decide +kernel)
        injection ho with ho
        subst ho
        have d8 : T[33]? = some (.int .i64 (z + sg)) := hval 8 (by decide +kernel)
        have d11 : T[36]? = some (.pointer (some ⟨tb, q, none⟩)) := hval 11 (by decide +kernel)
        obtain ⟨hc, hf⟩ := HCE.out W hpo.2.1
        have HPO := hide hpo
        have HST := hide hst
        have HVA := hide hval
        have HSZ := hide hsz
        clear hval hst hpo hsz
        refine wpOp_step (o := _) rfl fun K2 hK => ?_
        rw [if_pos (by rfl)]
        have HK := hide hK
        clear hK
        go_simp
        exact HK.out _ _ (bodyPost_end (v := .tuple #[]) (by simp [results, Tryz.results79]) rfl ⟨rfl, HFIN.out _ HPO.out.1 HPO.out.2.1 HPO.out.2.2⟩)
    · rw [if_neg hl] at hp
      cases hp
def pbS (i : Nat) : Nat := ([25, 26, 27, 28, 29, 30, 31, 32, 33, 34, 35, 36, 3] : List Nat).getD i 0
theorem pbS_inj : ∀ i : Fin 13, ∀ j : Fin 13, pbS i.val = pbS j.val → i = j := by decide +kernel
theorem pbS_lt : ∀ i : Fin 13, pbS i.val < 37 := by decide +kernel
set_option maxHeartbeats 8000000 in
set_option maxRecDepth 20000 in
theorem part_no (s : List UInt8) (i rb tb : Nat) (v : Value) (sg : Int) (W : World) (h : RdAt W rb s i v) (hp : partA s i = none) :
    Calls Tryz.prog 79 #[.pointer (some ⟨rb, 0, none⟩), .pointer (some ⟨tb, 0, none⟩), .int .i64 sg] W fun en w' => en = .panicked [{ v := stopV i, recovered := false }] ∧ Below W.heap.size W w' := by
  have HSD := hide (fun j Wx (hx : RdAt Wx rb s j v) => sees_any s dgS j rb v Wx hx dg_0)
  have HR := hide h
  unfold partA at hp
  by_cases hd : isDg (bt s i) = true
  · rw [if_pos hd] at hp
    split at hp <;> cases hp
  · rw [if_neg hd] at hp
    have C1 := hide (HSD.out i W h)
    rw [decide_eq_false (fun h => hd ((dg_mem _).1 h))] at C1
    by_cases hl : isLt (bt s i) = true
    · rw [if_pos hl] at hp
      cases hp
    · have HVN := hide (fun Wx (hx : RdAt Wx rb s i v) => variable_no s i rb v Wx hx hl)
      clear h hd hl hp HSD
      go_enter Tryz.func79, Tryz.ntmps79
      go_wp2_with fail
      refine C1.out.mono ?_
      rintro e w3 ⟨rfl, hb3⟩
      have B3 := hide hb3
      have R3 := hide (rd_below HR.out hb3)
      clear hb3 C1
      go_wp2
      refine region_stops (by kernel_rfl) (rvOn_spec (by decide +kernel)) 14 2 (by decide +kernel) pbS (fun i => ([.pointer (some ⟨tb, 0, none⟩), .pointer (some ⟨rb, 0, none⟩), undef, .pointer (some ⟨tb, 0, none⟩), .pointer (some ⟨tb, 0, none⟩), undef, undef, .int .i64 sg, undef, .pointer (some ⟨tb, 0, none⟩), .pointer (some ⟨tb, 0, none⟩), undef, undef] : List Value).getD i undef) (fun i j hi hj e => by have := pbS_inj ⟨i, hi⟩ ⟨j, hj⟩ e; injection this) (fun i hi => pbS_lt ⟨i, hi⟩) ?_ ?_
      · intro T W i o ho hik hr hsz hdep hst hb
        have hi : i < 13 := (Array.getElem?_eq_some_iff.1 ho).1
        have e0 : T[0]? = some (.pointer (some ⟨rb, 0, none⟩)) := hst 0 (by decide +kernel)
        have e1 : T[1]? = some (.pointer (some ⟨tb, 0, none⟩)) := hst 1 (by decide +kernel)
        have e6 : T[6]? = some (.int .i64 sg) := hst 6 (by decide +kernel)
        have HBW := hide hb
        have HR := hide hr
        clear hsz hst hb hr
        rcases (by omega : i = 0 ∨ i = 1 ∨ i = 2 ∨ i = 3 ∨ i = 4 ∨ i = 5 ∨ i = 6 ∨ i = 7 ∨ i = 8 ∨ i = 9 ∨ i = 10 ∨ i = 11 ∨ i = 12) with rfl | rfl | rfl | rfl | rfl | rfl | rfl | rfl | rfl | rfl | rfl | rfl | rfl
        · injection ho with ho
          subst ho
          clear hdep HR hik
          refine wpOp_step (o := _) rfl fun K2 hK => ?_
          rw [if_pos (by rfl)]
          have HK := hide hK
          clear hK
          go_simp
          exact HK.out _ _ ⟨rfl, HBW.out⟩
        · injection ho with ho
          subst ho
          clear hdep HR hik
          refine wpOp_step (o := _) rfl fun K2 hK => ?_
          rw [if_pos (by rfl)]
          have HK := hide hK
          clear hK
          go_simp
          exact HK.out _ _ ⟨rfl, HBW.out⟩
        · exact absurd rfl hik
        · injection ho with ho
          subst ho
          have d0 : T[25]? = some (.pointer (some ⟨tb, 0, none⟩)) := hdep { on := 0, ground := .data } (by simp) rfl
          clear hdep HR hik
          refine wpOp_step (o := _) rfl fun K2 hK => ?_
          rw [if_pos (by rfl)]
          have HK := hide hK
          clear hK
          go_simp
          exact HK.out _ _ ⟨rfl, HBW.out⟩
        · injection ho with ho
          subst ho
          have d3 : T[28]? = some (.pointer (some ⟨tb, 0, none⟩)) := hdep { on := 3, ground := .data } (by simp) rfl
          clear hdep HR hik
          refine wpOp_step (o := _) rfl fun K2 hK => ?_
          rw [if_pos (by rfl)]
          have HK := hide hK
          clear hK
          go_simp
          exact HK.out _ _ ⟨rfl, HBW.out⟩
        · exact absurd HR.out (by decide +kernel)
        · exact absurd HR.out (by decide +kernel)
        · injection ho with ho
          subst ho
          clear hdep HR hik
          refine wpOp_step (o := _) rfl fun K2 hK => ?_
          rw [if_pos (by rfl)]
          have HK := hide hK
          clear hK
          go_simp
          exact HK.out _ _ ⟨rfl, HBW.out⟩
        · exact absurd HR.out (by decide +kernel)
        · injection ho with ho
          subst ho
          have d0 : T[25]? = some (.pointer (some ⟨tb, 0, none⟩)) := hdep { on := 0, ground := .data } (by simp) rfl
          clear hdep HR hik
          refine wpOp_step (o := _) rfl fun K2 hK => ?_
          rw [if_pos (by rfl)]
          have HK := hide hK
          clear hK
          go_simp
          exact HK.out _ _ ⟨rfl, HBW.out⟩
        · injection ho with ho
          subst ho
          have d9 : T[34]? = some (.pointer (some ⟨tb, 0, none⟩)) := hdep { on := 9, ground := .data } (by simp) rfl
          clear hdep HR hik
          refine wpOp_step (o := _) rfl fun K2 hK => ?_
          rw [if_pos (by rfl)]
          have HK := hide hK
          clear hK
          go_simp
          exact HK.out _ _ ⟨rfl, HBW.out⟩
        · exact absurd HR.out (by decide +kernel)
        · exact absurd HR.out (by decide +kernel)
      · intro T W o ho hdep hst hb
        have e0 : T[0]? = some (.pointer (some ⟨rb, 0, none⟩)) := hst 0 (by decide +kernel)
        have e1 : T[1]? = some (.pointer (some ⟨tb, 0, none⟩)) := hst 1 (by decide +kernel)
        have e6 : T[6]? = some (.int .i64 sg) := hst 6 (by decide +kernel)
        injection ho with ho
        subst ho
        have d1 : T[26]? = some (.pointer (some ⟨rb, 0, none⟩)) := hdep { on := 1, ground := .data } (by simp) rfl
        have HBW := hide hb
        clear hst hb hdep
        refine wpOp_step (o := _) rfl fun K2 hK => ?_
        rw [if_pos (by rfl)]
        clear hK
        go_simp
        refine (HVN.out W (rd_below R3.out HBW.out)).mono ?_
        rintro e w9 ⟨rfl, hb⟩
        exact ⟨rfl, rfl, below_step (below_step B3.out HBW.out) hb⟩
end Go.Proofs.YtafbggbdlcfbdaaGreatDoor

/- Package text: a sum: contract. -/
namespace Go.Proofs.YtafbggbdlcfbdaaGreatDoor
open Go.RowKit

/-- What sum does. -/
def SuR (W : World) (rb tb : Nat) (s : List UInt8) (v : Value) (o : SumO) (e : Ending) (w' : World) : Prop := (o.ok = true → e = .returned (.tuple #[]) ∧ RdAt w' rb s o.e v ∧ TotAt w' tb o.cf o.nm ∧ But [rb, tb] W w') ∧ (¬ o.ok = true → e = .panicked [{ v := stopV o.e, recovered := false }] ∧ But [rb, tb] W w')
set_option maxHeartbeats 8000000 in
set_option maxRecDepth 20000 in
theorem sum_any (s : List UInt8) (i rb tb : Nat) (v : Value) (sg : Int) (cf : List Int) (nm M : Int) (W : World) (h : RdAt W rb s i v) (hs : s.length ≤ 2000) (ht : TotAt W tb cf nm) (hne : tb ≠ rb) (hsg : sg = 1 ∨ sg = -1) (hM : 0 ≤ M ∧ M ≤ 100000000) (hbd : BdC M cf nm) (hi : i ≤ s.length) (f : Nat) (hf : s.length - i < f) :
    Calls Tryz.prog 71 #[.pointer (some ⟨rb, 0, none⟩), .pointer (some ⟨tb, 0, none⟩), .int .i64 sg] W (SuR W rb tb s v (sumA s sg f i cf nm)) := by
  have HPO := hide (fun j c x K Wx (hx : RdAt Wx rb s j v) (hT : TotAt Wx tb c x) (hK : 0 ≤ K ∧ K ≤ 1000000000) (hB : BdC K c x) qo m e (hp : partA s j = some (qo, m, e)) => part_ok s j rb tb v sg c x K Wx hx hs hT hne hsg hK hB qo m e hp)
  have HPN := hide (fun j Wx (hx : RdAt Wx rb s j v) (hp : partA s j = none) => part_no s j rb tb v sg Wx hx hp)
  have HS := hide (fun j Wx (hx : RdAt Wx rb s j v) => sees_any s [43] j rb v Wx hx (by decide))
  have HTO := hide (fun j Wx (hx : RdAt Wx rb s j v) (hb : bt s j = 43) => take_ok s [43] j rb v Wx hx (by decide) hs (by rw [hb]; simp))
  have HBP := hide (fun (c : List Int) (x K : Int) (hB : BdC K c x) (hK : 0 ≤ K) (q : Option Nat) (m : Nat) (hm : m ≤ 999) => bdC_put hB hK hsg q hm)
  have HBM : Hid (∀ Wx W', But [rb] Wx W' → But [rb, tb] Wx W') := fun Wx W' h => h.mono (by simp)
  have HTB : Hid (∀ c x Wx W', TotAt Wx tb c x → But [rb] Wx W' → TotAt W' tb c x) := fun c x Wx W' h1 h2 => tot_but h1 h2 (by simpa using hne)
  have HR := hide h
  have HT := hide ht
  have HBD := hide hbd
  obtain ⟨f, rfl⟩ : ∃ f', f = f' + 1 := ⟨f - 1, by omega⟩
  clear h ht hbd
  rcases hp : partA s i with _ | ⟨qo, m, j⟩
  · rw [sumA_none hp]
    have C1 := hide (HPN.out i W HR.out hp)
    clear hp HPO HPN HS HTO HBP HBM HTB HR HT HBD hM hs hi hf hne hsg
    go_enter Tryz.func71, Tryz.ntmps71
    go_wp2_with fail
    refine C1.out.mono ?_
    rintro e w1 ⟨rfl, hb⟩
    exact ⟨rfl, ⟨(fun h => by cases h), fun _ => ⟨rfl, But.of_below hb⟩⟩⟩
  · obtain ⟨m9, hij, hjl, -⟩ := partA_bd hp
    have HSA := hide (sumA_some (sg := sg) (f := f) (cf := cf) (nm := nm) hp)
    have C1 := hide (HPO.out i cf nm M W HR.out HT.out ⟨hM.1, by omega⟩ HBD.out qo m j hp)
    have HB1 := hide (HBP.out cf nm M HBD.out hM.1 qo m m9)
    generalize sumA s sg (f + 1) i cf nm = R at HSA ⊢
    have hfj : s.length - j < f := by omega
    have hK0 : 0 ≤ M + 999 := by omega
    have hK1 : M + 999 ≤ 100000000 + 999 * ((i : Int) + 1) := by omega
    generalize putC sg qo m cf = c0 at C1 HB1 HSA
    generalize putN sg qo m nm = x0 at C1 HB1 HSA
    generalize M + 999 = K0 at HB1 hK0 hK1
    have hK2 : K0 ≤ 100000000 + 999 * (j : Int) := by omega
    have HK := hide (And.intro hfj (And.intro hK0 (And.intro hK2 hjl)))
    have HLS := hide hs
    clear hp hM hs hi hf hne hsg HR HT HBD hij hjl m9 hfj hK0 hK1 hK2
    go_enter Tryz.func71, Tryz.ntmps71
    go_wp2_with fail
    refine C1.out.mono ?_
    rintro e w1 ⟨rfl, hr1, ht1, hb1⟩
    have HR1 := hide hr1
    have HT1 := hide ht1
    have HU1 := hide hb1
    clear hr1 ht1 hb1 C1
    go_wp2
    go_loopg [] (s.length - j) (fun g wx => ∃ (j f : Nat) (c : List Int) (x K : Int), g = s.length - j ∧ j ≤ s.length ∧ s.length - j < f ∧ 0 ≤ K ∧ K ≤ 100000000 + 999 * (j : Int) ∧ BdC K c x ∧ RdAt wx rb s j v ∧ TotAt wx tb c x ∧ But [rb, tb] W wx ∧ R = if bt s j = 43 then sumA s sg f (j + 1) c x else ⟨c, x, j, true⟩)
    case atStart => exact ⟨j, f, c0, x0, K0, rfl, HK.out.2.2.2, HK.out.1, HK.out.2.1, HK.out.2.2.1, HB1.out, HR1.out, HT1.out, HU1.out, HSA.out⟩
    case round =>
      clear HR1 HT1 HU1 HSA HB1 HK
      obtain ⟨j, f, c, x, K, rfl, hj, hf, hK0, hK1, hB, hr, ht, hu, hR⟩ := hrel
      have HR1 := hide hr
      have HT1 := hide ht
      have HU1 := hide hu
      have HB1 := hide hB
      have HRE := hide hR
      have C1 := hide (HS.out j wr hr)
      clear hr ht hu hB hR
      by_cases h43 : bt s j = 43
      · rw [decide_eq_true (show bt s j ∈ [43] by rw [h43]; simp)] at C1
        have HRE2 : Hid (R = sumA s sg f (j + 1) c x) := by show _ = _; rw [HRE.out, if_pos h43]
        have C2 := hide (fun Wx hx => HTO.out j Wx hx h43)
        have hjl : j < s.length := bt_in (by rw [h43]; decide)
        obtain ⟨f, rfl⟩ : ∃ f', f = f' + 1 := ⟨f - 1, by omega⟩
        clear h43 HRE
        rcases hp : partA s (j + 1) with _ | ⟨qo, m, e2⟩
        · rw [sumA_none hp] at HRE2
          have C3 := hide (fun Wx hx => HPN.out (j + 1) Wx hx hp)
          clear hp HPO HPN HBP
          go_wp2_with fail
          refine C1.out.mono ?_
          rintro e w2 ⟨rfl, hb2⟩
          have C4 := hide (C2.out w2 (rd_below HR1.out hb2))
          have B2 := hide hb2
          clear hb2 C1 C2
          go_wp2_with fail
          refine C4.out.mono ?_
          rintro e w3 ⟨rfl, hr3, hb3⟩
          have C5 := hide (C3.out w3 hr3)
          have B3 := hide hb3
          clear hr3 hb3 C3 C4
          go_wp2_with fail
          refine C5.out.mono ?_
          rintro e w4 ⟨rfl, hb4⟩
          refine ⟨rfl, ?_⟩
          rw [HRE2.out]
          exact ⟨(fun h => by cases h), fun _ => ⟨rfl, ((HU1.out.trans (But.of_below B2.out)).trans (HBM.out _ _ B3.out)).trans (But.of_below hb4)⟩⟩
        · obtain ⟨m9, hij, hel, -⟩ := partA_bd hp
          rw [sumA_some hp] at HRE2
          have C3 := hide (fun Wx hx hT => HPO.out (j + 1) c x K Wx hx hT ⟨hK0, by have := HLS.out; omega⟩ HB1.out qo m e2 hp)
          have HB2 := hide (HBP.out c x K HB1.out hK0 qo m m9)
          generalize putC sg qo m c = c2 at C3 HB2 HRE2
          generalize putN sg qo m x = x2 at C3 HB2 HRE2
          have HNX := hide (And.intro (show s.length - e2 < f by omega) (And.intro (show 0 ≤ K + 999 by omega) (And.intro (show K + 999 ≤ 100000000 + 999 * (e2 : Int) by omega) (And.intro hel (show s.length - e2 < s.length - j by omega)))))
          generalize K + 999 = K2 at HB2 HNX
          clear hp HPO HPN HBP m9 hij hel hK0 hK1 hf hj hjl
          go_wp2_with fail
          refine C1.out.mono ?_
          rintro e w2 ⟨rfl, hb2⟩
          have C4 := hide (C2.out w2 (rd_below HR1.out hb2))
          have B2 := hide hb2
          clear hb2 C1 C2
          go_wp2_with fail
          refine C4.out.mono ?_
          rintro e w3 ⟨rfl, hr3, hb3⟩
          have C5 := hide (C3.out w3 hr3 (HTB.out _ _ _ _ (tot_below HT1.out B2.out) hb3))
          have B3 := hide hb3
          clear hr3 hb3 C3 C4
          go_wp2_with fail
          refine C5.out.mono ?_
          rintro e w4 ⟨rfl, hr4, ht4, hb4⟩
          have R4 := hide hr4
          have T4 := hide ht4
          have B4 := hide (((HU1.out.trans (But.of_below B2.out)).trans (HBM.out _ _ B3.out)).trans hb4)
          clear hr4 ht4 hb4 C5
          go_wp2
          go_roundg (s.length - e2)
          · exact ⟨e2, f, c2, x2, K2, rfl, HNX.out.2.2.2.1, HNX.out.1, HNX.out.2.1, HNX.out.2.2.1, HB2.out, R4.out, T4.out, B4.out, HRE2.out⟩
          · exact HNX.out.2.2.2.2
      · rw [decide_eq_false (show ¬ bt s j ∈ [43] by simpa using h43)] at C1
        have HRE2 : Hid (R = ⟨c, x, j, true⟩) := by show _ = _; rw [HRE.out, if_neg h43]
        clear h43 HRE HPO HPN HBP
        go_wp2_with fail
        refine C1.out.mono ?_
        rintro e w2 ⟨rfl, hb2⟩
        have B2 := hide hb2
        clear hb2 C1
        go_wp2
        refine bodyPost_end (v := .tuple #[]) (by simp [results, Tryz.results71]) rfl ?_
        rw [HRE2.out]
        exact ⟨fun _ => ⟨rfl, rd_below HR1.out B2.out, tot_below HT1.out B2.out, HU1.out.trans (But.of_below B2.out)⟩, fun h => absurd rfl h⟩
end Go.Proofs.YtafbggbdlcfbdaaGreatDoor
