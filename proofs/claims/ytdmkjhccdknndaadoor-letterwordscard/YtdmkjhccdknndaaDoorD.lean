/- The contract of digit.Value. -/
import Derived.Test.YtdmkjhccdknndaaDoorC
import Derived.Test.YtdmkjhccdknndaaDoorN
namespace Go.Proofs.YtdmkjhccdknndaaDoor
open Go.RowKit

theorem digB_get {b : Int} {l : List Int} (h2 : b ≤ 6) (h : digB b l = true) (k : Nat) (hk : k < l.length) : 0 ≤ l.getD k 0 ∧ l.getD k 0 ≤ 5 := by
  unfold digB at h
  rw [List.all_eq_true] at h
  have := h (l.getD k 0) (by simp [List.getD, hk])
  have := of_decide_eq_true this
  unfold kindsI at this
  split at this <;> omega

def valV (b : Int) (l : List Int) : Value := if val b l ≤ 1099511627776 then .tuple #[.int .i64 (val b l), .nilIface] else .tuple #[.int .i64 0, .iface 27 (.int .i64 3)]

theorem value_range (b : Int) (a : Option Addr) (len cap : Nat) (w : World) (h : b < 1 ∨ 6 < b) :
    Calls Tryd.prog 14 #[.int .i64 b, .slice a len cap] w fun e w' => e = .returned (.tuple #[.int .i64 0, .iface 27 (.int .i64 1)]) ∧ w' = w := by
  go_enter Tryd.func14, Tryd.ntmps14
  go_wp2_with (go_at_call 35; refine (check_range _ _ _ _ _ h).mono ?_; rintro e w' ⟨rfl, rfl⟩)
  go_ret2
  exact ⟨by simp, rfl⟩

theorem value_full (b : Int) (a : Option Addr) (len cap : Nat) (w : World) (h1 : 1 ≤ b) (h2 : b ≤ 6) (h : 60 < len) (hm : len ≤ maxLen) :
    Calls Tryd.prog 14 #[.int .i64 b, .slice a len cap] w fun e w' => e = .returned (.tuple #[.int .i64 0, .iface 27 (.int .i64 3)]) ∧ w' = w := by
  go_enter Tryd.func14, Tryd.ntmps14
  go_wp2_with (go_at_call 35; refine (check_full _ _ _ _ _ h1 h2 h hm).mono ?_; rintro e w' ⟨rfl, rfl⟩)
  go_ret2
  exact ⟨by simp, rfl⟩

theorem value_bad (b : Int) (a : Option Addr) (len cap : Nat) (l : List Int) (w : World) (h1 : 1 ≤ b) (h2 : b ≤ 6) (h : len ≤ 60) (hs : Sl w a len l) (hd : digB b l = false) :
    Calls Tryd.prog 14 #[.int .i64 b, .slice a len cap] w fun e w' => e = .returned (.tuple #[.int .i64 0, .iface 27 (.int .i64 1)]) ∧ w' = w := by
  have hv : chkV b l = .iface 27 (.int .i64 1) := by simp [chkV, hd]
  have hc := hide (check_ok b a len cap l w h1 h2 h hs)
  rw [hv] at hc
  clear hv hs hd
  go_enter Tryd.func14, Tryd.ntmps14
  go_wp2_with (go_at_call 35; refine hc.out.mono ?_; rintro e w' ⟨rfl, rfl⟩)
  go_ret2
  exact ⟨by simp, rfl⟩


theorem slice37 (x : Int) (hx : 0 ≤ x) (hx' : x ≤ 60) : ∃ o : Nat, (∀ B W, (Instr.sliceAt 58 (.pointer (some ⟨B, 0, none⟩)) (some (.int .i64 x)) none none).run Tryd.prog W = .ok (.slice (some ⟨B, o, none⟩) (60 - x.toNat) (60 - x.toNat)) W) ∧ (x < 60 → o = x.toNat) := by
  have hal : Tryd.prog.arrayLen 58 = 60 := by kernel_rfl
  refine ⟨if 60 = x.toNat then 0 else x.toNat, fun B W => ?_, fun h => by rw [if_neg (by omega)]⟩
  rw [run_sliceAt_array_l W 58 ⟨B, 0, none⟩ (by kernel_rfl) .i64 x hx (by rw [hal]; omega)]
  by_cases e : 60 = x.toNat
  · rw [if_pos e]
    have e' : x = 60 := by omega
    subst e'
    go_simp
  · rw [if_neg e]
    go_simp

theorem cell_alloc3_last (w : World) (o o' : Obj) (c : Array Value) (t : TypeId) (k : Nat) : (((w.alloc o).alloc o').alloc (.cells c t)).cell? ⟨w.heap.size + 2, k, none⟩ = c[k]? := by
  have := cell_of_row _ _ k c t (0, 0) (heap_alloc3_last w o o' (.cells c t))
  exact this

set_option maxHeartbeats 1000000 in
set_option maxRecDepth 4000 in
theorem value_ok (b : Int) (a : Option Addr) (len cap : Nat) (l : List Int) (w : World) (h1 : 1 ≤ b) (h2 : b ≤ 6) (h : len ≤ 60) (hs : Sl w a len l) (hd : digB b l = true) :
    Calls Tryd.prog 14 #[.int .i64 b, .slice a len cap] w fun e w' => e = .returned (valV b l) ∧ Below w.heap.size w w' := by
  have hv : chkV b l = .nilIface := by simp [chkV, hd]
  have hc := hide (check_ok b a len cap l w h1 h2 h hs)
  rw [hv] at hc
  clear hv
  have hh : len ≤ 60 := h
  clear h
  have HL : Hid (l.length = len) := hs.1
  have HS : Hid (Sl w a len l) := hs
  have HD : Hid (digB b l = true) := hd
  clear hs hd
  have HI : Hid ((Tryd.prog.info? 58).map (·.size) = some (cArr b 60).size) := by rw [cArr_size]; exact info37
  obtain ⟨o, hsl, ho⟩ := slice37 (60 - (len : Int)) (by omega) (by omega)
  have HO := hide ho
  clear ho
  rw [show 60 - (60 - (len : Int)).toNat = len by omega] at hsl
  go_enter Tryd.func14, Tryd.ntmps14
  go_wp2_with (first
      | (go_at_call 35; refine hc.out.mono ?_; rintro e w' ⟨rfl, hw⟩; rw [hw]; clear hw w')
      | (go_at_call 31; refine (counts_any _ _ h1 h2).mono ?_; rintro e w' ⟨rfl, rfl⟩)
      | (refine wpList_store_row rfl 58 _ _ rfl _ _ _ rfl rfl _ (heap_alloc3_last _ _ _ _) HI.out (by rw [cArr_size]; rfl) (cArr_one b 60) ?_; rw [setRow_alloc3_last]))
  have HB : Hid (Below w.heap.size w (((w.alloc (Obj.cells (cArr b 60) 58)).alloc (Obj.cells (cArr b 60) 58)).alloc (Obj.cells (cArr b 60) 58))) :=
    (((Below.refl _ _).alloc (Nat.le_refl _) _).alloc (by simp) _).alloc (by simp; omega) _
  have HW : Hid (∀ k, k < 60 → (((w.alloc (Obj.cells (cArr b 60) 58)).alloc (Obj.cells (cArr b 60) 58)).alloc (Obj.cells (cArr b 60) 58)).cell? ⟨w.heap.size + 1 + 1, k, none⟩ = some (.int .i64 (cnt b (59 - k)))) := by
    intro k hk
    rw [cell_alloc3_last, cArr_get b 60 k hk, if_pos (by omega)]
  generalize ((w.alloc (Obj.cells (cArr b 60) 58)).alloc (Obj.cells (cArr b 60) 58)).alloc (Obj.cells (cArr b 60) 58) = W at HB HW
  clear hsl hc
  go_loop [8, 24] (fun s i => ∃ k : Nat, k ≤ len ∧ i = .int .i64 k ∧ s = .int .i64 (valTo b l k)) (fun _ i => len - (intOf i).toNat)
  case atStart => exact ⟨0, Nat.zero_le _, rfl, by rw [valTo_zero]⟩
  case round =>
    obtain ⟨k, hk, rfl, rfl⟩ := hrel
    have hbd := valTo_bd b h1 h2 l (fun j hj => digB_get h2 HD.out j hj) k (by rw [HL.out]; exact hk)
    obtain ⟨hb1, hb2⟩ := hbd
    by_cases hlt : k < len
    · have hlti : (k : Int) < (len : Int) := by omega
      obtain ⟨bb, oo, rfl, hck⟩ := sl_cell HS.out k hlt
      rw [← HB.out.cell (p := ⟨bb, oo + k, none⟩) (World.block_lt_of_cell? w _ hck)] at hck
      have hcw := HW.out (o + k) (by have := HO.out (by omega); omega)
      rw [show 59 - (o + k) = len - 1 - k by have := HO.out (by omega); omega] at hcw
      have HN := hide (valTo_succ b l k (by rw [HL.out]; exact hlt))
      obtain ⟨hx1, hx2⟩ := digB_get h2 HD.out k (by rw [HL.out]; exact hlt)
      rw [HL.out] at HN
      have hcb := (cnt_bd b h1 h2 (len - 1 - k)).1
      obtain ⟨hc1, hc2⟩ := hcb
      generalize cnt b (len - 1 - k) = c at hcw HN hc1 hc2
      generalize l.getD k 0 = x at hck HN hx1 hx2
      have hm1 : 0 ≤ x * c := Int.mul_nonneg hx1 (by omega)
      have hm2 : x * c ≤ 5 * 1099511627777 := Int.mul_le_mul hx2 hc2 (by omega) (by omega)
      generalize valTo b l k = v at HN hb1 hb2 ⊢
      go_wp2
      go_round
      case rel => exact ⟨k + 1, by omega, by go_num, by rw [HN.out]⟩
      case measure => simp [intOf]; omega
    · have hlti : ¬ ((k : Int) < (len : Int)) := by omega
      obtain rfl : len = k := by omega
      have HV : Hid (valTo b l len = val b l) := by
        have := valTo_all b l
        rw [HL.out] at this
        exact this
      rw [HV.out] at hb1 hb2 ⊢
      clear HV
      by_cases hv : val b l ≤ 1099511627776
      · have HV : Hid (valV b l = .tuple #[.int .i64 (val b l), .nilIface]) := by show _ = _; unfold valV; rw [if_pos hv]
        generalize val b l = v at hb1 hb2 hv HV ⊢
        go_wp2
        go_ret2
        exact ⟨by rw [HV.out]; simp, HB.out⟩
      · have HV : Hid (valV b l = .tuple #[.int .i64 0, .iface 27 (.int .i64 3)]) := by show _ = _; unfold valV; rw [if_neg hv]
        have hv' : 1099511627776 < val b l := by omega
        clear hv
        generalize val b l = v at hb1 hb2 hv' HV ⊢
        go_wp2
        go_ret2
        exact ⟨by rw [HV.out]; simp, HB.out⟩
end Go.Proofs.YtdmkjhccdknndaaDoor
