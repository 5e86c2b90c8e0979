/- 3 texts in one. -/
import Derived.Test.YthadkoplbgibgaeMa
import Derived.Test.YthadkoplbgibgaeB
namespace Go.Proofs.Ythadkoplbgibgae
open Go.RowKit

theorem zArr (b : Int) : (cArr b 0) = (#[.int .i64 0, .int .i64 0, .int .i64 0, .int .i64 0, .int .i64 0, .int .i64 0, .int .i64 0, .int .i64 0, .int .i64 0, .int .i64 0, .int .i64 0, .int .i64 0, .int .i64 0, .int .i64 0, .int .i64 0, .int .i64 0, .int .i64 0, .int .i64 0, .int .i64 0, .int .i64 0, .int .i64 0, .int .i64 0, .int .i64 0, .int .i64 0, .int .i64 0, .int .i64 0, .int .i64 0, .int .i64 0, .int .i64 0, .int .i64 0, .int .i64 0, .int .i64 0, .int .i64 0, .int .i64 0, .int .i64 0, .int .i64 0, .int .i64 0, .int .i64 0, .int .i64 0, .int .i64 0, .int .i64 0, .int .i64 0, .int .i64 0, .int .i64 0, .int .i64 0, .int .i64 0, .int .i64 0, .int .i64 0, .int .i64 0, .int .i64 0, .int .i64 0, .int .i64 0, .int .i64 0, .int .i64 0, .int .i64 0, .int .i64 0, .int .i64 0, .int .i64 0, .int .i64 0, .int .i64 0] : Array Value) := by rw [cArr_zero]; rfl
theorem info37 : (Try.prog.info? 119).map (·.size) = some 60 := by kernel_rfl
set_option maxHeartbeats 1000000 in
set_option maxRecDepth 4000 in
theorem counts_any (b : Int) (w : World) (h1 : 1 ≤ b) (h2 : b ≤ 6) :
    Calls Try.prog 77 #[.int .i64 b] w fun e w' => e = .returned (.agg (cArr b 60)) ∧ w' = (w.alloc (.cells (cArr b 60) 119)).alloc (.cells (cArr b 60) 119) := by
  go_enter Try.func77, Try.ntmps77
  go_wp2
  rw [← zArr b]
  go_loopg [4, 5, 6] 60 (fun g s4 s5 s6 wx => ∃ k : Nat, k + g = 60 ∧ s4 = .int .i64 (cnt b k) ∧ s5 = .int .i64 (ahd b k) ∧ s6 = .int .i64 (59 - k) ∧ wx = (w.alloc (.cells (cArr b 0) 119)).alloc (.cells (cArr b k) 119))
  case atStart => exact ⟨0, by omega, rfl, rfl, rfl, rfl⟩
  case round =>
    obtain ⟨k, hkg, rfl, rfl, rfl, rfl⟩ := hrel
    cases gk with
    | zero =>
      obtain rfl : k = 60 := by omega
      have H0 := hide (heap_alloc2_fst w (.cells (cArr b 0) 119) (.cells (cArr b 60) 119))
      have H1 := hide (heap_alloc2_snd w (.cells (cArr b 0) 119) (.cells (cArr b 60) 119))
      have H2 := hide (heap_alloc2_fst w (.cells (cArr b 60) 119) (.cells (cArr b 60) 119))
      have HR := hide (setRow_alloc2_fst w (cArr b 0) (cArr b 60) 119 (.cells (cArr b 60) 119))
      have HI : Hid ((Try.prog.info? 119).map (·.size) = some (cArr b 60).size) := by rw [cArr_size]; exact info37
      go_wp2_with (first
        | (refine wpList_load_row rfl 119 _ rfl _ rfl _ _ _ _ _ H1.out Try.underlying119 HI.out ?_)
        | (refine wpList_store_row rfl 119 _ _ rfl _ _ _ rfl rfl _ H0.out HI.out (by rw [cArr_size, cArr_size]) (cArr_one b 60) ?_; rw [HR.out]))
      refine bodyPost_ret (v := .agg (cArr b 60)) ?_ rfl ⟨rfl, rfl⟩
      exact results_cell1 Try.results77 _ _ _ _ _ _ _ _ rfl H2.out Try.underlying119 HI.out
    | succ g =>
      have hk : 0 ≤ (59 : Int) - (k : Int) := by omega
      have hk2 : (59 : Int) - (k : Int) < 60 := by omega
      have hcb := cnt_bd b h1 h2 k
      obtain ⟨⟨hc1, hc2⟩, hc3, hc4⟩ := hcb
      have HC := hide (cnt_succ b k)
      have hcell := cArr_get b k (59 - k) (by omega)
      have HS := hide (cArr_set b k (by omega))
      by_cases hb : b = 1
      · have hb' : (b == 1) = true := by simpa using hb
        rw [if_pos hb] at HC
        clear hb
        go_wp2
        all_goals
          go_roundg g
          case measure => omega
          case rel =>
            refine ⟨k + 1, by omega, ?_, rfl, by go_num, by rw [HS.out]⟩
            rw [HC.out]; congr 1; omega
      · have hb' : (b == 1) = false := by simpa using hb
        have hm1 : 1 ≤ cnt b k * b := by have := Int.mul_le_mul hc1 h1 (by omega) (by omega); omega
        have hm2 : cnt b k * b ≤ 1099511627777 * 6 := by have := Int.mul_le_mul hc2 h2 (by omega) (by omega); omega
        rw [if_neg hb] at HC
        clear hb
        go_wp2
        all_goals
          go_roundg g
          case measure => omega
          case rel =>
            refine ⟨k + 1, by omega, ?_, rfl, by go_num, by rw [HS.out]⟩
            rw [HC.out]; congr 1; omega
end Go.Proofs.Ythadkoplbgibgae

/- The contract of digit.Value. -/
namespace Go.Proofs.Ythadkoplbgibgae
open Go.RowKit

theorem digB_get {b : Int} {l : List Int} (h2 : b ≤ 6) (h : digB b l = true) (k : Nat) (hk : k < l.length) : 0 ≤ l.getD k 0 ∧ l.getD k 0 ≤ 5 := by
  unfold digB at h
  rw [List.all_eq_true] at h
  have := h (l.getD k 0) (by simp [List.getD, hk])
  have := of_decide_eq_true this
  unfold kindsI at this
  split at this <;> omega

def valV (b : Int) (l : List Int) : Value := if val b l ≤ 1099511627776 then .tuple #[.int .i64 (val b l), .nilIface] else .tuple #[.int .i64 0, .iface 61 (.int .i64 3)]

theorem value_range (b : Int) (a : Option Addr) (len cap : Nat) (w : World) (h : b < 1 ∨ 6 < b) :
    Calls Try.prog 53 #[.int .i64 b, .slice a len cap] w fun e w' => e = .returned (.tuple #[.int .i64 0, .iface 61 (.int .i64 1)]) ∧ w' = w := by
  go_enter Try.func53, Try.ntmps53
  go_wp2_with (go_at_call 80; refine (check_range _ _ _ _ _ h).mono ?_; rintro e w' ⟨rfl, rfl⟩)
  go_ret2
  exact ⟨by simp, rfl⟩

theorem value_full (b : Int) (a : Option Addr) (len cap : Nat) (w : World) (h1 : 1 ≤ b) (h2 : b ≤ 6) (h : 60 < len) (hm : len ≤ maxLen) :
    Calls Try.prog 53 #[.int .i64 b, .slice a len cap] w fun e w' => e = .returned (.tuple #[.int .i64 0, .iface 61 (.int .i64 3)]) ∧ w' = w := by
  go_enter Try.func53, Try.ntmps53
  go_wp2_with (go_at_call 80; refine (check_full _ _ _ _ _ h1 h2 h hm).mono ?_; rintro e w' ⟨rfl, rfl⟩)
  go_ret2
  exact ⟨by simp, rfl⟩

theorem value_bad (b : Int) (a : Option Addr) (len cap : Nat) (l : List Int) (w : World) (h1 : 1 ≤ b) (h2 : b ≤ 6) (h : len ≤ 60) (hs : Sl w a len l) (hd : digB b l = false) :
    Calls Try.prog 53 #[.int .i64 b, .slice a len cap] w fun e w' => e = .returned (.tuple #[.int .i64 0, .iface 61 (.int .i64 1)]) ∧ w' = w := by
  have hv : chkV b l = .iface 61 (.int .i64 1) := by simp [chkV, hd]
  have hc := hide (check_ok b a len cap l w h1 h2 h hs)
  rw [hv] at hc
  clear hv hs hd
  go_enter Try.func53, Try.ntmps53
  go_wp2_with (go_at_call 80; refine hc.out.mono ?_; rintro e w' ⟨rfl, rfl⟩)
  go_ret2
  exact ⟨by simp, rfl⟩


theorem slice37 (x : Int) (hx : 0 ≤ x) (hx' : x ≤ 60) : ∃ o : Nat, (∀ B W, (Instr.sliceAt 119 (.pointer (some ⟨B, 0, none⟩)) (some (.int .i64 x)) none none).run Try.prog W = .ok (.slice (some ⟨B, o, none⟩) (60 - x.toNat) (60 - x.toNat)) W) ∧ (x < 60 → o = x.toNat) := by
  have hal : Try.prog.arrayLen 119 = 60 := by kernel_rfl
  refine ⟨if 60 = x.toNat then 0 else x.toNat, fun B W => ?_, fun h => by rw [if_neg (by omega)]⟩
  rw [run_sliceAt_array_l W 119 ⟨B, 0, none⟩ (by kernel_rfl) .i64 x hx (by rw [hal]; omega)]
  by_cases e : 60 = x.toNat
  · rw [if_pos e]
    have e' : x = 60 := by omega
    subst e'
    go_simp
  · rw [if_neg e]
    go_simp

theorem cell_alloc3_last (w : World) (o o' : Obj) (c : Array Value) (t : TypeId) (k : Nat) : (((w.alloc o).alloc o').alloc (.cells c t)).cell? ⟨w.heap.size + 2, k, none⟩ = c[k]? := by
  have := cell_of_row _ _ k c t (0, 0) (heap_alloc3_last w o o' (.cells c t))
  exact this

set_option maxHeartbeats 1000000 in
set_option maxRecDepth 4000 in
theorem value_ok (b : Int) (a : Option Addr) (len cap : Nat) (l : List Int) (w : World) (h1 : 1 ≤ b) (h2 : b ≤ 6) (h : len ≤ 60) (hs : Sl w a len l) (hd : digB b l = true) :
    Calls Try.prog 53 #[.int .i64 b, .slice a len cap] w fun e w' => e = .returned (valV b l) ∧ Below w.heap.size w w' := by
  have hv : chkV b l = .nilIface := by simp [chkV, hd]
  have hc := hide (check_ok b a len cap l w h1 h2 h hs)
  rw [hv] at hc
  clear hv
  have hh : len ≤ 60 := h
  clear h
  have HL : Hid (l.length = len) := hs.1
  have HS : Hid (Sl w a len l) := hs
  have HD : Hid (digB b l = true) := hd
  clear hs hd
  have HI : Hid ((Try.prog.info? 119).map (·.size) = some (cArr b 60).size) := by rw [cArr_size]; exact info37
  obtain ⟨o, hsl, ho⟩ := slice37 (60 - (len : Int)) (by omega) (by omega)
  have HO := hide ho
  clear ho
  rw [show 60 - (60 - (len : Int)).toNat = len by omega] at hsl
  go_enter Try.func53, Try.ntmps53
  go_wp2_with (first
      | (go_at_call 80; refine hc.out.mono ?_; rintro e w' ⟨rfl, hw⟩; rw [hw]; clear hw w')
      | (go_at_call 77; refine (counts_any _ _ h1 h2).mono ?_; rintro e w' ⟨rfl, rfl⟩)
      | (refine wpList_store_row rfl 119 _ _ rfl _ _ _ rfl rfl _ (heap_alloc3_last _ _ _ _) HI.out (by rw [cArr_size]; rfl) (cArr_one b 60) ?_; rw [setRow_alloc3_last]))
  have HB : Hid (Below w.heap.size w (((w.alloc (Obj.cells (cArr b 60) 119)).alloc (Obj.cells (cArr b 60) 119)).alloc (Obj.cells (cArr b 60) 119))) :=
    (((Below.refl _ _).alloc (Nat.le_refl _) _).alloc (by simp) _).alloc (by simp; omega) _
  have HW : Hid (∀ k, k < 60 → (((w.alloc (Obj.cells (cArr b 60) 119)).alloc (Obj.cells (cArr b 60) 119)).alloc (Obj.cells (cArr b 60) 119)).cell? ⟨w.heap.size + 1 + 1, k, none⟩ = some (.int .i64 (cnt b (59 - k)))) := by
    intro k hk
    rw [cell_alloc3_last, cArr_get b 60 k hk, if_pos (by omega)]
  generalize ((w.alloc (Obj.cells (cArr b 60) 119)).alloc (Obj.cells (cArr b 60) 119)).alloc (Obj.cells (cArr b 60) 119) = W at HB HW
  clear hsl hc
  go_loop [8, 24] (fun s i => ∃ k : Nat, k ≤ len ∧ i = .int .i64 k ∧ s = .int .i64 (valTo b l k)) (fun _ i => len - (intOf i).toNat)
  case atStart => exact ⟨0, Nat.zero_le _, rfl, by rw [valTo_zero]⟩
  case round =>
    obtain ⟨k, hk, rfl, rfl⟩ := hrel
    have hbd := valTo_bd b h1 h2 l (fun j hj => digB_get h2 HD.out j hj) k (by rw [HL.out]; exact hk)
    obtain ⟨hb1, hb2⟩ := hbd
    by_cases hlt : k < len
    · have hlti : (k : Int) < (len : Int) := by omega
      obtain ⟨bb, oo, rfl, hck⟩ := sl_cell HS.out k hlt
      rw [← HB.out.cell (p := ⟨bb, oo + k, none⟩) (World.block_lt_of_cell? w _ hck)] at hck
      have hcw := HW.out (o + k) (by have := HO.out (by omega); omega)
      rw [show 59 - (o + k) = len - 1 - k by have := HO.out (by omega); omega] at hcw
      have HN := hide (valTo_succ b l k (by rw [HL.out]; exact hlt))
      obtain ⟨hx1, hx2⟩ := digB_get h2 HD.out k (by rw [HL.out]; exact hlt)
      rw [HL.out] at HN
      have hcb := (cnt_bd b h1 h2 (len - 1 - k)).1
      obtain ⟨hc1, hc2⟩ := hcb
      generalize cnt b (len - 1 - k) = c at hcw HN hc1 hc2
      generalize l.getD k 0 = x at hck HN hx1 hx2
      have hm1 : 0 ≤ x * c := Int.mul_nonneg hx1 (by omega)
      have hm2 : x * c ≤ 5 * 1099511627777 := Int.mul_le_mul hx2 hc2 (by omega) (by omega)
      generalize valTo b l k = v at HN hb1 hb2 ⊢
      go_wp2
      go_round
      case rel => exact ⟨k + 1, by omega, by go_num, by rw [HN.out]⟩
      case measure => simp [intOf]; omega
    · have hlti : ¬ ((k : Int) < (len : Int)) := by omega
      obtain rfl : len = k := by omega
      have HV : Hid (valTo b l len = val b l) := by
        have := valTo_all b l
        rw [HL.out] at this
        exact this
      rw [HV.out] at hb1 hb2 ⊢
      clear HV
      by_cases hv : val b l ≤ 1099511627776
      · have HV : Hid (valV b l = .tuple #[.int .i64 (val b l), .nilIface]) := by show _ = _; unfold valV; rw [if_pos hv]
        generalize val b l = v at hb1 hb2 hv HV ⊢
        go_wp2
        go_ret2
        exact ⟨by rw [HV.out]; simp, HB.out⟩
      · have HV : Hid (valV b l = .tuple #[.int .i64 0, .iface 61 (.int .i64 3)]) := by show _ = _; unfold valV; rw [if_neg hv]
        have hv' : 1099511627776 < val b l := by omega
        clear hv
        generalize val b l = v at hb1 hb2 hv' HV ⊢
        go_wp2
        go_ret2
        exact ⟨by rw [HV.out]; simp, HB.out⟩
end Go.Proofs.Ythadkoplbgibgae

/- The contracts of digit.Right and digit.Less. -/
namespace Go.Proofs.Ythadkoplbgibgae
open Go.RowKit

def rightB (b : Int) (l : List Int) : Bool := b != 1 || !onesB l

theorem right_range (b : Int) (a : Option Addr) (len cap : Nat) (w : World) (h : b < 1 ∨ 6 < b) :
    Calls Try.prog 54 #[.int .i64 b, .slice a len cap] w fun e w' => e = .returned (.tuple #[.bool false, .iface 61 (.int .i64 1)]) ∧ w' = w := by
  go_enter Try.func54, Try.ntmps54
  go_wp2_with (go_at_call 80; refine (check_range _ _ _ _ _ h).mono ?_; rintro e w' ⟨rfl, rfl⟩)
  go_ret2
  exact ⟨by simp, rfl⟩

theorem right_full (b : Int) (a : Option Addr) (len cap : Nat) (w : World) (h1 : 1 ≤ b) (h2 : b ≤ 6) (h : 60 < len) (hm : len ≤ maxLen) :
    Calls Try.prog 54 #[.int .i64 b, .slice a len cap] w fun e w' => e = .returned (.tuple #[.bool false, .iface 61 (.int .i64 3)]) ∧ w' = w := by
  go_enter Try.func54, Try.ntmps54
  go_wp2_with (go_at_call 80; refine (check_full _ _ _ _ _ h1 h2 h hm).mono ?_; rintro e w' ⟨rfl, rfl⟩)
  go_ret2
  exact ⟨by simp, rfl⟩

theorem right_bad (b : Int) (a : Option Addr) (len cap : Nat) (l : List Int) (w : World) (h1 : 1 ≤ b) (h2 : b ≤ 6) (h : len ≤ 60) (hs : Sl w a len l) (hd : digB b l = false) :
    Calls Try.prog 54 #[.int .i64 b, .slice a len cap] w fun e w' => e = .returned (.tuple #[.bool false, .iface 61 (.int .i64 1)]) ∧ w' = w := by
  have hv : chkV b l = .iface 61 (.int .i64 1) := by simp [chkV, hd]
  have hc := hide (check_ok b a len cap l w h1 h2 h hs)
  rw [hv] at hc
  clear hv hs hd
  go_enter Try.func54, Try.ntmps54
  go_wp2_with (go_at_call 80; refine hc.out.mono ?_; rintro e w' ⟨rfl, rfl⟩)
  go_ret2
  exact ⟨by simp, rfl⟩

theorem right_ok (b : Int) (a : Option Addr) (len cap : Nat) (l : List Int) (w : World) (h1 : 1 ≤ b) (h2 : b ≤ 6) (h : len ≤ 60) (hs : Sl w a len l) (hd : digB b l = true) :
    Calls Try.prog 54 #[.int .i64 b, .slice a len cap] w fun e w' => e = .returned (.tuple #[.bool (rightB b l), .nilIface]) ∧ w' = w := by
  have hv : chkV b l = .nilIface := by simp [chkV, hd]
  have hc := hide (check_ok b a len cap l w h1 h2 h hs)
  have ho := hide (ones_any a len cap l w hs)
  rw [hv] at hc
  clear hv hs hd
  by_cases hb : b = 1
  · have hb' : (b != 1) = false := by simp [hb]
    have HR : Hid (rightB b l = !onesB l) := by show _ = _; simp [rightB, hb]
    clear hb
    generalize onesB l = t at ho HR
    go_enter Try.func54, Try.ntmps54
    go_wp2_with (first
      | (go_at_call 80; refine hc.out.mono ?_; rintro e w' ⟨rfl, rfl⟩)
      | (go_at_call 81; refine ho.out.mono ?_; rintro e w' ⟨rfl, rfl⟩))
    go_ret2
    exact ⟨by rw [HR.out]; simp, rfl⟩
  · have hb' : (b != 1) = true := by simp [hb]
    have HR : Hid (rightB b l = true) := by show _ = _; simp [rightB, hb]
    clear hb
    go_enter Try.func54, Try.ntmps54
    go_wp2_with (first
      | (go_at_call 80; refine hc.out.mono ?_; rintro e w' ⟨rfl, rfl⟩)
      | (go_at_call 81; refine ho.out.mono ?_; rintro e w' ⟨rfl, rfl⟩))
    go_ret2
    exact ⟨by rw [HR.out]; simp, rfl⟩

end Go.Proofs.Ythadkoplbgibgae
