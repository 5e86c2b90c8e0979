/- ask.ahead: contract. -/
import Derived.Test.YtpkjnkcdajngkaaAkb
import Derived.Test.YtpkjnkcdajngkaaAq
namespace Go.Proofs.Ytpkjnkcdajngkaa
open Go.RowKit

/-- From which states some letter leads to one that is alive. -/
def ahdL (N : List (List Int)) (R : List Bool) : List Bool := (List.range N.length).map fun s => (N.getD s []).any fun x => R.getD x.toNat false
set_option maxHeartbeats 4000000 in
set_option maxRecDepth 4000 in
theorem ahd1_any (B : Nat) (ar : Option Addr) (n cr : Nat) (R : List Bool) (s : Nat) (W : World) (hb : W.cell? ⟨B, 0, none⟩ = some (.slice ar n cr)) (he : SlB W ar n R) (hs : s < n) :
    Calls Try.prog 25 #[.int .i64 (s : Int), .pointer (some ⟨B, 0, none⟩)] W (retB (R.getD s false) W) := by
  obtain ⟨b1, o1, rfl, hc⟩ := slB_cell he s hs
  have hsi : (s : Int) < (n : Int) := by omega
  clear he
  go_enter Try.func25, Try.ntmps25
  go_wp2
  go_ret
  exact ⟨rfl, rfl⟩
/-- What ahead hands back: a row of its own, the third block that it makes. -/
def AhdR (w : World) (n : Nat) (R : List Bool) (e : Ending) (w' : World) : Prop :=
  e = .returned (.slice (some ⟨w.heap.size + 2, 0, none⟩) n n) ∧ (w'.rowIs (w.heap.size + 2) 4 n fun s => .bool (R.getD s false)) ∧ Below w.heap.size w w'
set_option maxHeartbeats 4000000 in
set_option maxRecDepth 4000 in
theorem ahead_any (b t : Int) (a : Option Addr) (n cap : Nat) (a' : Option Addr) (k' cap' : Nat) (N : List (List Int)) (m : Nat) (ar : Option Addr) (cr : Nat) (R : List Bool) (w : World) (hs : Sl2 w a n N) (hG : GoodN m n N) (hr : SlB w ar n R) :
    Calls Try.prog 20 #[.agg #[.int .i64 b, .int .i64 t, .slice a n cap, .slice a' k' cap'], .slice ar n cr] w (AhdR w n (ahdL N R)) := by
  have hn4 := hG.2.2.1
  have HB0 : Hid (Below w.heap.size w ((w.alloc (.cells #[.int .i64 b, .int .i64 t, .slice a n cap, .slice a' k' cap'] 25)).alloc (.cells #[.slice ar n cr] 23))) := ((Below.refl _ _).alloc (Nat.le_refl _) _).alloc (by simp) _
  have HX2 : Hid (∀ W, Below ((w.alloc (.cells #[.int .i64 b, .int .i64 t, .slice a n cap, .slice a' k' cap'] 25)).alloc (.cells #[.slice ar n cr] 23)).heap.size ((w.alloc (.cells #[.int .i64 b, .int .i64 t, .slice a n cap, .slice a' k' cap'] 25)).alloc (.cells #[.slice ar n cr] 23)) W → W.cell? ⟨w.heap.size, 2, none⟩ = some (.slice a n cap) ∧ W.cell? ⟨w.heap.size + 1, 0, none⟩ = some (.slice ar n cr)) := fun W hW => by
    refine ⟨?_, ?_⟩
    · rw [hW.cell (p := ⟨w.heap.size, 2, none⟩) (by simp; omega)]
      exact (box4 (w := w) ((Below.refl _ _).alloc (Nat.le_refl _) _)).2.2.1
    · rw [hW.cell (p := ⟨w.heap.size + 1, 0, none⟩) (by simp)]
      simp
  have HSZ : Hid (((w.alloc (.cells #[.int .i64 b, .int .i64 t, .slice a n cap, .slice a' k' cap'] 25)).alloc (.cells #[.slice ar n cr] 23)).heap.size = w.heap.size + 2) := by show _ = _; simp
  have hmk := make_bools n (by omega)
  have HS := hide (sl2_below hs HB0.out)
  have HR := hide (slB_below hr HB0.out)
  have HROW : Hid (∀ s, s < n → ∀ x ∈ N.getD s [], 0 ≤ x ∧ x < (n : Int)) := fun s h x hx => by
    obtain ⟨i, hi, rfl⟩ := List.getElem_of_mem hx
    obtain ⟨h1, h2⟩ := hG.2.2.2.2.2 s h
    have := h2 i (by omega)
    rwa [getD_at _ i hi] at this
  have HLEN : Hid (N.length = n) := hG.1
  obtain ⟨P, hP⟩ : ∃ P : Nat → Bool, P = fun s => (N.getD s []).any fun x => R.getD x.toNat false := ⟨_, rfl⟩
  have HPS : Hid (∀ s, (N.getD s []).any (fun x => R.getD x.toNat false) = P s) := fun s => by rw [hP]
  have HEND : Hid (∀ s, s < n → (ahdL N R).getD s false = P s) := fun s h => by
    unfold ahdL
    rw [hP, HLEN.out]
    simp [List.getD, h]
  generalize ahdL N R = AR at HEND ⊢
  clear hs hr hG hP
  generalize hw1 : (w.alloc (.cells #[.int .i64 b, .int .i64 t, .slice a n cap, .slice a' k' cap'] 25)).alloc (.cells #[.slice ar n cr] 23) = w1 at HB0 HX2 HSZ HS HR
  have HP0 : Hid (((w1.alloc (.cells (madeCells #[.bool false] n) 4)).rowIs w1.heap.size 4 n fun s => .bool (if s < 0 then P s else false)) ∧ Below w1.heap.size w1 (w1.alloc (.cells (madeCells #[.bool false] n) 4))) :=
    ⟨(World.rowIs_made w1 (.bool false) n 4).congr fun q _ => by simp, (Below.refl _ _).alloc (Nat.le_refl _) _⟩
  obtain ⟨hx2, hx3⟩ := HX2.out w1 (Below.refl _ _)
  obtain ⟨hy2, hy3⟩ := HX2.out _ HP0.out.2
  go_enter Try.func20, Try.ntmps20
  go_wp2
  clear hx2 hx3 hy2 hy3 hmk
  generalize w1.alloc (.cells (madeCells #[.bool false] n) 4) = w2 at HP0 ⊢
  go_loopw [14] (fun i wx => ∃ k : Nat, k ≤ n ∧ i = .int .i64 k ∧ (wx.rowIs w1.heap.size 4 n fun s => .bool (if s < k then P s else false)) ∧ Below w1.heap.size w1 wx) (fun i _ => n - (intOf i).toNat)
  case atStart => exact ⟨0, by omega, rfl, HP0.out⟩
  case round =>
    obtain ⟨k, hk, rfl, hrw, hbw⟩ := hrel
    have HRW := hide hrw
    have HBW := hide hbw
    clear hrw hbw
    by_cases hlt : k < n
    · have hlti : (k : Int) < (n : Int) := by omega
      obtain ⟨bs, os, ax, cx, rfl, hcm, hsx⟩ := sl2_cell (sl2_below HS.out HBW.out) k hlt
      have HC := hide (cntF_any 25 #[.pointer (some ⟨w.heap.size + 1, 0, none⟩)] (fun s => R.getD s false) n ax _ cx _ wr (fun _ _ => rfl) (fun s hs => ahd1_any (w.heap.size + 1) ar n cr R s wr (HX2.out wr HBW.out).2 (slB_below HR.out HBW.out) hs) hsx (HROW.out k hlt))
      rw [HPS.out k] at HC
      unfold retB at HC
      have hcs := HRW.out.cell (i := k) hlt
      have hfs := HRW.out.frozen k
      clear hsx
      generalize (N.getD k []).length = lx at hcm HC
      generalize hpk : P k = pk at HC
      have HPK := hide hpk
      clear hpk
      go_wp2_with (go_at_call 15; refine HC.out.mono ?_; rintro e w' ⟨rfl, rfl⟩)
      go_roundw
      case rel => exact ⟨k + 1, by omega, by go_num, (HRW.out.set _ _).congr fun q hq => by
        by_cases e : q = k
        · subst e; rw [if_pos rfl, if_pos (by omega), HPK.out]
        · rw [if_neg e]
          by_cases h : q < k
          · rw [if_pos h, if_pos (by omega)]
          · rw [if_neg h, if_neg (by omega)], HBW.out.setCell (Nat.le_refl _) _⟩
      case measure => simp [intOf]; omega
    · have hlti : ¬ ((k : Int) < (n : Int)) := by omega
      obtain rfl : k = n := by omega
      go_wp2
      go_ret
      refine ⟨by rw [HSZ.out]; rfl, ?_, HB0.out.trans (HBW.out.mono HB0.out.size)⟩
      rw [← HSZ.out]
      exact HRW.out.congr fun q hq => by rw [if_pos hq, HEND.out q hq]
end Go.Proofs.Ytpkjnkcdajngkaa
