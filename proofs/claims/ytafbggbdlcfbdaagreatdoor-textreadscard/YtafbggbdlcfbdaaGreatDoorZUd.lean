/- 2 texts in one. -/
import Derived.WalkLawsBesides
import Derived.Test.YtafbggbdlcfbdaaGreatDoorNx
import Derived.Test.YtafbggbdlcfbdaaGreatDoorZUc
import Derived.Test.YtafbggbdlcfbdaaGreatDoorZFd
import Derived.Test.YtafbggbdlcfbdaaGreatDoorZPa
/- Package text: the reader in its box; sees, take, end: contracts. -/
namespace Go.Proofs.YtafbggbdlcfbdaaGreatDoor
open Go.RowKit

/-- W' is as W but for the blocks of X, and for new ones. -/
def But (X : List Nat) (W W' : World) : Prop := Below 0 W W' ∧ ∀ k, k < W.heap.size → k ∉ X → W'.heap[k]? = W.heap[k]?
theorem But.refl (X : List Nat) (W : World) : But X W W := ⟨Below.refl _ _, fun _ _ _ => rfl⟩
theorem But.trans {X : List Nat} {a b c : World} (h : But X a b) (k : But X b c) : But X a c :=
  ⟨h.1.trans k.1, fun i hi hx => (k.2 i (Nat.lt_of_lt_of_le hi h.1.size) hx).trans (h.2 i hi hx)⟩
theorem But.of_below {X : List Nat} {W W' : World} (h : Below W.heap.size W W') : But X W W' := ⟨h.mono (Nat.zero_le _), fun k hk _ => h.block k hk⟩
theorem But.mono {X Y : List Nat} {W W' : World} (h : But X W W') (hs : ∀ x ∈ X, x ∈ Y) : But Y W W' := ⟨h.1, fun k hk hx => h.2 k hk (fun hm => hx (hs k hm))⟩
/-- What is turned may also be new since W. -/
theorem But.less {X Y : List Nat} {W W' : World} (h : But Y W W') (hs : ∀ y ∈ Y, y ∈ X ∨ W.heap.size ≤ y) : But X W W' := ⟨h.1, fun k hk hx => h.2 k hk (fun hm => (hs k hm).elim hx (fun h => by omega))⟩
theorem But.set {X : List Nat} {a W : World} (h : But X a W) {p : Addr} (hp : p.block ∈ X ∨ a.heap.size ≤ p.block) (u : Value) : But X a (W.setCell p u) :=
  ⟨h.1.setCell (Nat.zero_le _) u, fun k hk hx => by
    rw [Below.heap_setCell _ _ _ _ (fun e => by rcases hp with hp | hp; exact hx (e ▸ hp); omega)]
    exact h.2 k hk hx⟩
theorem But.alloc {X : List Nat} {a W : World} (h : But X a W) (o : Obj) : But X a (W.alloc o) :=
  ⟨h.1.alloc (Nat.zero_le _) o, fun k hk hx => by rw [Below.heap_alloc _ _ _ (Nat.lt_of_lt_of_le hk h.1.size)]; exact h.2 k hk hx⟩
theorem But.below {X : List Nat} {W W' : World} (h : But X W W') {B : Nat} (hB : B ≤ W.heap.size) (hx : ∀ x ∈ X, B ≤ x) : Below B W W' :=
  ⟨h.1.os, h.1.tape, h.1.output, h.1.size, fun k hk => h.2 k (Nat.lt_of_lt_of_le hk hB) (fun hm => by have := hx k hm; omega)⟩
/-- The reader. -/
def rdO (s : List UInt8) (i : Nat) (v : Value) : Obj := .cells #[.string (bs s), .int .i64 (i : Int), v] 71
def RdAt (W : World) (rb : Nat) (s : List UInt8) (i : Nat) (v : Value) : Prop := W.heap[rb]? = some (rdO s i v)
theorem rd_lt {W : World} {rb : Nat} {s : List UInt8} {i : Nat} {v : Value} (h : RdAt W rb s i v) : rb < W.heap.size := (Array.getElem?_eq_some_iff.1 h).1
theorem rd_cells {W : World} {rb : Nat} {s : List UInt8} {i : Nat} {v : Value} (h : RdAt W rb s i v) : (W.cell? ⟨rb, 0, none⟩ = some (.string (bs s)) ∧ W.cell? ⟨rb, 1, none⟩ = some (.int .i64 (i : Int)) ∧ W.cell? ⟨rb, 2, none⟩ = some v) ∧ W.frozen? ⟨rb, 1, none⟩ = false ∧ W.frozen? ⟨rb, 2, none⟩ = false := by
  unfold RdAt rdO at h
  refine ⟨⟨by simp [World.cell?, h], by simp [World.cell?, h], by simp [World.cell?, h]⟩, by simp [World.frozen?, h], by simp [World.frozen?, h]⟩
theorem rd_at {W : World} {rb : Nat} {s : List UInt8} {i : Nat} {v : Value} (h : RdAt W rb s i v) (j : Nat) : RdAt (W.setCell ⟨rb, 1, none⟩ (.int .i64 (j : Int))) rb s j v := heap_setCell_at (k := 1) (v := .int .i64 (j : Int)) h
theorem rd_nodes {W : World} {rb : Nat} {s : List UInt8} {i : Nat} {v : Value} (h : RdAt W rb s i v) (v' : Value) : RdAt (W.setCell ⟨rb, 2, none⟩ v') rb s i v' := heap_setCell_at (k := 2) (v := v') h
theorem rd_below {W W' : World} {rb : Nat} {s : List UInt8} {i : Nat} {v : Value} (h : RdAt W rb s i v) (hb : Below W.heap.size W W') : RdAt W' rb s i v := (hb.block rb (rd_lt h)).trans h
def stopV (i : Nat) : Value := .iface 68 (.agg #[.int .i64 (i : Int)])
theorem bt_mem {s : List UInt8} {i : Nat} {L : List UInt8} (h0 : (0 : UInt8) ∉ L) (h : bt s i ∈ L) : i < s.length := bt_in fun e => h0 (e ▸ h)
set_option maxHeartbeats 4000000 in
set_option maxRecDepth 4000 in
theorem sees_any (s L : List UInt8) (i rb : Nat) (v : Value) (W : World) (h : RdAt W rb s i v) (h0 : (0 : UInt8) ∉ L) :
    Calls Tryz.prog 51 #[.pointer (some ⟨rb, 0, none⟩), .string (bs L)] W fun e w' => e = .returned (.bool (decide (bt s i ∈ L))) ∧ Below W.heap.size W w' := by
  obtain ⟨⟨c0, c1, -⟩, -⟩ := rd_cells h
  have hsz := bs_size s
  have HIX := hide (fun c W => index_any L c W)
  have hg := bs_get s i
  have HB := hide (Below.refl W.heap.size W)
  clear h
  by_cases hi : i < s.length
  · have hx := bs_at s i hi W
    have hii : (i : Int) < (s.length : Int) := by omega
    have HC := hide (HIX.out (bt s i))
    have HM := hide (index_in (L := L) (c := bt s i))
    generalize bt s i = c at hx hg HC HM ⊢
    generalize Lib.indexByte L c = z at HC HM
    by_cases hz : z ≥ 0
    · have hm : c ∈ L := HM.out.1 hz
      rw [decide_eq_true hm]
      clear HM hm
      go_enter Tryz.func51, Tryz.ntmps51
      go_wp2
      go_quiet (first | (go_at_call 65; refine Calls.quiet_of_same (HC.out _)))
      go_wp2
      go_ret
      exact ⟨rfl, below_drewN HB.out _⟩
    · have hm : ¬ c ∈ L := fun h => hz (HM.out.2 h)
      rw [decide_eq_false hm]
      clear HM hm
      go_enter Tryz.func51, Tryz.ntmps51
      go_wp2
      go_quiet (first | (go_at_call 65; refine Calls.quiet_of_same (HC.out _)))
      go_wp2
      go_ret
      exact ⟨by have h2 : ¬ 0 ≤ z := by omega
                simp [h2], below_drewN HB.out _⟩
  · have hii : ¬ (i : Int) < (s.length : Int) := by omega
    have hb := bt_over (s := s) (i := i) (by omega)
    rw [hb, decide_eq_false h0]
    clear hb hg
    go_enter Tryz.func51, Tryz.ntmps51
    go_wp2
    go_quiet (fail)
    go_wp2
    go_ret
    exact ⟨rfl, below_drewN HB.out _⟩
end Go.Proofs.YtafbggbdlcfbdaaGreatDoor

/- Package text: take, end: contracts. -/
namespace Go.Proofs.YtafbggbdlcfbdaaGreatDoor
open Go.RowKit

set_option maxHeartbeats 4000000 in
set_option maxRecDepth 4000 in
theorem take_no (s L : List UInt8) (i rb : Nat) (v : Value) (W : World) (h : RdAt W rb s i v) (h0 : (0 : UInt8) ∉ L) (hm : bt s i ∉ L) :
    Calls Tryz.prog 66 #[.pointer (some ⟨rb, 0, none⟩), .string (bs L)] W fun e w' => e = .panicked [{ v := stopV i, recovered := false }] ∧ Below W.heap.size W w' := by
  have HS := hide (sees_any s L i rb v W h h0)
  rw [decide_eq_false hm] at HS
  have HR := hide h
  clear h hm
  go_enter Tryz.func66, Tryz.ntmps66
  go_wp2_with fail
  refine HS.out.mono ?_
  rintro e w1 ⟨rfl, hb⟩
  have HB := hide hb
  obtain ⟨⟨c0, c1, -⟩, -⟩ := rd_cells (rd_below HR.out hb)
  clear hb
  go_wp2
  exact ⟨rfl, rfl, HB.out⟩
set_option maxHeartbeats 4000000 in
set_option maxRecDepth 4000 in
theorem take_ok (s L : List UInt8) (i rb : Nat) (v : Value) (W : World) (h : RdAt W rb s i v) (h0 : (0 : UInt8) ∉ L) (hs : s.length ≤ 2000) (hm : bt s i ∈ L) :
    Calls Tryz.prog 66 #[.pointer (some ⟨rb, 0, none⟩), .string (bs L)] W fun e w' => e = .returned (.int .u8 ((bt s i).toNat : Int)) ∧ RdAt w' rb s (i + 1) v ∧ But [rb] W w' := by
  have HS := hide (sees_any s L i rb v W h h0)
  rw [decide_eq_true hm] at HS
  have hi := bt_mem h0 hm
  have HR := hide h
  have hsz := bs_size s
  have hii : (i : Int) < (s.length : Int) := by omega
  have hg := bs_get s i
  have hi2 : (i : Int) < 2000 := by omega
  clear h hm hs
  go_enter Tryz.func66, Tryz.ntmps66
  go_wp2_with fail
  refine HS.out.mono ?_
  rintro e w1 ⟨rfl, hb⟩
  have HB := hide hb
  have hr := rd_below HR.out hb
  have HR2 := hide (rd_at hr (i + 1))
  obtain ⟨⟨c0, c1, -⟩, f1, -⟩ := rd_cells hr
  rw [show ((i + 1 : Nat) : Int) = (i : Int) + 1 by omega] at HR2
  obtain ⟨⟨d0, d1, -⟩, -⟩ := rd_cells HR2.out
  have HBU := hide ((But.of_below (X := [rb]) hb).set (p := ⟨rb, 1, none⟩) (.inl (by simp)) (.int .i64 ((i : Int) + 1)))
  have hx := bs_at s i hi
  clear hb hr
  generalize hW2 : w1.setCell ⟨rb, 1, none⟩ (.int .i64 ((i : Int) + 1)) = W2 at HR2 d0 d1 HBU
  go_wp2
  go_quiet (fail)
  go_wp2
  go_ret
  exact ⟨rfl, rd_below HR2.out (below_drewN (Below.refl _ _) _), HBU.out.trans (But.of_below (below_drewN (Below.refl _ _) _))⟩
set_option maxHeartbeats 4000000 in
set_option maxRecDepth 4000 in
theorem end_no (s : List UInt8) (i rb : Nat) (v : Value) (W : World) (h : RdAt W rb s i v) (hi : i < s.length) :
    Calls Tryz.prog 36 #[.pointer (some ⟨rb, 0, none⟩)] W fun e w' => e = .panicked [{ v := stopV i, recovered := false }] ∧ Below W.heap.size W w' := by
  obtain ⟨⟨c0, c1, -⟩, -⟩ := rd_cells h
  have hsz := bs_size s
  have hii : (i : Int) < (s.length : Int) := by omega
  have HB := hide (Below.refl W.heap.size W)
  clear h hi
  go_enter Tryz.func36, Tryz.ntmps36
  go_wp2
  go_quiet (fail)
  generalize hW2 : W.drewN nq = W2
  have c1' : W2.cell? ⟨rb, 1, none⟩ = some (.int .i64 (i : Int)) := by rw [← hW2]; exact c1
  have HB2 : Hid (Below W.heap.size W W2) := by rw [← hW2]; exact below_drewN HB.out _
  clear hW2
  go_wp2
  exact ⟨rfl, rfl, HB2.out⟩
set_option maxHeartbeats 4000000 in
set_option maxRecDepth 4000 in
theorem end_ok (s : List UInt8) (i rb : Nat) (v : Value) (W : World) (h : RdAt W rb s i v) (hi : ¬ i < s.length) :
    Calls Tryz.prog 36 #[.pointer (some ⟨rb, 0, none⟩)] W fun e w' => e = .returned (.tuple #[]) ∧ Below W.heap.size W w' := by
  obtain ⟨⟨c0, c1, -⟩, -⟩ := rd_cells h
  have hsz := bs_size s
  have hii : ¬ (i : Int) < (s.length : Int) := by omega
  have HB := hide (Below.refl W.heap.size W)
  clear h hi
  go_enter Tryz.func36, Tryz.ntmps36
  go_wp2
  go_quiet (fail)
  go_wp2
  exact bodyPost_end (v := .tuple #[]) (by simp [results, Tryz.results36]) rfl ⟨rfl, below_drewN HB.out _⟩
end Go.Proofs.YtafbggbdlcfbdaaGreatDoor
