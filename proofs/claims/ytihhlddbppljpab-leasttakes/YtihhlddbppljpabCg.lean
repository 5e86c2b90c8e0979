/- least.First, apart, checkBoth, Same, Differ: contracts. -/
import Derived.Test.YtihhlddbppljpabBs
import Derived.Test.YtihhlddbppljpabCf
import Derived.Shelf.Abstract
namespace Go.Proofs.Ytihhlddbppljpab
open Go.RowKit

set_option maxHeartbeats 8000000 in
set_option maxRecDepth 8000 in
theorem apart_any (b t : Int) (a : Option Addr) (n cap : Nat) (a' : Option Addr) (cap' m : Nat) (N : List (List Int)) (E : List Bool) (b2 t2 : Int) (a2 : Option Addr) (n2 cap2 : Nat) (a2' : Option Addr) (cap2' : Nat) (N2 : List (List Int)) (E2 : List Bool) (w : World)
    (hs : Sl2 w a n N) (he : SlB w a' n E) (hG : GoodN m n N) (hs2 : Sl2 w a2 n2 N2) (he2 : SlB w a2' n2 E2) (hG2 : GoodN m n2 N2) (hnn : n * n2 ≤ 6400) :
    Calls Try.prog 18 #[.agg #[.int .i64 b, .int .i64 t, .slice a n cap, .slice a' n cap'], .agg #[.int .i64 b2, .int .i64 t2, .slice a2 n2 cap2, .slice a2' n2 cap2']] w (FirstU w (firstP (prodN N N2 m) (prodE 6 n n2 E E2))) := by
  have hB0 : Below w.heap.size w ((w.alloc (.cells #[.int .i64 b, .int .i64 t, .slice a n cap, .slice a' n cap'] 25)).alloc (.cells #[.int .i64 b2, .int .i64 t2, .slice a2 n2 cap2, .slice a2' n2 cap2'] 25)) := below_two _ _ _
  have hbx := two_boxes (Below.refl _ ((w.alloc (.cells #[.int .i64 b, .int .i64 t, .slice a n cap, .slice a' n cap'] 25)).alloc (.cells #[.int .i64 b2, .int .i64 t2, .slice a2 n2 cap2, .slice a2' n2 cap2'] 25)))
  have HA1 : Hid (AutoAt _ w.heap.size b t a n cap a' n cap' N E) := ⟨hbx.1, sl2_below hs hB0, slB_below he hB0⟩
  have HA2 : Hid (AutoAt _ (w.heap.size + 1) b2 t2 a2 n2 cap2 a2' n2 cap2' N2 E2) := ⟨hbx.2, sl2_below hs2 hB0, slB_below he2 hB0⟩
  have HB0 := hide hB0
  have HFW : Hid (Calls Try.prog 24 #[.int .i64 (m : Int), .func (.func 25) #[] #[.pointer (some ⟨w.heap.size, 0, none⟩), .pointer (some ⟨w.heap.size + 1, 0, none⟩)], .func (.func 26) #[] #[.pointer (some ⟨w.heap.size, 0, none⟩), .pointer (some ⟨w.heap.size + 1, 0, none⟩)]] ((w.alloc (.cells #[.int .i64 b, .int .i64 t, .slice a n cap, .slice a' n cap'] 25)).alloc (.cells #[.int .i64 b2, .int .i64 t2, .slice a2 n2 cap2, .slice a2' n2 cap2'] 25)) (FirstU ((w.alloc (.cells #[.int .i64 b, .int .i64 t, .slice a n cap, .slice a' n cap'] 25)).alloc (.cells #[.int .i64 b2, .int .i64 t2, .slice a2 n2 cap2, .slice a2' n2 cap2'] 25)) (firstP (prodN N N2 m) (prodE 6 n n2 E E2)))) := by
    refine firstWord_any 25 26 #[.pointer (some ⟨w.heap.size, 0, none⟩), .pointer (some ⟨w.heap.size + 1, 0, none⟩)] #[.pointer (some ⟨w.heap.size, 0, none⟩), .pointer (some ⟨w.heap.size + 1, 0, none⟩)] m (n * n2) n2 (prodN N N2 m) (prodE 6 n n2 E E2) ((w.alloc (.cells #[.int .i64 b, .int .i64 t, .slice a n cap, .slice a' n cap'] 25)).alloc (.cells #[.int .i64 b2, .int .i64 t2, .slice a2 n2 cap2, .slice a2' n2 cap2'] 25)) (prod_good hG hG2 hnn) (enters_of Try.func25 (by kernel_rfl) rfl) (enters_of Try.func26 (by kernel_rfl) rfl) (fun W2 s l h2 hsn hl => ?_) (fun W2 s h2 hsn => ?_)
    · obtain ⟨p1, p2⟩ := parts_lt hsn
      have e := prod_nxt hG hG2 hsn hl
      have q := pair_parts (nxt_cell hG p1 hl).1 (nxt_cell hG2 p2 hl).1
      have h := apart1_any w.heap.size (w.heap.size + 1) b t a n cap a' cap' m N E b2 t2 a2 n2 cap2 a2' cap2' N2 E2 W2 (s / n2) (s % n2) l (autoAt_below HA1.out h2) hG (autoAt_below HA2.out h2) hG2 p1 p2 hl
      unfold hiI loI
      rw [e, q.1, q.2]
      exact h
    · obtain ⟨p1, p2⟩ := parts_lt hsn
      have h := apart2_any w.heap.size (w.heap.size + 1) b t a n cap a' cap' N E b2 t2 a2 n2 cap2 a2' cap2' N2 E2 W2 (s / n2) (s % n2) (autoAt_below HA1.out h2) (autoAt_below HA2.out h2) p1 p2
      unfold hiI loI
      rw [prodE_get hsn, howB_six]
      exact h
  unfold FirstU at HFW
  have hn1 := hG.2.1
  have hn64 := hG.2.2.1
  have hm36 := hG.2.2.2.1
  have hrl := (hG.2.2.2.2.2 0 hn1).1
  obtain ⟨hx2, -⟩ := hbx.1.2.2
  obtain ⟨bn, on, an, cn, rfl, hcn, -⟩ := sl2_cell HA1.out.2.1 0 hn1
  rw [hrl, Nat.add_zero] at hcn
  have hk0 : (0 : Int) < (n : Int) := by omega
  clear hs he hs2 he2 hG hG2 hB0 hbx HA1 HA2
  generalize firstP (prodN N N2 m) (prodE 6 n n2 E E2) = r at HFW ⊢
  go_enter Try.func18, Try.ntmps18
  go_wp2_with (go_at_call 24; refine HFW.out.mono ?_; rintro e w2 ⟨ax, cx, rfl, hsx, hbx⟩; have HB2 := hide (below_step HB0.out hbx); have HS2 := hide (hsx.mono HB0.out.size); clear hsx hbx)
  go_ret2
  exact ⟨ax, cx, by simp, HS2.out, HB2.out⟩
end Go.Proofs.Ytihhlddbppljpab
