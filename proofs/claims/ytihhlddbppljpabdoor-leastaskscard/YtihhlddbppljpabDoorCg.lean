/- least.First, apart, checkBoth, Same, Differ: contracts. -/
import Derived.Test.YtihhlddbppljpabDoorBs
import Derived.Test.YtihhlddbppljpabDoorCf
import Derived.Shelf.Abstract
namespace Go.Proofs.YtihhlddbppljpabDoor
open Go.RowKit

/-- The first word of an automaton: what is told of it. -/
def firstE (b t : Int) (N : List (List Int)) (E : List Bool) (k : Nat) : Int := if autoC b t N k = 0 then (if (firstP N E).isSome = true then 0 else 4) else autoC b t N k
def firstW (b t : Int) (N : List (List Int)) (E : List Bool) (k : Nat) : List Int := if autoC b t N k = 0 then wordO (firstP N E) else []

set_option maxHeartbeats 8000000 in
set_option maxRecDepth 8000 in
theorem first_u (b t : Int) (a : Option Addr) (n cap : Nat) (a' : Option Addr) (k cap' : Nat) (N : List (List Int)) (E : List Bool) (w : World) (hs : Sl2 w a n N) (he : SlB w a' k E) :
    Calls Tryd.prog 20 #[.agg #[.int .i64 b, .int .i64 t, .slice a n cap, .slice a' k cap']] w (OfU w (firstW b t N E k) (errV (firstE b t N E k))) := by
  have hB0 : Below w.heap.size w (w.alloc (.cells #[.int .i64 b, .int .i64 t, .slice a n cap, .slice a' k cap'] 25)) := (Below.refl _ _).alloc (Nat.le_refl _) _
  have HB0 := hide hB0
  have HCK := hide (check_u b t a a' n cap k cap' N _ (sl2_below hs hB0) he.2.1)
  have HAT := hide (autoAt_new (b := b) (t := t) (cap := cap) (cap' := cap') (T := 25) hs he)
  have hL := hs.1
  clear hs he hB0
  by_cases hA : autoC b t N k = 0
  · obtain ⟨hM, hE, hG, hmu⟩ := autoC_zero hA
    have HW : Hid (firstW b t N E k = wordO (firstP N E)) := by show _ = _; unfold firstW; rw [if_pos hA]
    have HE : Hid (firstE b t N E k = if (firstP N E).isSome = true then 0 else 4) := by show _ = _; unfold firstE; rw [if_pos hA]
    obtain rfl : k = n := by omega
    rw [hL] at hG
    have HG := hide hG
    have hn1 := hG.2.1
    have hn64 := hG.2.2.1
    have hm36 := hG.2.2.2.1
    have hrl := (hG.2.2.2.2.2 0 hn1).1
    rw [hA, errV_yes rfl] at HCK
    generalize (manyU b t).toNat = m at hG HG hm36 hrl
    clear hA hM hmu hE hG
    have HFW : Hid (∀ W, Below (w.alloc (.cells #[.int .i64 b, .int .i64 t, .slice a k cap, .slice a' k cap'] 25)).heap.size (w.alloc (.cells #[.int .i64 b, .int .i64 t, .slice a k cap, .slice a' k cap'] 25)) W →
        Calls Tryd.prog 33 #[.int .i64 (m : Int), .func (.func 34) #[] #[.pointer (some ⟨w.heap.size, 0, none⟩)], .func (.func 35) #[] #[.pointer (some ⟨w.heap.size, 0, none⟩)]] W (FirstU W (firstP N E))) := fun W hW => by
      refine firstWord_any 34 35 #[.pointer (some ⟨w.heap.size, 0, none⟩)] #[.pointer (some ⟨w.heap.size, 0, none⟩)] m k 1 N E W HG.out (enters_of Tryd.func34 (by kernel_rfl) rfl) (enters_of Tryd.func35 (by kernel_rfl) rfl) (fun W2 s l h2 hsn hl => ?_) (fun W2 s h2 hsn => ?_)
      · rw [hi_one, lo_one, hi_one, lo_one]
        exact first1_any w.heap.size b t a k cap a' cap' m N E W2 s l (autoAt_below HAT.out (below_step hW h2)) HG.out hsn hl
      · rw [hi_one, lo_one]
        exact first2_any w.heap.size b t a k cap a' cap' N E W2 s (autoAt_below HAT.out (below_step hW h2)) hsn
    unfold FirstU at HFW
    rw [HW.out, HE.out]
    clear HW HE
    obtain ⟨r, hr⟩ : ∃ r, r = firstP N E := ⟨_, rfl⟩
    rw [← hr] at HFW ⊢
    clear hr
    obtain ⟨wl, hwl⟩ : ∃ wl, wl = wordO r := ⟨_, rfl⟩
    obtain ⟨ev, hev⟩ : ∃ ev, ev = errV (if r.isSome = true then 0 else 4) := ⟨_, rfl⟩
    rw [← hwl] at HFW ⊢
    rw [← hev]
    have HWL := hide hwl
    have HEV := hide hev
    clear hwl hev
    go_enter Tryd.func20, Tryd.ntmps20
    go_wp2_with fail
    generalize w.alloc (.cells #[.int .i64 b, .int .i64 t, .slice a k cap, .slice a' k cap'] 25) = w0 at HB0 HCK HAT HFW ⊢
    refine HCK.out.mono ?_
    rintro e w1 ⟨rfl, hb1⟩
    obtain ⟨⟨-, -, hx2, -⟩, hsl, -⟩ := autoAt_below HAT.out hb1
    obtain ⟨bn, on, an, cn, rfl, hcn, -⟩ := sl2_cell hsl 0 hn1
    rw [hrl, Nat.add_zero] at hcn
    have HF1 := hide (HFW.out w1 hb1)
    have HB1 := hide (below_step HB0.out hb1)
    have hk0 : (0 : Int) < (k : Int) := by omega
    clear hb1 hsl HFW HCK
    rcases r with _ | p
    · go_wp2_with (go_at_call 33; refine HF1.out.mono ?_; rintro e w2 ⟨a2, cap2, rfl, hs2, hb2⟩; have HB2 := hide (below_step HB1.out hb2); clear hs2 hb2)
      go_ret2
      unfold OfU
      rw [HWL.out, HEV.out]
      exact ⟨none, 0, by simp [wordO, errV], ⟨sl_nil _, fun _ h => by cases h⟩, HB2.out⟩
    · go_wp2_with (go_at_call 33; refine HF1.out.mono ?_; rintro e w2 ⟨a2, cap2, rfl, hs2, hb2⟩; have HB2 := hide (below_step HB1.out hb2); have HS2 := hide (hs2.mono HB1.out.size); clear hs2 hb2)
      go_ret2
      unfold OfU
      rw [HEV.out]
      exact ⟨a2, cap2, by simp [errV], HS2.out, HB2.out⟩
  · rw [show firstW b t N E k = [] by unfold firstW; rw [if_neg hA], show firstE b t N E k = autoC b t N k by unfold firstE; rw [if_neg hA]]
    rw [errV_no hA] at HCK ⊢
    generalize autoC b t N k = c at HCK ⊢
    clear hA
    go_enter Tryd.func20, Tryd.ntmps20
    go_wp2_with fail
    refine HCK.out.mono ?_
    rintro e w1 ⟨rfl, hb1⟩
    have HB1 := hide (below_step HB0.out hb1)
    clear hb1
    go_wp2
    go_ret2
    exact ⟨none, 0, by simp, ⟨sl_nil _, fun _ h => by cases h⟩, HB1.out⟩

set_option maxHeartbeats 8000000 in
set_option maxRecDepth 8000 in
theorem apart_any (b t : Int) (a : Option Addr) (n cap : Nat) (a' : Option Addr) (cap' m : Nat) (N : List (List Int)) (E : List Bool) (b2 t2 : Int) (a2 : Option Addr) (n2 cap2 : Nat) (a2' : Option Addr) (cap2' : Nat) (N2 : List (List Int)) (E2 : List Bool) (w : World)
    (hs : Sl2 w a n N) (he : SlB w a' n E) (hG : GoodN m n N) (hs2 : Sl2 w a2 n2 N2) (he2 : SlB w a2' n2 E2) (hG2 : GoodN m n2 N2) (hnn : n * n2 ≤ 6400) :
    Calls Tryd.prog 37 #[.agg #[.int .i64 b, .int .i64 t, .slice a n cap, .slice a' n cap'], .agg #[.int .i64 b2, .int .i64 t2, .slice a2 n2 cap2, .slice a2' n2 cap2']] w (FirstU w (firstP (prodN N N2 m) (prodE 6 n n2 E E2))) := by
  have hB0 : Below w.heap.size w ((w.alloc (.cells #[.int .i64 b, .int .i64 t, .slice a n cap, .slice a' n cap'] 25)).alloc (.cells #[.int .i64 b2, .int .i64 t2, .slice a2 n2 cap2, .slice a2' n2 cap2'] 25)) := below_two _ _ _
  have hbx := two_boxes (Below.refl _ ((w.alloc (.cells #[.int .i64 b, .int .i64 t, .slice a n cap, .slice a' n cap'] 25)).alloc (.cells #[.int .i64 b2, .int .i64 t2, .slice a2 n2 cap2, .slice a2' n2 cap2'] 25)))
  have HA1 : Hid (AutoAt _ w.heap.size b t a n cap a' n cap' N E) := ⟨hbx.1, sl2_below hs hB0, slB_below he hB0⟩
  have HA2 : Hid (AutoAt _ (w.heap.size + 1) b2 t2 a2 n2 cap2 a2' n2 cap2' N2 E2) := ⟨hbx.2, sl2_below hs2 hB0, slB_below he2 hB0⟩
  have HB0 := hide hB0
  have HFW : Hid (Calls Tryd.prog 33 #[.int .i64 (m : Int), .func (.func 47) #[] #[.pointer (some ⟨w.heap.size, 0, none⟩), .pointer (some ⟨w.heap.size + 1, 0, none⟩)], .func (.func 48) #[] #[.pointer (some ⟨w.heap.size, 0, none⟩), .pointer (some ⟨w.heap.size + 1, 0, none⟩)]] ((w.alloc (.cells #[.int .i64 b, .int .i64 t, .slice a n cap, .slice a' n cap'] 25)).alloc (.cells #[.int .i64 b2, .int .i64 t2, .slice a2 n2 cap2, .slice a2' n2 cap2'] 25)) (FirstU ((w.alloc (.cells #[.int .i64 b, .int .i64 t, .slice a n cap, .slice a' n cap'] 25)).alloc (.cells #[.int .i64 b2, .int .i64 t2, .slice a2 n2 cap2, .slice a2' n2 cap2'] 25)) (firstP (prodN N N2 m) (prodE 6 n n2 E E2)))) := by
    refine firstWord_any 47 48 #[.pointer (some ⟨w.heap.size, 0, none⟩), .pointer (some ⟨w.heap.size + 1, 0, none⟩)] #[.pointer (some ⟨w.heap.size, 0, none⟩), .pointer (some ⟨w.heap.size + 1, 0, none⟩)] m (n * n2) n2 (prodN N N2 m) (prodE 6 n n2 E E2) ((w.alloc (.cells #[.int .i64 b, .int .i64 t, .slice a n cap, .slice a' n cap'] 25)).alloc (.cells #[.int .i64 b2, .int .i64 t2, .slice a2 n2 cap2, .slice a2' n2 cap2'] 25)) (prod_good hG hG2 hnn) (enters_of Tryd.func47 (by kernel_rfl) rfl) (enters_of Tryd.func48 (by kernel_rfl) rfl) (fun W2 s l h2 hsn hl => ?_) (fun W2 s h2 hsn => ?_)
    · obtain ⟨p1, p2⟩ := parts_lt hsn
      have e := prod_nxt hG hG2 hsn hl
      have q := pair_parts (nxt_cell hG p1 hl).1 (nxt_cell hG2 p2 hl).1
      have h := apart1_any w.heap.size (w.heap.size + 1) b t a n cap a' cap' m N E b2 t2 a2 n2 cap2 a2' cap2' N2 E2 W2 (s / n2) (s % n2) l (autoAt_below HA1.out h2) hG (autoAt_below HA2.out h2) hG2 p1 p2 hl
      unfold hiI loI
      rw [e, q.1, q.2]
      exact h
    · obtain ⟨p1, p2⟩ := parts_lt hsn
      have h := apart2_any w.heap.size (w.heap.size + 1) b t a n cap a' cap' N E b2 t2 a2 n2 cap2 a2' cap2' N2 E2 W2 (s / n2) (s % n2) (autoAt_below HA1.out h2) (autoAt_below HA2.out h2) p1 p2
      unfold hiI loI
      rw [prodE_get hsn, howB_six]
      exact h
  unfold FirstU at HFW
  have hn1 := hG.2.1
  have hn64 := hG.2.2.1
  have hm36 := hG.2.2.2.1
  have hrl := (hG.2.2.2.2.2 0 hn1).1
  obtain ⟨hx2, -⟩ := hbx.1.2.2
  obtain ⟨bn, on, an, cn, rfl, hcn, -⟩ := sl2_cell HA1.out.2.1 0 hn1
  rw [hrl, Nat.add_zero] at hcn
  have hk0 : (0 : Int) < (n : Int) := by omega
  clear hs he hs2 he2 hG hG2 hB0 hbx HA1 HA2
  generalize firstP (prodN N N2 m) (prodE 6 n n2 E E2) = r at HFW ⊢
  go_enter Tryd.func37, Tryd.ntmps37
  go_wp2_with (go_at_call 33; refine HFW.out.mono ?_; rintro e w2 ⟨ax, cx, rfl, hsx, hbx⟩; have HB2 := hide (below_step HB0.out hbx); have HS2 := hide (hsx.mono HB0.out.size); clear hsx hbx)
  go_ret2
  exact ⟨ax, cx, by simp, HS2.out, HB2.out⟩
end Go.Proofs.YtihhlddbppljpabDoor
