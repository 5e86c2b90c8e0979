/- ask.firstWords$1, which calls itself: contract. -/
import Derived.Test.YtpkjnkcdajngkaaAke
import Derived.Deep.AppendLies
import Derived.Deep.RegionLaw
namespace Go.Proofs.Ytpkjnkcdajngkaa
open Go.RowKit

theorem infoSk : (Try.prog.info? 26).map (fun i => (i.zero, i.size, i.bytes)) = some (some (.slice none 0 0), 1, 24) := by kernel_rfl
/-- What the boxes hold that are not written. -/
structure FwS (wS : World) (s : Nat) (b t : Int) (a : Option Addr) (n cap : Nat) (a' : Option Addr) (cap' : Nat) (N : List (List Int)) (E : List Bool) (g K cK most : Nat) : Prop where
  auto : ∀ W : World, (∀ x, x < s + 6 → x ≠ s + 3 → x ≠ s + 4 → W.heap[x]? = wS.heap[x]?) → W.cell? ⟨s, 2, none⟩ = some (.slice a n cap)
  rows : ∀ W : World, (∀ x, x < s + 6 → x ≠ s + 3 → x ≠ s + 4 → W.heap[x]? = wS.heap[x]?) → W.cell? ⟨s + 1, 0, none⟩ = some (.slice (some ⟨g, 0, none⟩) K cK)
  mst : ∀ W : World, (∀ x, x < s + 6 → x ≠ s + 3 → x ≠ s + 4 → W.heap[x]? = wS.heap[x]?) → W.cell? ⟨s + 2, 0, none⟩ = some (.int .i64 (most : Int))
  visit : ∀ W : World, (∀ x, x < s + 6 → x ≠ s + 3 → x ≠ s + 4 → W.heap[x]? = wS.heap[x]?) → W.cell? ⟨s + 5, 0, none⟩ = some (.func (.func 18) #[] #[.pointer (some ⟨s + 3, 0, none⟩), .pointer (some ⟨s + 2, 0, none⟩), .pointer (some ⟨s + 1, 0, none⟩), .pointer (some ⟨s + 4, 0, none⟩), .pointer (some ⟨s, 0, none⟩), .pointer (some ⟨s + 5, 0, none⟩)])
  base : ∃ w0 : World, w0.heap.size = s ∧ Below s w0 wS ∧ Sl2 w0 a n N ∧ SlR w0 g K n (alvR N E)
section
variable {wS : World} {s : Nat} {b t : Int} {a : Option Addr} {n cap : Nat} {a' : Option Addr} {cap' : Nat} {N : List (List Int)} {E : List Bool} {g K cK most : Nat}
theorem FwS.alv (h : FwS wS s b t a n cap a' cap' N E g K cK most) (W : World) (hb : Below s wS W) : SlR W g K n (alvR N E) := by
  obtain ⟨w0, e, h1, -, h3⟩ := h.base
  exact slR_below h3 (e ▸ h1.trans hb)
theorem FwS.next (h : FwS wS s b t a n cap a' cap' N E g K cK most) {s0 : Nat} (hs : s0 < n) : ∃ bn on ax cx, a = some ⟨bn, on, none⟩ ∧ ∀ W, Below s wS W → W.cell? ⟨bn, on + s0, none⟩ = some (.slice ax (N.getD s0 []).length cx) ∧ Sl W ax (N.getD s0 []).length (N.getD s0 []) := by
  obtain ⟨w0, e, h1, h2, -⟩ := h.base
  obtain ⟨bn, on, ax, cx, rfl, q1, q2⟩ := sl2_cell h2 s0 hs
  refine ⟨bn, on, ax, cx, rfl, fun W hb => ?_⟩
  have hB : Below w0.heap.size w0 W := e ▸ h1.trans hb
  exact ⟨(hB.cell (p := ⟨bn, on + s0, none⟩) (World.block_lt_of_cell? w0 _ q1)).trans q1, sl_below q2 hB⟩
end
/-- Behind a visit: the words listed, and the letters as they were. -/
def VisR (wS : World) (s : Nat) (L : List (List Int)) (p : List Int) (e : Ending) (w' : World) : Prop := e = .returned (.tuple #[]) ∧ ∃ vL vW vals, FwI wS s vL vW vals L p w'
/-- What is listed behind it. -/
def visL (N : List (List Int)) (E : List Bool) (most k s0 : Nat) (L : List (List Int)) (p : List Int) : List (List Int) := (L ++ (wdsG N E (decide (p = [])) k s0).map fun w => p ++ w).take most
set_option maxHeartbeats 4000000 in
set_option maxRecDepth 4000 in
theorem visit_full {wS : World} {s : Nat} {b t : Int} {a : Option Addr} {n cap : Nat} {a' : Option Addr} {cap' : Nat} {N : List (List Int)} {E : List Bool} {g K cK most : Nat} (hS : FwS wS s b t a n cap a' cap' N E g K cK most) (k s0 : Nat) {vL vW : Value} {vals : List Value} {L : List (List Int)} {p : List Int} {W : World}
    (h : FwI wS s vL vW vals L p W) (hL : L.length = most ∨ (L.length < most ∧ k < K ∧ s0 < n ∧ (alvR N E k).getD s0 false = false)) :
    Calls Try.prog 18 #[.int .i64 (s0 : Int), .int .i64 (k : Int), .pointer (some ⟨s + 3, 0, none⟩), .pointer (some ⟨s + 2, 0, none⟩), .pointer (some ⟨s + 1, 0, none⟩), .pointer (some ⟨s + 4, 0, none⟩), .pointer (some ⟨s, 0, none⟩), .pointer (some ⟨s + 5, 0, none⟩)] W (VisR wS s L p) := by
  have hc0 := cell_of_row W (s + 3) 0 _ 22 (0, 0) h.lbox
  have hc1 := hS.mst W h.stat
  have hc2 := hS.rows W h.stat
  have hvL : ∃ al cl, vL = .slice al L.length cl := by
    rcases h.lown.2 with ⟨e1, e2⟩ | ⟨g, cp, cur, e, -⟩
    · exact ⟨none, 0, by rw [e1, e2]⟩
    · exact ⟨_, _, e⟩
  obtain ⟨al, cl, rfl⟩ := hvL
  have HI := hide h
  have hcc : #[Value.slice al L.length cl][0]? = some (.slice al L.length cl) := rfl
  rw [hcc] at hc0
  rcases hL with hL | ⟨hL, hk, hs0, hal⟩
  · have hLi : (L.length : Int) = (most : Int) := by omega
    rw [hLi] at *
    clear h hcc
    go_enter Try.func18, Try.ntmps18
    go_wp2
    exact bodyPost_ret (results_none rfl _ _ _) rfl ⟨rfl, _, _, _, HI.out⟩
  · have hLi : ((L.length : Int) == (most : Int)) = false := by simp; omega
    obtain ⟨ar, cr, hc3, hr⟩ := hS.alv W h.bel k hk
    obtain ⟨b1, o1, rfl, hc4⟩ := slB_cell hr s0 hs0
    have hki : (k : Int) < (K : Int) := by omega
    have hsi : (s0 : Int) < (n : Int) := by omega
    rw [hal] at hc4
    clear h hcc hr hal
    go_enter Try.func18, Try.ntmps18
    go_wp2
    exact bodyPost_ret (results_none rfl _ _ _) rfl ⟨rfl, _, _, _, HI.out⟩
theorem own_form {W : World} {base : Nat} {e : TypeId} {v : Value} {n : Nat} {xs : List Value} (h : W.ownsRow base e 1 v n xs) : ∃ a c, v = .slice a n c := by
  rcases h.2 with ⟨e1, e2⟩ | ⟨g, cp, cur, e, -⟩
  · exact ⟨none, 0, by rw [e1, e2]⟩
  · exact ⟨_, _, e⟩
set_option maxHeartbeats 4000000 in
set_option maxRecDepth 4000 in
theorem visit_zero {wS : World} {s : Nat} {b t : Int} {a : Option Addr} {n cap : Nat} {a' : Option Addr} {cap' : Nat} {N : List (List Int)} {E : List Bool} {g K cK most : Nat} (hS : FwS wS s b t a n cap a' cap' N E g K cK most) (s0 : Nat) {vL vW : Value} {vals : List Value} {L : List (List Int)} {p : List Int} {W : World}
    (h : FwI wS s vL vW vals L p W) (hL : L.length < most) (hk : 0 < K) (hs0 : s0 < n) (hal : (alvR N E 0).getD s0 false = true) (hm : most ≤ 200) (hp : p.length ≤ 1000) (hwf : ∀ x ∈ p, (Lit.int .i64 x).wf = true) :
    Calls Try.prog 18 #[.int .i64 (s0 : Int), .int .i64 0, .pointer (some ⟨s + 3, 0, none⟩), .pointer (some ⟨s + 2, 0, none⟩), .pointer (some ⟨s + 1, 0, none⟩), .pointer (some ⟨s + 4, 0, none⟩), .pointer (some ⟨s, 0, none⟩), .pointer (some ⟨s + 5, 0, none⟩)] W (VisR wS s (L ++ [p]) p) := by
  have hc0 := cell_of_row W (s + 3) 0 _ 22 (0, 0) h.lbox
  have hcw := cell_of_row W (s + 4) 0 _ 26 (0, 0) h.wbox
  have hc1 := hS.mst W h.stat
  have hc2 := hS.rows W h.stat
  obtain ⟨al, cl, rfl⟩ := own_form h.lown
  obtain ⟨aw, cw, rfl⟩ := own_form h.wown
  have HI := hide h
  have hLi : ((L.length : Int) == (most : Int)) = false := by simp; omega
  obtain ⟨ar, cr, hc3, hr⟩ := hS.alv W h.bel 0 hk
  obtain ⟨b1, o1, rfl, hc4⟩ := slB_cell hr s0 hs0
  have hki : (0 : Int) < (K : Int) := by omega
  have hsi : (s0 : Int) < (n : Int) := by omega
  rw [hal] at hc4
  replace hc0 : W.cell? ⟨s + 3, 0, none⟩ = some (.slice al L.length cl) := hc0
  replace hcw : W.cell? ⟨s + 4, 0, none⟩ = some (.slice aw p.length cw) := hcw
  have HCL : Hid (Calls Try.prog 19 #[.slice aw p.length cw] W.drew (ClnR W.drew p)) := cln_own (w := W.drew) h.wown hp hwf
  obtain ⟨j0, hj0, hy0, hy1, hy2⟩ := info_parts infoSk
  have HTOP := hide h.top
  have HCB : Hid (∀ w2, Below W.heap.size W w2 → w2.cell? ⟨s + 3, 0, none⟩ = some (.slice al L.length cl)) := fun w2 hb => cell_of_row w2 (s + 3) 0 _ 22 (0, 0) (fwI_below HI.out hb).lbox
  clear h hr hal
  go_enter Try.func18, Try.ntmps18
  go_wp2_with fail
  go_region_law (first
    | (refine step_append_lies _ rfl (.tmp 28) (.tmp 31) 22 rfl (s + 6) 26 j0 (.slice none 0 0) 1 24 Try.underlying22 hj0 hy0 hy1 hy2 rfl (by decide) (.slice al L.length cl) L.length vals (by simp [Act.eval]) ((fwI_below HI.out HB2.out).lown.alloc _) ⟨w2.heap.size, 0, none⟩ 1 1 [.slice ac p.length cc] (by simp [Act.eval]) rfl (one_new _ _ _) (fun u hu => by simp at hu; subst hu; rfl) (by omega) (by unfold maxLen; omega) (by omega) (by have := (fwI_below HI.out HB2.out).top; simp; omega) (w2.heap.size + 1) (by simp) ?_; intro g' cN' w3 hown3 hgrow3 hat3 hlt3; obtain ⟨hbx3, hI3⟩ := fwI_list (fwI_below HI.out HB2.out) HAC.out.1 HAC.out.2 _ hown3 hgrow3 hat3; obtain ⟨hw3c, hw3f⟩ := one_cell hbx3; have HI3 := hide hI3; clear hbx3 hI3 hown3 hgrow3 hat3 hlt3)
    | (go_simp; go_at_call 19; refine HCL.out.mono ?_; rintro e w2 ⟨ac, cc, rfl, hac, hnac, hb2⟩; have HB2 : Hid (Below W.heap.size W w2) := (Below.refl W.heap.size W).drew.trans hb2; have HAC : Hid (Sl w2 ac p.length p ∧ ∀ x, slB ac p.length x → s + 6 ≤ x ∧ Value.ownBlock (.slice al L.length cl) ≠ some x ∧ Value.ownBlock (.slice aw p.length cw) ≠ some x) := ⟨hac, fun x hx => ⟨by have := HTOP.out; have := hnac x hx; simp at this; omega, fun e => by have := (HI.out.lown.lt x e).2; have := hnac x hx; simp at this; omega, fun e => by have := (HI.out.wown.lt x e).2; have := hnac x hx; simp at this; omega⟩⟩; have hcB := HCB.out w2 HB2.out; have hcB2 := HCB.out (w2.alloc (.cells #[.slice ac p.length cc] 26)) (HB2.out.trans (((Below.refl w2.heap.size w2).alloc (Nat.le_refl _) _).mono HB2.out.size)); clear hac hnac hb2))
  all_goals
    go_wp2
    exact bodyPost_ret (results_none rfl _ _ _) rfl ⟨rfl, _, _, _, HI3.out⟩
end Go.Proofs.Ytpkjnkcdajngkaa
