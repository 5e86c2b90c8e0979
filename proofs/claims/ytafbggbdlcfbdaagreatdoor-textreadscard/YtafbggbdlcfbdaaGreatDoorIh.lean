/- Package text: show, showBoth, Print: contracts. -/
import Derived.Deep.RegionHeldLaw
import Derived.Test.YtafbggbdlcfbdaaGreatDoorZIf
import Derived.Test.YtafbggbdlcfbdaaGreatDoorZXd
import Derived.Test.YtafbggbdlcfbdaaGreatDoorZFd
import Derived.Test.YtafbggbdlcfbdaaGreatDoorZYa
import Derived.Test.YtafbggbdlcfbdaaGreatDoorZPa
namespace Go.Proofs.YtafbggbdlcfbdaaGreatDoor
open Go.RowKit

theorem run_tail_nd (b off k cap : Nat) (wx : World) : (Instr.slice 22 (.slice (some ⟨b, off, none⟩) (k + 1) cap) (some (.int .i64 1)) none none).run Tryz.prog wx = .ok (.slice (some ⟨b, if cap = 1 then off else off + 7, none⟩) k (cap - 1)) wx := by
  obtain ⟨i, hi, hz0, hz1, hz2⟩ := info_parts infoNd
  unfold Instr.slice Instr.sliceBounds Instr.sliceBound
  simp only [Sem.run_bind, run_underlying Tryz.underlying22, Result.andThen_ok, Sem.run_pure, asIntOf]
  simp [sizeOf, typeInfo, hi, hz1, Addr.add_lit]
  rw [if_pos (by omega)]
  by_cases e : cap = 1
  · simp [e]
  · simp [e]
theorem slF_tail {W : World} {b o k cap : Nat} {nd : Nd} {rest : List Nd} (h : SlF W (some ⟨b, o, none⟩) (k + 1) (nd :: rest)) (hc : k + 1 ≤ cap) : SlF W (some ⟨b, if cap = 1 then o else o + 7, none⟩) k rest := by
  obtain ⟨h1, h2, h3, h4⟩ := h
  refine ⟨by simpa using h1, by omega, fun n hn => h3 n (List.mem_cons_of_mem _ hn), ?_⟩
  by_cases hk : k = 0
  · exact .inl hk
  · rw [if_neg (by omega)]
    rcases h4 with h4 | ⟨b', o', e, h4⟩
    · omega
    · cases e
      refine .inr ⟨b, o + 7, rfl, fun i hi => ?_⟩
      obtain ⟨a', c', hN⟩ := h4 (i + 1) (by omega)
      rw [show o + (i + 1) * 7 = o + 7 + i * 7 by omega] at hN
      exact ⟨a', c', hN⟩
/-- What show hands back. -/
def ShR (W : World) (tx : List UInt8) (post : List Nd) (e : Ending) (w' : World) : Prop := ∃ a c, e = .returned (.tuple #[.string (bs tx), .slice a post.length c]) ∧ SlF w' a post.length post ∧ post.length ≤ c ∧ Below W.heap.size W w'
/-- What show does at a formula. -/
def ShS (t : Fm) : Prop := ∀ (a : Option Addr) (n cap : Nat) (post : List Nd) (W : World), SlF W a n (t.flat ++ post) → n ≤ cap → n ≤ 40 → Calls Tryz.prog 18 #[.slice a n cap] W (ShR W t.txt post)
set_option maxHeartbeats 16000000 in
set_option maxRecDepth 8000 in
theorem showBoth_of (f g : Fm) (sg : List UInt8) (hsg : sg.length = 1) (hf : ShS f) (hg : ShS g) (hfo : f.ok) (hgo : g.ok) (a : Option Addr) (n cap : Nat) (post : List Nd) (W : World) (hs : SlF W a n (f.flat ++ (g.flat ++ post))) (hc : n ≤ cap) (hn : n ≤ 40) :
    Calls Tryz.prog 26 #[.slice a n cap, .string (bs sg)] W (ShR W ([40] ++ f.txt ++ sg ++ g.txt ++ [41]) post) := by
  have hl1 := txt_len f hfo
  have hl2 := txt_len g hgo
  have hL := hs.1
  simp only [List.length_append] at hL
  have HF := hide (hf a n cap (g.flat ++ post) W hs hc hn)
  have HG := hide (fun a2 c2 W2 (h2 : SlF W2 a2 (g.flat ++ post).length (g.flat ++ post)) (hc2 : (g.flat ++ post).length ≤ c2) => hg a2 _ c2 post W2 h2 hc2 (by simp; omega))
  have s1 : ∀ W, (Op.stringOp .add ⟨#[40]⟩ (bs f.txt)).run Tryz.prog W = .ok (.string (bs ([40] ++ f.txt))) W := fun W => bs_add [40] f.txt (by simp; omega) W
  have s2 : ∀ W, (Op.stringOp .add (bs ([40] ++ f.txt)) (bs sg)).run Tryz.prog W = .ok (.string (bs ([40] ++ f.txt ++ sg))) W := fun W => bs_add _ _ (by simp; omega) W
  have s3 : ∀ W, (Op.stringOp .add (bs ([40] ++ f.txt ++ sg)) (bs g.txt)).run Tryz.prog W = .ok (.string (bs ([40] ++ f.txt ++ sg ++ g.txt))) W := fun W => bs_add _ _ (by simp; omega) W
  have s4 : ∀ W, (Op.stringOp .add (bs ([40] ++ f.txt ++ sg ++ g.txt)) ⟨#[41]⟩).run Tryz.prog W = .ok (.string (bs ([40] ++ f.txt ++ sg ++ g.txt ++ [41]))) W := fun W => bs_add _ [41] (by simp; omega) W
  generalize [40] ++ f.txt ++ sg ++ g.txt ++ [41] = t4 at s4 ⊢
  generalize [40] ++ f.txt ++ sg ++ g.txt = t3 at s3 s4
  generalize [40] ++ f.txt ++ sg = t2 at s2 s3
  generalize [40] ++ f.txt = t1 at s1 s2
  generalize f.txt = tf at s1 HF
  generalize g.txt = tg at s3 HG
  generalize bs sg = bg at s2 ⊢
  generalize (g.flat ++ post) = gp at HF HG
  clear hs hc hn hf hg hfo hgo hL hl1 hl2 hsg
  go_enter Tryz.func26, Tryz.ntmps26
  go_wp2_with fail
  refine HF.out.mono ?_
  rintro e w1 ⟨a1, c1, rfl, h1, h2, hb1⟩
  have HC := hide (HG.out a1 c1 w1 h1 h2)
  have HB1 := hide hb1
  clear h1 h2 hb1 HF
  go_wp2_with fail
  refine HC.out.mono ?_
  rintro e w2 ⟨a2, c2, rfl, h3, h4, hb2⟩
  have HS2 := hide h3
  have HC2 := hide h4
  have HB2 := hide (below_step HB1.out hb2)
  clear h3 h4 hb2 HC
  go_wp2
  go_ret2
  exact ⟨a2, c2, rfl, HS2.out, HC2.out, HB2.out⟩
set_option maxHeartbeats 16000000 in
set_option maxRecDepth 8000 in
theorem show_at0 (nd : Nd) (rest : List Nd) (k cap : Nat) (a : Option Addr) (W : World) (hs : SlF W a (k + 1) (nd :: rest)) (hc : k + 1 ≤ cap) (hok : ndF nd = 0) (e12 : nd.op = 1 ∨ nd.op = 2 ∨ nd.op = 3 ∨ nd.op = 4) : Calls Tryz.prog 18 #[.slice a (k + 1) cap] W (ShR W (atomT nd) rest) := by
  have HP := hide (fun aa cc Wx (hx : Sl Wx aa nd.cf.length nd.cf) => show Calls Tryz.prog 28 #[ndV nd aa cc] Wx fun e w' => e = .returned (.string (bs (atomT nd))) ∧ Below Wx.heap.size Wx w' from by
    rcases e12 with h | h | h | h
    · exact showLine_any nd aa cc Wx hx hok (.inl h)
    · exact showLine_any nd aa cc Wx hx hok (.inr h)
    · exact showAt_any nd aa cc Wx hx hok h
    · exact showLike_any nd aa cc Wx hx hok h)
  have hL := hs.1
  have HRL : Hid (k = rest.length) := by show _ = _; simp at hL; omega
  obtain ⟨op, var, oth, wd, wd2, num, cf⟩ := nd
  obtain ⟨bb, oo, a2, c2, rfl, x0, x1, x2, x3, x4, x5, x6, hcf⟩ := slF_cell hs 0 (by omega)
  have hge : (⟨op, var, oth, wd, wd2, num, cf⟩ :: rest).getD 0 zNd = ⟨op, var, oth, wd, wd2, num, cf⟩ := rfl
  rw [hge] at x0 x1 x2 x3 x4 x5 x6 hcf
  simp only [Nat.zero_mul, Nat.add_zero] at x0 x1 x2 x3 x4 x5 x6 hcf
  have HST := hide (slF_tail hs hc)
  have hrl := run_tail_nd bb oo k cap
  generalize (if cap = 1 then oo else oo + 7) = o2 at HST hrl
  have HTC : Hid (k ≤ cap - 1) := by show _ ≤ _; omega
  generalize cap - 1 = cap2 at hrl HTC
  have hB1 := (Below.refl W.heap.size W).alloc (Nat.le_refl _) (ndO ⟨op, var, oth, wd, wd2, num, cf⟩ a2 c2)
  have HB := hide hB1.drew
  have HX : Hid ((W.alloc (ndO ⟨op, var, oth, wd, wd2, num, cf⟩ a2 c2)).drew.heap[W.heap.size]? = some (ndO ⟨op, var, oth, wd, wd2, num, cf⟩ a2 c2)) := heap_alloc_last W (ndO ⟨op, var, oth, wd, wd2, num, cf⟩ a2 c2)
  have hal : ∀ {pp : Addr} {vv : Value}, W.cell? pp = some vv → ∀ o, (W.alloc o).cell? pp = some vv := fun h o => by
    rw [World.cell?_alloc_lt W o _ (World.block_lt_of_cell? W _ h)]; exact h
  have y0 := hal x0
  have y1 := hal x1
  have y2 := hal x2
  have y3 := hal x3
  have y4 := hal x4
  have y5 := hal x5
  have y6 := hal x6
  simp only [] at HP e12
  unfold ndV at HP
  simp only [] at HP
  have HCF := hide (fun Wx (hb : Below W.heap.size W Wx) => sl_below hcf hb)
  generalize atomT ⟨op, var, oth, wd, wd2, num, cf⟩ = R at HP ⊢
  have q5 : (op == 5) = false := by simp; omega
  have q6 : (op == 6) = false := by simp; omega
  have q7 : (op == 7) = false := by simp; omega
  have q8 : (op == 8) = false := by simp; omega
  have q9 : (op == 9) = false := by simp; omega
  clear e12 hok hcf hL hge hB1 hal hc
  clear hs
  go_enter Tryz.func18, Tryz.ntmps18
  go_wp2
  go_region
  generalize (W.alloc (ndO ⟨op, var, oth, wd, wd2, num, cf⟩ a2 c2)).drew = W1 at HB HX ⊢
  clear x0 x1 x2 x3 x4 x5 x6 y0 y1 y2 y3 y4 y5 y6 hrl
  obtain ⟨⟨z0, z1, z2, z3, z4, z5, z6⟩, -⟩ := box7_cells HX.out
  have HC := hide (HP.out a2 c2 W1 (HCF.out W1 HB.out))
  go_wp2_with fail
  clear z0 z1 z2 z3 z4 z5 z6
  refine HC.out.mono ?_
  rintro e w2 ⟨rfl, hb2⟩
  have HB2 := hide (below_step HB.out hb2)
  have HS2 := hide (slF_below HST.out HB2.out)
  clear hb2 HC
  go_wp2
  go_ret2
  exact ⟨some ⟨bb, o2, none⟩, cap2, by rw [← HRL.out]; rfl, by rw [← HRL.out]; exact HS2.out, by rw [← HRL.out]; exact HTC.out, HB2.out⟩
set_option maxHeartbeats 16000000 in
set_option maxRecDepth 8000 in
theorem show_un (nd : Nd) (rest : List Nd) (k cap : Nat) (a : Option Addr) (W : World) (hs : SlF W a (k + 1) (nd :: rest)) (hc : k + 1 ≤ cap) (f : Fm) (post : List Nd) (hrest : rest = f.flat ++ post) (hn40 : k ≤ 39) (hok : ndF nd = 0) (hfo : f.ok) (HI : ShS f) (e12 : nd.op = 5 ∨ nd.op = 8 ∨ nd.op = 9) : Calls Tryz.prog 18 #[.slice a (k + 1) cap] W (ShR W (unT nd f.txt) post) := by
  have hvr := (ndF_zero hok).1.2.1
  obtain ⟨op, var, oth, wd, wd2, num, cf⟩ := nd
  obtain ⟨bb, oo, a2, c2, rfl, x0, x1, x2, x3, x4, x5, x6, hcf⟩ := slF_cell hs 0 (by omega)
  have hge : (⟨op, var, oth, wd, wd2, num, cf⟩ :: rest).getD 0 zNd = ⟨op, var, oth, wd, wd2, num, cf⟩ := rfl
  rw [hge] at x0 x1 x2 x3 x4 x5 x6 hcf
  simp only [Nat.zero_mul, Nat.add_zero] at x0 x1 x2 x3 x4 x5 x6 hcf
  have HST := hide (slF_tail hs hc)
  have hrl := run_tail_nd bb oo k cap
  generalize (if cap = 1 then oo else oo + 7) = o2 at HST hrl
  have HTC : Hid (k ≤ cap - 1) := by show _ ≤ _; omega
  generalize cap - 1 = cap2 at hrl HTC
  have hB1 := (Below.refl W.heap.size W).alloc (Nat.le_refl _) (ndO ⟨op, var, oth, wd, wd2, num, cf⟩ a2 c2)
  have HB := hide hB1.drew
  have HX : Hid ((W.alloc (ndO ⟨op, var, oth, wd, wd2, num, cf⟩ a2 c2)).drew.heap[W.heap.size]? = some (ndO ⟨op, var, oth, wd, wd2, num, cf⟩ a2 c2)) := heap_alloc_last W (ndO ⟨op, var, oth, wd, wd2, num, cf⟩ a2 c2)
  have hal : ∀ {pp : Addr} {vv : Value}, W.cell? pp = some vv → ∀ o, (W.alloc o).cell? pp = some vv := fun h o => by
    rw [World.cell?_alloc_lt W o _ (World.block_lt_of_cell? W _ h)]; exact h
  have y0 := hal x0
  have y1 := hal x1
  have y2 := hal x2
  have y3 := hal x3
  have y4 := hal x4
  have y5 := hal x5
  have y6 := hal x6
  simp only [] at e12
  have HIF := hide (fun Wx (hx : SlF Wx (some ⟨bb, o2, none⟩) k rest) => HI (some ⟨bb, o2, none⟩) k cap2 post Wx (by rw [← hrest]; exact hx) HTC.out (by omega))
  have hl1 := txt_len f hfo
  have hL := hs.1
  have hlen : f.flat.length ≤ 40 := by rw [hrest] at hL; simp at hL; omega
  have HUN : Hid (unT ⟨op, var, oth, wd, wd2, num, cf⟩ f.txt = if op = 5 then [126] ++ f.txt else if op = 8 then [69] ++ [ltC var.toNat] ++ [58] ++ f.txt else [65] ++ [ltC var.toNat] ++ [58] ++ f.txt) := rfl
  generalize hTF : f.txt = tf at HIF HUN hl1 ⊢
  clear hTF
  generalize unT ⟨op, var, oth, wd, wd2, num, cf⟩ tf = R at HUN ⊢
  rcases e12 with rfl | rfl | rfl
  · have s1 : ∀ W, (Op.stringOp .add ⟨#[126]⟩ (bs tf)).run Tryz.prog W = .ok (.string (bs R)) W := fun W => by rw [HUN.out, if_pos rfl]; exact bs_add [126] tf (by simp; omega) W
    clear hok hfo HI hcf hL hge hB1 hal hc hrest hlen hl1 hvr HUN hn40
    clear hs
    go_enter Tryz.func18, Tryz.ntmps18
    go_wp2
    go_region
    generalize (W.alloc (ndO ⟨5, var, oth, wd, wd2, num, cf⟩ a2 c2)).drew = W1 at HB HX ⊢
    clear x0 x1 x2 x3 x4 x5 x6 y0 y1 y2 y3 y4 y5 y6 hrl
    obtain ⟨⟨z0, z1, z2, z3, z4, z5, z6⟩, -⟩ := box7_cells HX.out
    have HC := hide (HIF.out W1 (slF_below HST.out HB.out))
    go_wp2_with fail
    clear z0 z1 z2 z3 z4 z5 z6
    refine HC.out.mono ?_
    rintro e w2 ⟨a3, c3, rfl, h1, h2, hb2⟩
    have hx2 := (hb2.block _ (Array.getElem?_eq_some_iff.1 HX.out).1).trans HX.out
    obtain ⟨⟨z0, z1, z2, z3, z4, z5, z6⟩, -⟩ := box7_cells hx2
    have HB2 := hide (below_step HB.out hb2)
    have HS2 := hide h1
    have HC2 := hide h2
    clear hb2 h1 h2 HC hx2
    go_wp2
    go_ret2
    exact ⟨a3, c3, rfl, HS2.out, HC2.out, HB2.out⟩
  · have hv := hvr (by first | exact .inr (.inr (.inl rfl)) | exact .inr (.inr (.inr rfl)))
    simp only [] at hv
    obtain ⟨q, rfl⟩ : ∃ q : Nat, var = (q : Int) := ⟨var.toNat, by omega⟩
    rw [Int.toNat_natCast] at HUN
    have HV := hide (fun W => showVar_any q (by omega) W)
    have s1 : ∀ W, (Op.stringOp .add ⟨#[69]⟩ (bs [ltC q])).run Tryz.prog W = .ok (.string (bs ([69] ++ [ltC q]))) W := fun W => bs_add [69] [ltC q] (by simp) W
    have s2 : ∀ W, (Op.stringOp .add (bs ([69] ++ [ltC q])) ⟨#[58]⟩).run Tryz.prog W = .ok (.string (bs ([69] ++ [ltC q] ++ [58]))) W := fun W => bs_add ([69] ++ [ltC q]) [58] (by simp) W
    have s3 : ∀ W, (Op.stringOp .add (bs ([69] ++ [ltC q] ++ [58])) (bs tf)).run Tryz.prog W = .ok (.string (bs R)) W := fun W => by rw [HUN.out, if_neg (by decide), if_pos rfl]; exact bs_add ([69] ++ [ltC q] ++ [58]) tf (by simp; omega) W
    generalize [69] ++ [ltC q] ++ [58] = t2 at s2 s3
    generalize [69] ++ [ltC q] = t1 at s1 s2
    generalize bs [ltC q] = tq at s1 HV
    clear hok hfo HI hcf hL hge hB1 hal hc hrest hlen hl1 hvr HUN hv hn40
    clear hs
    go_enter Tryz.func18, Tryz.ntmps18
    go_wp2
    go_region
    generalize (W.alloc (ndO ⟨8, (q : Int), oth, wd, wd2, num, cf⟩ a2 c2)).drew = W1 at HB HX ⊢
    clear x0 x1 x2 x3 x4 x5 x6 y0 y1 y2 y3 y4 y5 y6 hrl
    obtain ⟨⟨z0, z1, z2, z3, z4, z5, z6⟩, -⟩ := box7_cells HX.out
    have HC := hide (HIF.out W1 (slF_below HST.out HB.out))
    go_wp2_with fail
    clear z0 z1 z2 z3 z4 z5 z6
    refine HC.out.mono ?_
    rintro e w2 ⟨a3, c3, rfl, h1, h2, hb2⟩
    have hx2 := (hb2.block _ (Array.getElem?_eq_some_iff.1 HX.out).1).trans HX.out
    obtain ⟨⟨z0, z1, z2, z3, z4, z5, z6⟩, -⟩ := box7_cells hx2
    have HB2 := hide (below_step HB.out hb2)
    have HS2 := hide h1
    have HC2 := hide h2
    clear hb2 h1 h2 HC hx2
    go_wp2_with fail
    refine (HV.out _).mono ?_
    rintro e w' ⟨rfl, hw'⟩
    rw [hw']
    clear hw' w'
    go_wp2
    go_ret2
    exact ⟨a3, c3, rfl, HS2.out, HC2.out, HB2.out⟩
  · have hv := hvr (by first | exact .inr (.inr (.inl rfl)) | exact .inr (.inr (.inr rfl)))
    simp only [] at hv
    obtain ⟨q, rfl⟩ : ∃ q : Nat, var = (q : Int) := ⟨var.toNat, by omega⟩
    rw [Int.toNat_natCast] at HUN
    have HV := hide (fun W => showVar_any q (by omega) W)
    have s1 : ∀ W, (Op.stringOp .add ⟨#[65]⟩ (bs [ltC q])).run Tryz.prog W = .ok (.string (bs ([65] ++ [ltC q]))) W := fun W => bs_add [65] [ltC q] (by simp) W
    have s2 : ∀ W, (Op.stringOp .add (bs ([65] ++ [ltC q])) ⟨#[58]⟩).run Tryz.prog W = .ok (.string (bs ([65] ++ [ltC q] ++ [58]))) W := fun W => bs_add ([65] ++ [ltC q]) [58] (by simp) W
    have s3 : ∀ W, (Op.stringOp .add (bs ([65] ++ [ltC q] ++ [58])) (bs tf)).run Tryz.prog W = .ok (.string (bs R)) W := fun W => by rw [HUN.out, if_neg (by decide), if_neg (by decide)]; exact bs_add ([65] ++ [ltC q] ++ [58]) tf (by simp; omega) W
    generalize [65] ++ [ltC q] ++ [58] = t2 at s2 s3
    generalize [65] ++ [ltC q] = t1 at s1 s2
    generalize bs [ltC q] = tq at s1 HV
    clear hok hfo HI hcf hL hge hB1 hal hc hrest hlen hl1 hvr HUN hv hn40
    clear hs
    go_enter Tryz.func18, Tryz.ntmps18
    go_wp2
    go_region
    generalize (W.alloc (ndO ⟨9, (q : Int), oth, wd, wd2, num, cf⟩ a2 c2)).drew = W1 at HB HX ⊢
    clear x0 x1 x2 x3 x4 x5 x6 y0 y1 y2 y3 y4 y5 y6 hrl
    obtain ⟨⟨z0, z1, z2, z3, z4, z5, z6⟩, -⟩ := box7_cells HX.out
    have HC := hide (HIF.out W1 (slF_below HST.out HB.out))
    go_wp2_with fail
    clear z0 z1 z2 z3 z4 z5 z6
    refine HC.out.mono ?_
    rintro e w2 ⟨a3, c3, rfl, h1, h2, hb2⟩
    have hx2 := (hb2.block _ (Array.getElem?_eq_some_iff.1 HX.out).1).trans HX.out
    obtain ⟨⟨z0, z1, z2, z3, z4, z5, z6⟩, -⟩ := box7_cells hx2
    have HB2 := hide (below_step HB.out hb2)
    have HS2 := hide h1
    have HC2 := hide h2
    clear hb2 h1 h2 HC hx2
    go_wp2_with fail
    refine (HV.out _).mono ?_
    rintro e w' ⟨rfl, hw'⟩
    rw [hw']
    clear hw' w'
    go_wp2
    go_ret2
    exact ⟨a3, c3, rfl, HS2.out, HC2.out, HB2.out⟩
set_option maxHeartbeats 16000000 in
set_option maxRecDepth 8000 in
theorem show_bin (nd : Nd) (rest : List Nd) (k cap : Nat) (a : Option Addr) (W : World) (hs : SlF W a (k + 1) (nd :: rest)) (hc : k + 1 ≤ cap) (f g : Fm) (post : List Nd) (hrest : rest = f.flat ++ (g.flat ++ post)) (hn40 : k ≤ 39) (hfo : f.ok) (hgo : g.ok) (HI : ShS f) (HJ : ShS g) (e12 : nd.op = 6 ∨ nd.op = 7) : Calls Tryz.prog 18 #[.slice a (k + 1) cap] W (ShR W (binT nd f.txt g.txt) post) := by
  obtain ⟨op, var, oth, wd, wd2, num, cf⟩ := nd
  obtain ⟨bb, oo, a2, c2, rfl, x0, x1, x2, x3, x4, x5, x6, hcf⟩ := slF_cell hs 0 (by omega)
  have hge : (⟨op, var, oth, wd, wd2, num, cf⟩ :: rest).getD 0 zNd = ⟨op, var, oth, wd, wd2, num, cf⟩ := rfl
  rw [hge] at x0 x1 x2 x3 x4 x5 x6 hcf
  simp only [Nat.zero_mul, Nat.add_zero] at x0 x1 x2 x3 x4 x5 x6 hcf
  have HST := hide (slF_tail hs hc)
  have hrl := run_tail_nd bb oo k cap
  generalize (if cap = 1 then oo else oo + 7) = o2 at HST hrl
  have HTC : Hid (k ≤ cap - 1) := by show _ ≤ _; omega
  generalize cap - 1 = cap2 at hrl HTC
  have hB1 := (Below.refl W.heap.size W).alloc (Nat.le_refl _) (ndO ⟨op, var, oth, wd, wd2, num, cf⟩ a2 c2)
  have HB := hide hB1.drew
  have HX : Hid ((W.alloc (ndO ⟨op, var, oth, wd, wd2, num, cf⟩ a2 c2)).drew.heap[W.heap.size]? = some (ndO ⟨op, var, oth, wd, wd2, num, cf⟩ a2 c2)) := heap_alloc_last W (ndO ⟨op, var, oth, wd, wd2, num, cf⟩ a2 c2)
  have hal : ∀ {pp : Addr} {vv : Value}, W.cell? pp = some vv → ∀ o, (W.alloc o).cell? pp = some vv := fun h o => by
    rw [World.cell?_alloc_lt W o _ (World.block_lt_of_cell? W _ h)]; exact h
  have y0 := hal x0
  have y1 := hal x1
  have y2 := hal x2
  have y3 := hal x3
  have y4 := hal x4
  have y5 := hal x5
  have y6 := hal x6
  simp only [] at e12
  have HBO := hide (fun sg (hsg : sg.length = 1) Wx (hx : SlF Wx (some ⟨bb, o2, none⟩) k rest) => showBoth_of f g sg hsg HI HJ hfo hgo (some ⟨bb, o2, none⟩) k cap2 post Wx (by rw [← hrest]; exact hx) HTC.out (by omega))
  have HBN : Hid (binT ⟨op, var, oth, wd, wd2, num, cf⟩ f.txt g.txt = if op = 6 then [40] ++ f.txt ++ [38] ++ g.txt ++ [41] else [40] ++ f.txt ++ [124] ++ g.txt ++ [41]) := rfl
  generalize binT ⟨op, var, oth, wd, wd2, num, cf⟩ f.txt g.txt = R at HBN ⊢
  rcases e12 with rfl | rfl
  · have HBS := hide (fun Wx hx => HBO.out [38] rfl Wx hx)
    rw [if_pos rfl] at HBN
    rw [← HBN.out] at HBS
    rw [show bs [38] = ⟨#[38]⟩ from rfl] at HBS
    clear HI HJ hcf hge hB1 hal hc hrest HBN HBO hfo hgo hn40
    clear hs
    go_enter Tryz.func18, Tryz.ntmps18
    go_wp2
    go_region
    generalize (W.alloc (ndO ⟨6, var, oth, wd, wd2, num, cf⟩ a2 c2)).drew = W1 at HB HX ⊢
    clear x0 x1 x2 x3 x4 x5 x6 y0 y1 y2 y3 y4 y5 y6 hrl
    obtain ⟨⟨z0, z1, z2, z3, z4, z5, z6⟩, -⟩ := box7_cells HX.out
    have HC := hide (HBS.out W1 (slF_below HST.out HB.out))
    go_wp2_with fail
    clear z0 z1 z2 z3 z4 z5 z6
    refine HC.out.mono ?_
    rintro e w2 ⟨a3, c3, rfl, h1, h2, hb2⟩
    have hx2 := (hb2.block _ (Array.getElem?_eq_some_iff.1 HX.out).1).trans HX.out
    obtain ⟨⟨z0, z1, z2, z3, z4, z5, z6⟩, -⟩ := box7_cells hx2
    have HB2 := hide (below_step HB.out hb2)
    have HS2 := hide h1
    have HC2 := hide h2
    clear hb2 h1 h2 HC hx2
    go_wp2
    go_ret2
    exact ⟨a3, c3, rfl, HS2.out, HC2.out, HB2.out⟩
  · have HBS := hide (fun Wx hx => HBO.out [124] rfl Wx hx)
    rw [if_neg (by decide)] at HBN
    rw [← HBN.out] at HBS
    rw [show bs [124] = ⟨#[124]⟩ from rfl] at HBS
    clear HI HJ hcf hge hB1 hal hc hrest HBN HBO hfo hgo hn40
    clear hs
    go_enter Tryz.func18, Tryz.ntmps18
    go_wp2
    go_region
    generalize (W.alloc (ndO ⟨7, var, oth, wd, wd2, num, cf⟩ a2 c2)).drew = W1 at HB HX ⊢
    clear x0 x1 x2 x3 x4 x5 x6 y0 y1 y2 y3 y4 y5 y6 hrl
    obtain ⟨⟨z0, z1, z2, z3, z4, z5, z6⟩, -⟩ := box7_cells HX.out
    have HC := hide (HBS.out W1 (slF_below HST.out HB.out))
    go_wp2_with fail
    clear z0 z1 z2 z3 z4 z5 z6
    refine HC.out.mono ?_
    rintro e w2 ⟨a3, c3, rfl, h1, h2, hb2⟩
    have hx2 := (hb2.block _ (Array.getElem?_eq_some_iff.1 HX.out).1).trans HX.out
    obtain ⟨⟨z0, z1, z2, z3, z4, z5, z6⟩, -⟩ := box7_cells hx2
    have HB2 := hide (below_step HB.out hb2)
    have HS2 := hide h1
    have HC2 := hide h2
    clear hb2 h1 h2 HC hx2
    go_wp2
    go_ret2
    exact ⟨a3, c3, rfl, HS2.out, HC2.out, HB2.out⟩
theorem show_any : ∀ (N : Nat) (t : Fm), t.flat.length ≤ N → t.ok → ShS t := by
  intro N
  induction N with
  | zero => intro t htl; have := flat_pos t; omega
  | succ N ih =>
    intro t htl hok a n cap post W hs hc hn
    have hL := hs.1
    cases t with
    | at0 nd =>
      obtain ⟨k, rfl⟩ : ∃ k, n = k + 1 := ⟨n - 1, by simp [Fm.flat] at hL; omega⟩
      exact show_at0 nd post k cap a W hs hc hok.1 (partsN_zero (ndF_zero hok.1).1.1 hok.2)
    | un nd f =>
      obtain ⟨hnd, hp1, hfo⟩ := hok
      obtain ⟨k, rfl⟩ : ∃ k, n = k + 1 := ⟨n - 1, by simp [Fm.flat] at hL; omega⟩
      exact show_un nd (f.flat ++ post) k cap a W hs hc f post rfl (by omega) hnd hfo (ih f (by simp [Fm.flat] at htl; omega) hfo) (partsN_one hp1)
    | bin nd f g =>
      obtain ⟨hnd, hp2, hfo, hgo⟩ := hok
      obtain ⟨k, rfl⟩ : ∃ k, n = k + 1 := ⟨n - 1, by simp [Fm.flat] at hL; omega⟩
      have e : (Fm.bin nd f g).flat ++ post = nd :: (f.flat ++ (g.flat ++ post)) := by simp [Fm.flat]
      rw [e] at hs
      exact show_bin nd (f.flat ++ (g.flat ++ post)) k cap a W hs hc f g post rfl (by omega) hfo hgo (ih f (by simp [Fm.flat] at htl; omega) hfo) (ih g (by simp [Fm.flat] at htl; omega) hgo) (partsN_two hp2)
set_option maxHeartbeats 16000000 in
set_option maxRecDepth 8000 in
theorem print_saysU : PrintSays := by
  intro a n cap ns W hs hcap
  have HCK := hide (devCheck_any a n cap ns W hs)
  have he0 : errV 0 = .nilIface := rfl
  refine ⟨fun t he hok hz => ?_, fun hz => ?_⟩
  · obtain ⟨-, -, -, hn40, -⟩ := form_tree hz
    have hn : n ≤ 40 := by rw [← hs.1]; exact hn40
    have HSH := hide (fun Wx (hb : Below W.heap.size W Wx) => show_any _ t (Nat.le_refl _) hok a n cap [] Wx (by rw [List.append_nil, ← he]; exact slF_below hs hb) hcap hn)
    rw [hz, he0] at HCK
    rw [he0]
    generalize (formP ns).1 = f1 at HCK
    generalize t.txt = tx at HSH ⊢
    clear hs hz he hok hn hn40 hcap he0
    go_enter Tryz.func6, Tryz.ntmps6
    go_wp2_with fail
    refine HCK.out.mono ?_
    rintro e w1 ⟨rfl, hb1⟩
    have HB1 := hide hb1
    have HC := hide (HSH.out w1 hb1)
    clear hb1 HCK
    go_wp2_with fail
    refine HC.out.mono ?_
    rintro e w2 ⟨a2, c2, rfl, -, -, hb2⟩
    have HB2 := hide (below_step HB1.out hb2)
    clear hb2 HC
    go_wp2
    go_ret2
    exact ⟨rfl, HB2.out⟩
  · have hez : errV (formP ns).2 = .iface 23 (.int .i64 (formP ns).2) := by unfold errV; rw [if_neg hz]
    rw [hez] at HCK ⊢
    generalize (formP ns).1 = f1 at HCK
    generalize (formP ns).2 = z at HCK ⊢
    clear hs hz hez hcap he0
    go_enter Tryz.func6, Tryz.ntmps6
    go_wp2_with fail
    refine HCK.out.mono ?_
    rintro e w1 ⟨rfl, hb1⟩
    have HB1 := hide hb1
    clear hb1 HCK
    go_wp2
    go_ret2
    exact ⟨rfl, HB1.out⟩
end Go.Proofs.YtafbggbdlcfbdaaGreatDoor
