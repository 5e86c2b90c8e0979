/- 4 texts in one. -/
import Derived.BigQuiet
import Derived.Deep.DeepCutAuto
import Derived.OwnWalk
import Derived.Test.YtafbggbdlcfbdaaDoorZNr
import Derived.Test.YtafbggbdlcfbdaaDoorZXd
import Derived.Test.YtafbggbdlcfbdaaDoorZFd
import Derived.Test.YtafbggbdlcfbdaaDoorZMa
import Derived.Test.YtafbggbdlcfbdaaDoorZG
import Derived.Test.YtafbggbdlcfbdaaDoorB
import Derived.Test.YtafbggbdlcfbdaaDoorZNx
import Derived.Test.YtafbggbdlcfbdaaDoorZF
import Derived.Test.YtafbggbdlcfbdaaDoorZPa
/- The reference's sumAt: what holds between its rounds. -/
namespace Go.Proofs.YtafbggbdlcfbdaaDoor
open Go.RowKit

def BdC (M : Int) (cf : List Int) (nm : Int) : Prop := (∀ k, -M ≤ cf.getD k 0 ∧ cf.getD k 0 ≤ M) ∧ -M ≤ nm ∧ nm ≤ M
theorem bdC_put {M : Int} {cf : List Int} {nm : Int} (h : BdC M cf nm) (hM : 0 ≤ M) {sg : Int} (hsg : sg = 1 ∨ sg = -1) (v : Option Nat) {m : Nat} (hm : m ≤ 999) : BdC (M + 999) (putC sg v m cf) (putN sg v m nm) := by
  obtain ⟨h1, h2, h3⟩ := h
  have hp : -999 ≤ sg * (m : Int) ∧ sg * (m : Int) ≤ 999 := by rcases hsg with rfl | rfl <;> omega
  cases v with
  | none =>
    refine ⟨fun k => ?_, ?_, ?_⟩
    · have := h1 k
      show _ ≤ cf.getD k 0 ∧ cf.getD k 0 ≤ _
      omega
    · show _ ≤ nm + sg * m; omega
    · show nm + sg * m ≤ _; omega
  | some q =>
    refine ⟨fun k => ?_, ?_, ?_⟩
    · have h4 := h1 k
      have h5 := h1 q
      show _ ≤ (cf.set q (cf.getD q 0 + sg * m)).getD k 0 ∧ (cf.set q (cf.getD q 0 + sg * m)).getD k 0 ≤ _
      rw [List.getD_eq_getElem?_getD, List.getElem?_set]
      by_cases e : q = k
      · subst e
        rw [if_pos rfl]
        split
        · simp only [Option.getD_some]; omega
        · simp only [Option.getD_none]; omega
      · rw [if_neg e, ← List.getD_eq_getElem?_getD]
        omega
    · show _ ≤ nm; omega
    · show nm ≤ _; omega
theorem bdC_mono {M M' : Int} {cf : List Int} {nm : Int} (h : BdC M cf nm) (hM : M ≤ M') : BdC M' cf nm := ⟨fun k => by have := h.1 k; omega, by have := h.2.1; omega, by have := h.2.2; omega⟩
theorem sumA_bdC (s : List UInt8) {sg : Int} (hsg : sg = 1 ∨ sg = -1) : ∀ (f i : Nat) (cf : List Int) (nm M : Int), 0 ≤ M → i ≤ s.length → BdC M cf nm → BdC (M + 1000 * ((s.length : Int) - i)) (sumA s sg f i cf nm).cf (sumA s sg f i cf nm).nm := by
  intro f
  induction f with
  | zero => intro i cf nm M hM hi h; exact bdC_mono h (by omega)
  | succ f ih =>
    intro i cf nm M hM hi h
    rcases hp : partA s i with _ | ⟨v, m, j⟩
    · rw [sumA_none hp]
      exact bdC_mono h (by omega)
    · obtain ⟨b1, b2, b3, -⟩ := partA_bd hp
      rw [sumA_some hp]
      have h2 := bdC_put h hM hsg v b1
      split
      · rename_i h43
        have hl : j < s.length := bt_in (by rw [h43]; decide)
        exact bdC_mono (ih (j + 1) _ _ (M + 999) (by omega) hl h2) (by omega)
      · exact bdC_mono h2 (by omega)
end Go.Proofs.YtafbggbdlcfbdaaDoor

/- The reference's atomAt at a word: contract. -/
namespace Go.Proofs.YtafbggbdlcfbdaaDoor
open Go.RowKit

theorem ndWf_small {op v o wd wd2 nm : Nat} (h : op ≤ 1000 ∧ v ≤ 1000 ∧ o ≤ 1000 ∧ wd ≤ 1000 ∧ wd2 ≤ 1000 ∧ nm ≤ 1000) : ndWf ⟨op, v, o, wd, wd2, nm, []⟩ := fun x hx => by
  have e1 : IntKind.i64.min = -9223372036854775808 := rfl
  have e2 : IntKind.i64.max = 9223372036854775807 := rfl
  simp only [List.mem_cons, List.not_mem_nil, or_false] at hx
  have : 0 ≤ x ∧ x ≤ 1000 := by rcases hx with rfl | rfl | rfl | rfl | rfl | rfl <;> omega
  simp [Lit.wf, e1, e2]
  omega
end Go.Proofs.YtafbggbdlcfbdaaDoor

/- The reference's atomAt at a sum: contract. -/
namespace Go.Proofs.YtafbggbdlcfbdaaDoor
open Go.RowKit

theorem ndWf_sum {op nm : Int} {cf : List Int} (h1 : (Lit.int .i64 nm).wf = true) (h2 : op = 1 ∨ op = 2) : ndWf ⟨op, 0, 0, 0, 0, nm, cf⟩ := fun x hx => by
  simp only [List.mem_cons, List.not_mem_nil, or_false] at hx
  rcases hx with rfl | rfl | rfl | rfl | rfl | rfl
  · rcases h2 with rfl | rfl <;> rfl
  · rfl
  · rfl
  · rfl
  · rfl
  · exact h1
end Go.Proofs.YtafbggbdlcfbdaaDoor

/- TextBack from what package text answers: its whole walk. -/
namespace Go.Proofs.YtafbggbdlcfbdaaDoor
open Go.RowKit

theorem bs_ext (x : List UInt8) (k : Nat) : (bs x).extract 0 k = bs (x.take k) := by
  unfold bs
  rw [ByteArray.extract_mk, Nat.sub_zero, List.drop_zero]
theorem txt_pos (t : Fm) : 0 < t.txt.length := by
  cases t with
  | at0 n =>
    show 0 < (atomT n).length
    unfold atomT
    split
    · simp
      omega
    split
    · simp
      omega
    split <;> simp <;> omega
  | un n f =>
    show 0 < (unT n f.txt).length
    unfold unT
    split
    · simp
    split <;> simp
  | bin n f g =>
    show 0 < (binT n f.txt g.txt).length
    unfold binT
    split <;> simp
set_option maxHeartbeats 16000000 in
set_option maxRecDepth 8000 in
theorem textback_of (H : World → Prop) (hH : ∀ w W, H w → Below w.heap.size w W → H W) (hPr : PrintSays) (hPa : ParseSays H) (a : Option Addr) (n cap : Nat) (ns : List Nd) (cut : Int) (w : World) (hs : SlF w a n ns) (hcap : n ≤ cap) (hg : H w) (hcut : (Lit.int .i64 cut).wf = true) : Calls Tryd.prog 3 #[.slice a n cap, .int .i64 cut] w fun e w' => e = .returned (.bool true) ∧ Below w.heap.size w w' := by
  have HS := hide hs
  have HG : Hid (∀ W, Below w.heap.size w W → H W) := fun W h => hH w W hg h
  have HEV := hide (even_any w)
  have HPE := hide (fun W aa (g : SlF W aa 2 evenL) => (hPr aa 2 2 evenL W g (Nat.le_refl _)).1 evenF rfl even_ok even_fine)
  have HPA := hide hPa
  unfold ParseSays PaR at HPA
  rw [even_txt, errV_zero] at HPE
  have hbe : ((bs [69, 98, 58, 97, 61, 50, 98]).toList == [69, 98, 58, 97, 61, 50, 98]) = true := by rw [bs_toList]; rfl
  by_cases hz : (formP ns).2 = 0
  · obtain ⟨t, he, hok, -, -⟩ := form_tree hz
    have HPP := hide (fun W (g : SlF W a n ns) => (hPr a n cap ns W g hcap).1 t he hok hz)
    rw [errV_zero] at HPP
    have hsz := bs_size t.txt
    have HTP := hide (txt_pos t)
    by_cases h2 : t.txt.length ≤ 2000
    · have h2i : ¬ ((t.txt.length : Int) > 2000) := by omega
      have hpa := pars_txt hok (by rw [← he]; exact hz) h2
      rw [← he] at hpa
      have HP1 := hide (fun W h => HPA.out t.txt W h)
      rw [hpa] at HP1
      simp only [] at HP1
      rw [errV_zero] at HP1
      have HNE := hide (fun ax cx W (g1 : SlF W ax ns.length ns) (g2 : SlF W a ns.length ns) => nodes_eq ax a ns.length cx cap ns W g1 g2)
      have HLN := hide hs.1
      have HPI := hide (fun W => pick_any cut t.txt.length W HTP.out (by omega) hcut)
      have hkl := pickN_lt cut HTP.out
      obtain ⟨k, HK⟩ : ∃ k, Hid (k = pickN cut t.txt.length) := ⟨_, rfl⟩
      rw [← HK.out] at HPI hkl
      have hex := bs_ext t.txt k
      have HP2 := hide (fun W h => HPA.out (t.txt.take k) W h)
      have hpe := pars_e (t.txt.take k)
      have hlk : (t.txt.take k).length = k := by rw [List.length_take]; omega
      rw [hlk] at hpe
      clear hs hcap hg hPr hPa hz he hok hH hpa HK HPA hcut HTP hlk
      generalize parsA (t.txt.take k) = o at *
      obtain ⟨L, p, c⟩ := o
      simp only [] at HP2 hpe
      have hkl2 : k ≤ t.txt.length := by omega
      generalize t.txt.take k = tk at *
      generalize t.txt = tx at *
      subst HLN
      go_enter Tryd.func3, Tryd.ntmps3
      go_wp2_with fail
      refine HEV.out.mono ?_
      rintro e w1 ⟨rfl, hs1, hb1⟩
      have HB1 := hide hb1
      have HC := hide (HPE.out w1 _ hs1)
      clear hb1 hs1 HEV HPE
      go_wp2_with fail
      refine HC.out.mono ?_
      rintro e w2 ⟨rfl, hb2⟩
      have HB2 := hide (below_step HB1.out hb2)
      clear hb2 HC
      have HC := hide (HPP.out w2 (slF_below HS.out HB2.out))
      go_wp2_with fail
      refine HC.out.mono ?_
      rintro e w3 ⟨rfl, hb3⟩
      have HB3 := hide (below_step HB2.out hb3)
      clear hb3 HC
      have HC := hide (HP1.out w3 (HG.out w3 HB3.out))
      go_wp2_with fail
      refine HC.out.mono ?_
      rintro e w4 ⟨a4, c4, rfl, hs4, hb4⟩
      have HB4 := hide (below_step HB3.out hb4)
      have HC2 := hide (HNE.out a4 c4 w4 hs4 (slF_below HS.out HB4.out))
      clear hb4 hs4 HC
      go_wp2_with fail
      refine HC2.out.mono ?_
      rintro e w5 ⟨rfl, hb5⟩
      have HB5 := hide (below_step HB4.out hb5)
      clear hb5 HC2
      go_wp2_with fail
      refine (HPI.out _).mono ?_
      rintro e w' ⟨rfl, hw'⟩
      rw [hw']
      clear hw' w'
      have HC := hide (HP2.out w5 (HG.out w5 HB5.out))
      go_wp2_with fail
      refine HC.out.mono ?_
      rintro e w6 ⟨a6, c6, rfl, hs6, hb6⟩
      have HB6 := hide (below_step HB5.out hb6)
      clear hb6 hs6 HC
      by_cases hc : c = 0
      · subst hc
        rw [errV_zero]
        go_wp2
        go_ret
        exact ⟨rfl, HB6.out⟩
      · rw [errV_ne hc]
        have hpi : (p : Int) ≤ (k : Int) := by omega
        clear hc
        go_wp2
        go_ret
        exact ⟨rfl, HB6.out⟩
    · have h2i : ((t.txt.length : Int) > 2000) := by omega
      clear hs hcap hg hPr hPa hz he hok hH HPA hcut HTP h2
      generalize t.txt = tx at *
      go_enter Tryd.func3, Tryd.ntmps3
      go_wp2_with fail
      refine HEV.out.mono ?_
      rintro e w1 ⟨rfl, hs1, hb1⟩
      have HB1 := hide hb1
      have HC := hide (HPE.out w1 _ hs1)
      clear hb1 hs1 HEV HPE
      go_wp2_with fail
      refine HC.out.mono ?_
      rintro e w2 ⟨rfl, hb2⟩
      have HB2 := hide (below_step HB1.out hb2)
      clear hb2 HC
      have HC := hide (HPP.out w2 (slF_below HS.out HB2.out))
      go_wp2_with fail
      refine HC.out.mono ?_
      rintro e w3 ⟨rfl, hb3⟩
      have HB3 := hide (below_step HB2.out hb3)
      clear hb3 HC
      go_wp2
      go_ret
      exact ⟨rfl, HB3.out⟩
  · have HPP := hide (fun W (g : SlF W a n ns) => (hPr a n cap ns W g hcap).2 hz)
    rw [errV_ne hz] at HPP
    clear hs hcap hg hPr hPa hz hH HPA hcut
    generalize (formP ns).2 = z at *
    go_enter Tryd.func3, Tryd.ntmps3
    go_wp2_with fail
    refine HEV.out.mono ?_
    rintro e w1 ⟨rfl, hs1, hb1⟩
    have HB1 := hide hb1
    have HC := hide (HPE.out w1 _ hs1)
    clear hb1 hs1 HEV HPE
    go_wp2_with fail
    refine HC.out.mono ?_
    rintro e w2 ⟨rfl, hb2⟩
    have HB2 := hide (below_step HB1.out hb2)
    clear hb2 HC
    have HC := hide (HPP.out w2 (slF_below HS.out HB2.out))
    go_wp2_with fail
    refine HC.out.mono ?_
    rintro e w3 ⟨rfl, hb3⟩
    have HB3 := hide (below_step HB2.out hb3)
    clear hb3 HC
    go_wp2
    go_ret
    exact ⟨rfl, HB3.out⟩
end Go.Proofs.YtafbggbdlcfbdaaDoor
