/- 6 texts in one. -/
import Derived.BigQuiet
import Derived.Deep.DeepCutAuto
import Derived.Test.YtafbggbdlcfbdaaGreatDoorZNr
import Derived.Test.YtafbggbdlcfbdaaGreatDoorZXd
import Derived.Test.YtafbggbdlcfbdaaGreatDoorZFd
import Derived.Test.YtafbggbdlcfbdaaGreatDoorZG
import Derived.Test.YtafbggbdlcfbdaaGreatDoorNx
import Derived.Test.YtafbggbdlcfbdaaGreatDoorRe
/- The reference's sumAt: what holds between its rounds. -/
namespace Go.Proofs.YtafbggbdlcfbdaaGreatDoor
open Go.RowKit

def BdC (M : Int) (cf : List Int) (nm : Int) : Prop := (∀ k, -M ≤ cf.getD k 0 ∧ cf.getD k 0 ≤ M) ∧ -M ≤ nm ∧ nm ≤ M
theorem bdC_put {M : Int} {cf : List Int} {nm : Int} (h : BdC M cf nm) (hM : 0 ≤ M) {sg : Int} (hsg : sg = 1 ∨ sg = -1) (v : Option Nat) {m : Nat} (hm : m ≤ 999) : BdC (M + 999) (putC sg v m cf) (putN sg v m nm) := by
  obtain ⟨h1, h2, h3⟩ := h
  have hp : -999 ≤ sg * (m : Int) ∧ sg * (m : Int) ≤ 999 := by rcases hsg with rfl | rfl <;> omega
  cases v with
  | none =>
    refine ⟨fun k => ?_, ?_, ?_⟩
    · have := h1 k
      show _ ≤ cf.getD k 0 ∧ cf.getD k 0 ≤ _
      omega
    · show _ ≤ nm + sg * m; omega
    · show nm + sg * m ≤ _; omega
  | some q =>
    refine ⟨fun k => ?_, ?_, ?_⟩
    · have h4 := h1 k
      have h5 := h1 q
      show _ ≤ (cf.set q (cf.getD q 0 + sg * m)).getD k 0 ∧ (cf.set q (cf.getD q 0 + sg * m)).getD k 0 ≤ _
      rw [List.getD_eq_getElem?_getD, List.getElem?_set]
      by_cases e : q = k
      · subst e
        rw [if_pos rfl]
        split
        · simp only [Option.getD_some]; omega
        · simp only [Option.getD_none]; omega
      · rw [if_neg e, ← List.getD_eq_getElem?_getD]
        omega
    · show _ ≤ nm; omega
    · show nm ≤ _; omega
theorem bdC_mono {M M' : Int} {cf : List Int} {nm : Int} (h : BdC M cf nm) (hM : M ≤ M') : BdC M' cf nm := ⟨fun k => by have := h.1 k; omega, by have := h.2.1; omega, by have := h.2.2; omega⟩
theorem sumA_bdC (s : List UInt8) {sg : Int} (hsg : sg = 1 ∨ sg = -1) : ∀ (f i : Nat) (cf : List Int) (nm M : Int), 0 ≤ M → i ≤ s.length → BdC M cf nm → BdC (M + 1000 * ((s.length : Int) - i)) (sumA s sg f i cf nm).cf (sumA s sg f i cf nm).nm := by
  intro f
  induction f with
  | zero => intro i cf nm M hM hi h; exact bdC_mono h (by omega)
  | succ f ih =>
    intro i cf nm M hM hi h
    rcases hp : partA s i with _ | ⟨v, m, j⟩
    · rw [sumA_none hp]
      exact bdC_mono h (by omega)
    · obtain ⟨b1, b2, b3, -⟩ := partA_bd hp
      rw [sumA_some hp]
      have h2 := bdC_put h hM hsg v b1
      split
      · rename_i h43
        have hl : j < s.length := bt_in (by rw [h43]; decide)
        exact bdC_mono (ih (j + 1) _ _ (M + 999) (by omega) hl h2) (by omega)
      · exact bdC_mono h2 (by omega)
abbrev nbO (op nm : Int) (B : Nat) : Obj := .cells #[.int .i64 op, .int .i64 0, .int .i64 0, .int .i64 0, .int .i64 0, .int .i64 nm, .slice (some ⟨B, 0, none⟩) 5 5] 41
abbrev zNO : Obj := .cells #[.int .i64 0, .int .i64 0, .int .i64 0, .int .i64 0, .int .i64 0, .int .i64 0, .slice none 0 0] 41
def CfAt (W : World) (B : Nat) (cf : List Int) : Prop := cf.length = 5 ∧ W.rowIs B 3 5 (fun i => .int .i64 (cf.getD i 0))
/-- Between the rounds of sumAt. -/
def SmI (w : World) (B : Nat) (op : Int) (cf : List Int) (nm : Int) (wx : World) : Prop := CfAt wx B cf ∧ wx.heap[w.heap.size]? = some (nbO op nm B) ∧ wx.heap[w.heap.size + 1]? = some zNO ∧ w.grownBy wx (some B)
theorem cfAt_block {W W' : World} {B : Nat} {cf : List Int} (h : CfAt W B cf) (hb : W'.heap[B]? = W.heap[B]?) : CfAt W' B cf := by
  obtain ⟨h1, c, h2, h3⟩ := h
  exact ⟨h1, c, hb.trans h2, h3⟩
theorem cfAt_lt {W : World} {B : Nat} {cf : List Int} (h : CfAt W B cf) : B < W.heap.size := by
  obtain ⟨_, c, h2, _⟩ := h
  exact (Array.getElem?_eq_some_iff.1 h2).1
theorem cfAt_froz {W : World} {B : Nat} {cf : List Int} (h : CfAt W B cf) (i : Nat) : W.frozen? ⟨B, i, none⟩ = false := by
  obtain ⟨_, c, h2, _⟩ := h
  simp [World.frozen?, h2]
theorem smI_start {w : World} {B : Nat} {cf : List Int} (h : CfAt w B cf) (op nm : Int) : SmI w B op cf nm ((w.alloc (nbO op nm B)).alloc zNO) := by
  have hl := cfAt_lt h
  have hz : (w.alloc (nbO op nm B)).heap.size = w.heap.size + 1 := by simp
  refine ⟨cfAt_block h ?_, ?_, ?_, rfl, rfl, rfl, by simp; omega, fun k hk _ => ?_⟩
  · rw [Below.heap_alloc _ _ _ (by omega), Below.heap_alloc _ _ _ hl]
  · rw [Below.heap_alloc _ _ _ (by omega), heap_alloc_last]
  · rw [← hz, heap_alloc_last]
  · rw [Below.heap_alloc _ _ _ (by omega), Below.heap_alloc _ _ _ hk]
theorem grownBy_step {w W W' : World} {r : Option Nat} (h : w.grownBy W r) (h1 : W'.os = W.os) (h2 : W'.tape = W.tape) (h3 : W'.output = W.output) (h4 : W.heap.size ≤ W'.heap.size) (h5 : ∀ k, k < w.heap.size → some k ≠ r → W'.heap[k]? = W.heap[k]?) : w.grownBy W' r :=
  ⟨h1.trans h.os, h2.trans h.tape, h3.trans h.output, Nat.le_trans h.size h4, fun k hk hr => (h5 k hk hr).trans (h.block k hk hr)⟩
theorem smI_below {w wx W : World} {B : Nat} {op nm : Int} {cf : List Int} (h : SmI w B op cf nm wx) (hb : Below wx.heap.size wx W) : SmI w B op cf nm W := by
  obtain ⟨h1, h2, h3, h4⟩ := h
  refine ⟨cfAt_block h1 (hb.block _ (cfAt_lt h1)), (hb.block _ (Array.getElem?_eq_some_iff.1 h2).1).trans h2, (hb.block _ (Array.getElem?_eq_some_iff.1 h3).1).trans h3, grownBy_step h4 hb.os hb.tape hb.output hb.size fun k hk _ => hb.block k (Nat.lt_of_lt_of_le hk h4.size)⟩
theorem smI_num {w wx : World} {B : Nat} {op nm : Int} {cf : List Int} (h : SmI w B op cf nm wx) (hB : B < w.heap.size) (nm' : Int) : SmI w B op cf nm' (wx.setCell ⟨w.heap.size, 5, none⟩ (.int .i64 nm')) := by
  obtain ⟨h1, h2, h3, h4⟩ := h
  refine ⟨cfAt_block h1 (Below.heap_setCell _ _ _ _ (by show B ≠ w.heap.size; omega)), ?_, (Below.heap_setCell _ _ _ _ (by show w.heap.size + 1 ≠ w.heap.size; omega)).trans h3, grownBy_step h4 rfl rfl rfl (by simp [World.setCell]) fun k hk _ => Below.heap_setCell _ _ _ _ (by show k ≠ w.heap.size; omega)⟩
  simp [World.setCell, Array.getElem?_modify, h2]
theorem smI_cf {w wx : World} {B : Nat} {op nm : Int} {cf : List Int} (h : SmI w B op cf nm wx) (hB : B < w.heap.size) (v : Nat) (x : Int) : SmI w B op (cf.set v x) nm (wx.setCell ⟨B, v, none⟩ (.int .i64 x)) := by
  obtain ⟨⟨hl, hr⟩, h2, h3, h4⟩ := h
  refine ⟨⟨by rw [List.length_set]; exact hl, (hr.set v _).congr fun i hi => ?_⟩, (Below.heap_setCell _ _ _ _ (by show w.heap.size ≠ B; omega)).trans h2, (Below.heap_setCell _ _ _ _ (by show w.heap.size + 1 ≠ B; omega)).trans h3, grownBy_step h4 rfl rfl rfl (by simp [World.setCell]) fun k hk hne => Below.heap_setCell _ _ _ _ (fun e => hne (by show some k = some B; rw [e]))⟩
  by_cases e : i = v
  · subst e
    rw [if_pos rfl, List.getD_eq_getElem?_getD, List.getElem?_set, if_pos rfl, if_pos (by omega)]
    rfl
  · rw [if_neg e, List.getD_eq_getElem?_getD, List.getD_eq_getElem?_getD, List.getElem?_set, if_neg (fun h => e h.symm)]
/-- What sumAt hands back. -/
def SmR (w : World) (B : Nat) (op : Int) (o : SumO) (e : Ending) (w' : World) : Prop := e = .returned (.tuple #[.agg #[.int .i64 op, .int .i64 0, .int .i64 0, .int .i64 0, .int .i64 0, .int .i64 o.nm, .slice (some ⟨B, 0, none⟩) 5 5], .int .i64 (o.e : Int), .bool o.ok]) ∧ CfAt w' B o.cf ∧ w.grownBy w' (some B)
theorem smI_end {w wx Wf : World} {B : Nat} {op nm : Int} {cf : List Int} (h : SmI w B op cf nm wx) (hB : B < w.heap.size) (hb : Below (w.heap.size + 1) wx Wf) : CfAt Wf B cf ∧ w.grownBy Wf (some B) := by
  obtain ⟨h1, h2, h3, h4⟩ := h
  exact ⟨cfAt_block h1 (hb.block _ (by omega)), grownBy_step h4 hb.os hb.tape hb.output hb.size fun k hk _ => hb.block k (by omega)⟩
end Go.Proofs.YtafbggbdlcfbdaaGreatDoor

/- The reference's sumAt: contract. -/
namespace Go.Proofs.YtafbggbdlcfbdaaGreatDoor
open Go.RowKit

def suS (i : Nat) : Nat := ([49, 50, 51, 52, 53, 54, 55, 56, 57, 58, 59, 60, 61] : List Nat).getD i 0
theorem suS_inj : ∀ i : Fin 13, ∀ j : Fin 13, suS i.val = suS j.val → i = j := by decide +kernel
theorem suS_lt : ∀ i : Fin 13, suS i.val < 72 := by decide +kernel
set_option maxHeartbeats 16000000 in
set_option maxRecDepth 8000 in
theorem sumAt_any (s : List UInt8) (i : Nat) (op nm : Int) (B : Nat) (cf : List Int) (sg : Int) (hsg : sg = 1 ∨ sg = -1) (hs : s.length ≤ 2000) (hi : i ≤ s.length) (M : Int) (hM : 0 ≤ M ∧ M ≤ 100000000) (hbd : BdC M cf nm) (f : Nat) (hf : s.length - i < f) (w : World) (hcf : CfAt w B cf) : Calls Tryz.prog 50 #[.string (bs s), .int .i64 (i : Int), .agg #[.int .i64 op, .int .i64 0, .int .i64 0, .int .i64 0, .int .i64 0, .int .i64 nm, .slice (some ⟨B, 0, none⟩) 5 5], .int .i64 sg] w (SmR w B op (sumA s sg f i cf nm)) := by
  have hB := cfAt_lt hcf
  have HST := hide (smI_start hcf op nm)
  have HBD := hide hbd
  have HMU : Hid (∀ m : Nat, m ≤ 999 → -999 ≤ sg * (m : Int) ∧ sg * (m : Int) ≤ 999 ∧ wrap64 (sg * (m : Int)) = sg * (m : Int)) := fun m hm => by
    have : -999 ≤ sg * (m : Int) ∧ sg * (m : Int) ≤ 999 := by rcases hsg with rfl | rfl <;> omega
    refine ⟨this.1, this.2, ?_⟩
    unfold wrap64
    omega
  have HSG := hide hsg
  have HBY := hide (fun j W => byteAt_any s j W)
  have HRE : Hid (∀ e w', SmR w B op (sumA s sg f i cf nm) e w' → SmR w B op (sumA s sg f i cf nm) e w') := fun _ _ h => h
  generalize hR : sumA s sg f i cf nm = R
  have HR0 := hide hR.symm
  clear hcf hbd hsg HRE hR
  generalize hW0 : (w.alloc (nbO op nm B)).alloc zNO = W0 at HST
  go_enter Tryz.func50, Tryz.ntmps50
  go_wp2
  clear hW0
  go_loopw [1] (fun iv wx => ∃ (j g : Nat) (c : List Int) (x K : Int), iv = .int .i64 (j : Int) ∧ j ≤ s.length ∧ s.length - j < g ∧ 0 ≤ K ∧ K ≤ 100000000 + 999 * (j : Int) ∧ BdC K c x ∧ SmI w B op c x wx ∧ R = sumA s sg g j c x) (fun iv _ => s.length - (intOf iv).toNat)
  case atStart => exact ⟨i, f, cf, nm, M, rfl, hi, hf, hM.1, by omega, HBD.out, HST.out, HR0.out⟩
  case round =>
    obtain ⟨j, g, c, x, K, rfl, hj, hg, hK, hK2, hbd, hsm, hR⟩ := hrel
    obtain ⟨g, rfl⟩ : ∃ g', g = g' + 1 := ⟨g - 1, by omega⟩
    have HSM := hide hsm
    have HBD2 := hide hbd
    have HR := hide hR
    clear hsm hbd hR HBD HST HR0
    -- GEN
    have HBJ := hide (HBY.out j)
    cases hd : isDg (bt s j) with
    | true =>
      have hjl := dg_in hd
      have HDG := hide (fun W => digit_any (bt s j) W)
      rw [hd] at HDG
      have HNA := hide (fun W => numberAt_any s j hd (by omega) W)
      obtain ⟨b1, b2, b3⟩ := numA_bd hd
      have hpa : partA s j = if isLt (bt s (numA s j).2) = true then some (some ((bt s (numA s j).2).toNat - 97), (numA s j).1, (numA s j).2 + 1) else some (none, (numA s j).1, (numA s j).2) := by unfold partA; rw [if_pos hd]
      generalize numA s j = na at *
      obtain ⟨m, j2⟩ := na
      simp only [] at hpa b1 b2 b3 HNA
      have HBJ2 := hide (HBY.out j2)
      have HLT := hide (fun W => isletter_any (bt s j2) W)
      clear hd
      generalize bt s j = cj at *
      have hm : m ≤ 999 := b1
      cases hl : isLt (bt s j2) with
      | true =>
        have l4 := lt_in hl
        have b4 := lt_bd hl
        rw [hl] at HLT
        rw [hl, if_pos rfl] at hpa
        have hgx := bs_get s j2
        have hsz := bs_size s
        obtain ⟨v, hv⟩ : ∃ v : Nat, (bt s j2).toNat = v + 97 := ⟨(bt s j2).toNat - 97, by omega⟩
        rw [hv, Nat.add_sub_cancel] at hpa
        have hg2 : ∀ h, ((bs s)[j2]'h).toNat = v + 97 := fun h => by rw [hgx h, hv]
        have hv5 : v < 5 := by omega
        rw [hv] at HBJ2 HLT
        have HP := hide hpa
        clear hgx hpa hl b4 hv b1
        generalize bt s j2 = c2 at *
        obtain ⟨jj, hjj⟩ : ∃ jj, jj = j2 + 1 := ⟨_, rfl⟩
        have hjx : ((j2 : Int) + 1) = (jj : Int) := by omega
        have HMU1 := HMU.out m hm
        obtain ⟨u1, u2, u3⟩ := HMU1
        obtain ⟨cv, HCV⟩ : ∃ cv, Hid (c.getD v 0 = cv) := ⟨_, rfl⟩
        have hcb := HBD2.out.1 v
        rw [HCV.out] at hcb
        have HB3 := hide (bdC_put HBD2.out hK HSG.out (some v) hm)
        have HRS := hide (HR.out.trans (sumA_some HP.out))
        have HPC : Hid (putC sg (some v) m c = c.set v (cv + sg * (m : Int))) := by show _ = _; rw [← HCV.out]; rfl
        have HPN : Hid (putN sg (some v) m x = x) := rfl
        rw [HPC.out, HPN.out] at HB3 HRS
        clear HPC HPN HR
        generalize hpr : sg * (m : Int) = pr at *
        have hw1 : wrap64 (cv + pr) = cv + pr := by unfold wrap64; omega
        have hw2 : IntKind.i64.wrap (cv + pr) = cv + pr := by rw [IntKind.wrap_i64]; omega
        have hw3 : IntKind.i64.wrap pr = pr := by rw [IntKind.wrap_i64]; omega
        have hvi : (v : Int) < 5 := by omega
        clear HBD2 HP
        rw [← hjj] at HRS
        have hjlt : j < jj := by omega
        have hjle : jj ≤ s.length := by omega
        clear hjj
        go_wp2_with fail
        refine (HBJ.out _).mono ?_
        rintro e w' ⟨rfl, hw'⟩
        rw [hw']
        clear hw' w'
        go_wp2_with fail
        refine (HDG.out _).mono ?_
        rintro e w' ⟨rfl, hw'⟩
        rw [hw']
        clear hw' w'
        go_wp2_with fail
        refine (HNA.out _).mono ?_
        rintro e w' ⟨rfl, hw'⟩
        rw [hw']
        clear hw' w'
        go_wp2_with fail
        refine (HBJ2.out _).mono ?_
        rintro e w' ⟨rfl, hw'⟩
        rw [hw']
        clear hw' w'
        go_wp2_with fail
        refine (HLT.out _).mono ?_
        rintro e w' ⟨rfl, hw'⟩
        rw [hw']
        clear hw' w'
        go_upto_region 11 with fail
        clear hg2 hsz
        refine region_last (by kernel_rfl) (rvOn_spec (by decide +kernel)) 13 rfl suS (fun i => ([.pointer (some ⟨w.heap.size, 6, none⟩), .slice (some ⟨B, 0, none⟩) 5 5, .int .i64 (v : Int), .pointer (some ⟨w.heap.size, 6, none⟩), .slice (some ⟨B, 0, none⟩) 5 5, .int .i64 (v : Int), .pointer (some ⟨B, v, none⟩), .int .i64 cv, .int .i64 sg, .int .i64 (m : Int), .int .i64 pr, .int .i64 (cv + pr), .pointer (some ⟨B, v, none⟩)] : List Value).getD i undef) (fun i j hi hj e => by have := suS_inj ⟨i, hi⟩ ⟨j, hj⟩ e; injection this) (fun i hi => suS_lt ⟨i, hi⟩) (by decide +kernel) ?_ ?_
        · intro T W i o hi ho hsz hdep hst hb
          have e3 : T[3]? = some (.int .i64 sg) := hst 3 (by decide +kernel)
          have e6 : T[6]? = some (.pointer (some ⟨w.heap.size, 0, none⟩)) := hst 6 (by decide +kernel)
          have e11 : T[11]? = some (.int .i64 (m : Int)) := hst 11 (by decide +kernel)
          have e13 : T[13]? = some (.int .i64 (v : Int)) := hst 13 (by decide +kernel)
          have k6 := ((box7_cells (smI_below HSM.out hb).2.1).1).2.2.2.2.2.2
          have kv : W.cell? ⟨B, v, none⟩ = some (.int .i64 cv) := by rw [← HCV.out]; exact (smI_below HSM.out hb).1.2.cell hv5
          have kf := cfAt_froz (smI_below HSM.out hb).1 v
          have HBW := hide hb
          clear hsz hst hb
          rcases (by omega : i = 0 ∨ i = 1 ∨ i = 2 ∨ i = 3 ∨ i = 4 ∨ i = 5 ∨ i = 6 ∨ i = 7 ∨ i = 8 ∨ i = 9 ∨ i = 10 ∨ i = 11 ∨ i = 12) with rfl | rfl | rfl | rfl | rfl | rfl | rfl | rfl | rfl | rfl | rfl | rfl | rfl
          · injection ho with ho
            subst ho
            clear hdep
            refine wpOp_step (o := _) rfl fun K2 hK => ?_
            rw [if_pos (by rfl)]
            have HK := hide hK
            clear hK
            go_simp
            exact HK.out _ _ ⟨rfl, HBW.out⟩
          · injection ho with ho
            subst ho
            have d0 : T[49]? = some (.pointer (some ⟨w.heap.size, 6, none⟩)) := hdep { on := 0, ground := .data } (by simp) rfl
            clear hdep
            refine wpOp_step (o := _) rfl fun K2 hK => ?_
            rw [if_pos (by rfl)]
            have HK := hide hK
            clear hK
            go_simp
            exact HK.out _ _ ⟨rfl, HBW.out⟩
          · injection ho with ho
            subst ho
            clear hdep
            refine wpOp_step (o := _) rfl fun K2 hK => ?_
            rw [if_pos (by rfl)]
            have HK := hide hK
            clear hK
            go_simp
            exact HK.out _ _ ⟨rfl, HBW.out⟩
          · injection ho with ho
            subst ho
            clear hdep
            refine wpOp_step (o := _) rfl fun K2 hK => ?_
            rw [if_pos (by rfl)]
            have HK := hide hK
            clear hK
            go_simp
            exact HK.out _ _ ⟨rfl, HBW.out⟩
          · injection ho with ho
            subst ho
            have d3 : T[52]? = some (.pointer (some ⟨w.heap.size, 6, none⟩)) := hdep { on := 3, ground := .data } (by simp) rfl
            clear hdep
            refine wpOp_step (o := _) rfl fun K2 hK => ?_
            rw [if_pos (by rfl)]
            have HK := hide hK
            clear hK
            go_simp
            exact HK.out _ _ ⟨rfl, HBW.out⟩
          · injection ho with ho
            subst ho
            clear hdep
            refine wpOp_step (o := _) rfl fun K2 hK => ?_
            rw [if_pos (by rfl)]
            have HK := hide hK
            clear hK
            go_simp
            exact HK.out _ _ ⟨rfl, HBW.out⟩
          · injection ho with ho
            subst ho
            have d4 : T[53]? = some (.slice (some ⟨B, 0, none⟩) 5 5) := hdep { on := 4, ground := .data } (by simp) rfl
            have d5 : T[54]? = some (.int .i64 (v : Int)) := hdep { on := 5, ground := .data } (by simp) rfl
            clear hdep
            refine wpOp_step (o := _) rfl fun K2 hK => ?_
            rw [if_pos (by rfl)]
            have HK := hide hK
            clear hK
            go_simp
            exact HK.out _ _ ⟨rfl, HBW.out⟩
          · injection ho with ho
            subst ho
            have d6 : T[55]? = some (.pointer (some ⟨B, v, none⟩)) := hdep { on := 6, ground := .data } (by simp) rfl
            clear hdep
            refine wpOp_step (o := _) rfl fun K2 hK => ?_
            rw [if_pos (by rfl)]
            have HK := hide hK
            clear hK
            go_simp
            exact HK.out _ _ ⟨rfl, HBW.out⟩
          · injection ho with ho
            subst ho
            clear hdep
            refine wpOp_step (o := _) rfl fun K2 hK => ?_
            rw [if_pos (by rfl)]
            have HK := hide hK
            clear hK
            go_simp
            exact HK.out _ _ ⟨rfl, HBW.out⟩
          · injection ho with ho
            subst ho
            clear hdep
            refine wpOp_step (o := _) rfl fun K2 hK => ?_
            rw [if_pos (by rfl)]
            have HK := hide hK
            clear hK
            go_simp
            exact HK.out _ _ ⟨rfl, HBW.out⟩
          · injection ho with ho
            subst ho
            have d8 : T[57]? = some (.int .i64 sg) := hdep { on := 8, ground := .data } (by simp) rfl
            have d9 : T[58]? = some (.int .i64 (m : Int)) := hdep { on := 9, ground := .data } (by simp) rfl
            clear hdep
            refine wpOp_step (o := _) rfl fun K2 hK => ?_
            rw [if_pos (by rfl)]
            have HK := hide hK
            clear hK
            go_simp
            exact HK.out _ _ ⟨rfl, HBW.out⟩
          · injection ho with ho
            subst ho
            have d7 : T[56]? = some (.int .i64 cv) := hdep { on := 7, ground := .data } (by simp) rfl
            have d10 : T[59]? = some (.int .i64 pr) := hdep { on := 10, ground := .data } (by simp) rfl
            clear hdep
            refine wpOp_step (o := _) rfl fun K2 hK => ?_
            rw [if_pos (by rfl)]
            have HK := hide hK
            clear hK
            go_simp
            exact HK.out _ _ ⟨rfl, HBW.out⟩
          · injection ho with ho
            subst ho
            have d1 : T[50]? = some (.slice (some ⟨B, 0, none⟩) 5 5) := hdep { on := 1, ground := .data } (by simp) rfl
            have d2 : T[51]? = some (.int .i64 (v : Int)) := hdep { on := 2, ground := .data } (by simp) rfl
            clear hdep
            refine wpOp_step (o := _) rfl fun K2 hK => ?_
            rw [if_pos (by rfl)]
            have HK := hide hK
            clear hK
            go_simp
            exact HK.out _ _ ⟨rfl, HBW.out⟩
        · intro T W o ho hsz hval hst hb
          have e3 : T[3]? = some (.int .i64 sg) := hst 3 (by decide +kernel)
          have e6 : T[6]? = some (.pointer (some ⟨w.heap.size, 0, none⟩)) := hst 6 (by decide +kernel)
          have e11 : T[11]? = some (.int .i64 (m : Int)) := hst 11 (by decide +kernel)
          have e13 : T[13]? = some (.int .i64 (v : Int)) := hst 13 (by decide +kernel)
          have k6 := ((box7_cells (smI_below HSM.out hb).2.1).1).2.2.2.2.2.2
          have kv : W.cell? ⟨B, v, none⟩ = some (.int .i64 cv) := by rw [← HCV.out]; exact (smI_below HSM.out hb).1.2.cell hv5
          have kf := cfAt_froz (smI_below HSM.out hb).1 v
          injection ho with ho
          subst ho
          have d11 : T[60]? = some (.int .i64 (cv + pr)) := hval 11 (by decide +kernel)
          have d12 : T[61]? = some (.pointer (some ⟨B, v, none⟩)) := hval 12 (by decide +kernel)
          have HBW := hide hb
          have HST := hide hst
          have HVA := hide hval
          have HSZ := hide hsz
          clear hval hst hb hsz
          refine wpOp_step (o := _) rfl fun K2 hK => ?_
          rw [if_pos (by rfl)]
          have HK := hide hK
          clear hK
          go_simp
          refine HK.out _ _ ?_
          have hT := rv_list (fun i hi => suS_lt ⟨i, hi⟩) HSZ.out HVA.out HST.out [12, 11, 10, 9, 8, 7, 6, 5, 4, 3, 2, 1, 0] rfl
          simp only [rvSet, suS, List.getD_cons_zero, List.getD_cons_succ, List.setIfInBounds_toArray, List.set_cons_zero, List.set_cons_succ] at hT
          rw [hT]
          clear hT HK HVA HST HSZ e3 e6 e11 e13 d12 d11
          have HSM3 := hide (smI_cf (smI_below HSM.out HBW.out) hB v (cv + pr))
          clear HSM HBW k6 kv kf
          generalize W.setCell ⟨B, v, none⟩ (.int .i64 (cv + pr)) = W2 at HSM3 ⊢
          clear W
          have HBY3 := hide (fun W => byteAt_any s jj W)
          by_cases h43 : bt s jj = 43
          · have l43 : jj < s.length := bt_in (by rw [h43]; decide)
            have hRF := HRS.out
            rw [if_pos h43] at hRF
            have HRF := hide hRF
            rw [h43] at HBY3
            clear hRF h43 HRS
            go_wp2_with fail
            refine (HBY3.out _).mono ?_
            rintro e w' ⟨rfl, hw'⟩
            rw [hw']
            clear hw' w'
            go_wp2
            go_roundw
            case rel => exact ⟨jj + 1, g, _, _, K + 999, by go_num, by omega, by omega, by omega, by omega, HB3.out, HSM3.out, HRF.out⟩
            case measure => simp [intOf]; omega
          · have hRF := HRS.out
            rw [if_neg h43] at hRF
            have HRF := hide hRF
            have hne : (((bt s jj).toNat : Int) == 43) = false := u8_ne 43 h43
            have hne2 : (((bt s jj).toNat : Int) != 43) = true := by unfold bne; rw [hne]; rfl
            clear hRF h43 HRS
            generalize bt s jj = c3 at *
            go_wp2_with fail
            refine (HBY3.out _).mono ?_
            rintro e w' ⟨rfl, hw'⟩
            rw [hw']
            clear hw' w'
            obtain ⟨y0, y1, y2, y3, y4, y5, y6⟩ := (box7_cells HSM3.out.2.1).1
            obtain ⟨f0, f1, f2, f3, f4, f5, f6⟩ := box7_froz HSM3.out.2.2.1
            obtain ⟨Wf, hWf, q1, q2, -⟩ := seven_behind HSM3.out.2.2.1 (Below.refl (w.heap.size + 1) _) (Nat.le_refl _) (.int .i64 op) (.int .i64 0) (.int .i64 0) (.int .i64 0) (.int .i64 0) (.int .i64 x) (.slice (some ⟨B, 0, none⟩) 5 5)
            obtain ⟨t0, t1, t2, t3, t4, t5, t6⟩ := (box7_cells HSM3.out.2.2.1).1
            have HE := hide (smI_end HSM3.out hB q2)
            obtain ⟨g0, g1, g2, g3, g4, g5, g6⟩ := (box7_cells q1).1
            clear q1 q2
            go_wp2
            try rw [hWf]
            clear hWf y0 y1 y2 y3 y4 y5 y6 f0 f1 f2 f3 f4 f5 f6 t0 t1 t2 t3 t4 t5 t6
            exact bodyPost_ret (v := .tuple #[.agg #[.int .i64 op, .int .i64 0, .int .i64 0, .int .i64 0, .int .i64 0, .int .i64 x, .slice (some ⟨B, 0, none⟩) 5 5], .int .i64 (jj : Int), .bool true]) (by simp [results, Tryz.results50, go_sem, g0, g1, g2, g3, g4, g5, g6]) rfl ⟨by rw [HRF.out], by rw [HRF.out]; exact HE.out.1, HE.out.2⟩
      | false =>
        rw [hl] at HLT
        rw [hl, if_neg (by decide)] at hpa
        have HRS := hide (HR.out.trans (sumA_some hpa))
        have HB3 := hide (bdC_put HBD2.out hK HSG.out none hm)
        obtain ⟨u1, u2, u3⟩ := HMU.out m hm
        have hxb := HBD2.out.2
        have HPC : Hid (putC sg none m c = c) := rfl
        have HPN : Hid (putN sg none m x = x + sg * (m : Int)) := rfl
        rw [HPC.out, HPN.out] at HB3 HRS
        clear HPC HPN HR hpa hl b1
        generalize hpr : sg * (m : Int) = pr at *
        have hw1 : wrap64 (x + pr) = x + pr := by unfold wrap64; omega
        obtain ⟨y0, y1, y2, y3, y4, y5, y6⟩ := (box7_cells HSM.out.2.1).1
        obtain ⟨f0, f1, f2, f3, f4, f5, f6⟩ := box7_froz HSM.out.2.1
        have HSM3 := hide (smI_num HSM.out hB (x + pr))
        obtain ⟨W2, hW2⟩ : ∃ W2, wr.setCell ⟨w.heap.size, 5, none⟩ (.int .i64 (x + pr)) = W2 := ⟨_, rfl⟩
        rw [hW2] at HSM3
        clear HSM HBD2
        go_wp2_with fail
        refine (HBJ.out _).mono ?_
        rintro e w' ⟨rfl, hw'⟩
        rw [hw']
        clear hw' w'
        go_wp2_with fail
        refine (HDG.out _).mono ?_
        rintro e w' ⟨rfl, hw'⟩
        rw [hw']
        clear hw' w'
        go_wp2_with fail
        refine (HNA.out _).mono ?_
        rintro e w' ⟨rfl, hw'⟩
        rw [hw']
        clear hw' w'
        go_wp2_with fail
        refine (HBJ2.out _).mono ?_
        rintro e w' ⟨rfl, hw'⟩
        rw [hw']
        clear hw' w'
        go_wp2_with fail
        refine (HLT.out _).mono ?_
        rintro e w' ⟨rfl, hw'⟩
        rw [hw']
        clear hw' w'
        go_upto_region 13 with fail
        try rw [hW2]
        clear hW2 y0 y1 y2 y3 y4 y5 y6 f0 f1 f2 f3 f4 f5 f6
        obtain ⟨xx, hxx⟩ : ∃ xx, xx = x + pr := ⟨_, rfl⟩
        rw [← hxx] at HSM3 HRS HB3
        clear hxx
        have HBY3 := hide (fun W => byteAt_any s j2 W)
        by_cases h43 : bt s j2 = 43
        · have l43 : j2 < s.length := bt_in (by rw [h43]; decide)
          have hRF := HRS.out
          rw [if_pos h43] at hRF
          have HRF := hide hRF
          rw [h43] at HBY3
          clear hRF h43 HRS
          go_wp2_with fail
          refine (HBY3.out _).mono ?_
          rintro e w' ⟨rfl, hw'⟩
          rw [hw']
          clear hw' w'
          go_wp2
          go_roundw
          case rel => exact ⟨j2 + 1, g, _, _, K + 999, by go_num, by omega, by omega, by omega, by omega, HB3.out, HSM3.out, HRF.out⟩
          case measure => simp [intOf]; omega
        · have hRF := HRS.out
          rw [if_neg h43] at hRF
          have HRF := hide hRF
          have hne : (((bt s j2).toNat : Int) == 43) = false := u8_ne 43 h43
          have hne2 : (((bt s j2).toNat : Int) != 43) = true := by unfold bne; rw [hne]; rfl
          clear hRF h43 HRS
          generalize bt s j2 = c3 at *
          go_wp2_with fail
          refine (HBY3.out _).mono ?_
          rintro e w' ⟨rfl, hw'⟩
          rw [hw']
          clear hw' w'
          obtain ⟨y0, y1, y2, y3, y4, y5, y6⟩ := (box7_cells HSM3.out.2.1).1
          obtain ⟨f0, f1, f2, f3, f4, f5, f6⟩ := box7_froz HSM3.out.2.2.1
          obtain ⟨Wf, hWf, q1, q2, -⟩ := seven_behind HSM3.out.2.2.1 (Below.refl (w.heap.size + 1) _) (Nat.le_refl _) (.int .i64 op) (.int .i64 0) (.int .i64 0) (.int .i64 0) (.int .i64 0) (.int .i64 xx) (.slice (some ⟨B, 0, none⟩) 5 5)
          obtain ⟨t0, t1, t2, t3, t4, t5, t6⟩ := (box7_cells HSM3.out.2.2.1).1
          have HE := hide (smI_end HSM3.out hB q2)
          obtain ⟨g0, g1, g2, g3, g4, g5, g6⟩ := (box7_cells q1).1
          clear q1 q2
          go_wp2
          try rw [hWf]
          clear hWf y0 y1 y2 y3 y4 y5 y6 f0 f1 f2 f3 f4 f5 f6 t0 t1 t2 t3 t4 t5 t6
          exact bodyPost_ret (v := .tuple #[.agg #[.int .i64 op, .int .i64 0, .int .i64 0, .int .i64 0, .int .i64 0, .int .i64 xx, .slice (some ⟨B, 0, none⟩) 5 5], .int .i64 (j2 : Int), .bool true]) (by simp [results, Tryz.results50, go_sem, g0, g1, g2, g3, g4, g5, g6]) rfl ⟨by rw [HRF.out], by rw [HRF.out]; exact HE.out.1, HE.out.2⟩
    | false =>
      have HDG := hide (fun W => digit_any (bt s j) W)
      rw [hd] at HDG
      have HLT := hide (fun W => isletter_any (bt s j) W)
      have hpa : partA s j = if isLt (bt s j) = true then some (some ((bt s j).toNat - 97), 1, j + 1) else none := by unfold partA; rw [hd, if_neg (by decide)]
      cases hl : isLt (bt s j) with
      | true =>
        have l4 := lt_in hl
        have b4 := lt_bd hl
        rw [hl] at HLT
        rw [hl, if_pos rfl] at hpa
        have hgx := bs_get s j
        have hsz := bs_size s
        obtain ⟨v, hv⟩ : ∃ v : Nat, (bt s j).toNat = v + 97 := ⟨(bt s j).toNat - 97, by omega⟩
        rw [hv, Nat.add_sub_cancel] at hpa
        have hg2 : ∀ h, ((bs s)[j]'h).toNat = v + 97 := fun h => by rw [hgx h, hv]
        have hv5 : v < 5 := by omega
        rw [hv] at HBJ HLT HDG
        obtain ⟨m, hm1⟩ : ∃ m : Nat, m = 1 := ⟨1, rfl⟩
        replace hpa : partA s j = some (some v, m, j + 1) := by rw [hpa, hm1]
        have hm : m ≤ 999 := by omega
        have hmi : (1 : Int) = (m : Int) := by omega
        have HP := hide hpa
        have HM1 := hide hmi
        clear hgx hpa hl b4 hv hd hm1 hmi
        generalize bt s j = c2 at *
        obtain ⟨jj, hjj⟩ : ∃ jj, jj = j + 1 := ⟨_, rfl⟩
        have hjx : ((j : Int) + 1) = (jj : Int) := by omega
        have HMU1 := HMU.out m hm
        obtain ⟨u1, u2, u3⟩ := HMU1
        obtain ⟨cv, HCV⟩ : ∃ cv, Hid (c.getD v 0 = cv) := ⟨_, rfl⟩
        have hcb := HBD2.out.1 v
        rw [HCV.out] at hcb
        have HB3 := hide (bdC_put HBD2.out hK HSG.out (some v) hm)
        have HRS := hide (HR.out.trans (sumA_some HP.out))
        have HPC : Hid (putC sg (some v) m c = c.set v (cv + sg * (m : Int))) := by show _ = _; rw [← HCV.out]; rfl
        have HPN : Hid (putN sg (some v) m x = x) := rfl
        rw [HPC.out, HPN.out] at HB3 HRS
        clear HPC HPN HR
        generalize hpr : sg * (m : Int) = pr at *
        have hw1 : wrap64 (cv + pr) = cv + pr := by unfold wrap64; omega
        have hw2 : IntKind.i64.wrap (cv + pr) = cv + pr := by rw [IntKind.wrap_i64]; omega
        have hw3 : IntKind.i64.wrap pr = pr := by rw [IntKind.wrap_i64]; omega
        have hvi : (v : Int) < 5 := by omega
        clear HBD2 HP
        rw [← hjj] at HRS
        have hjlt : j < jj := by omega
        have hjle : jj ≤ s.length := by omega
        clear hjj
        go_wp2_with fail
        refine (HBJ.out _).mono ?_
        rintro e w' ⟨rfl, hw'⟩
        rw [hw']
        clear hw' w'
        go_wp2_with fail
        refine (HDG.out _).mono ?_
        rintro e w' ⟨rfl, hw'⟩
        rw [hw']
        clear hw' w'
        go_wp2_with fail
        refine (HBJ.out _).mono ?_
        rintro e w' ⟨rfl, hw'⟩
        rw [hw']
        clear hw' w'
        go_wp2_with fail
        refine (HLT.out _).mono ?_
        rintro e w' ⟨rfl, hw'⟩
        rw [hw']
        clear hw' w'
        go_upto_region 11 with fail
        clear hg2 hsz
        rw [HM1.out]
        refine region_last (by kernel_rfl) (rvOn_spec (by decide +kernel)) 13 rfl suS (fun i => ([.pointer (some ⟨w.heap.size, 6, none⟩), .slice (some ⟨B, 0, none⟩) 5 5, .int .i64 (v : Int), .pointer (some ⟨w.heap.size, 6, none⟩), .slice (some ⟨B, 0, none⟩) 5 5, .int .i64 (v : Int), .pointer (some ⟨B, v, none⟩), .int .i64 cv, .int .i64 sg, .int .i64 (m : Int), .int .i64 pr, .int .i64 (cv + pr), .pointer (some ⟨B, v, none⟩)] : List Value).getD i undef) (fun i j hi hj e => by have := suS_inj ⟨i, hi⟩ ⟨j, hj⟩ e; injection this) (fun i hi => suS_lt ⟨i, hi⟩) (by decide +kernel) ?_ ?_
        · intro T W i o hi ho hsz hdep hst hb
          have e3 : T[3]? = some (.int .i64 sg) := hst 3 (by decide +kernel)
          have e6 : T[6]? = some (.pointer (some ⟨w.heap.size, 0, none⟩)) := hst 6 (by decide +kernel)
          have e11 : T[11]? = some (.int .i64 (m : Int)) := hst 11 (by decide +kernel)
          have e13 : T[13]? = some (.int .i64 (v : Int)) := hst 13 (by decide +kernel)
          have k6 := ((box7_cells (smI_below HSM.out hb).2.1).1).2.2.2.2.2.2
          have kv : W.cell? ⟨B, v, none⟩ = some (.int .i64 cv) := by rw [← HCV.out]; exact (smI_below HSM.out hb).1.2.cell hv5
          have kf := cfAt_froz (smI_below HSM.out hb).1 v
          have HBW := hide hb
          clear hsz hst hb
          rcases (by omega : i = 0 ∨ i = 1 ∨ i = 2 ∨ i = 3 ∨ i = 4 ∨ i = 5 ∨ i = 6 ∨ i = 7 ∨ i = 8 ∨ i = 9 ∨ i = 10 ∨ i = 11 ∨ i = 12) with rfl | rfl | rfl | rfl | rfl | rfl | rfl | rfl | rfl | rfl | rfl | rfl | rfl
          · injection ho with ho
            subst ho
            clear hdep
            refine wpOp_step (o := _) rfl fun K2 hK => ?_
            rw [if_pos (by rfl)]
            have HK := hide hK
            clear hK
            go_simp
            exact HK.out _ _ ⟨rfl, HBW.out⟩
          · injection ho with ho
            subst ho
            have d0 : T[49]? = some (.pointer (some ⟨w.heap.size, 6, none⟩)) := hdep { on := 0, ground := .data } (by simp) rfl
            clear hdep
            refine wpOp_step (o := _) rfl fun K2 hK => ?_
            rw [if_pos (by rfl)]
            have HK := hide hK
            clear hK
            go_simp
            exact HK.out _ _ ⟨rfl, HBW.out⟩
          · injection ho with ho
            subst ho
            clear hdep
            refine wpOp_step (o := _) rfl fun K2 hK => ?_
            rw [if_pos (by rfl)]
            have HK := hide hK
            clear hK
            go_simp
            exact HK.out _ _ ⟨rfl, HBW.out⟩
          · injection ho with ho
            subst ho
            clear hdep
            refine wpOp_step (o := _) rfl fun K2 hK => ?_
            rw [if_pos (by rfl)]
            have HK := hide hK
            clear hK
            go_simp
            exact HK.out _ _ ⟨rfl, HBW.out⟩
          · injection ho with ho
            subst ho
            have d3 : T[52]? = some (.pointer (some ⟨w.heap.size, 6, none⟩)) := hdep { on := 3, ground := .data } (by simp) rfl
            clear hdep
            refine wpOp_step (o := _) rfl fun K2 hK => ?_
            rw [if_pos (by rfl)]
            have HK := hide hK
            clear hK
            go_simp
            exact HK.out _ _ ⟨rfl, HBW.out⟩
          · injection ho with ho
            subst ho
            clear hdep
            refine wpOp_step (o := _) rfl fun K2 hK => ?_
            rw [if_pos (by rfl)]
            have HK := hide hK
            clear hK
            go_simp
            exact HK.out _ _ ⟨rfl, HBW.out⟩
          · injection ho with ho
            subst ho
            have d4 : T[53]? = some (.slice (some ⟨B, 0, none⟩) 5 5) := hdep { on := 4, ground := .data } (by simp) rfl
            have d5 : T[54]? = some (.int .i64 (v : Int)) := hdep { on := 5, ground := .data } (by simp) rfl
            clear hdep
            refine wpOp_step (o := _) rfl fun K2 hK => ?_
            rw [if_pos (by rfl)]
            have HK := hide hK
            clear hK
            go_simp
            exact HK.out _ _ ⟨rfl, HBW.out⟩
          · injection ho with ho
            subst ho
            have d6 : T[55]? = some (.pointer (some ⟨B, v, none⟩)) := hdep { on := 6, ground := .data } (by simp) rfl
            clear hdep
            refine wpOp_step (o := _) rfl fun K2 hK => ?_
            rw [if_pos (by rfl)]
            have HK := hide hK
            clear hK
            go_simp
            exact HK.out _ _ ⟨rfl, HBW.out⟩
          · injection ho with ho
            subst ho
            clear hdep
            refine wpOp_step (o := _) rfl fun K2 hK => ?_
            rw [if_pos (by rfl)]
            have HK := hide hK
            clear hK
            go_simp
            exact HK.out _ _ ⟨rfl, HBW.out⟩
          · injection ho with ho
            subst ho
            clear hdep
            refine wpOp_step (o := _) rfl fun K2 hK => ?_
            rw [if_pos (by rfl)]
            have HK := hide hK
            clear hK
            go_simp
            exact HK.out _ _ ⟨rfl, HBW.out⟩
          · injection ho with ho
            subst ho
            have d8 : T[57]? = some (.int .i64 sg) := hdep { on := 8, ground := .data } (by simp) rfl
            have d9 : T[58]? = some (.int .i64 (m : Int)) := hdep { on := 9, ground := .data } (by simp) rfl
            clear hdep
            refine wpOp_step (o := _) rfl fun K2 hK => ?_
            rw [if_pos (by rfl)]
            have HK := hide hK
            clear hK
            go_simp
            exact HK.out _ _ ⟨rfl, HBW.out⟩
          · injection ho with ho
            subst ho
            have d7 : T[56]? = some (.int .i64 cv) := hdep { on := 7, ground := .data } (by simp) rfl
            have d10 : T[59]? = some (.int .i64 pr) := hdep { on := 10, ground := .data } (by simp) rfl
            clear hdep
            refine wpOp_step (o := _) rfl fun K2 hK => ?_
            rw [if_pos (by rfl)]
            have HK := hide hK
            clear hK
            go_simp
            exact HK.out _ _ ⟨rfl, HBW.out⟩
          · injection ho with ho
            subst ho
            have d1 : T[50]? = some (.slice (some ⟨B, 0, none⟩) 5 5) := hdep { on := 1, ground := .data } (by simp) rfl
            have d2 : T[51]? = some (.int .i64 (v : Int)) := hdep { on := 2, ground := .data } (by simp) rfl
            clear hdep
            refine wpOp_step (o := _) rfl fun K2 hK => ?_
            rw [if_pos (by rfl)]
            have HK := hide hK
            clear hK
            go_simp
            exact HK.out _ _ ⟨rfl, HBW.out⟩
        · intro T W o ho hsz hval hst hb
          have e3 : T[3]? = some (.int .i64 sg) := hst 3 (by decide +kernel)
          have e6 : T[6]? = some (.pointer (some ⟨w.heap.size, 0, none⟩)) := hst 6 (by decide +kernel)
          have e11 : T[11]? = some (.int .i64 (m : Int)) := hst 11 (by decide +kernel)
          have e13 : T[13]? = some (.int .i64 (v : Int)) := hst 13 (by decide +kernel)
          have k6 := ((box7_cells (smI_below HSM.out hb).2.1).1).2.2.2.2.2.2
          have kv : W.cell? ⟨B, v, none⟩ = some (.int .i64 cv) := by rw [← HCV.out]; exact (smI_below HSM.out hb).1.2.cell hv5
          have kf := cfAt_froz (smI_below HSM.out hb).1 v
          injection ho with ho
          subst ho
          have d11 : T[60]? = some (.int .i64 (cv + pr)) := hval 11 (by decide +kernel)
          have d12 : T[61]? = some (.pointer (some ⟨B, v, none⟩)) := hval 12 (by decide +kernel)
          have HBW := hide hb
          have HST := hide hst
          have HVA := hide hval
          have HSZ := hide hsz
          clear hval hst hb hsz
          refine wpOp_step (o := _) rfl fun K2 hK => ?_
          rw [if_pos (by rfl)]
          have HK := hide hK
          clear hK
          go_simp
          refine HK.out _ _ ?_
          have hT := rv_list (fun i hi => suS_lt ⟨i, hi⟩) HSZ.out HVA.out HST.out [12, 11, 10, 9, 8, 7, 6, 5, 4, 3, 2, 1, 0] rfl
          simp only [rvSet, suS, List.getD_cons_zero, List.getD_cons_succ, List.setIfInBounds_toArray, List.set_cons_zero, List.set_cons_succ] at hT
          rw [hT]
          clear hT HK HVA HST HSZ e3 e6 e11 e13 d12 d11
          have HSM3 := hide (smI_cf (smI_below HSM.out HBW.out) hB v (cv + pr))
          clear HSM HBW k6 kv kf
          generalize W.setCell ⟨B, v, none⟩ (.int .i64 (cv + pr)) = W2 at HSM3 ⊢
          clear W
          have HBY3 := hide (fun W => byteAt_any s jj W)
          by_cases h43 : bt s jj = 43
          · have l43 : jj < s.length := bt_in (by rw [h43]; decide)
            have hRF := HRS.out
            rw [if_pos h43] at hRF
            have HRF := hide hRF
            rw [h43] at HBY3
            clear hRF h43 HRS
            go_wp2_with fail
            refine (HBY3.out _).mono ?_
            rintro e w' ⟨rfl, hw'⟩
            rw [hw']
            clear hw' w'
            go_wp2
            go_roundw
            case rel => exact ⟨jj + 1, g, _, _, K + 999, by go_num, by omega, by omega, by omega, by omega, HB3.out, HSM3.out, HRF.out⟩
            case measure => simp [intOf]; omega
          · have hRF := HRS.out
            rw [if_neg h43] at hRF
            have HRF := hide hRF
            have hne : (((bt s jj).toNat : Int) == 43) = false := u8_ne 43 h43
            have hne2 : (((bt s jj).toNat : Int) != 43) = true := by unfold bne; rw [hne]; rfl
            clear hRF h43 HRS
            generalize bt s jj = c3 at *
            go_wp2_with fail
            refine (HBY3.out _).mono ?_
            rintro e w' ⟨rfl, hw'⟩
            rw [hw']
            clear hw' w'
            obtain ⟨y0, y1, y2, y3, y4, y5, y6⟩ := (box7_cells HSM3.out.2.1).1
            obtain ⟨f0, f1, f2, f3, f4, f5, f6⟩ := box7_froz HSM3.out.2.2.1
            obtain ⟨Wf, hWf, q1, q2, -⟩ := seven_behind HSM3.out.2.2.1 (Below.refl (w.heap.size + 1) _) (Nat.le_refl _) (.int .i64 op) (.int .i64 0) (.int .i64 0) (.int .i64 0) (.int .i64 0) (.int .i64 x) (.slice (some ⟨B, 0, none⟩) 5 5)
            obtain ⟨t0, t1, t2, t3, t4, t5, t6⟩ := (box7_cells HSM3.out.2.2.1).1
            have HE := hide (smI_end HSM3.out hB q2)
            obtain ⟨g0, g1, g2, g3, g4, g5, g6⟩ := (box7_cells q1).1
            clear q1 q2
            go_wp2
            try rw [hWf]
            clear hWf y0 y1 y2 y3 y4 y5 y6 f0 f1 f2 f3 f4 f5 f6 t0 t1 t2 t3 t4 t5 t6
            exact bodyPost_ret (v := .tuple #[.agg #[.int .i64 op, .int .i64 0, .int .i64 0, .int .i64 0, .int .i64 0, .int .i64 x, .slice (some ⟨B, 0, none⟩) 5 5], .int .i64 (jj : Int), .bool true]) (by simp [results, Tryz.results50, go_sem, g0, g1, g2, g3, g4, g5, g6]) rfl ⟨by rw [HRF.out], by rw [HRF.out]; exact HE.out.1, HE.out.2⟩
      | false =>
        rw [hl] at HLT
        rw [hl, if_neg (by decide)] at hpa
        have HRF := hide (HR.out.trans (sumA_none hpa))
        clear hpa hl hd HR
        generalize bt s j = c2 at *
        go_wp2_with fail
        refine (HBJ.out _).mono ?_
        rintro e w' ⟨rfl, hw'⟩
        rw [hw']
        clear hw' w'
        go_wp2_with fail
        refine (HDG.out _).mono ?_
        rintro e w' ⟨rfl, hw'⟩
        rw [hw']
        clear hw' w'
        go_wp2_with fail
        refine (HBJ.out _).mono ?_
        rintro e w' ⟨rfl, hw'⟩
        rw [hw']
        clear hw' w'
        go_wp2_with fail
        refine (HLT.out _).mono ?_
        rintro e w' ⟨rfl, hw'⟩
        rw [hw']
        clear hw' w'
        obtain ⟨y0, y1, y2, y3, y4, y5, y6⟩ := (box7_cells HSM.out.2.1).1
        obtain ⟨f0, f1, f2, f3, f4, f5, f6⟩ := box7_froz HSM.out.2.2.1
        obtain ⟨Wf, hWf, q1, q2, -⟩ := seven_behind HSM.out.2.2.1 (Below.refl (w.heap.size + 1) _) (Nat.le_refl _) (.int .i64 op) (.int .i64 0) (.int .i64 0) (.int .i64 0) (.int .i64 0) (.int .i64 x) (.slice (some ⟨B, 0, none⟩) 5 5)
        obtain ⟨t0, t1, t2, t3, t4, t5, t6⟩ := (box7_cells HSM.out.2.2.1).1
        have HE := hide (smI_end HSM.out hB q2)
        obtain ⟨g0, g1, g2, g3, g4, g5, g6⟩ := (box7_cells q1).1
        clear q1 q2
        go_wp2
        try rw [hWf]
        clear hWf y0 y1 y2 y3 y4 y5 y6 f0 f1 f2 f3 f4 f5 f6 t0 t1 t2 t3 t4 t5 t6
        exact bodyPost_ret (v := .tuple #[.agg #[.int .i64 op, .int .i64 0, .int .i64 0, .int .i64 0, .int .i64 0, .int .i64 x, .slice (some ⟨B, 0, none⟩) 5 5], .int .i64 (j : Int), .bool false]) (by simp [results, Tryz.results50, go_sem, g0, g1, g2, g3, g4, g5, g6]) rfl ⟨by rw [HRF.out], by rw [HRF.out]; exact HE.out.1, HE.out.2⟩
end Go.Proofs.YtafbggbdlcfbdaaGreatDoor

/- The reference's sureAt, spotAt: contracts. -/
namespace Go.Proofs.YtafbggbdlcfbdaaGreatDoor
open Go.RowKit

set_option maxHeartbeats 4000000 in
set_option maxRecDepth 4000 in
theorem sureAt_yes (s : List UInt8) (i : Nat) (c : UInt8) (h : bt s i = c) (hc : c ≠ 0) (hs : s.length ≤ 1000000000) (w : World) : Calls Tryz.prog 32 #[.string (bs s), .int .i64 (i : Int), .string (bs [c])] w fun e w' => e = .returned (.tuple #[.int .i64 ((i + 1 : Nat) : Int), .bool true]) ∧ Below w.heap.size w w' := by
  have hi2 : i < s.length := bt_in (by rw [h]; exact hc)
  have hii : ¬ ((i : Int) ≥ (s.length : Int)) := by omega
  have hsz := bs_size s
  have hz2 := bs_size [c]
  have HBY := hide (fun W => byteAt_any s i W)
  have hx := fun W => bs_at [c] 0 (by simp) W
  have hg := bs_get [c] 0
  rw [show bt [c] 0 = c from rfl] at hx hg
  rw [h] at HBY
  have hne : (!((c.toNat : Int) == (c.toNat : Int))) = false := by simp
  clear h hc
  go_enter Tryz.func32, Tryz.ntmps32
  go_wp2
  go_loopw [1, 8] (fun iv kv wx => ∃ k : Nat, k ≤ 1 ∧ iv = .int .i64 ((i + k : Nat) : Int) ∧ kv = .int .i64 (k : Int) ∧ Below w.heap.size w wx) (fun _ kv _ => 1 - (intOf kv).toNat)
  case atStart => exact ⟨0, by omega, rfl, rfl, Below.refl _ _⟩
  case round =>
    obtain ⟨k, hk, rfl, rfl, hb⟩ := hrel
    have HB := hide hb
    clear hb
    by_cases hk0 : k = 0
    · subst hk0
      rw [Nat.add_zero]
      go_upto_region 4 with fail
      go_quiet (first | (go_at_call 30; refine Calls.quiet_of_same (HBY.out _)))
      go_wp2
      exact ⟨⟨1, by omega, rfl, rfl, below_drewN HB.out nq⟩, by simp [intOf]⟩
    · obtain rfl : k = 1 := by omega
      go_wp2
      go_ret2
      exact ⟨rfl, HB.out⟩
set_option maxHeartbeats 4000000 in
set_option maxRecDepth 4000 in
theorem sureAt_no (s : List UInt8) (i : Nat) (c : UInt8) (h : ¬ bt s i = c) (w : World) : Calls Tryz.prog 32 #[.string (bs s), .int .i64 (i : Int), .string (bs [c])] w fun e w' => e = .returned (.tuple #[.int .i64 ((i : Nat) : Int), .bool false]) ∧ Below w.heap.size w w' := by
  have hsz := bs_size s
  have hz2 := bs_size [c]
  have HBY := hide (fun W => byteAt_any s i W)
  have hx := fun W => bs_at [c] 0 (by simp) W
  have hg := bs_get [c] 0
  rw [show bt [c] 0 = c from rfl] at hx hg
  have hne : (((bt s i).toNat : Int) == (c.toNat : Int)) = false := u8_ne c h
  have hne2 : (((bt s i).toNat : Int) != (c.toNat : Int)) = true := by unfold bne; rw [hne]; rfl
  clear h
  generalize bt s i = d at *
  go_enter Tryz.func32, Tryz.ntmps32
  go_wp2
  go_loopw [1, 8] (fun iv kv wx => ∃ k : Nat, k = 0 ∧ iv = .int .i64 ((i + k : Nat) : Int) ∧ kv = .int .i64 (k : Int) ∧ Below w.heap.size w wx) (fun _ kv _ => 1 - (intOf kv).toNat)
  case atStart => exact ⟨0, rfl, rfl, rfl, Below.refl _ _⟩
  case round =>
    obtain ⟨k, hk, rfl, rfl, hb⟩ := hrel
    have HB := hide hb
    clear hb
    subst hk
    rw [Nat.add_zero]
    go_upto_region 4 with fail
    go_quiet (first | (go_at_call 30; refine Calls.quiet_of_same (HBY.out _)))
    go_wp2
    go_ret2
    exact ⟨rfl, below_drewN HB.out nq⟩
theorem sureAt_any (s : List UInt8) (i : Nat) (c : UInt8) (hc : c ≠ 0) (hs : s.length ≤ 1000000000) (w : World) : Calls Tryz.prog 32 #[.string (bs s), .int .i64 (i : Int), .string (bs [c])] w fun e w' => e = .returned (.tuple #[.int .i64 ((if bt s i = c then i + 1 else i : Nat) : Int), .bool (decide (bt s i = c))]) ∧ Below w.heap.size w w' := by
  by_cases h : bt s i = c
  · rw [if_pos h, decide_eq_true h]
    exact sureAt_yes s i c h hc hs w
  · rw [if_neg h, decide_eq_false h]
    exact sureAt_no s i c h w
/-- A word and a variable, as a result. -/
def spR (o : SpO) : Value := .tuple #[.int .i64 (o.w : Int), .int .i64 (o.v : Int), .int .i64 (o.e : Int), .bool o.ok]
set_option maxHeartbeats 8000000 in
set_option maxRecDepth 4000 in
theorem spotAt_any (s : List UInt8) (i : Nat) (hs : s.length ≤ 1000000000) (w : World) : Calls Tryz.prog 47 #[.string (bs s), .int .i64 (i : Int)] w fun e w' => e = .returned (spR (spotA s i)) ∧ Below w.heap.size w w' := by
  have HR : Hid (spotA s i = if bt s i = 64 then (if isDg (bt s (i + 1)) = true then (if bt s (numA s (i + 1)).2 = 91 then (if isLt (bt s ((numA s (i + 1)).2 + 1)) = true then (if bt s ((numA s (i + 1)).2 + 2) = 93 then ⟨(numA s (i + 1)).1, (bt s ((numA s (i + 1)).2 + 1)).toNat - 97, (numA s (i + 1)).2 + 3, true⟩ else ⟨(numA s (i + 1)).1, (bt s ((numA s (i + 1)).2 + 1)).toNat - 97, (numA s (i + 1)).2 + 2, false⟩) else ⟨0, 0, (numA s (i + 1)).2 + 1, false⟩) else ⟨0, 0, (numA s (i + 1)).2, false⟩) else ⟨0, 0, i + 1, false⟩) else ⟨0, 0, i, false⟩) := rfl
  unfold spR
  generalize spotA s i = R at HR ⊢
  have hr := HR.out
  clear HR
  by_cases h1 : bt s i = 64
  · have l1 : i < s.length := bt_in (by rw [h1]; decide)
    rw [if_pos h1] at hr
    have HS1 := hide (fun W => sureAt_yes s i 64 h1 (by decide) hs W)
    have HBY := hide (fun W => byteAt_any s (i + 1) W)
    have HDG := hide (fun W => digit_any (bt s (i + 1)) W)
    cases h2 : isDg (bt s (i + 1)) with
    | true =>
      rw [h2] at hr HDG
      rw [if_pos rfl] at hr
      have HNA := hide (fun W => numberAt_any s (i + 1) h2 hs W)
      obtain ⟨b1, b2, b3⟩ := numA_bd h2
      generalize numA s (i + 1) = na at *
      obtain ⟨wd, j⟩ := na
      simp only [] at hr b1 b2 b3 HNA
      by_cases h3 : bt s j = 91
      · have l3 : j < s.length := bt_in (by rw [h3]; decide)
        rw [if_pos h3] at hr
        have HS2 := hide (fun W => sureAt_yes s j 91 h3 (by decide) hs W)
        have HBY2 := hide (fun W => byteAt_any s (j + 1) W)
        have HLT := hide (fun W => isletter_any (bt s (j + 1)) W)
        cases h4 : isLt (bt s (j + 1)) with
        | true =>
          have l4 := lt_in h4
          have b4 := lt_bd h4
          rw [h4] at hr HLT
          rw [if_pos rfl] at hr
          have HS3 := hide (fun W => sureAt_any s (j + 2) 93 (by decide) hs W)
          have hx := fun W => bs_at s (j + 1) l4 W
          have hg := bs_get s (j + 1)
          have hsz := bs_size s
          have HRR : Hid (R = ⟨wd, (bt s (j + 1)).toNat - 97, if bt s (j + 2) = 93 then j + 2 + 1 else j + 2, decide (bt s (j + 2) = 93)⟩) := by
            show _ = _
            rw [hr]
            by_cases h5 : bt s (j + 2) = 93
            · rw [if_pos h5, if_pos h5, decide_eq_true h5]
            · rw [if_neg h5, if_neg h5, decide_eq_false h5]
          clear hr h1 h2 h3 h4
          generalize (if bt s (j + 2) = 93 then j + 2 + 1 else j + 2) = e3 at HS3 HRR
          generalize decide (bt s (j + 2) = 93) = d3 at HS3 HRR
          generalize bt s (j + 1) = c at *
          generalize bt s (i + 1) = c1 at *
          obtain ⟨q, hq⟩ : ∃ q : Nat, c.toNat = q + 97 := ⟨c.toNat - 97, by omega⟩
          rw [hq] at hx
          have HRQ : Hid (R = ⟨wd, q, e3, d3⟩) := by show _ = _; rw [HRR.out, hq, Nat.add_sub_cancel]
          rw [hq] at HBY2 HLT
          have hg2 : ∀ h, ((bs s)[j + 1]'h).toNat = q + 97 := fun h => by rw [hg h, hq]
          have hq5 : q < 5 := by omega
          clear hg HRR hq b4
          go_enter Tryz.func47, Tryz.ntmps47
          go_wp2_with fail
          refine (HS1.out _).mono ?_
          rintro e w1 ⟨rfl, hw1⟩
          have HW1 := hide hw1
          clear hw1
          go_wp2_with fail
          refine (HBY.out _).mono ?_
          rintro e w' ⟨rfl, hw'⟩
          rw [hw']
          clear hw' w'
          go_wp2_with fail
          refine (HDG.out _).mono ?_
          rintro e w' ⟨rfl, hw'⟩
          rw [hw']
          clear hw' w'
          go_wp2_with fail
          refine (HNA.out _).mono ?_
          rintro e w' ⟨rfl, hw'⟩
          rw [hw']
          clear hw' w'
          go_wp2_with fail
          refine (HS2.out _).mono ?_
          rintro e w2 ⟨rfl, hw2⟩
          have HW2 := hide hw2
          clear hw2
          go_wp2_with fail
          refine (HBY2.out _).mono ?_
          rintro e w' ⟨rfl, hw'⟩
          rw [hw']
          clear hw' w'
          go_wp2_with fail
          refine (HLT.out _).mono ?_
          rintro e w' ⟨rfl, hw'⟩
          rw [hw']
          clear hw' w'
          go_wp2_with fail
          refine (HS3.out _).mono ?_
          rintro e w3 ⟨rfl, hw3⟩
          have HW3 := hide hw3
          clear hw3
          go_wp2
          exact bodyPost_ret (v := .tuple #[.int .i64 (wd : Int), .int .i64 (q : Int), .int .i64 (e3 : Int), .bool d3]) (by simp [results, Tryz.results47, go_sem]) rfl ⟨by rw [HRQ.out], below_step (below_step HW1.out HW2.out) HW3.out⟩
        | false =>
          rw [h4] at hr HLT
          rw [if_neg (by decide)] at hr
          have HRQ := hide hr
          clear hr h1 h2 h3 h4
          generalize bt s (j + 1) = c at *
          generalize bt s (i + 1) = c1 at *
          go_enter Tryz.func47, Tryz.ntmps47
          go_wp2_with fail
          refine (HS1.out _).mono ?_
          rintro e w1 ⟨rfl, hw1⟩
          have HW1 := hide hw1
          clear hw1
          go_wp2_with fail
          refine (HBY.out _).mono ?_
          rintro e w' ⟨rfl, hw'⟩
          rw [hw']
          clear hw' w'
          go_wp2_with fail
          refine (HDG.out _).mono ?_
          rintro e w' ⟨rfl, hw'⟩
          rw [hw']
          clear hw' w'
          go_wp2_with fail
          refine (HNA.out _).mono ?_
          rintro e w' ⟨rfl, hw'⟩
          rw [hw']
          clear hw' w'
          go_wp2_with fail
          refine (HS2.out _).mono ?_
          rintro e w2 ⟨rfl, hw2⟩
          have HW2 := hide hw2
          clear hw2
          go_wp2_with fail
          refine (HBY2.out _).mono ?_
          rintro e w' ⟨rfl, hw'⟩
          rw [hw']
          clear hw' w'
          go_wp2_with fail
          refine (HLT.out _).mono ?_
          rintro e w' ⟨rfl, hw'⟩
          rw [hw']
          clear hw' w'
          go_wp2
          exact bodyPost_ret (v := .tuple #[.int .i64 0, .int .i64 0, .int .i64 ((j + 1 : Nat) : Int), .bool false]) (by simp [results, Tryz.results47, go_sem]) rfl ⟨by rw [HRQ.out]; rfl, below_step HW1.out HW2.out⟩
      · rw [if_neg h3] at hr
        have HS2 := hide (fun W => sureAt_no s j 91 h3 W)
        have HRQ := hide hr
        clear hr h1 h2 h3
        generalize bt s (i + 1) = c1 at *
        go_enter Tryz.func47, Tryz.ntmps47
        go_wp2_with fail
        refine (HS1.out _).mono ?_
        rintro e w1 ⟨rfl, hw1⟩
        have HW1 := hide hw1
        clear hw1
        go_wp2_with fail
        refine (HBY.out _).mono ?_
        rintro e w' ⟨rfl, hw'⟩
        rw [hw']
        clear hw' w'
        go_wp2_with fail
        refine (HDG.out _).mono ?_
        rintro e w' ⟨rfl, hw'⟩
        rw [hw']
        clear hw' w'
        go_wp2_with fail
        refine (HNA.out _).mono ?_
        rintro e w' ⟨rfl, hw'⟩
        rw [hw']
        clear hw' w'
        go_wp2_with fail
        refine (HS2.out _).mono ?_
        rintro e w2 ⟨rfl, hw2⟩
        have HW2 := hide hw2
        clear hw2
        go_wp2
        exact bodyPost_ret (v := .tuple #[.int .i64 0, .int .i64 0, .int .i64 (j : Int), .bool false]) (by simp [results, Tryz.results47, go_sem]) rfl ⟨by rw [HRQ.out]; rfl, below_step HW1.out HW2.out⟩
    | false =>
      rw [h2] at hr HDG
      rw [if_neg (by decide)] at hr
      have HRQ := hide hr
      clear hr h1 h2
      generalize bt s (i + 1) = c1 at *
      go_enter Tryz.func47, Tryz.ntmps47
      go_wp2_with fail
      refine (HS1.out _).mono ?_
      rintro e w1 ⟨rfl, hw1⟩
      have HW1 := hide hw1
      clear hw1
      go_wp2_with fail
      refine (HBY.out _).mono ?_
      rintro e w' ⟨rfl, hw'⟩
      rw [hw']
      clear hw' w'
      go_wp2_with fail
      refine (HDG.out _).mono ?_
      rintro e w' ⟨rfl, hw'⟩
      rw [hw']
      clear hw' w'
      go_wp2
      exact bodyPost_ret (v := .tuple #[.int .i64 0, .int .i64 0, .int .i64 ((i + 1 : Nat) : Int), .bool false]) (by simp [results, Tryz.results47, go_sem]) rfl ⟨by rw [HRQ.out]; rfl, HW1.out⟩
  · rw [if_neg h1] at hr
    have HS1 := hide (fun W => sureAt_no s i 64 h1 W)
    have HRQ := hide hr
    clear hr h1
    go_enter Tryz.func47, Tryz.ntmps47
    go_wp2_with fail
    refine (HS1.out _).mono ?_
    rintro e w1 ⟨rfl, hw1⟩
    have HW1 := hide hw1
    clear hw1
    go_wp2
    exact bodyPost_ret (v := .tuple #[.int .i64 0, .int .i64 0, .int .i64 (i : Int), .bool false]) (by simp [results, Tryz.results47, go_sem]) rfl ⟨by rw [HRQ.out]; rfl, HW1.out⟩
end Go.Proofs.YtafbggbdlcfbdaaGreatDoor

/- The reference's atomAt: contract. -/
namespace Go.Proofs.YtafbggbdlcfbdaaGreatDoor
open Go.RowKit

/-- What atomAt hands back. -/
def AtR (w : World) (o : Option Nd × Nat) (e : Ending) (w' : World) : Prop := ∃ (n : Nd) (a : Option Addr) (c : Nat), e = .returned (.tuple #[ndV n a c, .int .i64 (o.2 : Int), .bool o.1.isSome]) ∧ SlN w.heap.size w' a n.cf.length n.cf ∧ ndWf n ∧ (∀ m, o.1 = some m → n = m) ∧ Below w.heap.size w w'
/-- A sum's node in the making. -/
def AtI (w : World) (op nm : Int) (cf : List Int) (wx : World) : Prop := CfAt wx (w.heap.size + 1) cf ∧ wx.heap[w.heap.size]? = some zNO ∧ wx.heap[w.heap.size + 2]? = some (nbO op nm (w.heap.size + 1)) ∧ Below w.heap.size w wx
theorem atI_start (w : World) : AtI w 1 0 zer5 (((w.alloc zNO).alloc (.cells (madeCells #[.int .i64 0] 5) 3)).alloc (nbO 1 0 (w.heap.size + 1))) := by
  have z1 : (w.alloc zNO).heap.size = w.heap.size + 1 := by simp
  have z2 : ((w.alloc zNO).alloc (.cells (madeCells #[.int .i64 0] 5) 3)).heap.size = w.heap.size + 2 := by simp
  refine ⟨?_, ?_, ?_, ?_⟩
  · have h : CfAt ((w.alloc zNO).alloc (.cells (madeCells #[.int .i64 0] 5) 3)) (w.heap.size + 1) zer5 := by
      refine ⟨rfl, ?_⟩
      have h := World.rowIs_made (w.alloc zNO) (.int .i64 0) 5 3
      rw [z1] at h
      exact h.congr fun i hi => by
        match i, hi with
        | 0, _ => rfl
        | 1, _ => rfl
        | 2, _ => rfl
        | 3, _ => rfl
        | 4, _ => rfl
    exact cfAt_block h (Below.heap_alloc _ _ _ (by omega))
  · rw [Below.heap_alloc _ _ _ (by omega), Below.heap_alloc _ _ _ (by omega), heap_alloc_last]
  · rw [← z2, heap_alloc_last]
  · exact (((Below.refl _ _).alloc (Nat.le_refl _) _).alloc (by omega) _).alloc (by omega) _
theorem atI_sum {w wx W : World} {op nm : Int} {cf cf' : List Int} (h : AtI w op nm cf wx) (hg : wx.grownBy W (some (w.heap.size + 1))) (hc : CfAt W (w.heap.size + 1) cf') : AtI w op nm cf' W := by
  obtain ⟨h1, h2, h3, h4⟩ := h
  have l2 := (Array.getElem?_eq_some_iff.1 h2).1
  have l3 := (Array.getElem?_eq_some_iff.1 h3).1
  refine ⟨hc, (hg.block _ l2 (by simp)).trans h2, (hg.block _ l3 (by simp)).trans h3, h4.trans ⟨hg.os, hg.tape, hg.output, hg.size, fun k hk => hg.block k (by omega) (by simp; omega)⟩⟩
theorem atI_node {w wx W : World} {op nm nm' op' : Int} {cf : List Int} (h : AtI w op nm cf wx) (h1 : W.heap[w.heap.size + 2]? = some (nbO op' nm' (w.heap.size + 1))) (h2 : ∀ x, x ≠ w.heap.size + 2 → W.heap[x]? = wx.heap[x]?) (h3 : Below (w.heap.size + 2) wx W) : AtI w op' nm' cf W := by
  obtain ⟨g1, g2, g3, g4⟩ := h
  exact ⟨cfAt_block g1 (h2 _ (by omega)), (h2 _ (by omega)).trans g2, h1, g4.trans (h3.mono (by omega))⟩
theorem atI_op {w wx : World} {op nm : Int} {cf : List Int} (h : AtI w op nm cf wx) (op' : Int) : AtI w op' nm cf (wx.setCell ⟨w.heap.size + 2, 0, none⟩ (.int .i64 op')) := by
  refine atI_node h ?_ (fun x hx => Below.heap_setCell _ _ _ _ hx) ((Below.refl (w.heap.size + 2) wx).setCell (p := ⟨w.heap.size + 2, 0, none⟩) (Nat.le_refl _) _)
  simp [World.setCell, Array.getElem?_modify, h.2.2.1]
theorem bdC_wf {M : Int} {cf : List Int} {nm : Int} (h : BdC M cf nm) (hM : M ≤ 1000000000000) : (Lit.int .i64 nm).wf = true ∧ ∀ x ∈ cf, (Lit.int .i64 x).wf = true := by
  have key : ∀ x : Int, -M ≤ x → x ≤ M → (Lit.int .i64 x).wf = true := fun x h1 h2 => by
    have e1 : IntKind.i64.min = -9223372036854775808 := rfl
    have e2 : IntKind.i64.max = 9223372036854775807 := rfl
    simp [Lit.wf, e1, e2]
    omega
  refine ⟨key _ h.2.1 h.2.2, fun x hx => ?_⟩
  obtain ⟨k, hk, e⟩ := List.getElem_of_mem hx
  have := h.1 k
  rw [List.getD_eq_getElem?_getD, List.getElem?_eq_getElem hk, e] at this
  exact key _ this.1 this.2
theorem cfAt_sl {W : World} {B : Nat} {cf : List Int} (h : CfAt W B cf) (hw : ∀ x ∈ cf, (Lit.int .i64 x).wf = true) (k : Nat) (hk : k ≤ 5) : Sl W (some ⟨B, 0, none⟩) k (cf.take k) := by
  obtain ⟨hl, hr⟩ := h
  refine ⟨by rw [List.length_take]; omega, by unfold maxLen; omega, fun x hx => hw x (List.mem_of_mem_take hx), .inr ⟨B, 0, rfl, fun i hi => ?_⟩⟩
  rw [Nat.zero_add, hr.cell (by omega), List.getD_eq_getElem?_getD, List.getD_eq_getElem?_getD, List.getElem?_take, if_pos hi]
end Go.Proofs.YtafbggbdlcfbdaaGreatDoor

/- The reference's atomAt at a word: contract. -/
namespace Go.Proofs.YtafbggbdlcfbdaaGreatDoor
open Go.RowKit

/-- A node in a box, the result's box ahead of it. -/
def NbI (w : World) (cs : Array Value) (wx : World) : Prop := wx.heap[w.heap.size]? = some zNO ∧ wx.heap[w.heap.size + 1]? = some (.cells cs 41 (0, 0)) ∧ Below w.heap.size w wx
theorem nbI_below {w wx W : World} {cs : Array Value} (h : NbI w cs wx) (hb : Below wx.heap.size wx W) : NbI w cs W := by
  obtain ⟨h1, h2, h3⟩ := h
  exact ⟨(hb.block _ (Array.getElem?_eq_some_iff.1 h1).1).trans h1, (hb.block _ (Array.getElem?_eq_some_iff.1 h2).1).trans h2, below_step h3 hb⟩
theorem nbI_set {w wx : World} {cs cs' : Array Value} (h : NbI w cs wx) (k : Nat) (v : Value) (hc : cs' = cs.setIfInBounds k v) : NbI w cs' (wx.setCell ⟨w.heap.size + 1, k, none⟩ v) := by
  obtain ⟨h1, h2, h3⟩ := h
  refine ⟨(Below.heap_setCell _ _ _ _ (by show w.heap.size ≠ w.heap.size + 1; omega)).trans h1, ?_, h3.setCell (by show w.heap.size ≤ w.heap.size + 1; omega) _⟩
  subst hc
  simp [World.setCell, Array.getElem?_modify, h2]
theorem nbI_start (w : World) (cs : Array Value) : NbI w cs ((w.alloc zNO).alloc (.cells cs 41)) := by
  have z1 : (w.alloc zNO).heap.size = w.heap.size + 1 := by simp
  refine ⟨?_, ?_, ((Below.refl _ _).alloc (Nat.le_refl _) _).alloc (by omega) _⟩
  · rw [Below.heap_alloc _ _ _ (by omega), heap_alloc_last]
  · rw [← z1, heap_alloc_last]
theorem atR_word {w Wf : World} {n : Nd} {e : Nat} {ok : Bool} {R : Option Nd × Nat} (hc : n.cf = []) (hR : R.2 = e ∧ R.1.isSome = ok ∧ ndWf n ∧ ∀ m, R.1 = some m → n = m) (hb : Below w.heap.size w Wf) : AtR w R (.returned (.tuple #[.agg #[.int .i64 n.op, .int .i64 n.var, .int .i64 n.oth, .int .i64 n.wd, .int .i64 n.wd2, .int .i64 n.num, .slice none 0 0], .int .i64 (e : Int), .bool ok])) Wf := by
  obtain ⟨h1, h2, h3, h4⟩ := hR
  refine ⟨n, none, 0, by rw [h1, h2]; simp [ndV, hc], ?_, h3, h4, hb⟩
  rw [hc]
  exact ⟨⟨rfl, (by decide), (fun x hx => by cases hx), .inl rfl⟩, fun ad h => by cases h⟩
theorem ndWf_small {op v o wd wd2 nm : Nat} (h : op ≤ 1000 ∧ v ≤ 1000 ∧ o ≤ 1000 ∧ wd ≤ 1000 ∧ wd2 ≤ 1000 ∧ nm ≤ 1000) : ndWf ⟨op, v, o, wd, wd2, nm, []⟩ := fun x hx => by
  have e1 : IntKind.i64.min = -9223372036854775808 := rfl
  have e2 : IntKind.i64.max = 9223372036854775807 := rfl
  simp only [List.mem_cons, List.not_mem_nil, or_false] at hx
  have : 0 ≤ x ∧ x ≤ 1000 := by rcases hx with rfl | rfl | rfl | rfl | rfl | rfl <;> omega
  simp [Lit.wf, e1, e2]
  omega
set_option maxHeartbeats 16000000 in
set_option maxRecDepth 8000 in
theorem atom_word (s : List UInt8) (i : Nat) (hs : s.length ≤ 2000) (hi : i ≤ s.length) (h64 : bt s i = 64) (w : World) : Calls Tryz.prog 33 #[.string (bs s), .int .i64 (i : Int)] w (AtR w (atomA s i)) := by
  have HBY := hide (fun j W => byteAt_any s j W)
  have HBI := hide (HBY.out i)
  have hne : (((bt s i).toNat : Int) == 64) = true := u8_is 64 h64
  have hA : atomA s i = if (spotA s i).ok = true then (if bt s (spotA s i).e = 61 then (if bt s ((spotA s i).e + 1) = 64 then (if (spotA s ((spotA s i).e + 1)).ok = true then (some ⟨4, (spotA s i).v, (spotA s ((spotA s i).e + 1)).v, (spotA s i).w, (spotA s ((spotA s i).e + 1)).w, 0, []⟩, (spotA s ((spotA s i).e + 1)).e) else (none, (spotA s ((spotA s i).e + 1)).e)) else if isDg (bt s ((spotA s i).e + 1)) = true then (some ⟨3, (spotA s i).v, 0, (spotA s i).w, 0, (numA s ((spotA s i).e + 1)).1, []⟩, (numA s ((spotA s i).e + 1)).2) else (none, (spotA s i).e + 1)) else (none, (spotA s i).e)) else (none, (spotA s i).e) := by unfold atomA; rw [if_pos h64]
  have HSP := hide (fun W => spotAt_any s i (by omega) W)
  obtain ⟨p1, p2, p3, p4⟩ := spotA_bd (s := s) hi
  generalize atomA s i = R at hA ⊢
  generalize spotA s i = sp at *
  obtain ⟨wd, v, e, ok⟩ := sp
  unfold spR at HSP
  simp only [] at hA p1 p2 p3 p4 HSP
  have HA := hide hA
  clear hA
  have HN0 := hide (nbI_start w #[.int .i64 3, .int .i64 0, .int .i64 0, .int .i64 0, .int .i64 0, .int .i64 0, .slice none 0 0])
  generalize bt s i = ci at *
  go_enter Tryz.func33, Tryz.ntmps33
  go_wp2_with fail
  refine (HBI.out _).mono ?_
  rintro e' w' ⟨rfl, hw'⟩
  rw [hw']
  clear hw' w'
  go_upto_region 3 with fail
  obtain ⟨W0, hW0⟩ : ∃ W0, (w.alloc zNO).alloc (.cells #[.int .i64 3, .int .i64 0, .int .i64 0, .int .i64 0, .int .i64 0, .int .i64 0, .slice none 0 0] 41) = W0 := ⟨_, rfl⟩
  rw [hW0] at HN0 ⊢
  clear hW0
  obtain ⟨z0, z1, z2, z3, z4, z5, z6⟩ := (box7_cells HN0.out.2.1).1
  go_wp2_with fail
  refine (HSP.out _).mono ?_
  rintro e' w1 ⟨rfl, hb1⟩
  have HN1 : Hid (NbI w #[.int .i64 3, .int .i64 0, .int .i64 0, .int .i64 0, .int .i64 0, .int .i64 0, .slice none 0 0] w1) := nbI_below HN0.out hb1
  clear hb1 z0 z1 z2 z3 z4 z5 z6
  obtain ⟨z0, z1, z2, z3, z4, z5, z6⟩ := (box7_cells HN1.out.2.1).1
  obtain ⟨f0, f1, f2, f3, f4, f5, f6⟩ := box7_froz HN1.out.2.1
  clear HSP HBI HN0
  have hA := HA.out
  clear HA
  cases ok with
  | false =>
    rw [if_neg (by decide)] at hA
    have HR := hide hA
    clear hA
    obtain ⟨r0, r1, r2, r3, r4, r5, r6⟩ := box7_froz HN1.out.1
    obtain ⟨t0, t1, t2, t3, t4, t5, t6⟩ := (box7_cells HN1.out.1).1
    obtain ⟨Wf, hWf, q1, q2, -⟩ := seven_behind HN1.out.1 (Below.refl w.heap.size _) (Nat.le_refl _) (.int .i64 3) (.int .i64 0) (.int .i64 0) (.int .i64 0) (.int .i64 0) (.int .i64 0) (.slice none 0 0)
    obtain ⟨g0, g1, g2, g3, g4, g5, g6⟩ := (box7_cells q1).1
    have HEB := hide (HN1.out.2.2.trans q2)
    clear q1 q2
    go_wp2
    try rw [hWf]
    clear hWf
    exact bodyPost_ret (v := .tuple #[.agg #[.int .i64 3, .int .i64 0, .int .i64 0, .int .i64 0, .int .i64 0, .int .i64 0, .slice none 0 0], .int .i64 (e : Int), .bool false]) (by simp [results, Tryz.results33, go_sem, g0, g1, g2, g3, g4, g5, g6]) rfl (atR_word (n := ⟨3, 0, 0, 0, 0, 0, []⟩) rfl (by rw [HR.out]; exact ⟨rfl, rfl, ndWf_small (op := 3) (v := 0) (o := 0) (wd := 0) (wd2 := 0) (nm := 0) (by decide), fun m h => by cases h⟩) HEB.out)
  | true =>
    rw [if_pos rfl] at hA
    have HA := hide hA
    clear hA
    have HM1 : Hid (NbI w #[.int .i64 3, .int .i64 0, .int .i64 0, .int .i64 (wd : Int), .int .i64 0, .int .i64 0, .slice none 0 0] (w1.setCell ⟨w.heap.size + 1, 3, none⟩ (.int .i64 (wd : Int)))) := nbI_set HN1.out 3 _ (by simp)
    have HM2 : Hid (NbI w #[.int .i64 3, .int .i64 (v : Int), .int .i64 0, .int .i64 (wd : Int), .int .i64 0, .int .i64 0, .slice none 0 0] ((w1.setCell ⟨w.heap.size + 1, 3, none⟩ (.int .i64 (wd : Int))).setCell ⟨w.heap.size + 1, 1, none⟩ (.int .i64 (v : Int)))) := nbI_set HM1.out 1 _ (by simp)
    obtain ⟨W2, hW2⟩ : ∃ W2, (w1.setCell ⟨w.heap.size + 1, 3, none⟩ (.int .i64 (wd : Int))).setCell ⟨w.heap.size + 1, 1, none⟩ (.int .i64 (v : Int)) = W2 := ⟨_, rfl⟩
    rw [hW2] at HM2
    have m1 := (box7_cells HM1.out.2.1).1.2.1
    have r1 := (box7_froz HM1.out.2.1).2.1
    by_cases h61 : bt s e = 61
    · have le : e < s.length := bt_in (by rw [h61]; decide)
      have HSU := hide (fun W => sureAt_yes s e 61 h61 (by decide) (by omega) W)
      have hA := HA.out
      rw [if_pos h61] at hA
      have HA2 := hide hA
      clear HA hA
      have HBE := hide (HBY.out (e + 1))
      go_wp2_with fail
      refine (HSU.out _).mono ?_
      rintro e' w3 ⟨rfl, hb3⟩
      have HN3 : Hid (NbI w #[.int .i64 3, .int .i64 (v : Int), .int .i64 0, .int .i64 (wd : Int), .int .i64 0, .int .i64 0, .slice none 0 0] w3) := nbI_below HM2.out hb3
      clear hb3 z0 z1 z2 z3 z4 z5 z6
      obtain ⟨z0, z1, z2, z3, z4, z5, z6⟩ := (box7_cells HN3.out.2.1).1
      obtain ⟨f0, f1, f2, f3, f4, f5, f6⟩ := box7_froz HN3.out.2.1
      clear hW2 m1 r1 HM1 HM2 HN1 HSU h61
      have hA := HA2.out
      clear HA2
      by_cases h2 : bt s (e + 1) = 64
      · rw [if_pos h2] at hA
        have t2 : (((bt s (e + 1)).toNat : Int) == 64) = true := u8_is 64 h2
        have HSQ := hide (fun W => spotAt_any s (e + 1) (by omega) W)
        obtain ⟨q1, q2, q3, q4⟩ := spotA_bd (s := s) (i := e + 1) le
        clear h2
        generalize spotA s (e + 1) = sp at *
        obtain ⟨wd2, o, e2, ok2⟩ := sp
        unfold spR at HSQ
        simp only [] at hA q1 q2 q3 q4 HSQ
        have HR := hide hA
        clear hA
        generalize bt s (e + 1) = c2 at *
        have HM4 : Hid (NbI w #[.int .i64 4, .int .i64 (v : Int), .int .i64 0, .int .i64 (wd : Int), .int .i64 0, .int .i64 0, .slice none 0 0] (w3.setCell ⟨w.heap.size + 1, 0, none⟩ (.int .i64 4))) := nbI_set HN3.out 0 _ (by simp)
        obtain ⟨W4, hW4⟩ : ∃ W4, w3.setCell ⟨w.heap.size + 1, 0, none⟩ (.int .i64 4) = W4 := ⟨_, rfl⟩
        rw [hW4] at HM4
        go_wp2_with fail
        refine (HBE.out _).mono ?_
        rintro e' w' ⟨rfl, hw'⟩
        rw [hw']
        clear hw' w'
        go_upto_region 13 with fail
        try rw [hW4]
        clear hW4 f0 f1 f2 f3 f4 f5 f6
        go_wp2_with fail
        refine (HSQ.out _).mono ?_
        rintro e' w6 ⟨rfl, hb6⟩
        have HN6 : Hid (NbI w #[.int .i64 4, .int .i64 (v : Int), .int .i64 0, .int .i64 (wd : Int), .int .i64 0, .int .i64 0, .slice none 0 0] w6) := nbI_below HM4.out hb6
        clear hb6 z0 z1 z2 z3 z4 z5 z6
        obtain ⟨z0, z1, z2, z3, z4, z5, z6⟩ := (box7_cells HN6.out.2.1).1
        obtain ⟨f0, f1, f2, f3, f4, f5, f6⟩ := box7_froz HN6.out.2.1
        have HM7 : Hid (NbI w #[.int .i64 4, .int .i64 (v : Int), .int .i64 0, .int .i64 (wd : Int), .int .i64 (wd2 : Int), .int .i64 0, .slice none 0 0] (w6.setCell ⟨w.heap.size + 1, 4, none⟩ (.int .i64 (wd2 : Int)))) := nbI_set HN6.out 4 _ (by simp)
        have HM8 : Hid (NbI w #[.int .i64 4, .int .i64 (v : Int), .int .i64 (o : Int), .int .i64 (wd : Int), .int .i64 (wd2 : Int), .int .i64 0, .slice none 0 0] ((w6.setCell ⟨w.heap.size + 1, 4, none⟩ (.int .i64 (wd2 : Int))).setCell ⟨w.heap.size + 1, 2, none⟩ (.int .i64 (o : Int)))) := nbI_set HM7.out 2 _ (by simp)
        obtain ⟨W8, hW8⟩ : ∃ W8, (w6.setCell ⟨w.heap.size + 1, 4, none⟩ (.int .i64 (wd2 : Int))).setCell ⟨w.heap.size + 1, 2, none⟩ (.int .i64 (o : Int)) = W8 := ⟨_, rfl⟩
        rw [hW8] at HM8
        have m1 := (box7_cells HM7.out.2.1).1.2.2.1
        have r1 := (box7_froz HM7.out.2.1).2.2.1
        go_upto_region 14 with fail
        try rw [hW8]
        clear hW8 m1 r1 z0 z1 z2 z3 z4 z5 z6 f0 f1 f2 f3 f4 f5 f6
        obtain ⟨z0, z1, z2, z3, z4, z5, z6⟩ := (box7_cells HM8.out.2.1).1
        obtain ⟨r0, r1, r2, r3, r4, r5, r6⟩ := box7_froz HM8.out.1
        obtain ⟨t0, t1, t2, t3, t4, t5, t6⟩ := (box7_cells HM8.out.1).1
        obtain ⟨Wf, hWf, q1, q2, -⟩ := seven_behind HM8.out.1 (Below.refl w.heap.size _) (Nat.le_refl _) (.int .i64 4) (.int .i64 (v : Int)) (.int .i64 (o : Int)) (.int .i64 (wd : Int)) (.int .i64 (wd2 : Int)) (.int .i64 0) (.slice none 0 0)
        obtain ⟨g0, g1, g2, g3, g4, g5, g6⟩ := (box7_cells q1).1
        have HEB := hide (HM8.out.2.2.trans q2)
        clear q1 q2
        go_wp2
        try rw [hWf]
        clear hWf
        exact bodyPost_ret (v := .tuple #[.agg #[.int .i64 4, .int .i64 (v : Int), .int .i64 (o : Int), .int .i64 (wd : Int), .int .i64 (wd2 : Int), .int .i64 0, .slice none 0 0], .int .i64 (e2 : Int), .bool ok2]) (by simp [results, Tryz.results33, go_sem, g0, g1, g2, g3, g4, g5, g6]) rfl (atR_word (n := ⟨4, v, o, wd, wd2, 0, []⟩) rfl (by rw [HR.out]; cases ok2 with | true => exact ⟨rfl, rfl, ndWf_small (op := 4) (v := v) (o := o) (wd := wd) (wd2 := wd2) (nm := 0) (by omega), fun m2 h => by injection h⟩ | false => exact ⟨rfl, rfl, ndWf_small (op := 4) (v := v) (o := o) (wd := wd) (wd2 := wd2) (nm := 0) (by omega), fun m2 h => by cases h⟩) HEB.out)
      · rw [if_neg h2] at hA
        have t2 : (((bt s (e + 1)).toNat : Int) == 64) = false := u8_ne 64 h2
        have HDG := hide (fun W => digit_any (bt s (e + 1)) W)
        clear h2
        cases hd : isDg (bt s (e + 1)) with
        | true =>
          rw [hd, if_pos rfl] at hA
          rw [hd] at HDG
          have HNA := hide (fun W => numberAt_any s (e + 1) hd (by omega) W)
          obtain ⟨b1, b2, b3⟩ := numA_bd hd
          clear hd
          generalize numA s (e + 1) = na at *
          obtain ⟨m, e2⟩ := na
          simp only [] at hA b1 b2 b3 HNA
          have HR := hide hA
          clear hA
          generalize bt s (e + 1) = c2 at *
          have HM5 : Hid (NbI w #[.int .i64 3, .int .i64 (v : Int), .int .i64 0, .int .i64 (wd : Int), .int .i64 0, .int .i64 (m : Int), .slice none 0 0] (w3.setCell ⟨w.heap.size + 1, 5, none⟩ (.int .i64 (m : Int)))) := nbI_set HN3.out 5 _ (by simp)
          obtain ⟨W5, hW5⟩ : ∃ W5, w3.setCell ⟨w.heap.size + 1, 5, none⟩ (.int .i64 (m : Int)) = W5 := ⟨_, rfl⟩
          rw [hW5] at HM5
          go_wp2_with fail
          refine (HBE.out _).mono ?_
          rintro e' w' ⟨rfl, hw'⟩
          rw [hw']
          clear hw' w'
          go_wp2_with fail
          refine (HBE.out _).mono ?_
          rintro e' w' ⟨rfl, hw'⟩
          rw [hw']
          clear hw' w'
          go_wp2_with fail
          refine (HDG.out _).mono ?_
          rintro e' w' ⟨rfl, hw'⟩
          rw [hw']
          clear hw' w'
          go_wp2_with fail
          refine (HNA.out _).mono ?_
          rintro e' w' ⟨rfl, hw'⟩
          rw [hw']
          clear hw' w'
          go_upto_region 18 with fail
          try rw [hW5]
          clear hW5 z0 z1 z2 z3 z4 z5 z6 f0 f1 f2 f3 f4 f5 f6
          obtain ⟨z0, z1, z2, z3, z4, z5, z6⟩ := (box7_cells HM5.out.2.1).1
          obtain ⟨r0, r1, r2, r3, r4, r5, r6⟩ := box7_froz HM5.out.1
          obtain ⟨t0, t1, t2, t3, t4, t5, t6⟩ := (box7_cells HM5.out.1).1
          obtain ⟨Wf, hWf, q1, q2, -⟩ := seven_behind HM5.out.1 (Below.refl w.heap.size _) (Nat.le_refl _) (.int .i64 3) (.int .i64 (v : Int)) (.int .i64 0) (.int .i64 (wd : Int)) (.int .i64 0) (.int .i64 (m : Int)) (.slice none 0 0)
          obtain ⟨g0, g1, g2, g3, g4, g5, g6⟩ := (box7_cells q1).1
          have HEB := hide (HM5.out.2.2.trans q2)
          clear q1 q2
          go_wp2
          try rw [hWf]
          clear hWf
          exact bodyPost_ret (v := .tuple #[.agg #[.int .i64 3, .int .i64 (v : Int), .int .i64 0, .int .i64 (wd : Int), .int .i64 0, .int .i64 (m : Int), .slice none 0 0], .int .i64 (e2 : Int), .bool true]) (by simp [results, Tryz.results33, go_sem, g0, g1, g2, g3, g4, g5, g6]) rfl (atR_word (n := ⟨3, v, 0, wd, 0, m, []⟩) rfl (by rw [HR.out]; exact ⟨rfl, rfl, ndWf_small (op := 3) (v := v) (o := 0) (wd := wd) (wd2 := 0) (nm := m) (by omega), fun m2 h => by injection h⟩) HEB.out)
        | false =>
          rw [hd, if_neg (by decide)] at hA
          rw [hd] at HDG
          have HR := hide hA
          clear hA hd
          generalize bt s (e + 1) = c2 at *
          go_wp2_with fail
          refine (HBE.out _).mono ?_
          rintro e' w' ⟨rfl, hw'⟩
          rw [hw']
          clear hw' w'
          go_wp2_with fail
          refine (HBE.out _).mono ?_
          rintro e' w' ⟨rfl, hw'⟩
          rw [hw']
          clear hw' w'
          go_wp2_with fail
          refine (HDG.out _).mono ?_
          rintro e' w' ⟨rfl, hw'⟩
          rw [hw']
          clear hw' w'
          obtain ⟨r0, r1, r2, r3, r4, r5, r6⟩ := box7_froz HN3.out.1
          obtain ⟨t0, t1, t2, t3, t4, t5, t6⟩ := (box7_cells HN3.out.1).1
          obtain ⟨Wf, hWf, q1, q2, -⟩ := seven_behind HN3.out.1 (Below.refl w.heap.size _) (Nat.le_refl _) (.int .i64 3) (.int .i64 (v : Int)) (.int .i64 0) (.int .i64 (wd : Int)) (.int .i64 0) (.int .i64 0) (.slice none 0 0)
          obtain ⟨g0, g1, g2, g3, g4, g5, g6⟩ := (box7_cells q1).1
          have HEB := hide (HN3.out.2.2.trans q2)
          clear q1 q2
          go_wp2
          try rw [hWf]
          clear hWf
          exact bodyPost_ret (v := .tuple #[.agg #[.int .i64 3, .int .i64 (v : Int), .int .i64 0, .int .i64 (wd : Int), .int .i64 0, .int .i64 0, .slice none 0 0], .int .i64 ((e + 1 : Nat) : Int), .bool false]) (by simp [results, Tryz.results33, go_sem, g0, g1, g2, g3, g4, g5, g6]) rfl (atR_word (n := ⟨3, v, 0, wd, 0, 0, []⟩) rfl (by rw [HR.out]; exact ⟨rfl, rfl, ndWf_small (op := 3) (v := v) (o := 0) (wd := wd) (wd2 := 0) (nm := 0) (by omega), fun m h => by cases h⟩) HEB.out)
    · have hA := HA.out
      rw [if_neg h61] at hA
      have HR := hide hA
      have HSU := hide (fun W => sureAt_no s e 61 h61 W)
      clear hA h61 HA
      go_wp2_with fail
      refine (HSU.out _).mono ?_
      rintro e' w3 ⟨rfl, hb3⟩
      have HN3 : Hid (NbI w #[.int .i64 3, .int .i64 (v : Int), .int .i64 0, .int .i64 (wd : Int), .int .i64 0, .int .i64 0, .slice none 0 0] w3) := nbI_below HM2.out hb3
      clear hb3 z0 z1 z2 z3 z4 z5 z6
      obtain ⟨z0, z1, z2, z3, z4, z5, z6⟩ := (box7_cells HN3.out.2.1).1
      obtain ⟨f0, f1, f2, f3, f4, f5, f6⟩ := box7_froz HN3.out.2.1
      clear hW2 m1 r1 HM1 HM2 HN1 HSU
      obtain ⟨r0, r1, r2, r3, r4, r5, r6⟩ := box7_froz HN3.out.1
      obtain ⟨t0, t1, t2, t3, t4, t5, t6⟩ := (box7_cells HN3.out.1).1
      obtain ⟨Wf, hWf, q1, q2, -⟩ := seven_behind HN3.out.1 (Below.refl w.heap.size _) (Nat.le_refl _) (.int .i64 3) (.int .i64 (v : Int)) (.int .i64 0) (.int .i64 (wd : Int)) (.int .i64 0) (.int .i64 0) (.slice none 0 0)
      obtain ⟨g0, g1, g2, g3, g4, g5, g6⟩ := (box7_cells q1).1
      have HEB := hide (HN3.out.2.2.trans q2)
      clear q1 q2
      go_wp2
      try rw [hWf]
      clear hWf
      exact bodyPost_ret (v := .tuple #[.agg #[.int .i64 3, .int .i64 (v : Int), .int .i64 0, .int .i64 (wd : Int), .int .i64 0, .int .i64 0, .slice none 0 0], .int .i64 (e : Int), .bool false]) (by simp [results, Tryz.results33, go_sem, g0, g1, g2, g3, g4, g5, g6]) rfl (atR_word (n := ⟨3, v, 0, wd, 0, 0, []⟩) rfl (by rw [HR.out]; exact ⟨rfl, rfl, ndWf_small (op := 3) (v := v) (o := 0) (wd := wd) (wd2 := 0) (nm := 0) (by omega), fun m h => by cases h⟩) HEB.out)
end Go.Proofs.YtafbggbdlcfbdaaGreatDoor

/- The reference's atomAt at a sum: contract. -/
namespace Go.Proofs.YtafbggbdlcfbdaaGreatDoor
open Go.RowKit

theorem ndWf_sum {op nm : Int} {cf : List Int} (h1 : (Lit.int .i64 nm).wf = true) (h2 : op = 1 ∨ op = 2) : ndWf ⟨op, 0, 0, 0, 0, nm, cf⟩ := fun x hx => by
  simp only [List.mem_cons, List.not_mem_nil, or_false] at hx
  rcases hx with rfl | rfl | rfl | rfl | rfl | rfl
  · rcases h2 with rfl | rfl <;> rfl
  · rfl
  · rfl
  · rfl
  · rfl
  · exact h1
theorem atR_five {w Wf : World} {op nm : Int} {cf : List Int} {e : Nat} {R : Option Nd × Nat} (hop : op = 1 ∨ op = 2) (hR : R = (none, e)) (hl : cf.length = 5) (hc : CfAt Wf (w.heap.size + 1) cf) (hw : (Lit.int .i64 nm).wf = true ∧ ∀ x ∈ cf, (Lit.int .i64 x).wf = true) (hb : Below w.heap.size w Wf) : AtR w R (.returned (.tuple #[.agg #[.int .i64 op, .int .i64 0, .int .i64 0, .int .i64 0, .int .i64 0, .int .i64 nm, .slice (some ⟨w.heap.size + 1, 0, none⟩) 5 5], .int .i64 (e : Int), .bool false])) Wf := by
  refine ⟨⟨op, 0, 0, 0, 0, nm, cf⟩, some ⟨w.heap.size + 1, 0, none⟩, 5, by rw [hR]; simp [ndV, hl], ⟨?_, fun ad h => by injection h with h; subst h; show w.heap.size ≤ w.heap.size + 1; omega⟩, ndWf_sum hw.1 hop, fun m h => (by rw [hR] at h; exact absurd h (by simp)), hb⟩
  have h := cfAt_sl hc hw.2 5 (Nat.le_refl _)
  rw [List.take_of_length_le (by omega)] at h
  show Sl _ _ cf.length cf
  rw [hl]
  exact h
theorem atR_trim {w Wf : World} {op nm : Int} {cf : List Int} {e : Nat} {ok : Bool} {R : Option Nd × Nat} (hop : op = 1 ∨ op = 2) (hR : R = if ok = true then (some ⟨op, 0, 0, 0, 0, nm, trimL cf⟩, e) else (none, e)) (hl : cf.length = 5) (hc : CfAt Wf (w.heap.size + 1) cf) (hw : (Lit.int .i64 nm).wf = true ∧ ∀ x ∈ cf, (Lit.int .i64 x).wf = true) (hb : Below w.heap.size w Wf) : AtR w R (.returned (.tuple #[.agg #[.int .i64 op, .int .i64 0, .int .i64 0, .int .i64 0, .int .i64 0, .int .i64 nm, .slice (some ⟨w.heap.size + 1, 0, none⟩) (lastN cf 5) 5], .int .i64 (e : Int), .bool ok])) Wf := by
  have h1 : (trimL cf).length = lastN cf 5 := by rw [trim_len, hl]
  have h2 := lastN_le cf 5
  refine ⟨⟨op, 0, 0, 0, 0, nm, trimL cf⟩, some ⟨w.heap.size + 1, 0, none⟩, 5, ?_, ⟨?_, fun ad h => by injection h with h; subst h; show w.heap.size ≤ w.heap.size + 1; omega⟩, ndWf_sum hw.1 hop, ?_, hb⟩
  · rw [hR]; cases ok <;> simp [ndV, h1]
  · have h := cfAt_sl hc hw.2 (lastN cf 5) h2
    show Sl _ _ (trimL cf).length (trimL cf)
    rw [h1]
    unfold trimL
    rw [hl]
    exact h
  · rw [hR]
    intro m h
    cases ok with
    | true => rw [if_pos rfl] at h; injection h
    | false => rw [if_neg (by decide)] at h; cases h
set_option maxHeartbeats 16000000 in
set_option maxRecDepth 8000 in
theorem atom_sum (s : List UInt8) (i : Nat) (hs : s.length ≤ 2000) (hi : i ≤ s.length) (h64 : ¬ bt s i = 64) (w : World) : Calls Tryz.prog 33 #[.string (bs s), .int .i64 (i : Int)] w (AtR w (atomA s i)) := by
  have h0 := atI_start w
  have hz : BdC 0 zer5 0 := ⟨fun k => by match k with | 0 => exact ⟨by decide, by decide⟩ | 1 => exact ⟨by decide, by decide⟩ | 2 => exact ⟨by decide, by decide⟩ | 3 => exact ⟨by decide, by decide⟩ | 4 => exact ⟨by decide, by decide⟩ | k + 5 => exact ⟨by simp [zer5, List.getD], by simp [zer5, List.getD]⟩, by decide, by decide⟩
  have HBY := hide (fun j W => byteAt_any s j W)
  have hmk : (Instr.makeSlice 39 (.int .i64 5) (.int .i64 5)).run Tryz.prog (w.alloc zNO) = .ok (.slice (some ⟨w.heap.size + 1, 0, none⟩) 5 5) ((w.alloc zNO).alloc (.cells (madeCells #[.int .i64 0] 5) 3)) := by
    have h := make_ints 5 (by decide) (w.alloc zNO)
    rw [show (w.alloc zNO).heap.size = w.heap.size + 1 by simp] at h
    exact h
  have hne : (((bt s i).toNat : Int) == 64) = false := u8_ne 64 h64
  have hA : atomA s i = (let a := sumA s 1 (s.length + 1) i zer5 0; if a.ok = true then (if bt s a.e = 60 ∨ bt s a.e = 61 then (let b := sumA s (-1) (s.length + 1) (a.e + 1) a.cf a.nm; if b.ok = true then (some ⟨if bt s a.e = 60 then 2 else 1, 0, 0, 0, 0, b.nm, trimL b.cf⟩, b.e) else (none, b.e)) else (none, a.e)) else (none, a.e)) := by unfold atomA; rw [if_neg h64]
  have HS1 := hide (sumAt_any s i 1 0 (w.heap.size + 1) zer5 1 (.inl rfl) hs hi 0 ⟨by decide, by decide⟩ hz (s.length + 1) (by omega) _ h0.1)
  obtain ⟨a1, a2, a3⟩ := sumA_bd s 1 (s.length + 1) i zer5 0 hi rfl
  have HB1 := hide (sumA_bdC s (.inl rfl) (s.length + 1) i zer5 0 0 (by decide) hi hz)
  simp only [] at hA
  generalize sumA s 1 (s.length + 1) i zer5 0 = a at *
  obtain ⟨cf, nm, e, ok⟩ := a
  simp only [] at hA a1 a2 a3 HB1
  unfold SmR at HS1
  simp only [] at HS1
  have HBI := hide (HBY.out i)
  have HI := hide h0
  have HA := hide hA
  clear h0 hz h64 hA
  generalize atomA s i = R at HA ⊢
  generalize bt s i = ci at *
  obtain ⟨W1, hW1⟩ : ∃ W1, ((w.alloc zNO).alloc (.cells (madeCells #[.int .i64 0] 5) 3)).alloc (nbO 1 0 (w.heap.size + 1)) = W1 := ⟨_, rfl⟩
  rw [hW1] at HI HS1
  obtain ⟨y0, y1, y2, y3, y4, y5, y6⟩ := (box7_cells HI.out.2.2.1).1
  go_enter Tryz.func33, Tryz.ntmps33
  go_wp2_with fail
  refine (HBI.out _).mono ?_
  rintro e' w' ⟨rfl, hw'⟩
  rw [hw']
  clear hw' w'
  go_wp2_with fail
  refine HS1.out.mono ?_
  rintro e' w2 ⟨rfl, hc2, hg2⟩
  have HI2 := hide (atI_sum HI.out hg2 hc2)
  clear hc2 hg2 HS1 HI y0 y1 y2 y3 y4 y5 y6 hW1 hmk
  obtain ⟨f0, f1, f2, f3, f4, f5, f6⟩ := box7_froz (B := w.heap.size + 1 + 1) HI2.out.2.2.1
  obtain ⟨t0, t1, t2, t3, t4, t5, t6⟩ := (box7_cells (B := w.heap.size + 1 + 1) HI2.out.2.2.1).1
  obtain ⟨W2, hW2, q1, q2, q3⟩ := seven_behind (B := w.heap.size + 1 + 1) HI2.out.2.2.1 (Below.refl (w.heap.size + 2) _) (Nat.le_refl _) (.int .i64 1) (.int .i64 0) (.int .i64 0) (.int .i64 0) (.int .i64 0) (.int .i64 nm) (.slice (some ⟨w.heap.size + 1, 0, none⟩) 5 5)
  have HI3 := hide (atI_node HI2.out q1 q3 q2)
  have HWF := hide (bdC_wf HB1.out (by omega))
  clear q1 q2 q3 HI2
  go_upto_region 21 with fail
  try rw [hW2]
  clear hW2 f0 f1 f2 f3 f4 f5 f6 t0 t1 t2 t3 t4 t5 t6 w2
  have HL := hide a3
  clear a3
  cases ok with
  | false =>
    have hA := HA.out
    rw [if_neg (by decide)] at hA
    have HR := hide hA
    clear HA hA
    obtain ⟨y0, y1, y2, y3, y4, y5, y6⟩ := (box7_cells (B := w.heap.size + 1 + 1) HI3.out.2.2.1).1
    obtain ⟨f0, f1, f2, f3, f4, f5, f6⟩ := box7_froz HI3.out.2.1
    obtain ⟨t0, t1, t2, t3, t4, t5, t6⟩ := (box7_cells HI3.out.2.1).1
    obtain ⟨Wf, hWf, q1, q2, q3⟩ := seven_behind HI3.out.2.1 (Below.refl w.heap.size _) (Nat.le_refl _) (.int .i64 1) (.int .i64 0) (.int .i64 0) (.int .i64 0) (.int .i64 0) (.int .i64 nm) (.slice (some ⟨w.heap.size + 1, 0, none⟩) 5 5)
    obtain ⟨g0, g1, g2, g3, g4, g5, g6⟩ := (box7_cells q1).1
    have HE := hide (cfAt_block HI3.out.1 (q3 _ (by omega)))
    have HEB := hide (HI3.out.2.2.2.trans q2)
    clear q1 q2 q3
    go_wp2
    try rw [hWf]
    clear hWf y0 y1 y2 y3 y4 y5 y6 f0 f1 f2 f3 f4 f5 f6 t0 t1 t2 t3 t4 t5 t6
    exact bodyPost_ret (v := .tuple #[.agg #[.int .i64 1, .int .i64 0, .int .i64 0, .int .i64 0, .int .i64 0, .int .i64 nm, .slice (some ⟨w.heap.size + 1, 0, none⟩) 5 5], .int .i64 (e : Int), .bool false]) (by simp [results, Tryz.results33, go_sem, g0, g1, g2, g3, g4, g5, g6]) rfl (atR_five (.inl rfl) HR.out HL.out HE.out HWF.out HEB.out)
  | true =>
    have hA := HA.out
    rw [if_pos rfl] at hA
    clear HA
    have HBE := hide (HBY.out e)
    have h60 : (bt s e = 60 ∧ (((bt s e).toNat : Int) == 60) = true) ∨ (¬ bt s e = 60 ∧ (((bt s e).toNat : Int) == 60) = false) := by
      by_cases h : bt s e = 60
      · exact .inl ⟨h, u8_is 60 h⟩
      · exact .inr ⟨h, u8_ne 60 h⟩
    by_cases hsep : bt s e = 60 ∨ bt s e = 61
    · rw [if_pos hsep] at hA
      have le : e < s.length := bt_in (by rcases hsep with h | h <;> rw [h] <;> decide)
      obtain ⟨op, hop⟩ : ∃ op : Int, op = if bt s e = 60 then 2 else 1 := ⟨_, rfl⟩
      rw [← hop] at hA
      have HS2 := hide (fun W hc => sumAt_any s (e + 1) op nm (w.heap.size + 1) cf (-1) (.inr rfl) hs le (0 + 1000 * ((s.length : Int) - i)) ⟨by omega, by omega⟩ HB1.out (s.length + 1) (by omega) W hc)
      obtain ⟨b1, b2, b3⟩ := sumA_bd s (-1) (s.length + 1) (e + 1) cf nm le HL.out
      have HB2 := hide (sumA_bdC s (.inr rfl) (s.length + 1) (e + 1) cf nm (0 + 1000 * ((s.length : Int) - i)) (by omega) le HB1.out)
      generalize sumA s (-1) (s.length + 1) (e + 1) cf nm = b at *
      obtain ⟨cf2, nm2, e2, ok2⟩ := b
      simp only [] at hA b1 b2 b3 HB2
      unfold SmR at HS2
      simp only [] at HS2
      have HWF2 := hide (bdC_wf HB2.out (by omega))
      have HR := hide hA
      have HL2 := hide b3
      clear hA b3 HB2 HB1 HWF
      rcases h60 with ⟨h60, t60⟩ | ⟨h60, t60⟩
      · rw [if_pos h60] at hop
        subst hop
        clear h60 hsep
        generalize bt s e = ce at *
        have HI4 := hide (atI_op HI3.out 2)
        obtain ⟨f0, -, -, -, -, -, -⟩ := box7_froz (B := w.heap.size + 1 + 1) HI3.out.2.2.1
        obtain ⟨W4, hW4⟩ : ∃ W4, W2.setCell ⟨w.heap.size + 1 + 1, 0, none⟩ (.int .i64 2) = W4 := ⟨_, rfl⟩
        rw [show w.heap.size + 2 = w.heap.size + 1 + 1 from rfl, hW4] at HI4
        obtain ⟨y0, y1, y2, y3, y4, y5, y6⟩ := (box7_cells (B := w.heap.size + 1 + 1) HI4.out.2.2.1).1
        have yz := (box7_cells (B := w.heap.size + 1 + 1) HI3.out.2.2.1).1.1
        clear HI3
        go_wp2_with fail
        refine (HBE.out _).mono ?_
        rintro e' w' ⟨rfl, hw'⟩
        rw [hw']
        clear hw' w'
        go_wp2_with fail
        clear hW4 f0 yz
        refine (HS2.out _ HI4.out.1).mono ?_
        rintro e' w5 ⟨rfl, hc5, hg5⟩
        have HI5 := hide (atI_sum HI4.out hg5 hc5)
        clear hc5 hg5 HS2 HI4 y0 y1 y2 y3 y4 y5 y6
        obtain ⟨f0, f1, f2, f3, f4, f5, f6⟩ := box7_froz (B := w.heap.size + 1 + 1) HI5.out.2.2.1
        obtain ⟨t0, t1, t2, t3, t4, t5, t6⟩ := (box7_cells (B := w.heap.size + 1 + 1) HI5.out.2.2.1).1
        obtain ⟨W6, hW6, q1, q2, q3⟩ := seven_behind (B := w.heap.size + 1 + 1) HI5.out.2.2.1 (Below.refl (w.heap.size + 2) _) (Nat.le_refl _) (.int .i64 2) (.int .i64 0) (.int .i64 0) (.int .i64 0) (.int .i64 0) (.int .i64 nm2) (.slice (some ⟨w.heap.size + 1, 0, none⟩) 5 5)
        have HI6 := hide (atI_node HI5.out q1 q3 q2)
        clear q1 q2 q3 HI5
        go_upto_region 28 with fail
        try rw [hW6]
        clear hW6 f0 f1 f2 f3 f4 f5 f6 t0 t1 t2 t3 t4 t5 t6 w5
        obtain ⟨y0, y1, y2, y3, y4, y5, y6⟩ := (box7_cells (B := w.heap.size + 1 + 1) HI6.out.2.2.1).1
        go_wp2
        go_loop [14] (fun lv => ∃ k : Nat, k ≤ 5 ∧ lv = .int .i64 (k : Int) ∧ lastN cf2 5 = lastN cf2 k) (fun lv => (intOf lv).toNat)
        case atStart => exact ⟨5, by omega, rfl, rfl⟩
        case round =>
          obtain ⟨k, hk, rfl, hlk⟩ := hrel
          have HLK := hide hlk
          clear hlk
          by_cases hk0 : k = 0
          · subst hk0
            have HKE : Hid (lastN cf2 5 = 0) := HLK.out
            clear HLK
            have f6 := (box7_froz (B := w.heap.size + 1 + 1) HI6.out.2.2.1).2.2.2.2.2.2
            obtain ⟨W7, hW7⟩ : ∃ W7, W6.setCell ⟨w.heap.size + 1 + 1, 6, none⟩ (.slice (some ⟨w.heap.size + 1, 0, none⟩) (0) 5) = W7 := ⟨_, rfl⟩
            have HBX : Hid (W7.heap[w.heap.size + 1 + 1]? = some (.cells #[.int .i64 2, .int .i64 0, .int .i64 0, .int .i64 0, .int .i64 0, .int .i64 nm2, .slice (some ⟨w.heap.size + 1, 0, none⟩) (0) 5] 41 (0, 0))) := by
              have h := HI6.out.2.2.1
              rw [show w.heap.size + 2 = w.heap.size + 1 + 1 from rfl] at h
              show _ = _
              rw [← hW7]
              simp [World.setCell, Array.getElem?_modify, h]
            have HZ0 : Hid (W7.heap[w.heap.size]? = some zNO) := by show _ = _; rw [← hW7]; exact (Below.heap_setCell _ _ _ _ (by show w.heap.size ≠ w.heap.size + 1 + 1; omega)).trans HI6.out.2.1
            have HC7 : Hid (CfAt W7 (w.heap.size + 1) cf2) := by show CfAt _ _ _; rw [← hW7]; exact cfAt_block HI6.out.1 (Below.heap_setCell _ _ _ _ (by show w.heap.size + 1 ≠ w.heap.size + 1 + 1; omega))
            have HB7 : Hid (Below w.heap.size w W7) := by show Below _ _ _; rw [← hW7]; exact HI6.out.2.2.2.setCell (by show w.heap.size ≤ w.heap.size + 1 + 1; omega) _
            go_upto_region 32 with fail
            try rw [hW7]
            clear hW7 f6 y0 y1 y2 y3 y4 y5 y6 HI6
            obtain ⟨y0, y1, y2, y3, y4, y5, y6⟩ := (box7_cells HBX.out).1
            obtain ⟨f0, f1, f2, f3, f4, f5, f6⟩ := box7_froz HZ0.out
            obtain ⟨t0, t1, t2, t3, t4, t5, t6⟩ := (box7_cells HZ0.out).1
            obtain ⟨Wf, hWf, q1, q2, q3⟩ := seven_behind HZ0.out (Below.refl w.heap.size _) (Nat.le_refl _) (.int .i64 2) (.int .i64 0) (.int .i64 0) (.int .i64 0) (.int .i64 0) (.int .i64 nm2) (.slice (some ⟨w.heap.size + 1, 0, none⟩) (0) 5)
            obtain ⟨g0, g1, g2, g3, g4, g5, g6⟩ := (box7_cells q1).1
            have HE := hide (cfAt_block HC7.out (q3 _ (by omega)))
            have HEB := hide (HB7.out.trans q2)
            clear q1 q2 q3
            go_wp2
            try rw [hWf]
            clear hWf y0 y1 y2 y3 y4 y5 y6 f0 f1 f2 f3 f4 f5 f6 t0 t1 t2 t3 t4 t5 t6
            refine bodyPost_ret (v := .tuple #[.agg #[.int .i64 2, .int .i64 0, .int .i64 0, .int .i64 0, .int .i64 0, .int .i64 nm2, .slice (some ⟨w.heap.size + 1, 0, none⟩) (0) 5], .int .i64 (e2 : Int), .bool ok2]) (by simp [results, Tryz.results33, go_sem, g0, g1, g2, g3, g4, g5, g6]) rfl ?_
            have hfin := atR_trim (by decide) HR.out HL2.out HE.out HWF2.out HEB.out
            rw [HKE.out] at hfin
            exact hfin
          · obtain ⟨k, rfl⟩ : ∃ k', k = k' + 1 := ⟨k - 1, by omega⟩
            have hpos : (((k + 1 : Nat) : Int) > 0) := by omega
            have hcell := HI6.out.1.2.cell (i := k) (by omega)
            have HST : Hid (lastN cf2 (k + 1) = if cf2.getD k 0 = 0 then lastN cf2 k else k + 1) := rfl
            generalize cf2.getD k 0 = z at hcell HST
            by_cases hz : z = 0
            · have HL3 : Hid (lastN cf2 5 = lastN cf2 k) := by show _ = _; rw [HLK.out, HST.out, if_pos hz]
              have hz' : (z == 0) = true := by simp [hz]
              clear hz HST HLK
              go_wp2
              exact ⟨⟨k, by omega, rfl, HL3.out⟩, by simp [intOf]⟩
            · have HKE : Hid (lastN cf2 5 = k + 1) := by show _ = _; rw [HLK.out, HST.out, if_neg hz]
              have hz' : (z == 0) = false := by simp [hz]
              clear hz HST HLK
              have f6 := (box7_froz (B := w.heap.size + 1 + 1) HI6.out.2.2.1).2.2.2.2.2.2
              obtain ⟨W7, hW7⟩ : ∃ W7, W6.setCell ⟨w.heap.size + 1 + 1, 6, none⟩ (.slice (some ⟨w.heap.size + 1, 0, none⟩) (k + 1) 5) = W7 := ⟨_, rfl⟩
              have HBX : Hid (W7.heap[w.heap.size + 1 + 1]? = some (.cells #[.int .i64 2, .int .i64 0, .int .i64 0, .int .i64 0, .int .i64 0, .int .i64 nm2, .slice (some ⟨w.heap.size + 1, 0, none⟩) (k + 1) 5] 41 (0, 0))) := by
                have h := HI6.out.2.2.1
                rw [show w.heap.size + 2 = w.heap.size + 1 + 1 from rfl] at h
                show _ = _
                rw [← hW7]
                simp [World.setCell, Array.getElem?_modify, h]
              have HZ0 : Hid (W7.heap[w.heap.size]? = some zNO) := by show _ = _; rw [← hW7]; exact (Below.heap_setCell _ _ _ _ (by show w.heap.size ≠ w.heap.size + 1 + 1; omega)).trans HI6.out.2.1
              have HC7 : Hid (CfAt W7 (w.heap.size + 1) cf2) := by show CfAt _ _ _; rw [← hW7]; exact cfAt_block HI6.out.1 (Below.heap_setCell _ _ _ _ (by show w.heap.size + 1 ≠ w.heap.size + 1 + 1; omega))
              have HB7 : Hid (Below w.heap.size w W7) := by show Below _ _ _; rw [← hW7]; exact HI6.out.2.2.2.setCell (by show w.heap.size ≤ w.heap.size + 1 + 1; omega) _
              go_upto_region 32 with fail
              try rw [hW7]
              clear hW7 f6 y0 y1 y2 y3 y4 y5 y6 HI6
              obtain ⟨y0, y1, y2, y3, y4, y5, y6⟩ := (box7_cells HBX.out).1
              obtain ⟨f0, f1, f2, f3, f4, f5, f6⟩ := box7_froz HZ0.out
              obtain ⟨t0, t1, t2, t3, t4, t5, t6⟩ := (box7_cells HZ0.out).1
              obtain ⟨Wf, hWf, q1, q2, q3⟩ := seven_behind HZ0.out (Below.refl w.heap.size _) (Nat.le_refl _) (.int .i64 2) (.int .i64 0) (.int .i64 0) (.int .i64 0) (.int .i64 0) (.int .i64 nm2) (.slice (some ⟨w.heap.size + 1, 0, none⟩) (k + 1) 5)
              obtain ⟨g0, g1, g2, g3, g4, g5, g6⟩ := (box7_cells q1).1
              have HE := hide (cfAt_block HC7.out (q3 _ (by omega)))
              have HEB := hide (HB7.out.trans q2)
              clear q1 q2 q3
              go_wp2
              try rw [hWf]
              clear hWf y0 y1 y2 y3 y4 y5 y6 f0 f1 f2 f3 f4 f5 f6 t0 t1 t2 t3 t4 t5 t6
              refine bodyPost_ret (v := .tuple #[.agg #[.int .i64 2, .int .i64 0, .int .i64 0, .int .i64 0, .int .i64 0, .int .i64 nm2, .slice (some ⟨w.heap.size + 1, 0, none⟩) (k + 1) 5], .int .i64 (e2 : Int), .bool ok2]) (by simp [results, Tryz.results33, go_sem, g0, g1, g2, g3, g4, g5, g6]) rfl ?_
              have hfin := atR_trim (by decide) HR.out HL2.out HE.out HWF2.out HEB.out
              rw [HKE.out] at hfin
              exact hfin
      · have h61 : bt s e = 61 := by rcases hsep with h | h; exact absurd h h60; exact h
        rw [if_neg h60] at hop
        subst hop
        have t61 : (((bt s e).toNat : Int) == 61) = true := u8_is 61 h61
        have t62 : (((bt s e).toNat : Int) != 61) = false := by unfold bne; rw [t61]; rfl
        clear h60 hsep h61
        generalize bt s e = ce at *
        obtain ⟨y0, y1, y2, y3, y4, y5, y6⟩ := (box7_cells (B := w.heap.size + 1 + 1) HI3.out.2.2.1).1
        go_wp2_with fail
        refine (HBE.out _).mono ?_
        rintro e' w' ⟨rfl, hw'⟩
        rw [hw']
        clear hw' w'
        go_wp2_with fail
        refine (HBE.out _).mono ?_
        rintro e' w' ⟨rfl, hw'⟩
        rw [hw']
        clear hw' w'
        go_wp2_with fail
        refine (HS2.out _ HI3.out.1).mono ?_
        rintro e' w5 ⟨rfl, hc5, hg5⟩
        have HI5 := hide (atI_sum HI3.out hg5 hc5)
        clear hc5 hg5 HS2 HI3 y0 y1 y2 y3 y4 y5 y6
        obtain ⟨f0, f1, f2, f3, f4, f5, f6⟩ := box7_froz (B := w.heap.size + 1 + 1) HI5.out.2.2.1
        obtain ⟨t0, t1, t2, t3, t4, t5, t6⟩ := (box7_cells (B := w.heap.size + 1 + 1) HI5.out.2.2.1).1
        obtain ⟨W6, hW6, q1, q2, q3⟩ := seven_behind (B := w.heap.size + 1 + 1) HI5.out.2.2.1 (Below.refl (w.heap.size + 2) _) (Nat.le_refl _) (.int .i64 1) (.int .i64 0) (.int .i64 0) (.int .i64 0) (.int .i64 0) (.int .i64 nm2) (.slice (some ⟨w.heap.size + 1, 0, none⟩) 5 5)
        have HI6 := hide (atI_node HI5.out q1 q3 q2)
        clear q1 q2 q3 HI5
        go_upto_region 28 with fail
        try rw [hW6]
        clear hW6 f0 f1 f2 f3 f4 f5 f6 t0 t1 t2 t3 t4 t5 t6 w5
        obtain ⟨y0, y1, y2, y3, y4, y5, y6⟩ := (box7_cells (B := w.heap.size + 1 + 1) HI6.out.2.2.1).1
        go_wp2
        go_loop [14] (fun lv => ∃ k : Nat, k ≤ 5 ∧ lv = .int .i64 (k : Int) ∧ lastN cf2 5 = lastN cf2 k) (fun lv => (intOf lv).toNat)
        case atStart => exact ⟨5, by omega, rfl, rfl⟩
        case round =>
          obtain ⟨k, hk, rfl, hlk⟩ := hrel
          have HLK := hide hlk
          clear hlk
          by_cases hk0 : k = 0
          · subst hk0
            have HKE : Hid (lastN cf2 5 = 0) := HLK.out
            clear HLK
            have f6 := (box7_froz (B := w.heap.size + 1 + 1) HI6.out.2.2.1).2.2.2.2.2.2
            obtain ⟨W7, hW7⟩ : ∃ W7, W6.setCell ⟨w.heap.size + 1 + 1, 6, none⟩ (.slice (some ⟨w.heap.size + 1, 0, none⟩) (0) 5) = W7 := ⟨_, rfl⟩
            have HBX : Hid (W7.heap[w.heap.size + 1 + 1]? = some (.cells #[.int .i64 1, .int .i64 0, .int .i64 0, .int .i64 0, .int .i64 0, .int .i64 nm2, .slice (some ⟨w.heap.size + 1, 0, none⟩) (0) 5] 41 (0, 0))) := by
              have h := HI6.out.2.2.1
              rw [show w.heap.size + 2 = w.heap.size + 1 + 1 from rfl] at h
              show _ = _
              rw [← hW7]
              simp [World.setCell, Array.getElem?_modify, h]
            have HZ0 : Hid (W7.heap[w.heap.size]? = some zNO) := by show _ = _; rw [← hW7]; exact (Below.heap_setCell _ _ _ _ (by show w.heap.size ≠ w.heap.size + 1 + 1; omega)).trans HI6.out.2.1
            have HC7 : Hid (CfAt W7 (w.heap.size + 1) cf2) := by show CfAt _ _ _; rw [← hW7]; exact cfAt_block HI6.out.1 (Below.heap_setCell _ _ _ _ (by show w.heap.size + 1 ≠ w.heap.size + 1 + 1; omega))
            have HB7 : Hid (Below w.heap.size w W7) := by show Below _ _ _; rw [← hW7]; exact HI6.out.2.2.2.setCell (by show w.heap.size ≤ w.heap.size + 1 + 1; omega) _
            go_upto_region 32 with fail
            try rw [hW7]
            clear hW7 f6 y0 y1 y2 y3 y4 y5 y6 HI6
            obtain ⟨y0, y1, y2, y3, y4, y5, y6⟩ := (box7_cells HBX.out).1
            obtain ⟨f0, f1, f2, f3, f4, f5, f6⟩ := box7_froz HZ0.out
            obtain ⟨t0, t1, t2, t3, t4, t5, t6⟩ := (box7_cells HZ0.out).1
            obtain ⟨Wf, hWf, q1, q2, q3⟩ := seven_behind HZ0.out (Below.refl w.heap.size _) (Nat.le_refl _) (.int .i64 1) (.int .i64 0) (.int .i64 0) (.int .i64 0) (.int .i64 0) (.int .i64 nm2) (.slice (some ⟨w.heap.size + 1, 0, none⟩) (0) 5)
            obtain ⟨g0, g1, g2, g3, g4, g5, g6⟩ := (box7_cells q1).1
            have HE := hide (cfAt_block HC7.out (q3 _ (by omega)))
            have HEB := hide (HB7.out.trans q2)
            clear q1 q2 q3
            go_wp2
            try rw [hWf]
            clear hWf y0 y1 y2 y3 y4 y5 y6 f0 f1 f2 f3 f4 f5 f6 t0 t1 t2 t3 t4 t5 t6
            refine bodyPost_ret (v := .tuple #[.agg #[.int .i64 1, .int .i64 0, .int .i64 0, .int .i64 0, .int .i64 0, .int .i64 nm2, .slice (some ⟨w.heap.size + 1, 0, none⟩) (0) 5], .int .i64 (e2 : Int), .bool ok2]) (by simp [results, Tryz.results33, go_sem, g0, g1, g2, g3, g4, g5, g6]) rfl ?_
            have hfin := atR_trim (by decide) HR.out HL2.out HE.out HWF2.out HEB.out
            rw [HKE.out] at hfin
            exact hfin
          · obtain ⟨k, rfl⟩ : ∃ k', k = k' + 1 := ⟨k - 1, by omega⟩
            have hpos : (((k + 1 : Nat) : Int) > 0) := by omega
            have hcell := HI6.out.1.2.cell (i := k) (by omega)
            have HST : Hid (lastN cf2 (k + 1) = if cf2.getD k 0 = 0 then lastN cf2 k else k + 1) := rfl
            generalize cf2.getD k 0 = z at hcell HST
            by_cases hz : z = 0
            · have HL3 : Hid (lastN cf2 5 = lastN cf2 k) := by show _ = _; rw [HLK.out, HST.out, if_pos hz]
              have hz' : (z == 0) = true := by simp [hz]
              clear hz HST HLK
              go_wp2
              exact ⟨⟨k, by omega, rfl, HL3.out⟩, by simp [intOf]⟩
            · have HKE : Hid (lastN cf2 5 = k + 1) := by show _ = _; rw [HLK.out, HST.out, if_neg hz]
              have hz' : (z == 0) = false := by simp [hz]
              clear hz HST HLK
              have f6 := (box7_froz (B := w.heap.size + 1 + 1) HI6.out.2.2.1).2.2.2.2.2.2
              obtain ⟨W7, hW7⟩ : ∃ W7, W6.setCell ⟨w.heap.size + 1 + 1, 6, none⟩ (.slice (some ⟨w.heap.size + 1, 0, none⟩) (k + 1) 5) = W7 := ⟨_, rfl⟩
              have HBX : Hid (W7.heap[w.heap.size + 1 + 1]? = some (.cells #[.int .i64 1, .int .i64 0, .int .i64 0, .int .i64 0, .int .i64 0, .int .i64 nm2, .slice (some ⟨w.heap.size + 1, 0, none⟩) (k + 1) 5] 41 (0, 0))) := by
                have h := HI6.out.2.2.1
                rw [show w.heap.size + 2 = w.heap.size + 1 + 1 from rfl] at h
                show _ = _
                rw [← hW7]
                simp [World.setCell, Array.getElem?_modify, h]
              have HZ0 : Hid (W7.heap[w.heap.size]? = some zNO) := by show _ = _; rw [← hW7]; exact (Below.heap_setCell _ _ _ _ (by show w.heap.size ≠ w.heap.size + 1 + 1; omega)).trans HI6.out.2.1
              have HC7 : Hid (CfAt W7 (w.heap.size + 1) cf2) := by show CfAt _ _ _; rw [← hW7]; exact cfAt_block HI6.out.1 (Below.heap_setCell _ _ _ _ (by show w.heap.size + 1 ≠ w.heap.size + 1 + 1; omega))
              have HB7 : Hid (Below w.heap.size w W7) := by show Below _ _ _; rw [← hW7]; exact HI6.out.2.2.2.setCell (by show w.heap.size ≤ w.heap.size + 1 + 1; omega) _
              go_upto_region 32 with fail
              try rw [hW7]
              clear hW7 f6 y0 y1 y2 y3 y4 y5 y6 HI6
              obtain ⟨y0, y1, y2, y3, y4, y5, y6⟩ := (box7_cells HBX.out).1
              obtain ⟨f0, f1, f2, f3, f4, f5, f6⟩ := box7_froz HZ0.out
              obtain ⟨t0, t1, t2, t3, t4, t5, t6⟩ := (box7_cells HZ0.out).1
              obtain ⟨Wf, hWf, q1, q2, q3⟩ := seven_behind HZ0.out (Below.refl w.heap.size _) (Nat.le_refl _) (.int .i64 1) (.int .i64 0) (.int .i64 0) (.int .i64 0) (.int .i64 0) (.int .i64 nm2) (.slice (some ⟨w.heap.size + 1, 0, none⟩) (k + 1) 5)
              obtain ⟨g0, g1, g2, g3, g4, g5, g6⟩ := (box7_cells q1).1
              have HE := hide (cfAt_block HC7.out (q3 _ (by omega)))
              have HEB := hide (HB7.out.trans q2)
              clear q1 q2 q3
              go_wp2
              try rw [hWf]
              clear hWf y0 y1 y2 y3 y4 y5 y6 f0 f1 f2 f3 f4 f5 f6 t0 t1 t2 t3 t4 t5 t6
              refine bodyPost_ret (v := .tuple #[.agg #[.int .i64 1, .int .i64 0, .int .i64 0, .int .i64 0, .int .i64 0, .int .i64 nm2, .slice (some ⟨w.heap.size + 1, 0, none⟩) (k + 1) 5], .int .i64 (e2 : Int), .bool ok2]) (by simp [results, Tryz.results33, go_sem, g0, g1, g2, g3, g4, g5, g6]) rfl ?_
              have hfin := atR_trim (by decide) HR.out HL2.out HE.out HWF2.out HEB.out
              rw [HKE.out] at hfin
              exact hfin
    · rw [if_neg hsep] at hA
      have HR := hide hA
      have t60 : (((bt s e).toNat : Int) == 60) = false := u8_ne 60 (fun h => hsep (.inl h))
      have t61 : (((bt s e).toNat : Int) == 61) = false := u8_ne 61 (fun h => hsep (.inr h))
      have t62 : (((bt s e).toNat : Int) != 61) = true := by unfold bne; rw [t61]; rfl
      clear hA hsep h60
      generalize bt s e = ce at *
      go_wp2_with fail
      refine (HBE.out _).mono ?_
      rintro e' w' ⟨rfl, hw'⟩
      rw [hw']
      clear hw' w'
      go_wp2_with fail
      refine (HBE.out _).mono ?_
      rintro e' w' ⟨rfl, hw'⟩
      rw [hw']
      clear hw' w'
      obtain ⟨y0, y1, y2, y3, y4, y5, y6⟩ := (box7_cells (B := w.heap.size + 1 + 1) HI3.out.2.2.1).1
      obtain ⟨f0, f1, f2, f3, f4, f5, f6⟩ := box7_froz HI3.out.2.1
      obtain ⟨t0, t1, t2, t3, t4, t5, t6⟩ := (box7_cells HI3.out.2.1).1
      obtain ⟨Wf, hWf, q1, q2, q3⟩ := seven_behind HI3.out.2.1 (Below.refl w.heap.size _) (Nat.le_refl _) (.int .i64 1) (.int .i64 0) (.int .i64 0) (.int .i64 0) (.int .i64 0) (.int .i64 nm) (.slice (some ⟨w.heap.size + 1, 0, none⟩) 5 5)
      obtain ⟨g0, g1, g2, g3, g4, g5, g6⟩ := (box7_cells q1).1
      have HE := hide (cfAt_block HI3.out.1 (q3 _ (by omega)))
      have HEB := hide (HI3.out.2.2.2.trans q2)
      clear q1 q2 q3
      go_wp2
      try rw [hWf]
      clear hWf y0 y1 y2 y3 y4 y5 y6 f0 f1 f2 f3 f4 f5 f6 t0 t1 t2 t3 t4 t5 t6
      exact bodyPost_ret (v := .tuple #[.agg #[.int .i64 1, .int .i64 0, .int .i64 0, .int .i64 0, .int .i64 0, .int .i64 nm, .slice (some ⟨w.heap.size + 1, 0, none⟩) 5 5], .int .i64 (e : Int), .bool false]) (by simp [results, Tryz.results33, go_sem, g0, g1, g2, g3, g4, g5, g6]) rfl (atR_five (.inl rfl) HR.out HL.out HE.out HWF.out HEB.out)
end Go.Proofs.YtafbggbdlcfbdaaGreatDoor
