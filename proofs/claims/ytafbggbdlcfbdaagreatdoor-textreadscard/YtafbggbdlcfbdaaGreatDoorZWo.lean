/- 6 texts in one. -/
import Derived.Test.YtafbggbdlcfbdaaGreatDoorZNu
import Derived.Test.YtafbggbdlcfbdaaGreatDoorZWi
import Derived.Test.YtafbggbdlcfbdaaGreatDoorRe
import Derived.Test.YtafbggbdlcfbdaaGreatDoorZXd
import Derived.Test.YtafbggbdlcfbdaaGreatDoorZFd
/- The reference's formAt: what it hands back. -/
namespace Go.Proofs.YtafbggbdlcfbdaaGreatDoor
open Go.RowKit

theorem atom_any (s : List UInt8) (i : Nat) (hs : s.length ≤ 2000) (hi : i ≤ s.length) (w : World) : Calls Tryz.prog 33 #[.string (bs s), .int .i64 (i : Int)] w (AtR w (atomA s i)) := by
  by_cases h : bt s i = 64
  · exact atom_word s i hs hi h w
  · exact atom_sum s i hs hi h w
theorem sumA_pos {s : List UInt8} {sg : Int} {f i : Nat} {cf : List Int} {nm : Int} (h : (sumA s sg f i cf nm).ok = true) (hc : cf.length = 5) : i < (sumA s sg f i cf nm).e := by
  cases f with
  | zero => cases h
  | succ f =>
    rcases hp : partA s i with _ | ⟨v, m, j⟩
    · rw [sumA_none hp] at h; cases h
    · obtain ⟨-, b2, b3, -⟩ := partA_bd hp
      rw [sumA_some hp]
      split
      · rename_i h43
        have hl : j < s.length := bt_in (by rw [h43]; decide)
        have := (sumA_bd s sg f (j + 1) (putC sg v m cf) (putN sg v m nm) hl (by rw [putC_len]; exact hc)).1
        omega
      · exact b2
theorem atomA_pos {s : List UInt8} {i : Nat} {n : Nd} (hi : i ≤ s.length) (h : (atomA s i).1 = some n) : i < (atomA s i).2 := by
  unfold atomA at h ⊢
  by_cases h1 : bt s i = 64
  · rw [if_pos h1] at h ⊢
    obtain ⟨p1, p2, -, -⟩ := spotA_bd (s := s) hi
    by_cases h2 : (spotA s i).ok = true
    · rw [if_pos h2] at h ⊢
      by_cases h3 : bt s (spotA s i).e = 61
      · have l3 : (spotA s i).e < s.length := bt_in (by rw [h3]; decide)
        rw [if_pos h3] at h ⊢
        by_cases h4 : bt s ((spotA s i).e + 1) = 64
        · rw [if_pos h4] at h ⊢
          obtain ⟨q1, q2, -, -⟩ := spotA_bd (s := s) (i := (spotA s i).e + 1) l3
          split <;> simp only [] <;> omega
        · rw [if_neg h4] at h ⊢
          by_cases h5 : isDg (bt s ((spotA s i).e + 1)) = true
          · rw [if_pos h5] at h ⊢
            obtain ⟨-, b2, b3⟩ := numA_bd h5
            simp only []
            omega
          · rw [if_neg h5] at h; cases h
      · rw [if_neg h3] at h; cases h
    · rw [if_neg h2] at h; cases h
  · rw [if_neg h1] at h ⊢
    obtain ⟨a1, a2, a3⟩ := sumA_bd s 1 (s.length + 1) i zer5 0 hi rfl
    have ap := fun h => sumA_pos (s := s) (sg := 1) (f := s.length + 1) (i := i) (cf := zer5) (nm := 0) h rfl
    simp only [] at h ⊢
    generalize sumA s 1 (s.length + 1) i zer5 0 = a at *
    by_cases h2 : a.ok = true
    · rw [if_pos h2] at h ⊢
      have := ap h2
      by_cases h3 : bt s a.e = 60 ∨ bt s a.e = 61
      · rw [if_pos h3] at h ⊢
        have l3 : a.e < s.length := bt_in (by rcases h3 with h | h <;> rw [h] <;> decide)
        obtain ⟨b1, b2, -⟩ := sumA_bd s (-1) (s.length + 1) (a.e + 1) a.cf a.nm l3 a3
        split <;> simp only [] <;> omega
      · rw [if_neg h3] at h; cases h
    · rw [if_neg h2] at h; cases h
theorem formA_len (s : List UInt8) : ∀ (f i : Nat), i ≤ s.length → ∀ l, (formA s f i).1 = some l → 1 ≤ l.length ∧ l.length + i ≤ (formA s f i).2 := by
  intro f
  induction f with
  | zero => intro i hi l h; cases h
  | succ f ih =>
    intro i hi l h
    rw [formA] at h ⊢
    by_cases h1 : bt s i = 126
    · rw [if_pos h1] at h ⊢
      have l1 : i < s.length := bt_in (by rw [h1]; decide)
      simp only [] at h ⊢
      rcases hx : (formA s f (i + 1)).1 with _ | x
      · rw [hx] at h; cases h
      · rw [hx] at h
        obtain ⟨q1, q2⟩ := ih (i + 1) l1 x hx
        injection h with h
        subst h
        simp only [List.length_cons]
        omega
    · rw [if_neg h1] at h ⊢
      by_cases h2 : bt s i = 69 ∨ bt s i = 65
      · rw [if_pos h2] at h ⊢
        by_cases h3 : isLt (bt s (i + 1)) = true
        · rw [if_pos h3] at h ⊢
          by_cases h4 : bt s (i + 2) = 58
          · rw [if_pos h4] at h ⊢
            have l4 : i + 2 < s.length := bt_in (by rw [h4]; decide)
            simp only [] at h ⊢
            rcases hx : (formA s f (i + 3)).1 with _ | x
            · rw [hx] at h; cases h
            · rw [hx] at h
              obtain ⟨q1, q2⟩ := ih (i + 3) l4 x hx
              injection h with h
              subst h
              simp only [List.length_cons]
              omega
          · rw [if_neg h4] at h; cases h
        · rw [if_neg h3] at h; cases h
      · rw [if_neg h2] at h ⊢
        by_cases h3 : bt s i = 40
        · rw [if_pos h3] at h ⊢
          have l1 : i < s.length := bt_in (by rw [h3]; decide)
          have ih1 := ih (i + 1) l1
          rcases hx : formA s f (i + 1) with ⟨_ | x, e⟩
          · rw [hx] at h; cases h
          · rw [hx] at h ih1
            obtain ⟨q1, q2⟩ := ih1 x rfl
            simp only [] at h q2 ⊢
            by_cases h4 : bt s e = 124 ∨ bt s e = 38
            · rw [if_pos h4] at h ⊢
              have l4 : e < s.length := bt_in (by rcases h4 with h | h <;> rw [h] <;> decide)
              have ih2 := ih (e + 1) l4
              rcases hy : formA s f (e + 1) with ⟨_ | y, e2⟩
              · rw [hy] at h; cases h
              · rw [hy] at h ih2
                obtain ⟨r1, r2⟩ := ih2 y rfl
                simp only [] at h r2 ⊢
                by_cases h5 : bt s e2 = 41
                · rw [if_pos h5] at h ⊢
                  injection h with h
                  subst h
                  simp only [List.length_cons, List.length_append]
                  omega
                · rw [if_neg h5] at h; cases h
            · rw [if_neg h4] at h; cases h
        · rw [if_neg h3] at h ⊢
          have hp := fun n => atomA_pos (n := n) hi
          rcases hx : atomA s i with ⟨_ | n, e⟩
          · rw [hx] at h; cases h
          · rw [hx] at h hp
            have := hp n rfl
            injection h with h
            subst h
            simp only [List.length_cons, List.length_nil] at this ⊢
            omega
/-- What formAt hands back. -/
def FoR (w : World) (i : Nat) (o : Option (List Nd) × Nat) (e : Ending) (w' : World) : Prop := ∃ (ns : List Nd) (a : Option Addr) (c : Nat) (V : List Value), e = .returned (.tuple #[.slice a ns.length c, .int .i64 (o.2 : Int), .bool o.1.isSome]) ∧ RowF w.heap.size w' a V ns ∧ (∀ l, o.1 = some l → ns = l) ∧ ns.length ≤ o.2 - i + 1 ∧ Below w.heap.size w w'
theorem foR_none {w w' : World} {i e : Nat} {o : Option (List Nd) × Nat} (ho : o = (none, e)) (hb : Below w.heap.size w w') : FoR w i o (.returned (.tuple #[.slice none 0 0, .int .i64 (e : Int), .bool false])) w' := by
  subst ho
  exact ⟨[], none, 0, [], rfl, ⟨celF_nil _ _, .inl ⟨rfl, rfl⟩⟩, (fun l h => by cases h), (by simp), hb⟩
/-- Nodes gathered in new memory, as a result. -/
theorem foR_row {w w9 : World} {i e : Nat} {ok : Bool} {o : Option (List Nd) × Nat} {L : List Nd} {V : List Value} {k g cp base : Nat} (ho : o.2 = e ∧ o.1.isSome = ok ∧ (∀ l, o.1 = some l → L = l)) (hk : L.length = k) (hk0 : 0 < k) (hke : k ≤ e - i + 1) (hbase : w.heap.size ≤ base) (hown : w9.ownsRow base 41 7 (.slice (some ⟨g, 0, none⟩) k cp) k V) (hc : CelF w.heap.size w9 V L) (hb : Below w.heap.size w w9) : FoR w i o (.returned (.tuple #[.slice (some ⟨g, 0, none⟩) k cp, .int .i64 (e : Int), .bool ok])) w9 := by
  obtain ⟨h1, h2, h3⟩ := ho
  subst hk
  exact ⟨L, _, cp, V, by rw [h1, h2], rowF_own (hown.mono hbase) hc hk0, h3, by rw [h1]; exact hke, hb⟩
theorem slN_nil (base : Nat) (W : World) : SlN base W none 0 [] := ⟨⟨rfl, Nat.zero_le _, (fun x hx => by cases hx), .inl rfl⟩, fun ad h => by cases h⟩
end Go.Proofs.YtafbggbdlcfbdaaGreatDoor

/- The reference's formAt: contract. -/
namespace Go.Proofs.YtafbggbdlcfbdaaGreatDoor
open Go.RowKit

theorem map_cons_some {x : Option (List Nd)} {n : Nd} {ns : List Nd} {e : Nat} {o : Option (List Nd) × Nat} (ho : o = (x.map (fun y => n :: y), e)) (hl : ∀ l, x = some l → ns = l) : o.2 = e ∧ o.1.isSome = x.isSome ∧ ∀ l, o.1 = some l → n :: ns = l := by
  subst ho
  refine ⟨rfl, by cases x <;> rfl, fun l h => ?_⟩
  cases x with
  | none => cases h
  | some y =>
    injection h with h
    rw [← h, hl y rfl]
theorem ndWf_op {op : Int} (h : 1 ≤ op ∧ op ≤ 9) {v : Nat} (hv : v ≤ 1000) : ndWf ⟨op, v, 0, 0, 0, 0, []⟩ := by
  obtain ⟨k, rfl⟩ : ∃ k : Nat, op = (k : Int) := ⟨op.toNat, by omega⟩
  exact ndWf_small (op := k) (v := v) (o := 0) (wd := 0) (wd2 := 0) (nm := 0) (by omega)
set_option maxHeartbeats 16000000 in
set_option maxRecDepth 8000 in
theorem form_not (s : List UInt8) (f i : Nat) (hs : s.length ≤ 2000) (h126 : bt s i = 126) (ih : ∀ W : World, Calls Tryz.prog 20 #[.string (bs s), .int .i64 ((i + 1 : Nat) : Int)] W (FoR W (i + 1) (formA s f (i + 1)))) (w : World) : Calls Tryz.prog 20 #[.string (bs s), .int .i64 (i : Int)] w (FoR w i (formA s (f + 1) i)) := by
  have l1 : i < s.length := bt_in (by rw [h126]; decide)
  have hA : formA s (f + 1) i = ((formA s f (i + 1)).1.map (fun x => ⟨5, 0, 0, 0, 0, 0, []⟩ :: x), (formA s f (i + 1)).2) := by rw [formA, if_pos h126]
  have HBI := hide (fun W => byteAt_any s i W)
  rw [h126] at HBI
  have HIH := hide ih
  obtain ⟨q1, q2⟩ := formA_bd s f (i + 1) l1
  generalize formA s (f + 1) i = R at hA ⊢
  generalize formA s f (i + 1) = x at *
  obtain ⟨x, e⟩ := x
  unfold FoR at HIH
  simp only [] at hA q1 q2 HIH
  have HA := hide hA
  clear hA h126 ih
  go_enter Tryz.func20, Tryz.ntmps20
  go_wp2_with fail
  refine (HBI.out _).mono ?_
  rintro e' w' ⟨rfl, hw'⟩
  rw [hw']
  clear hw' w'
  go_wp2_with fail
  refine (HIH.out _).mono ?_
  rintro e' w2 ⟨ns2, a2, c2, V2, rfl, hrw2, hl2, hln2, hb2⟩
  have HRW2 := hide (rowF_base hrw2 (show w.heap.size ≤ _ from (Below.refl w.heap.size w).size))
  have HRAW2 := hide hrw2
  have HBC2 := hide hb2
  have HB2 := hide (below_step (Below.refl w.heap.size w) hb2)
  have HL2 := hide hl2
  have HLN2 := hide hln2
  clear hrw2 hl2 hb2 hln2
  obtain ⟨oks, HOK⟩ : ∃ b, Hid (x.isSome = b) := ⟨_, rfl⟩
  rw [HOK.out]
  have HFI : Hid (R.2 = e ∧ R.1.isSome = oks ∧ ∀ l, R.1 = some l → ⟨5, 0, 0, 0, 0, 0, []⟩ :: ns2 = l) := by rw [← HOK.out]; exact map_cons_some HA.out HL2.out
  have HWF : Hid (ndWf ⟨5, 0, 0, 0, 0, 0, []⟩) := ndWf_op (op := 5) (v := 0) (by decide) (by decide)
  have HBA := hide ((Below.refl w2.heap.size w2).alloc (Nat.le_refl _) (.cells #[.int .i64 5, .int .i64 0, .int .i64 0, .int .i64 0, .int .i64 0, .int .i64 0, .slice none 0 0] 41))
  have HOWN : Hid ((w2.alloc (.cells #[.int .i64 5, .int .i64 0, .int .i64 0, .int .i64 0, .int .i64 0, .int .i64 0, .slice none 0 0] 41)).ownsRow w2.heap.size 41 7 (.slice (some ⟨w2.heap.size, 0, none⟩) 1 1) 1 (ndL ⟨5, 0, 0, 0, 0, 0, []⟩ none 0)) := own_one w2 (Nat.le_refl _) ⟨5, 0, 0, 0, 0, 0, []⟩ none 0
  have HLE : Hid (ns2.length ≤ 2001) := by show _ ≤ _; have := HLN2.out; omega
  have HSZ := hide (show w2.heap.size ≤ (w2.alloc (.cells #[.int .i64 5, .int .i64 0, .int .i64 0, .int .i64 0, .int .i64 0, .int .i64 0, .slice none 0 0] 41)).heap.size by simp)
  rcases HRW2.out.2 with ⟨h0, rfl⟩ | ⟨b, o, rfl, -, hpos, hcl⟩
  · have hnil : ns2 = [] := List.eq_nil_of_length_eq_zero h0
    rw [h0]
    clear h0
    go_wp2_with (at_builtin; refine wpList_append_nonodes rfl _ _ rfl w2.heap.size (.slice (some ⟨w2.heap.size, 0, none⟩) 1 1) 1 (ndL ⟨5, 0, 0, 0, 0, 0, []⟩ none 0) rfl HOWN.out _ rfl ?_)
    go_ret3
    exact foR_row (L := [⟨5, 0, 0, 0, 0, 0, []⟩]) (by have h := HFI.out; rw [hnil] at h; exact h) rfl (by decide) (by have := HLN2.out; rw [hnil] at this; simp at this ⊢; try omega) HB2.out.size HOWN.out (celF_one HWF.out (slN_nil _ _)) (below_step HB2.out HBA.out)
  · have HNEWS : Hid (∀ j u, V2[j]? = some u → (w2.alloc (.cells #[.int .i64 5, .int .i64 0, .int .i64 0, .int .i64 0, .int .i64 0, .int .i64 0, .slice none 0 0] 41)).cell? ((⟨b, o, none⟩ : Addr).add j) = some u) := fun j u hu => by
      have h := hcl j u hu
      rw [addr_add, HBA.out.cell (p := ⟨b, o + j, none⟩) (World.block_lt_of_cell? w2 _ h)]
      exact h
    have HCE := hide HRW2.out.1
    clear hcl
    go_wp2_with (at_builtin; apply Classical.byContradiction; intro hcontra)
    refine hcontra ?_
    clear hcontra
    refine wpList_append_nodes (w2.alloc (.cells #[.int .i64 5, .int .i64 0, .int .i64 0, .int .i64 0, .int .i64 0, .int .i64 0, .slice none 0 0] 41)) rfl _ _ rfl w2.heap.size (.slice (some ⟨w2.heap.size, 0, none⟩) 1 1) 1 (ndL ⟨5, 0, 0, 0, 0, 0, []⟩ none 0) rfl HOWN.out ⟨b, o, none⟩ ns2.length c2 V2 rfl HCE.out.1 HNEWS.out (celF_cells HCE.out) hpos (by have := HLE.out; omega) HSZ.out ?_
    intro g cp w9 hown9 hgrow9 hat9
    have HOWN9 := hide hown9
    obtain ⟨ag9, sz9, be9⟩ := agF_grown (base := w.heap.size) HBA.out hgrow9 (fun x hx => ownBlk_le hx (Nat.le_refl _))
    have HC9 := hide (celF_app (celF_one (base := w.heap.size) (W := w9) (a := none) (c := 0) HWF.out (slN_nil _ _)) (celF_later HCE.out ag9 sz9))
    have HB9 := hide (below_step HB2.out be9)
    clear hown9 hgrow9 hat9 ag9 sz9 be9
    go_wp2
    go_ret3
    exact foR_row (L := [⟨5, 0, 0, 0, 0, 0, []⟩] ++ ns2) HFI.out (by rw [List.length_append]; rfl) (by omega) (by have := HLN2.out; omega) HB2.out.size HOWN9.out HC9.out HB9.out
end Go.Proofs.YtafbggbdlcfbdaaGreatDoor

/- The reference's formAt at Some and All: contract. -/
namespace Go.Proofs.YtafbggbdlcfbdaaGreatDoor
open Go.RowKit

set_option maxHeartbeats 16000000 in
set_option maxRecDepth 8000 in
theorem form_some (s : List UInt8) (f i : Nat) (hs : s.length ≤ 2000) (hc : bt s i = 69) (ih : i + 3 ≤ s.length → ∀ W : World, Calls Tryz.prog 20 #[.string (bs s), .int .i64 ((i + 3 : Nat) : Int)] W (FoR W (i + 3) (formA s f (i + 3)))) (w : World) : Calls Tryz.prog 20 #[.string (bs s), .int .i64 (i : Int)] w (FoR w i (formA s (f + 1) i)) := by
  have l1 : i < s.length := bt_in (by rw [hc]; decide)
  have hA : formA s (f + 1) i = if isLt (bt s (i + 1)) = true then (if bt s (i + 2) = 58 then ((formA s f (i + 3)).1.map (fun x => ⟨8, ((bt s (i + 1)).toNat - 97 : Nat), 0, 0, 0, 0, []⟩ :: x), (formA s f (i + 3)).2) else (none, i + 2)) else (none, i + 1) := by
    rw [formA, if_neg (by rw [hc]; decide), if_pos (by rw [hc]; exact .inl rfl)]
    rw [if_neg (show ¬ bt s i = 65 by rw [hc]; decide)]
  have HBI := hide (fun W => byteAt_any s i W)
  rw [hc] at HBI
  have HB1 := hide (fun W => byteAt_any s (i + 1) W)
  have HLT := hide (fun W => isletter_any (bt s (i + 1)) W)
  generalize formA s (f + 1) i = R at hA ⊢
  clear hc
  cases hl : isLt (bt s (i + 1)) with
  | false =>
    rw [hl, if_neg (by decide)] at hA
    rw [hl] at HLT
    have HA := hide hA
    clear hA hl
    generalize bt s (i + 1) = c1 at *
    go_enter Tryz.func20, Tryz.ntmps20
    go_wp2_with fail
    refine (HBI.out _).mono ?_
    rintro e' w' ⟨rfl, hw'⟩
    rw [hw']
    clear hw' w'
    go_wp2_with fail
    refine (HB1.out _).mono ?_
    rintro e' w' ⟨rfl, hw'⟩
    rw [hw']
    clear hw' w'
    go_wp2_with fail
    refine (HLT.out _).mono ?_
    rintro e' w' ⟨rfl, hw'⟩
    rw [hw']
    clear hw' w'
    go_wp2
    go_ret3
    exact foR_none HA.out ((Below.refl _ _).alloc (Nat.le_refl _) _)
  | true =>
    have l2 := lt_in hl
    have b2 := lt_bd hl
    rw [hl, if_pos rfl] at hA
    rw [hl] at HLT
    have hsz := bs_size s
    have hgx := bs_get s (i + 1)
    obtain ⟨v, hv⟩ : ∃ v : Nat, (bt s (i + 1)).toNat = v + 97 := ⟨(bt s (i + 1)).toNat - 97, by omega⟩
    rw [hv, Nat.add_sub_cancel] at hA
    have hg2 : ∀ h, ((bs s)[i + 1]'h).toNat = v + 97 := fun h => by rw [hgx h, hv]
    have hv5 : v < 5 := by omega
    rw [hv] at HB1 HLT
    have HA := hide hA
    clear hA hl hgx hv b2
    generalize bt s (i + 1) = c1 at *
    go_enter Tryz.func20, Tryz.ntmps20
    go_wp2_with fail
    refine (HBI.out _).mono ?_
    rintro e' w' ⟨rfl, hw'⟩
    rw [hw']
    clear hw' w'
    go_wp2_with fail
    refine (HB1.out _).mono ?_
    rintro e' w' ⟨rfl, hw'⟩
    rw [hw']
    clear hw' w'
    go_wp2_with fail
    refine (HLT.out _).mono ?_
    rintro e' w' ⟨rfl, hw'⟩
    rw [hw']
    clear hw' w'
    go_upto_region 12 with fail
    have HX := hide (heap_alloc_last w (.cells #[.int .i64 8, .int .i64 (v : Int), .int .i64 0, .int .i64 0, .int .i64 0, .int .i64 0, .slice none 0 0] 41))
    have HBW := hide ((Below.refl w.heap.size w).alloc (Nat.le_refl _) (.cells #[.int .i64 8, .int .i64 (v : Int), .int .i64 0, .int .i64 0, .int .i64 0, .int .i64 0, .slice none 0 0] 41))
    obtain ⟨W2, hW2⟩ : ∃ W2, w.alloc (.cells #[.int .i64 8, .int .i64 (v : Int), .int .i64 0, .int .i64 0, .int .i64 0, .int .i64 0, .slice none 0 0] 41) = W2 := ⟨_, rfl⟩
    rw [hW2] at HX HBW ⊢
    clear hW2 hg2 hsz
    by_cases h58 : bt s (i + 2) = 58
    · have l3 : i + 2 < s.length := bt_in (by rw [h58]; decide)
      have hA := HA.out
      rw [if_pos h58] at hA
      have HSU := hide (fun W => sureAt_yes s (i + 2) 58 h58 (by decide) (by omega) W)
      have HIH := hide (ih l3)
      obtain ⟨q1, q2⟩ := formA_bd s f (i + 3) l3
      clear ih HA h58
      generalize formA s f (i + 3) = x at *
      obtain ⟨x, e⟩ := x
      unfold FoR at HIH
      simp only [] at hA q1 q2 HIH
      have HA := hide hA
      clear hA
      go_wp2_with fail
      refine (HSU.out _).mono ?_
      rintro e' w3 ⟨rfl, hw3⟩
      have HX3 := hide ((hw3.block _ (Array.getElem?_eq_some_iff.1 HX.out).1).trans HX.out)
      have HB3 := hide (below_step HBW.out hw3)
      clear hw3 HX HBW
      go_wp2_with fail
      refine (HIH.out _).mono ?_
      rintro e' w4 ⟨ns4, a4, c4, V4, rfl, hrw4, hl4, hln4, hb4⟩
      have HRW4 := hide (rowF_base hrw4 (show w.heap.size ≤ _ from HB3.out.size))
      have HRAW4 := hide hrw4
      have HBC4 := hide hb4
      have HB4 := hide (below_step HB3.out hb4)
      have HL4 := hide hl4
      have HLN4 := hide hln4
      clear hrw4 hl4 hb4 hln4
      have HX4 := hide ((HBC4.out.block _ (Array.getElem?_eq_some_iff.1 HX3.out).1).trans HX3.out)
      obtain ⟨z0, z1, z2, z3, z4, z5, z6⟩ := (box7_cells HX4.out).1
      obtain ⟨oks, HOK⟩ : ∃ b, Hid (x.isSome = b) := ⟨_, rfl⟩
      rw [HOK.out]
      have HFI : Hid (R.2 = e ∧ R.1.isSome = oks ∧ ∀ l, R.1 = some l → ⟨8, v, 0, 0, 0, 0, []⟩ :: ns4 = l) := by rw [← HOK.out]; exact map_cons_some HA.out HL4.out
      have HWF : Hid (ndWf ⟨8, (v : Int), 0, 0, 0, 0, []⟩) := ndWf_op (op := 8) (v := v) (by decide) (by omega)
      have HBA := hide ((Below.refl w4.heap.size w4).alloc (Nat.le_refl _) (.cells #[.int .i64 8, .int .i64 (v : Int), .int .i64 0, .int .i64 0, .int .i64 0, .int .i64 0, .slice none 0 0] 41))
      have HOWN : Hid ((w4.alloc (.cells #[.int .i64 8, .int .i64 (v : Int), .int .i64 0, .int .i64 0, .int .i64 0, .int .i64 0, .slice none 0 0] 41)).ownsRow w4.heap.size 41 7 (.slice (some ⟨w4.heap.size, 0, none⟩) 1 1) 1 (ndL ⟨8, (v : Int), 0, 0, 0, 0, []⟩ none 0)) := own_one w4 (Nat.le_refl _) ⟨8, (v : Int), 0, 0, 0, 0, []⟩ none 0
      have HLE : Hid (ns4.length ≤ 2001) := by show _ ≤ _; have := HLN4.out; omega
      have HSZ := hide (show w4.heap.size ≤ (w4.alloc (.cells #[.int .i64 8, .int .i64 (v : Int), .int .i64 0, .int .i64 0, .int .i64 0, .int .i64 0, .slice none 0 0] 41)).heap.size by simp)
      rcases HRW4.out.2 with ⟨h0, rfl⟩ | ⟨b, o, rfl, -, hpos, hcl⟩
      · have hnil : ns4 = [] := List.eq_nil_of_length_eq_zero h0
        rw [h0]
        clear h0
        go_wp2_with (at_builtin; refine wpList_append_nonodes rfl _ _ rfl w4.heap.size (.slice (some ⟨w4.heap.size, 0, none⟩) 1 1) 1 (ndL ⟨8, (v : Int), 0, 0, 0, 0, []⟩ none 0) rfl HOWN.out _ rfl ?_)
        go_ret3
        exact foR_row (L := [⟨8, (v : Int), 0, 0, 0, 0, []⟩]) (by have h := HFI.out; rw [hnil] at h; exact h) rfl (by decide) (by have := HLN4.out; rw [hnil] at this; simp at this ⊢; try omega) HB4.out.size HOWN.out (celF_one HWF.out (slN_nil _ _)) (below_step HB4.out HBA.out)
      · have HNEWS : Hid (∀ j u, V4[j]? = some u → (w4.alloc (.cells #[.int .i64 8, .int .i64 (v : Int), .int .i64 0, .int .i64 0, .int .i64 0, .int .i64 0, .slice none 0 0] 41)).cell? ((⟨b, o, none⟩ : Addr).add j) = some u) := fun j u hu => by
          have h := hcl j u hu
          rw [addr_add, HBA.out.cell (p := ⟨b, o + j, none⟩) (World.block_lt_of_cell? w4 _ h)]
          exact h
        have HCE := hide HRW4.out.1
        clear hcl
        go_wp2_with (at_builtin; apply Classical.byContradiction; intro hcontra)
        refine hcontra ?_
        clear hcontra
        refine wpList_append_nodes (w4.alloc (.cells #[.int .i64 8, .int .i64 (v : Int), .int .i64 0, .int .i64 0, .int .i64 0, .int .i64 0, .slice none 0 0] 41)) rfl _ _ rfl w4.heap.size (.slice (some ⟨w4.heap.size, 0, none⟩) 1 1) 1 (ndL ⟨8, (v : Int), 0, 0, 0, 0, []⟩ none 0) rfl HOWN.out ⟨b, o, none⟩ ns4.length c4 V4 rfl HCE.out.1 HNEWS.out (celF_cells HCE.out) hpos (by have := HLE.out; omega) HSZ.out ?_
        intro g cp w9 hown9 hgrow9 hat9
        have HOWN9 := hide hown9
        obtain ⟨ag9, sz9, be9⟩ := agF_grown (base := w.heap.size) HBA.out hgrow9 (fun x hx => ownBlk_le hx (Nat.le_refl _))
        have HC9 := hide (celF_app (celF_one (base := w.heap.size) (W := w9) (a := none) (c := 0) HWF.out (slN_nil _ _)) (celF_later HCE.out ag9 sz9))
        have HB9 := hide (below_step HB4.out be9)
        clear hown9 hgrow9 hat9 ag9 sz9 be9
        go_wp2
        go_ret3
        exact foR_row (L := [⟨8, (v : Int), 0, 0, 0, 0, []⟩] ++ ns4) HFI.out (by rw [List.length_append]; rfl) (by omega) (by have := HLN4.out; omega) HB4.out.size HOWN9.out HC9.out HB9.out
    · have hA := HA.out
      rw [if_neg h58] at hA
      have HA2 := hide hA
      have HSU := hide (fun W => sureAt_no s (i + 2) 58 h58 W)
      clear hA HA h58
      go_wp2_with fail
      refine (HSU.out _).mono ?_
      rintro e' w3 ⟨rfl, hw3⟩
      have HB3 := hide (below_step HBW.out hw3)
      clear hw3
      go_wp2
      go_ret3
      exact foR_none HA2.out HB3.out
set_option maxHeartbeats 16000000 in
set_option maxRecDepth 8000 in
theorem form_all (s : List UInt8) (f i : Nat) (hs : s.length ≤ 2000) (hc : bt s i = 65) (ih : i + 3 ≤ s.length → ∀ W : World, Calls Tryz.prog 20 #[.string (bs s), .int .i64 ((i + 3 : Nat) : Int)] W (FoR W (i + 3) (formA s f (i + 3)))) (w : World) : Calls Tryz.prog 20 #[.string (bs s), .int .i64 (i : Int)] w (FoR w i (formA s (f + 1) i)) := by
  have l1 : i < s.length := bt_in (by rw [hc]; decide)
  have hA : formA s (f + 1) i = if isLt (bt s (i + 1)) = true then (if bt s (i + 2) = 58 then ((formA s f (i + 3)).1.map (fun x => ⟨9, ((bt s (i + 1)).toNat - 97 : Nat), 0, 0, 0, 0, []⟩ :: x), (formA s f (i + 3)).2) else (none, i + 2)) else (none, i + 1) := by
    rw [formA, if_neg (by rw [hc]; decide), if_pos (by rw [hc]; exact .inr rfl)]
    rw [if_pos hc]
  have HBI := hide (fun W => byteAt_any s i W)
  rw [hc] at HBI
  have HB1 := hide (fun W => byteAt_any s (i + 1) W)
  have HLT := hide (fun W => isletter_any (bt s (i + 1)) W)
  generalize formA s (f + 1) i = R at hA ⊢
  clear hc
  cases hl : isLt (bt s (i + 1)) with
  | false =>
    rw [hl, if_neg (by decide)] at hA
    rw [hl] at HLT
    have HA := hide hA
    clear hA hl
    generalize bt s (i + 1) = c1 at *
    go_enter Tryz.func20, Tryz.ntmps20
    go_wp2_with fail
    refine (HBI.out _).mono ?_
    rintro e' w' ⟨rfl, hw'⟩
    rw [hw']
    clear hw' w'
    go_wp2_with fail
    refine (HB1.out _).mono ?_
    rintro e' w' ⟨rfl, hw'⟩
    rw [hw']
    clear hw' w'
    go_wp2_with fail
    refine (HLT.out _).mono ?_
    rintro e' w' ⟨rfl, hw'⟩
    rw [hw']
    clear hw' w'
    go_wp2
    go_ret3
    exact foR_none HA.out ((Below.refl _ _).alloc (Nat.le_refl _) _)
  | true =>
    have l2 := lt_in hl
    have b2 := lt_bd hl
    rw [hl, if_pos rfl] at hA
    rw [hl] at HLT
    have hsz := bs_size s
    have hgx := bs_get s (i + 1)
    obtain ⟨v, hv⟩ : ∃ v : Nat, (bt s (i + 1)).toNat = v + 97 := ⟨(bt s (i + 1)).toNat - 97, by omega⟩
    rw [hv, Nat.add_sub_cancel] at hA
    have hg2 : ∀ h, ((bs s)[i + 1]'h).toNat = v + 97 := fun h => by rw [hgx h, hv]
    have hv5 : v < 5 := by omega
    rw [hv] at HB1 HLT
    have HA := hide hA
    clear hA hl hgx hv b2
    generalize bt s (i + 1) = c1 at *
    go_enter Tryz.func20, Tryz.ntmps20
    go_wp2_with fail
    refine (HBI.out _).mono ?_
    rintro e' w' ⟨rfl, hw'⟩
    rw [hw']
    clear hw' w'
    go_wp2_with fail
    refine (HB1.out _).mono ?_
    rintro e' w' ⟨rfl, hw'⟩
    rw [hw']
    clear hw' w'
    go_wp2_with fail
    refine (HLT.out _).mono ?_
    rintro e' w' ⟨rfl, hw'⟩
    rw [hw']
    clear hw' w'
    go_upto_region 12 with fail
    have HX := hide (heap_alloc_last w (.cells #[.int .i64 9, .int .i64 (v : Int), .int .i64 0, .int .i64 0, .int .i64 0, .int .i64 0, .slice none 0 0] 41))
    have HBW := hide ((Below.refl w.heap.size w).alloc (Nat.le_refl _) (.cells #[.int .i64 9, .int .i64 (v : Int), .int .i64 0, .int .i64 0, .int .i64 0, .int .i64 0, .slice none 0 0] 41))
    obtain ⟨W2, hW2⟩ : ∃ W2, w.alloc (.cells #[.int .i64 9, .int .i64 (v : Int), .int .i64 0, .int .i64 0, .int .i64 0, .int .i64 0, .slice none 0 0] 41) = W2 := ⟨_, rfl⟩
    rw [hW2] at HX HBW ⊢
    clear hW2 hg2 hsz
    by_cases h58 : bt s (i + 2) = 58
    · have l3 : i + 2 < s.length := bt_in (by rw [h58]; decide)
      have hA := HA.out
      rw [if_pos h58] at hA
      have HSU := hide (fun W => sureAt_yes s (i + 2) 58 h58 (by decide) (by omega) W)
      have HIH := hide (ih l3)
      obtain ⟨q1, q2⟩ := formA_bd s f (i + 3) l3
      clear ih HA h58
      generalize formA s f (i + 3) = x at *
      obtain ⟨x, e⟩ := x
      unfold FoR at HIH
      simp only [] at hA q1 q2 HIH
      have HA := hide hA
      clear hA
      go_wp2_with fail
      refine (HSU.out _).mono ?_
      rintro e' w3 ⟨rfl, hw3⟩
      have HX3 := hide ((hw3.block _ (Array.getElem?_eq_some_iff.1 HX.out).1).trans HX.out)
      have HB3 := hide (below_step HBW.out hw3)
      clear hw3 HX HBW
      go_wp2_with fail
      refine (HIH.out _).mono ?_
      rintro e' w4 ⟨ns4, a4, c4, V4, rfl, hrw4, hl4, hln4, hb4⟩
      have HRW4 := hide (rowF_base hrw4 (show w.heap.size ≤ _ from HB3.out.size))
      have HRAW4 := hide hrw4
      have HBC4 := hide hb4
      have HB4 := hide (below_step HB3.out hb4)
      have HL4 := hide hl4
      have HLN4 := hide hln4
      clear hrw4 hl4 hb4 hln4
      have HX4 := hide ((HBC4.out.block _ (Array.getElem?_eq_some_iff.1 HX3.out).1).trans HX3.out)
      obtain ⟨z0, z1, z2, z3, z4, z5, z6⟩ := (box7_cells HX4.out).1
      obtain ⟨oks, HOK⟩ : ∃ b, Hid (x.isSome = b) := ⟨_, rfl⟩
      rw [HOK.out]
      have HFI : Hid (R.2 = e ∧ R.1.isSome = oks ∧ ∀ l, R.1 = some l → ⟨9, v, 0, 0, 0, 0, []⟩ :: ns4 = l) := by rw [← HOK.out]; exact map_cons_some HA.out HL4.out
      have HWF : Hid (ndWf ⟨9, (v : Int), 0, 0, 0, 0, []⟩) := ndWf_op (op := 9) (v := v) (by decide) (by omega)
      have HBA := hide ((Below.refl w4.heap.size w4).alloc (Nat.le_refl _) (.cells #[.int .i64 9, .int .i64 (v : Int), .int .i64 0, .int .i64 0, .int .i64 0, .int .i64 0, .slice none 0 0] 41))
      have HOWN : Hid ((w4.alloc (.cells #[.int .i64 9, .int .i64 (v : Int), .int .i64 0, .int .i64 0, .int .i64 0, .int .i64 0, .slice none 0 0] 41)).ownsRow w4.heap.size 41 7 (.slice (some ⟨w4.heap.size, 0, none⟩) 1 1) 1 (ndL ⟨9, (v : Int), 0, 0, 0, 0, []⟩ none 0)) := own_one w4 (Nat.le_refl _) ⟨9, (v : Int), 0, 0, 0, 0, []⟩ none 0
      have HLE : Hid (ns4.length ≤ 2001) := by show _ ≤ _; have := HLN4.out; omega
      have HSZ := hide (show w4.heap.size ≤ (w4.alloc (.cells #[.int .i64 9, .int .i64 (v : Int), .int .i64 0, .int .i64 0, .int .i64 0, .int .i64 0, .slice none 0 0] 41)).heap.size by simp)
      rcases HRW4.out.2 with ⟨h0, rfl⟩ | ⟨b, o, rfl, -, hpos, hcl⟩
      · have hnil : ns4 = [] := List.eq_nil_of_length_eq_zero h0
        rw [h0]
        clear h0
        go_wp2_with (at_builtin; refine wpList_append_nonodes rfl _ _ rfl w4.heap.size (.slice (some ⟨w4.heap.size, 0, none⟩) 1 1) 1 (ndL ⟨9, (v : Int), 0, 0, 0, 0, []⟩ none 0) rfl HOWN.out _ rfl ?_)
        go_ret3
        exact foR_row (L := [⟨9, (v : Int), 0, 0, 0, 0, []⟩]) (by have h := HFI.out; rw [hnil] at h; exact h) rfl (by decide) (by have := HLN4.out; rw [hnil] at this; simp at this ⊢; try omega) HB4.out.size HOWN.out (celF_one HWF.out (slN_nil _ _)) (below_step HB4.out HBA.out)
      · have HNEWS : Hid (∀ j u, V4[j]? = some u → (w4.alloc (.cells #[.int .i64 9, .int .i64 (v : Int), .int .i64 0, .int .i64 0, .int .i64 0, .int .i64 0, .slice none 0 0] 41)).cell? ((⟨b, o, none⟩ : Addr).add j) = some u) := fun j u hu => by
          have h := hcl j u hu
          rw [addr_add, HBA.out.cell (p := ⟨b, o + j, none⟩) (World.block_lt_of_cell? w4 _ h)]
          exact h
        have HCE := hide HRW4.out.1
        clear hcl
        go_wp2_with (at_builtin; apply Classical.byContradiction; intro hcontra)
        refine hcontra ?_
        clear hcontra
        refine wpList_append_nodes (w4.alloc (.cells #[.int .i64 9, .int .i64 (v : Int), .int .i64 0, .int .i64 0, .int .i64 0, .int .i64 0, .slice none 0 0] 41)) rfl _ _ rfl w4.heap.size (.slice (some ⟨w4.heap.size, 0, none⟩) 1 1) 1 (ndL ⟨9, (v : Int), 0, 0, 0, 0, []⟩ none 0) rfl HOWN.out ⟨b, o, none⟩ ns4.length c4 V4 rfl HCE.out.1 HNEWS.out (celF_cells HCE.out) hpos (by have := HLE.out; omega) HSZ.out ?_
        intro g cp w9 hown9 hgrow9 hat9
        have HOWN9 := hide hown9
        obtain ⟨ag9, sz9, be9⟩ := agF_grown (base := w.heap.size) HBA.out hgrow9 (fun x hx => ownBlk_le hx (Nat.le_refl _))
        have HC9 := hide (celF_app (celF_one (base := w.heap.size) (W := w9) (a := none) (c := 0) HWF.out (slN_nil _ _)) (celF_later HCE.out ag9 sz9))
        have HB9 := hide (below_step HB4.out be9)
        clear hown9 hgrow9 hat9 ag9 sz9 be9
        go_wp2
        go_ret3
        exact foR_row (L := [⟨9, (v : Int), 0, 0, 0, 0, []⟩] ++ ns4) HFI.out (by rw [List.length_append]; rfl) (by omega) (by have := HLN4.out; omega) HB4.out.size HOWN9.out HC9.out HB9.out
    · have hA := HA.out
      rw [if_neg h58] at hA
      have HA2 := hide hA
      have HSU := hide (fun W => sureAt_no s (i + 2) 58 h58 W)
      clear hA HA h58
      go_wp2_with fail
      refine (HSU.out _).mono ?_
      rintro e' w3 ⟨rfl, hw3⟩
      have HB3 := hide (below_step HBW.out hw3)
      clear hw3
      go_wp2
      go_ret3
      exact foR_none HA2.out HB3.out
end Go.Proofs.YtafbggbdlcfbdaaGreatDoor

/- The reference's formAt at two parts: contract. -/
namespace Go.Proofs.YtafbggbdlcfbdaaGreatDoor
open Go.RowKit

set_option maxHeartbeats 16000000 in
set_option maxRecDepth 8000 in
theorem form_pair (s : List UInt8) (f i : Nat) (hs : s.length ≤ 2000) (hc : bt s i = 40) (ih : ∀ (j : Nat), i < j → j ≤ s.length → ∀ W : World, Calls Tryz.prog 20 #[.string (bs s), .int .i64 (j : Int)] W (FoR W j (formA s f j))) (w : World) : Calls Tryz.prog 20 #[.string (bs s), .int .i64 (i : Int)] w (FoR w i (formA s (f + 1) i)) := by
  have l1 : i < s.length := bt_in (by rw [hc]; decide)
  have hA : formA s (f + 1) i = (match formA s f (i + 1) with
      | (none, e) => (none, e)
      | (some x, e) =>
        if bt s e = 124 ∨ bt s e = 38 then
          match formA s f (e + 1) with
          | (none, e2) => (none, e2)
          | (some y, e2) => if bt s e2 = 41 then (some (⟨if bt s e = 124 then 7 else 6, 0, 0, 0, 0, 0, []⟩ :: (x ++ y)), e2 + 1) else (none, e2)
        else (none, e)) := by
    rw [formA, if_neg (by rw [hc]; decide), if_neg (by rw [hc]; decide), if_pos hc]
    rfl
  have HBI := hide (fun W => byteAt_any s i W)
  rw [hc] at HBI
  have HIH := hide (ih (i + 1) (by omega) l1)
  obtain ⟨q1, q2⟩ := formA_bd s f (i + 1) l1
  have HFL := hide (formA_len s f (i + 1) l1)
  generalize formA s (f + 1) i = R at hA ⊢
  generalize formA s f (i + 1) = x at *
  obtain ⟨x, e⟩ := x
  unfold FoR at HIH
  simp only [] at q1 q2 HIH HFL
  have HA := hide hA
  clear hA hc
  go_enter Tryz.func20, Tryz.ntmps20
  go_wp2_with fail
  refine (HBI.out _).mono ?_
  rintro e' w' ⟨rfl, hw'⟩
  rw [hw']
  clear hw' w'
  go_upto_region 19 with fail
  have HX := hide (heap_alloc_last w (.cells #[.int .i64 6, .int .i64 0, .int .i64 0, .int .i64 0, .int .i64 0, .int .i64 0, .slice none 0 0] 41))
  have HBW := hide ((Below.refl w.heap.size w).alloc (Nat.le_refl _) (.cells #[.int .i64 6, .int .i64 0, .int .i64 0, .int .i64 0, .int .i64 0, .int .i64 0, .slice none 0 0] 41))
  obtain ⟨W1, hW1⟩ : ∃ W1, w.alloc (.cells #[.int .i64 6, .int .i64 0, .int .i64 0, .int .i64 0, .int .i64 0, .int .i64 0, .slice none 0 0] 41) = W1 := ⟨_, rfl⟩
  have HZ1 : Hid (W1.heap.size = w.heap.size + 1) := by show _ = _; rw [← hW1]; simp
  rw [hW1] at HX HBW ⊢
  clear hW1
  go_wp2_with fail
  refine (HIH.out _).mono ?_
  rintro e' w2 ⟨ns2, a2, c2, V2, rfl, hrw2, hl2, hln2, hb2⟩
  have HRW2 := hide (rowF_base hrw2 (show w.heap.size ≤ _ from HBW.out.size))
  have HRAW2 := hide hrw2
  have HBC2 := hide hb2
  have HB2 := hide (below_step HBW.out hb2)
  have HL2 := hide hl2
  have HLN2 := hide hln2
  clear hrw2 hl2 hb2 hln2
  have HX2 := hide ((HBC2.out.block _ (Array.getElem?_eq_some_iff.1 HX.out).1).trans HX.out)
  have HBW2 := hide HB2.out
  clear HX HBW HB2 HBC2
  rcases hx : x with _ | x'
  · have hA := HA.out
    rw [hx] at hA
    have HA2 := hide hA
    clear hA hx HA
    go_wp2
    go_ret3
    exact foR_none HA2.out HBW2.out
  · have hA := HA.out
    rw [hx] at hA HL2
    have hq2 := HL2.out x' rfl
    subst hq2
    simp only [] at hA
    have p1 := (HFL.out ns2 hx).1
    have p2 := (HFL.out ns2 hx).2
    clear HA HL2 HFL HIH HLN2 hx
    have HBE := hide (fun W => byteAt_any s e W)
    by_cases hsep : bt s e = 124 ∨ bt s e = 38
    · rw [if_pos hsep] at hA
      have le : e < s.length := bt_in (by rcases hsep with h | h <;> rw [h] <;> decide)
      have HIH2 := hide (ih (e + 1) (by omega) le)
      obtain ⟨s1, s2⟩ := formA_bd s f (e + 1) le
      have HFL2 := hide (formA_len s f (e + 1) le)
      generalize formA s f (e + 1) = y at *
      obtain ⟨y, e2⟩ := y
      unfold FoR at HIH2
      simp only [] at s1 s2 HIH2 HFL2
      by_cases h7 : bt s e = 124
      · rw [if_pos h7] at hA
        rw [h7] at HBE
        have HAA := hide hA
        clear hA hsep h7
        have f0 := (box7_froz HX2.out).1
        have z0 := (box7_cells HX2.out).1.1
        have HRX3 : Hid (RowF w.heap.size (w2.setCell ⟨w.heap.size, 0, none⟩ (.int .i64 7)) a2 V2 ns2) := rowF_base (rowF_later HRAW2.out (fun x hx _ => Below.heap_setCell _ _ _ _ (by have := HZ1.out; show x ≠ w.heap.size; omega)) (by simp [World.setCell])) (by have := HZ1.out; omega)
        have HX3 : Hid ((w2.setCell ⟨w.heap.size, 0, none⟩ (.int .i64 7)).heap[w.heap.size]? = some (.cells #[.int .i64 7, .int .i64 0, .int .i64 0, .int .i64 0, .int .i64 0, .int .i64 0, .slice none 0 0] 41 (0, 0))) := by
          show _ = _
          have h := HX2.out
          simp [World.setCell, Array.getElem?_modify, h]
        have HB3 := hide (HBW2.out.setCell (p := ⟨w.heap.size, 0, none⟩) (Nat.le_refl _) (.int .i64 7))
        obtain ⟨w2b, hw2b⟩ : ∃ W, w2.setCell ⟨w.heap.size, 0, none⟩ (.int .i64 7) = W := ⟨_, rfl⟩
        rw [hw2b] at HRX3 HX3 HB3
        clear HX2 HBW2
        have HRX2 := hide HRX3.out
        have HX2 := hide HX3.out
        have HBW2 := hide HB3.out
        clear HRX3 HX3 HB3
        go_wp2_with fail
        refine (HBE.out _).mono ?_
        rintro e' w' ⟨rfl, hw'⟩
        rw [hw']
        clear hw' w'
        go_wp2_with fail
        clear hw2b f0 z0
        refine (HIH2.out _).mono ?_
        rintro e' w3 ⟨ns3, a3, c3, V3, rfl, hrw3, hl3, -, hb3⟩
        have HX3 := hide ((hb3.block _ (Array.getElem?_eq_some_iff.1 HX2.out).1).trans HX2.out)
        have HRX3 := hide (rowF_later HRX2.out (AgF.below hb3) hb3.size)
        have HRW3 := hide (rowF_base hrw3 (show w.heap.size ≤ _ from HBW2.out.size))
        have HB3 := hide (below_step HBW2.out hb3)
        have HL3 := hide hl3
        clear hrw3 hl3 hb3 HX2 HBW2 HRX2
        rcases hy : y with _ | y'
        · have hA := HAA.out
          rw [hy] at hA
          have HA2 := hide hA
          clear hA hy HAA
          go_wp2
          go_ret3
          exact foR_none HA2.out HB3.out
        · have hA := HAA.out
          rw [hy] at hA HL3
          have hq3 := HL3.out y' rfl
          subst hq3
          simp only [] at hA
          have r1 := (HFL2.out ns3 hy).1
          have r2 := (HFL2.out ns3 hy).2
          have HSU := hide (fun W => sureAt_any s e2 41 (by decide) (by omega) W)
          obtain ⟨en, HEN⟩ : ∃ en, Hid (en = if bt s e2 = 41 then e2 + 1 else e2) := ⟨_, rfl⟩
          obtain ⟨oks, HOK⟩ : ∃ b, Hid (b = decide (bt s e2 = 41)) := ⟨_, rfl⟩
          rw [← HEN.out, ← HOK.out] at HSU
          have HFI : Hid (R.2 = en ∧ R.1.isSome = oks ∧ ∀ l, R.1 = some l → [⟨7, 0, 0, 0, 0, 0, []⟩] ++ ns2 ++ ns3 = l) := by
            show _ ∧ _
            rw [HEN.out, HOK.out, hA]
            by_cases h : bt s e2 = 41
            · rw [if_pos h, if_pos h, decide_eq_true h]; exact ⟨rfl, rfl, fun l hl => by injection hl⟩
            · rw [if_neg h, if_neg h, decide_eq_false h]; exact ⟨rfl, rfl, fun l hl => by cases hl⟩
          have HEB : Hid (e2 ≤ en) := by show _ ≤ _; rw [HEN.out]; split <;> omega
          clear hA hy HL3 HIH2 HAA HFL2
          go_wp2_with fail
          refine (HSU.out _).mono ?_
          rintro e' w4 ⟨rfl, hb4⟩
          have HX4 := hide ((hb4.block _ (Array.getElem?_eq_some_iff.1 HX3.out).1).trans HX3.out)
          have HB4 := hide (below_step HB3.out hb4)
          have HRA := hide (rowF_later HRX3.out (AgF.below hb4) hb4.size)
          have HRB := hide (rowF_later HRW3.out (AgF.below hb4) hb4.size)
          clear hb4 HX3 HB3 HRX3 HRW3 HSU
          obtain ⟨z0, z1, z2, z3, z4, z5, z6⟩ := (box7_cells HX4.out).1
          have HWF : Hid (ndWf ⟨7, 0, 0, 0, 0, 0, []⟩) := ndWf_op (op := 7) (v := 0) (by decide) (by decide)
          have HBA := hide ((Below.refl w4.heap.size w4).alloc (Nat.le_refl _) (.cells #[.int .i64 7, .int .i64 0, .int .i64 0, .int .i64 0, .int .i64 0, .int .i64 0, .slice none 0 0] 41))
          have HOWN : Hid ((w4.alloc (.cells #[.int .i64 7, .int .i64 0, .int .i64 0, .int .i64 0, .int .i64 0, .int .i64 0, .slice none 0 0] 41)).ownsRow w4.heap.size 41 7 (.slice (some ⟨w4.heap.size, 0, none⟩) 1 1) 1 (ndL ⟨7, 0, 0, 0, 0, 0, []⟩ none 0)) := own_one w4 (Nat.le_refl _) ⟨7, 0, 0, 0, 0, 0, []⟩ none 0
          have HSZ := hide (show w4.heap.size ≤ (w4.alloc (.cells #[.int .i64 7, .int .i64 0, .int .i64 0, .int .i64 0, .int .i64 0, .int .i64 0, .slice none 0 0] 41)).heap.size by simp)
          obtain ⟨b, o, rfl, hcl⟩ : ∃ b o, a2 = some ⟨b, o, none⟩ ∧ ∀ j u, V2[j]? = some u → w4.cell? ⟨b, o + j, none⟩ = some u := by
            rcases HRA.out.2 with ⟨h0, -⟩ | ⟨b, o, h, -, -, hcl⟩
            · omega
            · exact ⟨b, o, h, hcl⟩
          obtain ⟨bb, oo, rfl, hcl2⟩ : ∃ b o, a3 = some ⟨b, o, none⟩ ∧ ∀ j u, V3[j]? = some u → w4.cell? ⟨b, o + j, none⟩ = some u := by
            rcases HRB.out.2 with ⟨h0, -⟩ | ⟨b, o, h, -, -, hcl⟩
            · omega
            · exact ⟨b, o, h, hcl⟩
          have HNEWS : Hid (∀ j u, V2[j]? = some u → (w4.alloc (.cells #[.int .i64 7, .int .i64 0, .int .i64 0, .int .i64 0, .int .i64 0, .int .i64 0, .slice none 0 0] 41)).cell? ((⟨b, o, none⟩ : Addr).add j) = some u) := fun j u hu => by
            have h := hcl j u hu
            rw [addr_add, HBA.out.cell (p := ⟨b, o + j, none⟩) (World.block_lt_of_cell? w4 _ h)]
            exact h
          have HCL2 := hide hcl2
          have HCA := hide HRA.out.1
          have HCB := hide HRB.out.1
          clear hcl hcl2 HRA HRB HX4
          go_wp2_with (at_builtin; apply Classical.byContradiction; intro hcontra)
          refine hcontra ?_
          clear hcontra
          refine wpList_append_nodes (w4.alloc (.cells #[.int .i64 7, .int .i64 0, .int .i64 0, .int .i64 0, .int .i64 0, .int .i64 0, .slice none 0 0] 41)) rfl _ _ rfl w4.heap.size (.slice (some ⟨w4.heap.size, 0, none⟩) 1 1) 1 (ndL ⟨7, 0, 0, 0, 0, 0, []⟩ none 0) rfl HOWN.out ⟨b, o, none⟩ ns2.length c2 V2 rfl HCA.out.1 HNEWS.out (celF_cells HCA.out) (by omega) (by omega) HSZ.out ?_
          intro g cp w9 hown9 hgrow9 hat9
          have HOWN9 := hide hown9
          obtain ⟨ag9, sz9, be9⟩ := agF_grown (base := w.heap.size) HBA.out hgrow9 (fun x hx => ownBlk_le hx (Nat.le_refl _))
          have HG9 : Hid (w4.heap.size ≤ g) := by
            show _ ≤ _
            rcases hat9 with h | h
            · have h : w4.heap.size = g := by simpa [Value.ownBlock] using h
              omega
            · have := HSZ.out; omega
          have HCB9 := hide (celF_later HCB.out ag9 sz9)
          have HBE9 := hide be9
          have HNEW9 : Hid (∀ j u, V3[j]? = some u → w9.cell? ((⟨bb, oo, none⟩ : Addr).add j) = some u) := fun j u hu => by
            have h := HCL2.out j u hu
            rw [addr_add, HBE9.out.cell (p := ⟨bb, oo + j, none⟩) (World.block_lt_of_cell? w4 _ h)]
            exact h
          clear hown9 hgrow9 hat9 ag9 sz9 be9 HOWN HNEWS HCL2 z0 z1 z2 z3 z4 z5 z6
          go_wp2_with (at_builtin; apply Classical.byContradiction; intro hcontra)
          refine hcontra ?_
          clear hcontra
          refine wpList_append_nodes w9 rfl _ _ rfl w4.heap.size (.slice (some ⟨g, 0, none⟩) (1 + ns2.length) cp) (1 + ns2.length) (ndL ⟨7, 0, 0, 0, 0, 0, []⟩ none 0 ++ V2) rfl HOWN9.out ⟨bb, oo, none⟩ ns3.length c3 V3 rfl HCB9.out.1 HNEW9.out (celF_cells HCB9.out) (by omega) (by omega) HBE9.out.size ?_
          intro g2 cp2 w10 hown10 hgrow10 hat10
          have HOWN10 := hide hown10
          obtain ⟨ag10, sz10, be10⟩ := agF_grown (base := w.heap.size) HBE9.out hgrow10 (fun x hx => ownBlk_le hx HG9.out)
          have HC10 := hide (celF_app (celF_app (celF_one (base := w.heap.size) (W := w10) (a := none) (c := 0) HWF.out (slN_nil _ _)) (celF_later HCA.out ag10 sz10)) (celF_later HCB.out ag10 sz10))
          have HB10 := hide (below_step HB4.out be10)
          clear hown10 hgrow10 hat10 ag10 sz10 be10
          go_wp2
          go_ret3
          exact foR_row (L := [⟨7, 0, 0, 0, 0, 0, []⟩] ++ ns2 ++ ns3) HFI.out (by rw [List.length_append, List.length_append]; rfl) (by omega) (by have := HEB.out; omega) HB4.out.size HOWN10.out HC10.out HB10.out
      · rw [if_neg h7] at hA
        have h6 : bt s e = 38 := by rcases hsep with h | h; exact absurd h h7; exact h
        rw [h6] at HBE
        have HAA := hide hA
        clear hA hsep h7 h6
        have HRX2 := hide HRW2.out
        go_wp2_with fail
        refine (HBE.out _).mono ?_
        rintro e' w' ⟨rfl, hw'⟩
        rw [hw']
        clear hw' w'
        go_wp2_with fail
        refine (HBE.out _).mono ?_
        rintro e' w' ⟨rfl, hw'⟩
        rw [hw']
        clear hw' w'
        go_wp2_with fail
        refine (HIH2.out _).mono ?_
        rintro e' w3 ⟨ns3, a3, c3, V3, rfl, hrw3, hl3, -, hb3⟩
        have HX3 := hide ((hb3.block _ (Array.getElem?_eq_some_iff.1 HX2.out).1).trans HX2.out)
        have HRX3 := hide (rowF_later HRX2.out (AgF.below hb3) hb3.size)
        have HRW3 := hide (rowF_base hrw3 (show w.heap.size ≤ _ from HBW2.out.size))
        have HB3 := hide (below_step HBW2.out hb3)
        have HL3 := hide hl3
        clear hrw3 hl3 hb3 HX2 HBW2 HRX2
        rcases hy : y with _ | y'
        · have hA := HAA.out
          rw [hy] at hA
          have HA2 := hide hA
          clear hA hy HAA
          go_wp2
          go_ret3
          exact foR_none HA2.out HB3.out
        · have hA := HAA.out
          rw [hy] at hA HL3
          have hq3 := HL3.out y' rfl
          subst hq3
          simp only [] at hA
          have r1 := (HFL2.out ns3 hy).1
          have r2 := (HFL2.out ns3 hy).2
          have HSU := hide (fun W => sureAt_any s e2 41 (by decide) (by omega) W)
          obtain ⟨en, HEN⟩ : ∃ en, Hid (en = if bt s e2 = 41 then e2 + 1 else e2) := ⟨_, rfl⟩
          obtain ⟨oks, HOK⟩ : ∃ b, Hid (b = decide (bt s e2 = 41)) := ⟨_, rfl⟩
          rw [← HEN.out, ← HOK.out] at HSU
          have HFI : Hid (R.2 = en ∧ R.1.isSome = oks ∧ ∀ l, R.1 = some l → [⟨6, 0, 0, 0, 0, 0, []⟩] ++ ns2 ++ ns3 = l) := by
            show _ ∧ _
            rw [HEN.out, HOK.out, hA]
            by_cases h : bt s e2 = 41
            · rw [if_pos h, if_pos h, decide_eq_true h]; exact ⟨rfl, rfl, fun l hl => by injection hl⟩
            · rw [if_neg h, if_neg h, decide_eq_false h]; exact ⟨rfl, rfl, fun l hl => by cases hl⟩
          have HEB : Hid (e2 ≤ en) := by show _ ≤ _; rw [HEN.out]; split <;> omega
          clear hA hy HL3 HIH2 HAA HFL2
          go_wp2_with fail
          refine (HSU.out _).mono ?_
          rintro e' w4 ⟨rfl, hb4⟩
          have HX4 := hide ((hb4.block _ (Array.getElem?_eq_some_iff.1 HX3.out).1).trans HX3.out)
          have HB4 := hide (below_step HB3.out hb4)
          have HRA := hide (rowF_later HRX3.out (AgF.below hb4) hb4.size)
          have HRB := hide (rowF_later HRW3.out (AgF.below hb4) hb4.size)
          clear hb4 HX3 HB3 HRX3 HRW3 HSU
          obtain ⟨z0, z1, z2, z3, z4, z5, z6⟩ := (box7_cells HX4.out).1
          have HWF : Hid (ndWf ⟨6, 0, 0, 0, 0, 0, []⟩) := ndWf_op (op := 6) (v := 0) (by decide) (by decide)
          have HBA := hide ((Below.refl w4.heap.size w4).alloc (Nat.le_refl _) (.cells #[.int .i64 6, .int .i64 0, .int .i64 0, .int .i64 0, .int .i64 0, .int .i64 0, .slice none 0 0] 41))
          have HOWN : Hid ((w4.alloc (.cells #[.int .i64 6, .int .i64 0, .int .i64 0, .int .i64 0, .int .i64 0, .int .i64 0, .slice none 0 0] 41)).ownsRow w4.heap.size 41 7 (.slice (some ⟨w4.heap.size, 0, none⟩) 1 1) 1 (ndL ⟨6, 0, 0, 0, 0, 0, []⟩ none 0)) := own_one w4 (Nat.le_refl _) ⟨6, 0, 0, 0, 0, 0, []⟩ none 0
          have HSZ := hide (show w4.heap.size ≤ (w4.alloc (.cells #[.int .i64 6, .int .i64 0, .int .i64 0, .int .i64 0, .int .i64 0, .int .i64 0, .slice none 0 0] 41)).heap.size by simp)
          obtain ⟨b, o, rfl, hcl⟩ : ∃ b o, a2 = some ⟨b, o, none⟩ ∧ ∀ j u, V2[j]? = some u → w4.cell? ⟨b, o + j, none⟩ = some u := by
            rcases HRA.out.2 with ⟨h0, -⟩ | ⟨b, o, h, -, -, hcl⟩
            · omega
            · exact ⟨b, o, h, hcl⟩
          obtain ⟨bb, oo, rfl, hcl2⟩ : ∃ b o, a3 = some ⟨b, o, none⟩ ∧ ∀ j u, V3[j]? = some u → w4.cell? ⟨b, o + j, none⟩ = some u := by
            rcases HRB.out.2 with ⟨h0, -⟩ | ⟨b, o, h, -, -, hcl⟩
            · omega
            · exact ⟨b, o, h, hcl⟩
          have HNEWS : Hid (∀ j u, V2[j]? = some u → (w4.alloc (.cells #[.int .i64 6, .int .i64 0, .int .i64 0, .int .i64 0, .int .i64 0, .int .i64 0, .slice none 0 0] 41)).cell? ((⟨b, o, none⟩ : Addr).add j) = some u) := fun j u hu => by
            have h := hcl j u hu
            rw [addr_add, HBA.out.cell (p := ⟨b, o + j, none⟩) (World.block_lt_of_cell? w4 _ h)]
            exact h
          have HCL2 := hide hcl2
          have HCA := hide HRA.out.1
          have HCB := hide HRB.out.1
          clear hcl hcl2 HRA HRB HX4
          go_wp2_with (at_builtin; apply Classical.byContradiction; intro hcontra)
          refine hcontra ?_
          clear hcontra
          refine wpList_append_nodes (w4.alloc (.cells #[.int .i64 6, .int .i64 0, .int .i64 0, .int .i64 0, .int .i64 0, .int .i64 0, .slice none 0 0] 41)) rfl _ _ rfl w4.heap.size (.slice (some ⟨w4.heap.size, 0, none⟩) 1 1) 1 (ndL ⟨6, 0, 0, 0, 0, 0, []⟩ none 0) rfl HOWN.out ⟨b, o, none⟩ ns2.length c2 V2 rfl HCA.out.1 HNEWS.out (celF_cells HCA.out) (by omega) (by omega) HSZ.out ?_
          intro g cp w9 hown9 hgrow9 hat9
          have HOWN9 := hide hown9
          obtain ⟨ag9, sz9, be9⟩ := agF_grown (base := w.heap.size) HBA.out hgrow9 (fun x hx => ownBlk_le hx (Nat.le_refl _))
          have HG9 : Hid (w4.heap.size ≤ g) := by
            show _ ≤ _
            rcases hat9 with h | h
            · have h : w4.heap.size = g := by simpa [Value.ownBlock] using h
              omega
            · have := HSZ.out; omega
          have HCB9 := hide (celF_later HCB.out ag9 sz9)
          have HBE9 := hide be9
          have HNEW9 : Hid (∀ j u, V3[j]? = some u → w9.cell? ((⟨bb, oo, none⟩ : Addr).add j) = some u) := fun j u hu => by
            have h := HCL2.out j u hu
            rw [addr_add, HBE9.out.cell (p := ⟨bb, oo + j, none⟩) (World.block_lt_of_cell? w4 _ h)]
            exact h
          clear hown9 hgrow9 hat9 ag9 sz9 be9 HOWN HNEWS HCL2 z0 z1 z2 z3 z4 z5 z6
          go_wp2_with (at_builtin; apply Classical.byContradiction; intro hcontra)
          refine hcontra ?_
          clear hcontra
          refine wpList_append_nodes w9 rfl _ _ rfl w4.heap.size (.slice (some ⟨g, 0, none⟩) (1 + ns2.length) cp) (1 + ns2.length) (ndL ⟨6, 0, 0, 0, 0, 0, []⟩ none 0 ++ V2) rfl HOWN9.out ⟨bb, oo, none⟩ ns3.length c3 V3 rfl HCB9.out.1 HNEW9.out (celF_cells HCB9.out) (by omega) (by omega) HBE9.out.size ?_
          intro g2 cp2 w10 hown10 hgrow10 hat10
          have HOWN10 := hide hown10
          obtain ⟨ag10, sz10, be10⟩ := agF_grown (base := w.heap.size) HBE9.out hgrow10 (fun x hx => ownBlk_le hx HG9.out)
          have HC10 := hide (celF_app (celF_app (celF_one (base := w.heap.size) (W := w10) (a := none) (c := 0) HWF.out (slN_nil _ _)) (celF_later HCA.out ag10 sz10)) (celF_later HCB.out ag10 sz10))
          have HB10 := hide (below_step HB4.out be10)
          clear hown10 hgrow10 hat10 ag10 sz10 be10
          go_wp2
          go_ret3
          exact foR_row (L := [⟨6, 0, 0, 0, 0, 0, []⟩] ++ ns2 ++ ns3) HFI.out (by rw [List.length_append, List.length_append]; rfl) (by omega) (by have := HEB.out; omega) HB4.out.size HOWN10.out HC10.out HB10.out
    · rw [if_neg hsep] at hA
      have HA2 := hide hA
      have t1 : (((bt s e).toNat : Int) == 124) = false := u8_ne 124 (fun h => hsep (.inl h))
      have t2 : (((bt s e).toNat : Int) == 38) = false := u8_ne 38 (fun h => hsep (.inr h))
      have t3 : (((bt s e).toNat : Int) != 38) = true := by unfold bne; rw [t2]; rfl
      clear hA hsep
      generalize bt s e = ce at *
      go_wp2_with fail
      refine (HBE.out _).mono ?_
      rintro e' w' ⟨rfl, hw'⟩
      rw [hw']
      clear hw' w'
      go_wp2_with fail
      refine (HBE.out _).mono ?_
      rintro e' w' ⟨rfl, hw'⟩
      rw [hw']
      clear hw' w'
      go_wp2
      go_ret3
      exact foR_none HA2.out HBW2.out
end Go.Proofs.YtafbggbdlcfbdaaGreatDoor

/- The reference's formAt, whole; ParseOf: contracts. -/
namespace Go.Proofs.YtafbggbdlcfbdaaGreatDoor
open Go.RowKit

set_option maxHeartbeats 16000000 in
set_option maxRecDepth 8000 in
theorem form_atom (s : List UInt8) (f i : Nat) (hs : s.length ≤ 2000) (hi : i ≤ s.length) (h1 : ¬ bt s i = 126) (h2 : ¬ (bt s i = 69 ∨ bt s i = 65)) (h3 : ¬ bt s i = 40) (w : World) : Calls Tryz.prog 20 #[.string (bs s), .int .i64 (i : Int)] w (FoR w i (formA s (f + 1) i)) := by
  have hA : formA s (f + 1) i = (match atomA s i with | (none, e) => (none, e) | (some n, e) => (some [n], e)) := by
    rw [formA, if_neg h1, if_neg h2, if_neg h3]
    rfl
  have HBI := hide (fun W => byteAt_any s i W)
  have t1 : (((bt s i).toNat : Int) == 126) = false := u8_ne 126 h1
  have t2 : (((bt s i).toNat : Int) == 69) = false := u8_ne 69 (fun h => h2 (.inl h))
  have t3 : (((bt s i).toNat : Int) == 65) = false := u8_ne 65 (fun h => h2 (.inr h))
  have t4 : (((bt s i).toNat : Int) == 40) = false := u8_ne 40 h3
  have HAT := hide (atom_any s i hs hi)
  obtain ⟨q1, q2⟩ := atomA_bd hi
  generalize formA s (f + 1) i = R at hA ⊢
  generalize atomA s i = at' at *
  obtain ⟨x, e⟩ := at'
  unfold AtR at HAT
  simp only [] at q1 q2 HAT
  have HA := hide hA
  clear hA h1 h2 h3
  generalize bt s i = ci at *
  go_enter Tryz.func20, Tryz.ntmps20
  go_wp2_with fail
  refine (HBI.out _).mono ?_
  rintro e' w' ⟨rfl, hw'⟩
  rw [hw']
  clear hw' w'
  go_wp2_with fail
  refine (HAT.out _).mono ?_
  rintro e' w2 ⟨n, a, c, rfl, hsl, hwf, hm, hb⟩
  have HSL := hide hsl
  have HWF := hide hwf
  have HB := hide hb
  obtain ⟨oks, HOK⟩ : ∃ b, Hid (x.isSome = b) := ⟨_, rfl⟩
  rw [HOK.out]
  have HFI : Hid (R.2 = e ∧ R.1.isSome = oks ∧ ∀ l, R.1 = some l → [n] = l) := by
    show _ ∧ _
    rw [← HOK.out, HA.out]
    cases x with
    | none => exact ⟨rfl, rfl, fun l h => by cases h⟩
    | some m => exact ⟨rfl, rfl, fun l h => by injection h with h; rw [← h, hm m rfl]⟩
  have HAL := hide ((Below.refl w2.heap.size w2).alloc (Nat.le_refl _) (ndO n a c))
  have HAL2 := hide ((Below.refl (w2.alloc (ndO n a c)).heap.size (w2.alloc (ndO n a c))).alloc (Nat.le_refl _) (.cells (ndL n a c).toArray 41))
  have HZ : Hid ((w2.alloc (ndO n a c)).heap.size = w2.heap.size + 1) := by show _ = _; simp
  have HOW : Hid (((w2.alloc (ndO n a c)).alloc (.cells (ndL n a c).toArray 41)).ownsRow w.heap.size 41 7 (.slice (some ⟨w2.heap.size + 1, 0, none⟩) 1 1) 1 (ndL n a c)) := by
    have h := own_one (w2.alloc (ndO n a c)) (base := w.heap.size) (by have := HB.out.size; have := HZ.out; omega) n a c
    rw [HZ.out] at h
    exact h
  have HSN : Hid (SlN w.heap.size ((w2.alloc (ndO n a c)).alloc (.cells (ndL n a c).toArray 41)) a n.cf.length n.cf) := ⟨sl_agree HSL.out (AgF.below (below_step HAL.out HAL2.out)), HSL.out.2⟩
  have HBF := hide (below_step HB.out (below_step HAL.out HAL2.out))
  unfold ndV
  clear hsl hwf hm hb HOK
  go_wp2
  go_ret3
  exact foR_row (L := [n]) HFI.out rfl (by decide) (by omega) (Nat.le_refl _) HOW.out (celF_one HWF.out HSN.out) HBF.out
/-- A formula at a place. -/
theorem form_any (s : List UInt8) (hs : s.length ≤ 2000) : ∀ (f i : Nat), i ≤ s.length → s.length - i < f → ∀ w : World, Calls Tryz.prog 20 #[.string (bs s), .int .i64 (i : Int)] w (FoR w i (formA s f i)) := by
  intro f
  induction f with
  | zero => intro i hi hf; omega
  | succ f ih =>
    intro i hi hf w
    by_cases h1 : bt s i = 126
    · have l1 : i < s.length := bt_in (by rw [h1]; decide)
      exact form_not s f i hs h1 (ih (i + 1) l1 (by omega)) w
    by_cases h2 : bt s i = 69
    · exact form_some s f i hs h2 (fun h => ih (i + 3) h (by omega)) w
    by_cases h3 : bt s i = 65
    · exact form_all s f i hs h3 (fun h => ih (i + 3) h (by omega)) w
    by_cases h4 : bt s i = 40
    · exact form_pair s f i hs h4 (fun j hj hl => ih j hl (by omega)) w
    exact form_atom s f i hs hi h1 (fun h => h.elim h2 h3) h4 w
/-- What ParseOf hands back. -/
def PaI (w : World) (o : PaO) (e : Ending) (w' : World) : Prop := ∃ (a : Option Addr) (c : Nat), e = .returned (.tuple #[.slice a o.f.length c, .int .i64 (o.e : Int), .int .i64 o.c]) ∧ SlF w' a o.f.length o.f ∧ Below w.heap.size w w'
theorem paI_none {w w' : World} {e : Nat} {c : Int} {o : PaO} (ho : o = ⟨[], e, c⟩) (hb : Below w.heap.size w w') : PaI w o (.returned (.tuple #[.slice none 0 0, .int .i64 (e : Int), .int .i64 c])) w' := by
  subst ho
  exact ⟨none, 0, rfl, ⟨rfl, Nat.zero_le _, (fun x hx => by cases hx), .inl rfl⟩, hb⟩
set_option maxHeartbeats 16000000 in
set_option maxRecDepth 8000 in
theorem parseOf_any (hNS : NodeSays) (s : List UInt8) (w : World) : Calls Tryz.prog 8 #[.string (bs s)] w (PaI w (parsA s)) := by
  have hsz := bs_size s
  by_cases h2 : 2000 < s.length
  · have HR : Hid (parsA s = ⟨[], 0, 3⟩) := by show _ = _; unfold parsA; rw [if_pos h2]
    have hg : (s.length : Int) > 2000 := by omega
    generalize parsA s = R at HR ⊢
    clear h2
    go_enter Tryz.func8, Tryz.ntmps8
    go_wp2
    go_ret3
    exact paI_none HR.out (Below.refl _ _)
  · have hg : ¬ (s.length : Int) > 2000 := by omega
    have hR : parsA s = (match formA s (s.length + 1) 0 with | (none, e) => ⟨[], e, 5⟩ | (some f, e) => if e < s.length then ⟨[], e, 5⟩ else if (formP f).2 = 0 then ⟨f, 0, 0⟩ else ⟨[], s.length, (formP f).2⟩) := by unfold parsA; rw [if_neg h2]; rfl
    have HF := hide (form_any s (by omega) (s.length + 1) 0 (by omega) (by omega) w)
    obtain ⟨q1, q2⟩ := formA_bd s (s.length + 1) 0 (by omega)
    generalize parsA s = R at hR ⊢
    generalize formA s (s.length + 1) 0 = x at *
    obtain ⟨x, e⟩ := x
    unfold FoR at HF
    simp only [] at q1 q2 HF
    have HR := hide hR
    clear hR
    go_enter Tryz.func8, Tryz.ntmps8
    go_wp2_with fail
    refine HF.out.mono ?_
    rintro e' w2 ⟨ns, a, c, V, rfl, hrw, hl, hln, hb⟩
    have HB := hide hb
    have hns : ns.length ≤ 2001 := by omega
    have HSL := hide (rowF_sl hrw (by unfold maxLen; omega))
    have HL := hide hl
    clear hrw hl hb hln HF
    rcases hx : x with _ | f
    · have hR := HR.out
      rw [hx] at hR
      have HR2 := hide hR
      clear hR hx HR HL
      go_wp2
      go_ret3
      exact paI_none HR2.out HB.out
    · have hR := HR.out
      rw [hx] at hR HL
      have hq := HL.out f rfl
      subst hq
      simp only [] at hR
      clear HL HR hx
      by_cases he : e < s.length
      · rw [if_pos he] at hR
        have hei : (e : Int) < (s.length : Int) := by omega
        have HR2 := hide hR
        clear hR he
        go_wp2
        go_ret3
        exact paI_none HR2.out HB.out
      · rw [if_neg he] at hR
        have hei : ¬ (e : Int) < (s.length : Int) := by omega
        have HFF := hide (fun cap => formFault_of a ns.length cap ns w2 HSL.out hNS)
        generalize formP ns = fp at *
        obtain ⟨p, z⟩ := fp
        simp only [] at hR HFF
        clear he
        by_cases hz : z = 0
        · rw [if_pos hz] at hR
          have hz' : (z == 0) = true := by simp [hz]
          have HR2 := hide hR
          clear hR
          subst hz
          go_wp2_with fail
          refine (HFF.out _).mono ?_
          rintro e' w3 ⟨rfl, hb3⟩
          have HB3 := hide hb3
          clear hb3
          go_wp2
          go_ret3
          exact ⟨a, c, by rw [HR2.out]; rfl, by rw [HR2.out]; exact slF_below HSL.out HB3.out, below_step HB.out HB3.out⟩
        · rw [if_neg hz] at hR
          have hz' : (z == 0) = false := by simp [hz]
          have HR2 := hide hR
          clear hR hz
          go_wp2_with fail
          refine (HFF.out _).mono ?_
          rintro e' w3 ⟨rfl, hb3⟩
          have HB3 := hide hb3
          clear hb3
          go_wp2
          go_ret3
          exact paI_none HR2.out (below_step HB.out HB3.out)
end Go.Proofs.YtafbggbdlcfbdaaGreatDoor

/- TextReads from what package text answers: its whole walk. -/
namespace Go.Proofs.YtafbggbdlcfbdaaGreatDoor
open Go.RowKit

set_option maxHeartbeats 16000000 in
set_option maxRecDepth 8000 in
theorem textreads_of (hPr : PrintSays) (hPa : ParseSays Handle) (hNS : NodeSays) (a : Option Addr) (n cap : Nat) (ns : List Nd) (s : List UInt8) (w : World) (hs : SlF w a n ns) (hcap : n ≤ cap) (hg : Handle w) : Calls Tryz.prog 3 #[.slice a n cap, .string (bs s)] w fun e w' => e = .returned (.bool true) ∧ Below w.heap.size w w' := by
  have HS := hide hs
  have HG : Hid (∀ W, Below w.heap.size w W → Handle W) := fun W h => hg.below h
  have HES := hide (fun c W (h : Handle W) => error_same c W h)
  have HR1 := hide (formFault_of a n cap ns w hs hNS)
  have HPO := hide (fun W => parseOf_any hNS s W)
  have HPD := hide (fun W h => hPa s W h)
  unfold PaI at HPO
  unfold PaR at HPD
  have HNE := hide (fun L ax ay cx cy W (g1 : SlF W ax L.length L) (g2 : SlF W ay L.length L) => nodes_eq ax ay L.length cx cy L W g1 g2)
  have hE : bs [] = ⟨#[]⟩ := rfl
  generalize parsA s = o at *
  obtain ⟨L, p, c⟩ := o
  simp only [] at HPO HPD
  by_cases hz : (formP ns).2 = 0
  · obtain ⟨t, he, hok, hn40, -⟩ := form_tree hz
    have hn : n ≤ 40 := by rw [← hs.1]; exact hn40
    have HPT := hide (fun W (hb : Below w.heap.size w W) => print_any a n cap ns w hs hn t.flat.length t (Nat.le_refl _) hok [] [] W (by simp [he]) hb)
    rw [show (([] : List Nd).length : Int) = 0 from rfl] at HPT
    have HPP := hide (fun W (g : SlF W a n ns) => (hPr a n cap ns W g hcap).1 t he hok hz)
    rw [hz] at HR1
    have hbe : ((bs t.txt).toList == (bs t.txt).toList) = true := by simp
    clear hs hcap hg hPr hPa hNS hz he hok hn40 hn hE
    generalize t.txt = tx at *
    generalize (formP ns).1 = f1 at *
    go_enter Tryz.func3, Tryz.ntmps3
    go_wp2_with fail
    refine HR1.out.mono ?_
    rintro e w1 ⟨rfl, hb1⟩
    have HB1 := hide hb1
    clear hb1 HR1
    have HC := hide (HPT.out w1 HB1.out)
    go_wp2_with fail
    refine HC.out.mono ?_
    rintro e w2 ⟨rfl, hb2⟩
    have HB2 := hide (below_step HB1.out hb2)
    clear hb2 HC
    have HC := hide (HPP.out w2 (slF_below HS.out HB2.out))
    go_wp2_with fail
    refine HC.out.mono ?_
    rintro e w3 ⟨rfl, hb3⟩
    have HB3 := hide (below_step HB2.out hb3)
    clear hb3 HC
    have HC := hide (HES.out 0 w3 (HG.out w3 HB3.out))
    go_wp2_with fail
    refine HC.out.mono ?_
    rintro e w4 ⟨rfl, hb4⟩
    have HB4 := hide (below_step HB3.out hb4)
    clear hb4 HC
    have HC := hide (HPO.out w4)
    go_wp2_with fail
    refine HC.out.mono ?_
    rintro e w5 ⟨a5, c5, rfl, hs5, hb5⟩
    have HB5 := hide (below_step HB4.out hb5)
    have HS5 := hide hs5
    clear hb5 hs5 HC
    have HC := hide (HPD.out w5 (HG.out w5 HB5.out))
    go_wp2_with fail
    refine HC.out.mono ?_
    rintro e w6 ⟨a6, c6, rfl, hs6, hb6⟩
    have HB6 := hide (below_step HB5.out hb6)
    have HS6 := hide hs6
    have HS5' := hide (slF_below HS5.out hb6)
    clear hb6 hs6 HC HS5
    have HC := hide (HES.out c w6 (HG.out w6 HB6.out))
    go_wp2_with fail
    refine HC.out.mono ?_
    rintro e w7 ⟨rfl, hb7⟩
    have HB7 := hide (below_step HB6.out hb7)
    have HC2 := hide (HNE.out L a6 a5 c6 c5 w7 (slF_below HS6.out hb7) (slF_below HS5'.out hb7))
    clear hb7 HC
    go_wp2_with fail
    refine HC2.out.mono ?_
    rintro e w8 ⟨rfl, hb8⟩
    have HB8 := hide (below_step HB7.out hb8)
    clear hb8 HC2
    go_wp2
    go_ret
    exact ⟨rfl, HB8.out⟩
  · have HPP := hide (fun W (g : SlF W a n ns) => (hPr a n cap ns W g hcap).2 hz)
    have hzb : ((formP ns).2 == 0) = false := by simpa using hz
    have hbe : ((bs []).toList == (bs []).toList) = true := by simp
    clear hs hcap hg hPr hPa hNS hz
    generalize (formP ns).1 = f1 at *
    generalize (formP ns).2 = z at *
    go_enter Tryz.func3, Tryz.ntmps3
    go_wp2_with fail
    refine HR1.out.mono ?_
    rintro e w1 ⟨rfl, hb1⟩
    have HB1 := hide hb1
    clear hb1 HR1
    have HC := hide (HPP.out w1 (slF_below HS.out HB1.out))
    go_wp2_with fail
    rw [← hE]
    clear hE
    refine HC.out.mono ?_
    rintro e w3 ⟨rfl, hb3⟩
    have HB3 := hide (below_step HB1.out hb3)
    clear hb3 HC
    have HC := hide (HES.out z w3 (HG.out w3 HB3.out))
    go_wp2_with fail
    refine HC.out.mono ?_
    rintro e w4 ⟨rfl, hb4⟩
    have HB4 := hide (below_step HB3.out hb4)
    clear hb4 HC
    have HC := hide (HPO.out w4)
    go_wp2_with fail
    refine HC.out.mono ?_
    rintro e w5 ⟨a5, c5, rfl, hs5, hb5⟩
    have HB5 := hide (below_step HB4.out hb5)
    have HS5 := hide hs5
    clear hb5 hs5 HC
    have HC := hide (HPD.out w5 (HG.out w5 HB5.out))
    go_wp2_with fail
    refine HC.out.mono ?_
    rintro e w6 ⟨a6, c6, rfl, hs6, hb6⟩
    have HB6 := hide (below_step HB5.out hb6)
    have HS6 := hide hs6
    have HS5' := hide (slF_below HS5.out hb6)
    clear hb6 hs6 HC HS5
    have HC := hide (HES.out c w6 (HG.out w6 HB6.out))
    go_wp2_with fail
    refine HC.out.mono ?_
    rintro e w7 ⟨rfl, hb7⟩
    have HB7 := hide (below_step HB6.out hb7)
    have HC2 := hide (HNE.out L a6 a5 c6 c5 w7 (slF_below HS6.out hb7) (slF_below HS5'.out hb7))
    clear hb7 HC
    go_wp2_with fail
    refine HC2.out.mono ?_
    rintro e w8 ⟨rfl, hb8⟩
    have HB8 := hide (below_step HB7.out hb8)
    clear hb8 HC2
    go_wp2
    go_ret
    exact ⟨rfl, HB8.out⟩
end Go.Proofs.YtafbggbdlcfbdaaGreatDoor
