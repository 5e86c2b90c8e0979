/- 2 texts in one. -/
import Derived.Test.YtkighkpmebcnhacDoorZLp
import Derived.Test.YtkighkpmebcnhacDoorDb
import Derived.Test.YtkighkpmebcnhacDoorEc
import Derived.Test.YtkighkpmebcnhacDoorZLq
/- The reference's SpreadOf: contract. -/
namespace Go.Proofs.YtkighkpmebcnhacDoor
open Go.RowKit

/-- Spread's code, and what it hands back. -/
def atC (tr : Int) (l : List Int) : Int := if l.all (fun x => decide (0 ≤ x ∧ x < tr)) = true then 0 else 1
def sprC (b t : Int) (N : List (List Int)) (k : Nat) (tr : Int) (at_ : List Int) : Int :=
  if autoC b t N k = 0 then (if codeM b tr = 0 then (if (at_.length : Int) = t then atC tr at_ else 2) else codeM b tr) else autoC b t N k
def sprN (b t : Int) (N : List (List Int)) (E : List Bool) (k : Nat) (tr : Int) (at_ : List Int) : List (List Int) := if sprC b t N k tr at_ = 0 then leastN (relN N (spreadT b tr.toNat at_ (manyU b tr).toNat)) E (manyU b tr).toNat else []
def sprE (b t : Int) (N : List (List Int)) (E : List Bool) (k : Nat) (tr : Int) (at_ : List Int) : List Bool := if sprC b t N k tr at_ = 0 then leastE (relN N (spreadT b tr.toNat at_ (manyU b tr).toNat)) E (manyU b tr).toNat else []
theorem atC_not {tr : Int} {l : List Int} (i : Nat) (hi : i < l.length) (h : ¬ (0 ≤ l.getD i 0 ∧ l.getD i 0 < tr)) : atC tr l = 1 := by
  unfold atC
  rw [if_neg]
  intro hall
  rw [List.all_eq_true] at hall
  have := hall (l.getD i 0) (by rw [getD_at _ i hi]; exact List.getElem_mem hi)
  exact h (by simpa using this)
theorem atC_all {tr : Int} {l : List Int} (h : ∀ i, i < l.length → 0 ≤ l.getD i 0 ∧ l.getD i 0 < tr) : atC tr l = 0 := by
  unfold atC
  rw [if_pos]
  rw [List.all_eq_true]
  intro x hx
  obtain ⟨i, hi, rfl⟩ := List.getElem_of_mem hx
  have := h i hi
  rw [getD_at _ i hi] at this
  simpa using this
theorem atC_get {tr : Int} {l : List Int} (h : atC tr l = 0) (i : Nat) (hi : i < l.length) : 0 ≤ l.getD i 0 ∧ l.getD i 0 < tr := by
  apply Classical.byContradiction
  intro hn
  rw [atC_not i hi hn] at h
  cases h
theorem sprC_zero {b t : Int} {N : List (List Int)} {k : Nat} {tr : Int} {at_ : List Int} (h : sprC b t N k tr at_ = 0) : autoC b t N k = 0 ∧ codeM b tr = 0 ∧ (at_.length : Int) = t ∧ atC tr at_ = 0 := by
  unfold sprC at h
  split at h
  · split at h
    · split at h
      · exact ⟨by assumption, by assumption, by assumption, h⟩
      · cases h
    · rename_i h1 h2; exact absurd h h2
  · rename_i h1; exact absurd h h1
theorem digB_spread (b : Int) (h2 : b ≤ 6) (tr : Nat) (at_ : List Int) (l : Int) : digB b (spreadD b tr at_ l) = true := by
  unfold digB
  rw [List.all_eq_true]
  intro x hx
  obtain ⟨j, hj, rfl⟩ := List.getElem_of_mem hx
  have := spreadD_bd b h2 tr at_ l j hj
  rw [getD_at _ j hj] at this
  simpa using this

set_option maxHeartbeats 4000000 in
set_option maxRecDepth 8000 in
theorem spreadOf_bad (b t : Int) (a : Option Addr) (n cap : Nat) (a' : Option Addr) (k cap' : Nat) (N : List (List Int)) (tr : Int) (aa : Option Addr) (la ca : Nat) (at_ : List Int) (w : World) (hs : Sl2 w a n N) (hk : k ≤ maxLen) (ha : Sl w aa la at_) (hC : sprC b t N k tr at_ ≠ 0) :
    Calls Tryd.prog 12 #[.agg #[.int .i64 b, .int .i64 t, .slice a n cap, .slice a' k cap'], .int .i64 tr, .slice aa la ca] w (BothR w 0 0 [] [] (sprC b t N k tr at_)) := by
  have hLa := ha.1
  have hmA := ha.2.1
  unfold maxLen at hmA
  have hB0 := below_two w (.cells #[.int .i64 b, .int .i64 t, .slice a n cap, .slice a' k cap'] 25) (.cells #[.int .i64 0, .int .i64 0, .slice none 0 0, .slice none 0 0] 25)
  have HB0 := hide hB0
  have HF := hide (afault_u b t a a' n cap k cap' N _ (sl2_below hs hB0) hk)
  have HLT := hide (fun W => letters_u b tr W)
  have HA := hide (sl_below ha hB0)
  have HBX := hide (fun W (h : Below _ _ W) => (@two_boxes w W (.int .i64 b) (.int .i64 t) (.slice a n cap) (.slice a' k cap') (.int .i64 0) (.int .i64 0) (.slice none 0 0) (.slice none 0 0) 25 h).1)
  have HRX := hide (heap_alloc2_snd w (.cells #[.int .i64 b, .int .i64 t, .slice a n cap, .slice a' k cap'] 25) (.cells #[.int .i64 0, .int .i64 0, .slice none 0 0, .slice none 0 0] 25))
  generalize hW0 : (w.alloc (.cells #[.int .i64 b, .int .i64 t, .slice a n cap, .slice a' k cap'] 25)).alloc (.cells #[.int .i64 0, .int .i64 0, .slice none 0 0, .slice none 0 0] 25) = wb at HB0 HF HA HBX HRX
  clear hs hk ha hB0
  have HC : Hid (sprC b t N k tr at_ = if autoC b t N k = 0 then (if codeM b tr = 0 then (if (la : Int) = t then atC tr at_ else 2) else codeM b tr) else autoC b t N k) := by show _ = _; unfold sprC; rw [hLa]
  generalize sprC b t N k tr at_ = c at HC hC ⊢
  generalize autoC b t N k = cx at HC HF
  obtain ⟨p0, p1, p2, p3⟩ := HBX.out wb (Below.refl _ _)
  go_enter Tryd.func12, Tryd.ntmps12
  go_wp2_with fail
  clear hW0 p0 p1 p2 p3
  refine HF.out.mono ?_
  rintro e w1 ⟨rfl, hb1⟩
  have HB1 := hide hb1
  have HR1 := hide ((hb1.block _ (Array.getElem?_eq_some_iff.1 HRX.out).1).trans HRX.out)
  obtain ⟨p0, p1, p2, p3⟩ := HBX.out w1 hb1
  obtain ⟨⟨r0, r1, r2, r3⟩, rf⟩ := box_cells HR1.out
  clear hb1 HF
  by_cases hx : cx = 0
  · rw [if_pos hx] at HC
    have hxi : (cx != 0) = false := by simpa using hx
    by_cases hM : codeM b tr = 0
    · rw [if_pos hM] at HC
      rw [hM] at HLT
      by_cases hT : (la : Int) = t
      · rw [if_pos hT] at HC
        have hTi : ((la : Int) != t) = false := by simpa using hT
        have HBAD := hide (fun i => @atC_not tr at_ i)
        have HALL := hide (@atC_all tr at_)
        rw [hLa] at HBAD HALL
        generalize atC tr at_ = ac at HC HBAD HALL
        generalize manyU b tr = mu at HLT
        go_wp2_with (go_at_call 24; refine (HLT.out _).mono ?_; rintro e w' ⟨rfl, hw'⟩; obtain rfl := hw'.symm)
        go_loop [10] (fun i => ∃ j : Nat, j ≤ la ∧ i = .int .i64 j ∧ ∀ q, q < j → 0 ≤ at_.getD q 0 ∧ at_.getD q 0 < tr) (fun i => la - (intOf i).toNat)
        case atStart => exact ⟨0, by omega, rfl, by omega⟩
        case round =>
          obtain ⟨j, hj, rfl, hd⟩ := hrel
          have HD := hide hd
          clear hd
          by_cases hlt : j < la
          · have hlti : (j : Int) < (la : Int) := by omega
            obtain ⟨ba, oa, rfl, hca⟩ := sl_cell (sl_below HA.out HB1.out) j hlt
            have HB' := hide (HBAD.out j hlt)
            have HD' : Hid (0 ≤ at_.getD j 0 ∧ at_.getD j 0 < tr → ∀ q, q < j + 1 → 0 ≤ at_.getD q 0 ∧ at_.getD q 0 < tr) := by
              intro h q hq
              by_cases e : q = j
              · subst e; exact h
              · exact HD.out q (by omega)
            generalize at_.getD j 0 = x at hca HB' HD'
            by_cases hg : 0 ≤ x ∧ x < tr
            · have HD2 := hide (HD'.out hg)
              have hg1 : decide (x < 0) = false := by simp; omega
              have hg2 : ¬ tr ≤ x := by omega
              clear HD' HB' hg
              go_wp2
              go_round
              case rel => exact ⟨j + 1, by omega, by go_num, HD2.out⟩
              case measure => simp [intOf]; omega
            · have hac := HB'.out hg
              rw [hac] at HC
              have hg' : decide (x < 0) = true ∨ (decide (x < 0) = false ∧ tr ≤ x) := by
                by_cases h0 : x < 0
                · exact .inl (by simpa using h0)
                · exact .inr ⟨by simpa using h0, by omega⟩
              clear HD' HB' hg hac
              rcases hg' with hg | ⟨hg, hg2⟩
              all_goals
                go_wp2
                obtain ⟨⟨hset, -, -⟩, hbel⟩ := box_set (v0 := .int .i64 0) (v1 := .int .i64 0) (v2 := .slice none 0 0) (v3 := .slice none 0 0) HR1.out rfl
                obtain ⟨⟨z0, z1, z2, z3⟩, -⟩ := box_cells hset
                exact bodyPost_ret (v := .tuple #[.agg #[.int .i64 0, .int .i64 0, .slice none 0 0, .slice none 0 0], .int .i64 1]) (by simp [results, Tryd.results12, go_sem, z0, z1, z2, z3]) rfl ⟨none, 0, none, 0, by rw [HC.out]; rfl, autoNew_nil _ _, hbel _ _ (below_step HB0.out HB1.out) (by omega)⟩
          · exact absurd (HC.out.trans (HALL.out fun q hq => HD.out q (by omega))) hC
      · rw [if_neg hT] at HC
        have hTi : ((la : Int) != t) = true := by simpa using hT
        generalize manyU b tr = mu at HLT
        go_wp2_with (go_at_call 24; refine (HLT.out _).mono ?_; rintro e w' ⟨rfl, hw'⟩; obtain rfl := hw'.symm)
        obtain ⟨⟨hset, -, -⟩, hbel⟩ := box_set (v0 := .int .i64 0) (v1 := .int .i64 0) (v2 := .slice none 0 0) (v3 := .slice none 0 0) HR1.out rfl
        obtain ⟨⟨z0, z1, z2, z3⟩, -⟩ := box_cells hset
        exact bodyPost_ret (v := .tuple #[.agg #[.int .i64 0, .int .i64 0, .slice none 0 0, .slice none 0 0], .int .i64 2]) (by simp [results, Tryd.results12, go_sem, z0, z1, z2, z3]) rfl ⟨none, 0, none, 0, by rw [HC.out]; rfl, autoNew_nil _ _, hbel _ _ (below_step HB0.out HB1.out) (by omega)⟩
    · rw [if_neg hM] at HC
      generalize codeM b tr = cm at HC HLT hM
      generalize manyU b tr = mu at HLT
      have hMi : (cm != 0) = true := by simpa using hM
      go_wp2_with (go_at_call 24; refine (HLT.out _).mono ?_; rintro e w' ⟨rfl, hw'⟩; obtain rfl := hw'.symm)
      obtain ⟨⟨hset, -, -⟩, hbel⟩ := box_set (v0 := .int .i64 0) (v1 := .int .i64 0) (v2 := .slice none 0 0) (v3 := .slice none 0 0) HR1.out rfl
      obtain ⟨⟨z0, z1, z2, z3⟩, -⟩ := box_cells hset
      exact bodyPost_ret (v := .tuple #[.agg #[.int .i64 0, .int .i64 0, .slice none 0 0, .slice none 0 0], .int .i64 cm]) (by simp [results, Tryd.results12, go_sem, z0, z1, z2, z3]) rfl ⟨none, 0, none, 0, by rw [HC.out]; rfl, autoNew_nil _ _, hbel _ _ (below_step HB0.out HB1.out) (by omega)⟩
  · rw [if_neg hx] at HC
    have hxi : (cx != 0) = true := by simpa using hx
    go_wp2
    obtain ⟨⟨hset, -, -⟩, hbel⟩ := box_set (v0 := .int .i64 0) (v1 := .int .i64 0) (v2 := .slice none 0 0) (v3 := .slice none 0 0) HR1.out rfl
    obtain ⟨⟨z0, z1, z2, z3⟩, -⟩ := box_cells hset
    exact bodyPost_ret (v := .tuple #[.agg #[.int .i64 0, .int .i64 0, .slice none 0 0, .slice none 0 0], .int .i64 cx]) (by simp [results, Tryd.results12, go_sem, z0, z1, z2, z3]) rfl ⟨none, 0, none, 0, by rw [HC.out]; rfl, autoNew_nil _ _, hbel _ _ (below_step HB0.out HB1.out) (by omega)⟩
end Go.Proofs.YtkighkpmebcnhacDoor

/- The reference's SpreadOf, where all is well: contract. -/
namespace Go.Proofs.YtkighkpmebcnhacDoor
open Go.RowKit

theorem spreadT_take (b : Int) (tr : Nat) (at_ : List Int) (n l : Nat) (hl : l < n) : (spreadT b tr at_ n).take (l + 1) = (spreadT b tr at_ n).take l ++ [packL b (spreadD b tr at_ (l : Int))] := by
  rw [List.take_succ_eq_append_getElem (by rw [spread_len]; exact hl)]
  simp [spreadT]
theorem spreadD_take (b : Int) (tr : Nat) (at_ : List Int) (l : Int) (i : Nat) (hi : i < at_.length) : (spreadD b tr at_ l).take (i + 1) = (spreadD b tr at_ l).take i ++ [dOf b tr l (at_.getD i 0).toNat] := by
  rw [List.take_succ_eq_append_getElem (by simp [spreadD]; exact hi)]
  simp [spreadD, List.getD, hi]
theorem dig_wf {b x : Int} (h2 : b ≤ 6) (h : 0 ≤ x ∧ x < kindsI b) : (Lit.int .i64 x).wf = true := by
  have := kinds_bd2 b h2
  exact WalkArith.wf_i64 (by omega)

set_option maxHeartbeats 16000000 in
set_option maxRecDepth 8000 in
theorem spreadOf_ok (b t : Int) (a : Option Addr) (n cap : Nat) (a' : Option Addr) (cap' : Nat) (N : List (List Int)) (E : List Bool) (tr : Int) (aa : Option Addr) (la ca : Nat) (at_ : List Int) (w : World) (hs : Sl2 w a n N) (he : SlB w a' n E) (ha : Sl w aa la at_) (hC : sprC b t N n tr at_ = 0) :
    Calls Tryd.prog 12 #[.agg #[.int .i64 b, .int .i64 t, .slice a n cap, .slice a' n cap'], .int .i64 tr, .slice aa la ca] w (BothR w b tr (leastN (relN N (spreadT b tr.toNat at_ (manyU b tr).toNat)) E (manyU b tr).toNat) (leastE (relN N (spreadT b tr.toNat at_ (manyU b tr).toNat)) E (manyU b tr).toNat) 0) := by
  have hLa := ha.1
  obtain ⟨hA, hM, hT, hat⟩ := sprC_zero hC
  obtain ⟨hMt, -, hG, hmu⟩ := autoC_zero hA
  have hn80 := autoC_80 hA
  rw [hs.1] at hG hn80
  obtain ⟨h1, h2, h3, h4, h5, h6⟩ := codeM_zero hM
  obtain ⟨-, -, g3, g4, g5, g6⟩ := codeM_zero hMt
  have hkb := kinds_bd2 b h2
  have hpos := pw_pos (kindsI b) hkb.1 tr.toNat
  obtain ⟨trn, htr⟩ : ∃ trn : Nat, tr = (trn : Int) := ⟨tr.toNat, by omega⟩
  subst htr
  rw [Int.toNat_natCast] at h5 h6 hpos ⊢
  have hmm : ((manyU b (trn : Int)).toNat : Int) = manyU b (trn : Int) := by omega
  have hmm1 : 1 ≤ (manyU b (trn : Int)).toNat := by omega
  have hmm36 : (manyU b (trn : Int)).toNat ≤ 36 := by omega
  rw [hLa] at hT
  have hla : t.toNat = la := by omega
  have hpm : pw (kindsI b) at_.length = ((manyU b t).toNat : Int) := by rw [hLa, ← hla, ← g6]; omega
  have hok := spread_ok b h2 trn at_ (manyU b (trn : Int)).toNat (manyU b t).toNat hpm
  have hla5 : la ≤ 5 := by omega
  have hB0 := below_two w (.cells #[.int .i64 b, .int .i64 t, .slice a n cap, .slice a' n cap'] 25) (.cells #[.int .i64 0, .int .i64 0, .slice none 0 0, .slice none 0 0] 25)
  have HB0 := hide hB0
  have HF := hide (afault_u b t a a' n cap n cap' N _ (sl2_below hs hB0) he.2.1)
  rw [hA] at HF
  have HLT := hide (fun W => letters_u b (trn : Int) W)
  rw [hM, ← hmm] at HLT
  have HA := hide (sl_below ha hB0)
  have HS := hide (sl2_below hs hB0)
  have HE := hide (slB_below he hB0)
  have HBX := hide (fun W (h : Below _ _ W) => (@two_boxes w W (.int .i64 b) (.int .i64 t) (.slice a n cap) (.slice a' n cap') (.int .i64 0) (.int .i64 0) (.slice none 0 0) (.slice none 0 0) 25 h).1)
  have HRX := hide (heap_alloc2_snd w (.cells #[.int .i64 b, .int .i64 t, .slice a n cap, .slice a' n cap'] 25) (.cells #[.int .i64 0, .int .i64 0, .slice none 0 0, .slice none 0 0] 25))
  have HAT : Hid (∀ i, i < la → 0 ≤ at_.getD i 0 ∧ at_.getD i 0 < (trn : Int)) := fun i hi => atC_get hat i (by omega)
  have HRE := hide (fun ato ct W g1 g2 g3 => relettered_any b t (trn : Int) a n cap (manyU b t).toNat N a' cap' E ato (manyU b (trn : Int)).toNat ct (spreadT b trn at_ (manyU b (trn : Int)).toNat) W g1 g2 g3 hG hok hmm1 hmm36 hn80)
  unfold GivesAuto at HRE
  have HTK := hide (fun l h => spreadT_take b trn at_ (manyU b (trn : Int)).toNat l h)
  have HTL := hide (spread_len b trn at_ (manyU b (trn : Int)).toNat)
  have HTW : Hid (∀ x ∈ spreadT b trn at_ (manyU b (trn : Int)).toNat, (Lit.int .i64 x).wf = true) := fun x hx => by
    have := hok x hx
    have := hG.2.2.2.1
    exact WalkArith.wf_i64 (by omega)
  have HDK := hide (fun l i h => spreadD_take b trn at_ l i h)
  rw [hLa] at HDK
  have HDW : Hid (∀ l, ∀ x ∈ spreadD b trn at_ l, (Lit.int .i64 x).wf = true) := fun l x hx => by
    obtain ⟨j, hj, rfl⟩ := List.getElem_of_mem hx
    have := spreadD_bd b h2 trn at_ l j hj
    rw [getD_at _ j hj] at this
    exact dig_wf h2 this
  have HDL : Hid (∀ l, (spreadD b trn at_ l).length = la) := fun l => by simp [spreadD, hLa]
  have HDB := hide (fun l => digB_spread b h2 trn at_ l)
  have HDO := hide (fun l i W hi hl hl' => digitOf_any b trn l i W h1 h2 (by omega) hi hl hl')
  have HPO := hide (fun ad cd l W h => packOf_any b ad la cd (spreadD b trn at_ l) W h1 h2 hla5 (HDB.out l) h)
  obtain ⟨i0, hi0, hz0, hz1, hz2⟩ := info_parts info3
  have hTi : ((la : Int) != t) = false := by simpa using hT
  clear hs he ha hA hM hMt hG hC hok hB0 hmu g3 g4 g5 g6 h3 h4 h5 h6 hpm hpos hat hmm
  generalize leastN (relN N (spreadT b trn at_ (manyU b (trn : Int)).toNat)) E (manyU b (trn : Int)).toNat = LN at HRE ⊢
  generalize leastE (relN N (spreadT b trn at_ (manyU b (trn : Int)).toNat)) E (manyU b (trn : Int)).toNat = LE at HRE ⊢
  generalize spreadT b trn at_ (manyU b (trn : Int)).toNat = T at HRE HTK HTL HTW
  generalize (manyU b (trn : Int)).toNat = mu at HRE HTK HTL HLT hmm1 hmm36
  generalize hW0 : (w.alloc (.cells #[.int .i64 b, .int .i64 t, .slice a n cap, .slice a' n cap'] 25)).alloc (.cells #[.int .i64 0, .int .i64 0, .slice none 0 0, .slice none 0 0] 25) = wb at HB0 HF HA HS HE HBX HRX
  have HSZ0 : Hid (wb.heap.size = w.heap.size + 2) := by show _ = _; rw [← hW0]; simp
  obtain ⟨p0, p1, p2, p3⟩ := HBX.out wb (Below.refl _ _)
  go_enter Tryd.func12, Tryd.ntmps12
  go_wp2_with fail
  clear hW0 p0 p1 p2 p3
  refine HF.out.mono ?_
  rintro e w1 ⟨rfl, hb1⟩
  have HB1 := hide hb1
  obtain ⟨p0, p1, p2, p3⟩ := HBX.out w1 hb1
  clear hb1 HF
  go_wp2_with (go_at_call 24; refine (HLT.out _).mono ?_; rintro e w' ⟨rfl, hw'⟩; obtain rfl := hw'.symm)
  clear p0 p1 p2 p3
  go_loop [10] (fun i => ∃ j : Nat, j ≤ la ∧ i = .int .i64 j) (fun i => la - (intOf i).toNat)
  case atStart => exact ⟨0, by omega, rfl⟩
  case round =>
    obtain ⟨j, hj, rfl⟩ := hrel
    by_cases hlt : j < la
    · have hlti : (j : Int) < (la : Int) := by omega
      obtain ⟨ba, oa, rfl, hca⟩ := sl_cell (sl_below HA.out HB1.out) j hlt
      have hg := HAT.out j hlt
      generalize at_.getD j 0 = x at hca hg
      have hg1 : decide (x < 0) = false := by simp; omega
      have hg2 : ¬ (trn : Int) ≤ x := by omega
      clear hg
      go_wp2
      go_round
      case rel => exact ⟨j + 1, by omega, by go_num⟩
      case measure => simp [intOf]; omega
    · have hlti : ¬ (j : Int) < (la : Int) := by omega
      go_wp2
      go_loopw [11, 12] (fun v lv wx => ∃ l : Nat, l ≤ mu ∧ lv = .int .i64 l ∧ Grow w1 (T.take l) v wx) (fun _ lv _ => mu - (intOf lv).toNat)
      case atStart => exact ⟨0, by omega, rfl, grow_nil w1⟩
      case round =>
        obtain ⟨l, hl, rfl, hgr⟩ := hrel
        have HGR := hide hgr
        clear hgr
        by_cases hlm : l < mu
        · have hlmi : (l : Int) < (mu : Int) := by omega
          have HTK1 := hide (HTK.out l hlm)
          have HDK1 := hide (HDK.out (l : Int))
          have HDL1 := hide (HDL.out (l : Int))
          have HDW1 := hide (HDW.out (l : Int))
          have HPO1 := hide (fun ad cd W h => HPO.out ad cd (l : Int) W h)
          have HDO1 := hide (fun i W hi => HDO.out (l : Int) i W hi (by omega) (by omega))
          generalize hD : spreadD b trn at_ (l : Int) = D at HTK1 HDK1 HDL1 HDW1 HPO1
          clear hD
          go_wp2
          obtain ⟨wq, hwq⟩ : ∃ wq : World, wq = wr := ⟨_, rfl⟩
          rw [← hwq] at HGR ⊢
          clear hwq wr
          go_loopw [13, 14] (fun v iv wx => ∃ i : Nat, i ≤ la ∧ iv = .int .i64 i ∧ GrowR wq (D.take i) v wx) (fun _ iv _ => la - (intOf iv).toNat)
          case atStart => exact ⟨0, by omega, rfl, ⟨World.ownsRow_nil _ _ _ _, Below.refl _ _⟩⟩
          case round =>
            obtain ⟨i, hi, rfl, hgi⟩ := hrel
            have HGI := hide hgi
            have HBL := hide (below_step HB1.out (HGR.out.2.trans (hgi.2.mono HGR.out.2.size)))
            obtain ⟨p0, p1, p2, p3⟩ := HBX.out wr HBL.out
            clear hgi p1 p2 p3
            by_cases hil : i < la
            · have hili : (i : Int) < (la : Int) := by omega
              obtain ⟨ba, oa, rfl, hca⟩ := sl_cell (sl_below HA.out HBL.out) i hil
              have hg := HAT.out i hil
              have HDT := hide (HDK1.out i hil)
              obtain ⟨x, hx⟩ : ∃ x : Nat, at_.getD i 0 = (x : Int) := ⟨(at_.getD i 0).toNat, by omega⟩
              rw [hx] at hca hg
              rw [hx, Int.toNat_natCast] at HDT
              have HDC := hide (fun W => HDO1.out x W (by omega))
              have HCA := hide hca
              generalize dOf b trn (l : Int) x = u at HDT HDC
              have HTLi : Hid ((D.take i).length = i) := by show _ = _; rw [List.length_take]; have := HDL1.out; omega
              have HOWN := hide HGI.out.1
              rw [HTLi.out] at HOWN
              have HSZ := hide HGI.out.2.size
              clear hx hg
              have HKEEP : Hid (∀ (w3 : World) (o : Obj) (vr : Value), wr.ownsRow wq.heap.size 3 1 vr i ((D.take i).map (Value.int .i64)) → (wr.alloc o).drew.grownBy w3 vr.ownBlock → w3.cell? ⟨w.heap.size, 0, none⟩ = some (.int .i64 b) ∧ w3.cell? ⟨ba, oa + i, none⟩ = some (.int .i64 (x : Int))) := by
                intro w3 o vr hr hg
                have hB3 : Below wq.heap.size wq w3 := Below.grown ((HGI.out.2.alloc HSZ.out o).drew) hg (by have := HSZ.out; simp; omega) (fun k hk => (hr.lt k hk).1)
                have hBb := below_step HB1.out (HGR.out.2.trans (hB3.mono HGR.out.2.size))
                obtain ⟨e0, -, -, -⟩ := HBX.out w3 hBb
                refine ⟨e0, ?_⟩
                obtain ⟨_, _, e, hc⟩ := sl_cell (sl_below HA.out hBb) i hil
                obtain ⟨_, _, e', hc'⟩ := sl_cell (sl_below HA.out HBL.out) i hil
                cases e
                cases e'
                rw [hc, ← hc']
                exact HCA.out
              go_wp2
              go_region_held_law (fun W => W.cell? ⟨w.heap.size, 0, none⟩ = some (.int .i64 b) ∧ W.cell? ⟨ba, oa + i, none⟩ = some (.int .i64 (x : Int))) (first | go_keep | exact HKEEP.out _ _ _ HOWN.out hgrow5)
                (first
                  | (refine step_append_lies _ rfl (.tmp 69) (.tmp 79) 39 rfl wq.heap.size 3 i0 (.int .i64 0) 1 8 Tryd.underlying39 hi0 hz0 hz1 hz2 rfl (by decide) _ i _ rfl (World.ownsRow.alloc (w := wr) HOWN.out _) ⟨wr.heap.size, 0, none⟩ 1 1 [.int .i64 u] (by simp [Act.eval]) rfl (one_new wr _ _) (fun u hu => by simp at hu; subst hu; rfl) (by omega) (by unfold maxLen; omega) (by omega) (by have := HSZ.out; simp; omega) (wr.heap.size + 1) (by simp) ?_; intro g5 cg5 w6 hown5 hgrow5 hat5 hlt5; have HO5 := hide hown5; have HG5 := hide hgrow5)
                  | (go_at_call 27; refine (HDC.out _).mono ?_; rintro e w' ⟨rfl, rfl⟩))
              all_goals
                go_wp2
                go_roundw
                case rel =>
                  refine ⟨i + 1, by omega, by go_num, ?_⟩
                  rw [HDT.out]
                  exact growR_push (o := .cells #[.int .i64 u] 3) HGI.out (by rw [HTLi.out]; exact HO5.out) ⟨HG5.out.os, HG5.out.tape, HG5.out.output, HG5.out.size, HG5.out.block⟩
                case measure => simp [intOf]; omega
            · have hili : ¬ (i : Int) < (la : Int) := by omega
              obtain rfl : la = i := by omega
              have HFULL : Hid (D.take la = D) := List.take_of_length_le (by have := HDL1.out; omega)
              rw [HFULL.out] at HGI
              obtain ⟨ar, cr, rfl, hsr⟩ := sl_of_owns rfl (by unfold maxLen; have := HDL1.out; omega) HDW1.out HGI.out.1
              have hsr1 := hsr.1
              rw [HDL1.out] at hsr1 ⊢
              have HPC := hide (HPO1.out ar cr wr hsr1)
              clear hsr hsr1
              go_wp2_with fail
              clear p0
              refine HPC.out.mono ?_
              rintro e w' ⟨rfl, nn, hw'⟩
              have HGW := hide (grow_below HGR.out (below_step HGI.out.2 (below_drewN (Below.refl wr.heap.size wr) nn)))
              rw [hw']
              clear hw' w' HPC
              generalize wr.drewN nn = w5 at HGW ⊢
              have HTLl : Hid ((T.take l).length = l) := by show _ = _; rw [List.length_take]; have := HTL.out; omega
              have HOWN := hide HGW.out.1
              rw [HTLl.out] at HOWN
              have HSZ := hide HGW.out.2.size
              generalize packL b D = pk at HTK1
              go_wp2_with (at_builtin; refine wpList_append_own _ rfl _ _ 39 rfl w1.heap.size 3 i0 (.int .i64 0) 1 8 Tryd.underlying39 hi0 hz0 hz1 hz2 rfl (by decide) _ l ((T.take l).map (Value.int .i64)) rfl (HOWN.out.alloc _) ⟨w5.heap.size, 0, none⟩ 1 1 [.int .i64 pk] rfl rfl (one_new _ _ _) (fun u hu => by simp at hu; subst hu; rfl) (by unfold maxLen; omega) (by omega) (by have := HSZ.out; simp; omega) ?_; intro v3 w6 hown hgrow _)
              go_roundw
              case rel =>
                exact ⟨l + 1, by omega, by go_num, by rw [HTK1.out]; exact grow_push HGW.out (by rw [HTLl.out]; exact hown) hgrow⟩
              case measure => simp [intOf]; omega
        · have hlmi : ¬ (l : Int) < (mu : Int) := by omega
          obtain rfl : mu = l := by omega
          have HFULL : Hid (T.take mu = T) := List.take_of_length_le (by have := HTL.out; omega)
          rw [HFULL.out] at HGR
          obtain ⟨ar, cr, rfl, hsr⟩ := sl_of_owns rfl (by unfold maxLen; have := HTL.out; omega) HTW.out HGR.out.1
          have hsr1 := hsr.1
          rw [HTL.out] at hsr1 ⊢
          have HBL := hide (below_step HB1.out HGR.out.2)
          obtain ⟨p0, p1, p2, p3⟩ := HBX.out wr HBL.out
          have HRC := hide (HRE.out ar cr wr (sl2_below HS.out HBL.out) (slB_below HE.out HBL.out) hsr1)
          have HR := hide ((HBL.out.block _ (Array.getElem?_eq_some_iff.1 HRX.out).1).trans HRX.out)
          clear hsr hsr1 HRE
          go_wp2_with fail
          clear p0 p1 p2 p3
          refine HRC.out.mono ?_
          rintro e w3 ⟨ay, cy, ay', cy', rfl, hnew, hb3⟩
          have hold := (hb3.block _ (Array.getElem?_eq_some_iff.1 HR.out).1).trans HR.out
          have HHOLD := hide hold
          have HNEW := hide hnew
          have HBF := hide (below_step HB0.out (below_step HBL.out hb3))
          have HSW := hide HBL.out.size
          obtain ⟨⟨o0, o1, o2, o3⟩, of⟩ := box_cells hold
          clear hnew hb3 hold HRC
          go_wp2
          obtain ⟨⟨hset, hsz, hoth⟩, hbel⟩ := box_set (v0 := .int .i64 b) (v1 := .int .i64 (trn : Int)) (v2 := .slice ay LN.length cy) (v3 := .slice ay' LN.length cy') HHOLD.out rfl
          have hfin : AutoNew w ay LN.length LN ay' LE ((((w3.setCell ⟨w.heap.size + 1, 0, none⟩ (.int .i64 b)).setCell ⟨w.heap.size + 1, 1, none⟩ (.int .i64 (trn : Int))).setCell ⟨w.heap.size + 1, 2, none⟩ (.slice ay LN.length cy)).setCell ⟨w.heap.size + 1, 3, none⟩ (.slice ay' LN.length cy')) := fun W' hW' => HNEW.out W' (fun x hx hxl => by
            have h1 := HSW.out
            have h2 := HSZ0.out
            rw [hW' x (by omega) (by rw [hsz]; exact hxl), hoth x (by omega)])
          have hb := hbel w w.heap.size HBF.out (by omega)
          obtain ⟨⟨z0, z1, z2, z3⟩, -⟩ := box_cells hset
          exact bodyPost_ret (v := .tuple #[.agg #[.int .i64 b, .int .i64 (trn : Int), .slice ay LN.length cy, .slice ay' LN.length cy'], .int .i64 0]) (by simp [results, Tryd.results12, go_sem, z0, z1, z2, z3]) rfl ⟨ay, cy, ay', cy', rfl, hfin, hb⟩

theorem spreadOf_u (b t : Int) (a : Option Addr) (n cap : Nat) (a' : Option Addr) (k cap' : Nat) (N : List (List Int)) (E : List Bool) (tr : Int) (aa : Option Addr) (la ca : Nat) (at_ : List Int) (w : World) (hs : Sl2 w a n N) (he : SlB w a' k E) (ha : Sl w aa la at_) :
    Calls Tryd.prog 12 #[.agg #[.int .i64 b, .int .i64 t, .slice a n cap, .slice a' k cap'], .int .i64 tr, .slice aa la ca] w (BothR w (okI (sprC b t N k tr at_) b) (okI (sprC b t N k tr at_) tr) (sprN b t N E k tr at_) (sprE b t N E k tr at_) (sprC b t N k tr at_)) := by
  by_cases hc : sprC b t N k tr at_ = 0
  · obtain rfl : k = n := by rw [(autoC_zero (sprC_zero hc).1).2.1, hs.1]
    unfold sprN sprE okI
    rw [if_pos hc, if_pos hc, if_pos hc, if_pos hc, hc]
    exact spreadOf_ok b t a k cap a' cap' N E tr aa la ca at_ w hs he ha hc
  · unfold sprN sprE okI
    rw [if_neg hc, if_neg hc, if_neg hc, if_neg hc]
    exact spreadOf_bad b t a n cap a' k cap' N tr aa la ca at_ w hs he.2.1 ha hc
end Go.Proofs.YtkighkpmebcnhacDoor
