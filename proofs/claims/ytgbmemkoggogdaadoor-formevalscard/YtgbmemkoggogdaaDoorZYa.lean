/- 4 texts in one. -/
import Derived.Test.YtgbmemkoggogdaaDoorQd
import Derived.Test.YtgbmemkoggogdaaDoorZXd
import Derived.Test.YtgbmemkoggogdaaDoorZCf
/- Package formula's small functions: contracts. -/
namespace Go.Proofs.YtgbmemkoggogdaaDoor
open Go.RowKit

set_option maxHeartbeats 2000000 in
set_option maxRecDepth 4000 in
theorem devParts_any (op : Int) (w : World) : Calls Tryd.prog 48 #[.int .i64 op] w fun e w' => e = .returned (.int .i64 ((partsN op : Nat) : Int)) ∧ w' = w := by
  by_cases h5 : op = 5
  · subst h5
    go_enter Tryd.func48, Tryd.ntmps48
    go_wp2
    go_ret
    exact ⟨rfl, rfl⟩
  by_cases h8 : op = 8
  · subst h8
    go_enter Tryd.func48, Tryd.ntmps48
    go_wp2
    go_ret
    exact ⟨rfl, rfl⟩
  by_cases h9 : op = 9
  · subst h9
    go_enter Tryd.func48, Tryd.ntmps48
    go_wp2
    go_ret
    exact ⟨rfl, rfl⟩
  by_cases h6 : op = 6
  · subst h6
    go_enter Tryd.func48, Tryd.ntmps48
    go_wp2
    go_ret
    exact ⟨rfl, rfl⟩
  by_cases h7 : op = 7
  · subst h7
    go_enter Tryd.func48, Tryd.ntmps48
    go_wp2
    go_ret
    exact ⟨rfl, rfl⟩
  have hp : partsN op = 0 := by unfold partsN; rw [if_neg (by omega), if_neg (by omega)]
  rw [hp]
  have e5 : (op == 5) = false := by simpa using h5
  have e6 : (op == 6) = false := by simpa using h6
  have e7 : (op == 7) = false := by simpa using h7
  have e8 : (op == 8) = false := by simpa using h8
  have e9 : (op == 9) = false := by simpa using h9
  clear h5 h6 h7 h8 h9 hp
  go_enter Tryd.func48, Tryd.ntmps48
  go_wp2
  go_ret
  exact ⟨rfl, rfl⟩
set_option maxHeartbeats 2000000 in
set_option maxRecDepth 4000 in
theorem binds_any (op : Int) (w : World) : Calls Tryd.prog 27 #[.int .i64 op] w fun e w' => e = .returned (.bool (decide (op = 8 ∨ op = 9))) ∧ w' = w := by
  by_cases h8 : op = 8
  · subst h8
    go_enter Tryd.func27, Tryd.ntmps27
    go_wp2
    go_ret
    exact ⟨rfl, rfl⟩
  have e8 : (op == 8) = false := by simpa using h8
  by_cases h9 : op = 9
  · subst h9
    clear e8 h8
    go_enter Tryd.func27, Tryd.ntmps27
    go_wp2
    go_ret
    exact ⟨rfl, rfl⟩
  have e9 : (op == 9) = false := by simpa using h9
  have HE := hide (decide_eq_false (show ¬ (op = 8 ∨ op = 9) by omega))
  generalize decide (op = 8 ∨ op = 9) = R at HE ⊢
  clear h8 h9
  go_enter Tryd.func27, Tryd.ntmps27
  go_wp2
  go_ret
  exact ⟨by rw [HE.out]; rfl, rfl⟩
set_option maxHeartbeats 2000000 in
set_option maxRecDepth 4000 in
theorem isVar_any (v : Int) (w : World) : Calls Tryd.prog 89 #[.int .i64 v] w fun e w' => e = .returned (.bool (decide (0 ≤ v ∧ v < 5))) ∧ w' = w := by
  by_cases h0 : v ≥ 0
  · by_cases h5 : v < 5
    · have HE := hide (decide_eq_true (show 0 ≤ v ∧ v < 5 by omega))
      generalize decide (0 ≤ v ∧ v < 5) = R at HE ⊢
      go_enter Tryd.func89, Tryd.ntmps89
      go_wp2
      go_ret
      exact ⟨by rw [HE.out]; rfl, rfl⟩
    · have HE := hide (decide_eq_false (show ¬ (0 ≤ v ∧ v < 5) by omega))
      generalize decide (0 ≤ v ∧ v < 5) = R at HE ⊢
      go_enter Tryd.func89, Tryd.ntmps89
      go_wp2
      go_ret
      exact ⟨by rw [HE.out]; rfl, rfl⟩
  · have HE := hide (decide_eq_false (show ¬ (0 ≤ v ∧ v < 5) by omega))
    generalize decide (0 ≤ v ∧ v < 5) = R at HE ⊢
    go_enter Tryd.func89, Tryd.ntmps89
    go_wp2
    go_ret
    exact ⟨by rw [HE.out]; rfl, rfl⟩
set_option maxHeartbeats 2000000 in
set_option maxRecDepth 4000 in
theorem isWord_any (v : Int) (w : World) : Calls Tryd.prog 88 #[.int .i64 v] w fun e w' => e = .returned (.bool (decide (0 ≤ v ∧ v < 3))) ∧ w' = w := by
  by_cases h0 : v ≥ 0
  · by_cases h5 : v < 3
    · have HE := hide (decide_eq_true (show 0 ≤ v ∧ v < 3 by omega))
      generalize decide (0 ≤ v ∧ v < 3) = R at HE ⊢
      go_enter Tryd.func88, Tryd.ntmps88
      go_wp2
      go_ret
      exact ⟨by rw [HE.out]; rfl, rfl⟩
    · have HE := hide (decide_eq_false (show ¬ (0 ≤ v ∧ v < 3) by omega))
      generalize decide (0 ≤ v ∧ v < 3) = R at HE ⊢
      go_enter Tryd.func88, Tryd.ntmps88
      go_wp2
      go_ret
      exact ⟨by rw [HE.out]; rfl, rfl⟩
  · have HE := hide (decide_eq_false (show ¬ (0 ≤ v ∧ v < 3) by omega))
    generalize decide (0 ≤ v ∧ v < 3) = R at HE ⊢
    go_enter Tryd.func88, Tryd.ntmps88
    go_wp2
    go_ret
    exact ⟨by rw [HE.out]; rfl, rfl⟩
/-- Nothing stands in a node beside its Op. -/
def blankP (n : Nd) : Prop := n.var = 0 ∧ n.oth = 0 ∧ n.wd = 0 ∧ n.wd2 = 0 ∧ n.num = 0 ∧ n.cf.length = 0
instance (n : Nd) : Decidable (blankP n) := by unfold blankP; exact inferInstance
set_option maxHeartbeats 4000000 in
set_option maxRecDepth 4000 in
theorem isBlank_any (n : Nd) (a : Option Addr) (c : Nat) (w : World) : Calls Tryd.prog 73 #[ndV n a c] w fun e w' => e = .returned (.bool (decide (blankP n))) ∧ Below w.heap.size w w' := by
  have HB := hide ((Below.refl w.heap.size w).alloc (Nat.le_refl _) (ndO n a c))
  obtain ⟨⟨p0, p1, p2, p3, p4, p5, p6⟩, -⟩ := box7_cells (heap_alloc_last w (ndO n a c))
  have HE : Hid (blankP n ↔ n.var = 0 ∧ n.oth = 0 ∧ n.wd = 0 ∧ n.wd2 = 0 ∧ n.num = 0 ∧ n.cf.length = 0) := Iff.rfl
  unfold ndV
  generalize hW1 : w.alloc (ndO n a c) = W1 at HB p0 p1 p2 p3 p4 p5 p6
  have HD : Hid (∀ b : Bool, (b = true ↔ (n.var = 0 ∧ n.oth = 0 ∧ n.wd = 0 ∧ n.wd2 = 0 ∧ n.num = 0 ∧ n.cf.length = 0)) → decide (blankP n) = b) := fun b h => by
    cases b with
    | true => exact decide_eq_true (HE.out.2 (h.1 rfl))
    | false => exact decide_eq_false (fun hq => by have := h.2 (HE.out.1 hq); cases this)
  clear HE
  generalize decide (blankP n) = R at HD ⊢
  by_cases hvar : n.var = 0
  · have evar : (n.var == 0) = true := by simp [hvar]
    by_cases hoth : n.oth = 0
    · have eoth : (n.oth == 0) = true := by simp [hoth]
      by_cases hwd : n.wd = 0
      · have ewd : (n.wd == 0) = true := by simp [hwd]
        by_cases hwd2 : n.wd2 = 0
        · have ewd2 : (n.wd2 == 0) = true := by simp [hwd2]
          by_cases hnum : n.num = 0
          · have enum : (n.num == 0) = true := by simp [hnum]
            by_cases hL : n.cf.length = 0
            · have eL : ((n.cf.length : Int) == 0) = true := by simp [hL]
              have HR := hide (HD.out true ⟨fun _ => by omega, fun _ => rfl⟩)
              clear HD hvar hoth hwd hwd2 hnum hL
              go_enter Tryd.func73, Tryd.ntmps73
              go_wp2
              go_ret
              exact ⟨by rw [HR.out]; rfl, HB.out⟩
            · have eL : ((n.cf.length : Int) == 0) = false := by simp [hL]
              have HR := hide (HD.out false ⟨(fun h => by cases h), fun h => by omega⟩)
              clear HD hvar hoth hwd hwd2 hnum hL
              go_enter Tryd.func73, Tryd.ntmps73
              go_wp2
              go_ret
              exact ⟨by rw [HR.out]; rfl, HB.out⟩
          · have enum : (n.num == 0) = false := by simp [hnum]
            have HR := hide (HD.out false ⟨(fun h => by cases h), fun h => by omega⟩)
            clear HD hvar hoth hwd hwd2 hnum
            go_enter Tryd.func73, Tryd.ntmps73
            go_wp2
            go_ret
            exact ⟨by rw [HR.out]; rfl, HB.out⟩
        · have ewd2 : (n.wd2 == 0) = false := by simp [hwd2]
          have HR := hide (HD.out false ⟨(fun h => by cases h), fun h => by omega⟩)
          clear HD hvar hoth hwd hwd2
          go_enter Tryd.func73, Tryd.ntmps73
          go_wp2
          go_ret
          exact ⟨by rw [HR.out]; rfl, HB.out⟩
      · have ewd : (n.wd == 0) = false := by simp [hwd]
        have HR := hide (HD.out false ⟨(fun h => by cases h), fun h => by omega⟩)
        clear HD hvar hoth hwd
        go_enter Tryd.func73, Tryd.ntmps73
        go_wp2
        go_ret
        exact ⟨by rw [HR.out]; rfl, HB.out⟩
    · have eoth : (n.oth == 0) = false := by simp [hoth]
      have HR := hide (HD.out false ⟨(fun h => by cases h), fun h => by omega⟩)
      clear HD hvar hoth
      go_enter Tryd.func73, Tryd.ntmps73
      go_wp2
      go_ret
      exact ⟨by rw [HR.out]; rfl, HB.out⟩
  · have evar : (n.var == 0) = false := by simp [hvar]
    have HR := hide (HD.out false ⟨(fun h => by cases h), fun h => by omega⟩)
    clear HD hvar
    go_enter Tryd.func73, Tryd.ntmps73
    go_wp2
    go_ret
    exact ⟨by rw [HR.out]; rfl, HB.out⟩
end Go.Proofs.YtgbmemkoggogdaaDoor

/- Package formula: unused: contract. -/
namespace Go.Proofs.YtgbmemkoggogdaaDoor
open Go.RowKit

/-- What is left of a node without what its Op uses. -/
def unN (n : Nd) : Nd := if n.op = 1 ∨ n.op = 2 then ⟨n.op, n.var, n.oth, n.wd, n.wd2, 0, []⟩ else if n.op = 3 then ⟨n.op, 0, n.oth, 0, n.wd2, 0, n.cf⟩ else if n.op = 4 then ⟨n.op, 0, 0, 0, 0, n.num, n.cf⟩ else if n.op = 8 ∨ n.op = 9 then ⟨n.op, 0, n.oth, n.wd, n.wd2, n.num, n.cf⟩ else n
def unA (n : Nd) (a : Option Addr) : Option Addr := if n.op = 1 ∨ n.op = 2 then none else a
def unK (n : Nd) (c : Nat) : Nat := if n.op = 1 ∨ n.op = 2 then 0 else c
set_option maxHeartbeats 8000000 in
set_option maxRecDepth 4000 in
theorem unused_any (n : Nd) (a : Option Addr) (c : Nat) (w : World) : Calls Tryd.prog 74 #[ndV n a c] w fun e w' => e = .returned (ndV (unN n) (unA n a) (unK n c)) ∧ Below w.heap.size w w' := by
  obtain ⟨op, var, oth, wd, wd2, num, cf⟩ := n
  unfold ndV
  simp only
  by_cases h1 : op = 1
  · subst h1
    go_enter Tryd.func74, Tryd.ntmps74
    go_wp2
    exact bodyPost_ret (v := .agg #[.int .i64 1, .int .i64 var, .int .i64 oth, .int .i64 wd, .int .i64 wd2, .int .i64 0, .slice none 0 0]) (by simp [results, Tryd.results74, go_sem]) rfl ⟨rfl, below_two _ _ _⟩
  by_cases h2 : op = 2
  · subst h2
    go_enter Tryd.func74, Tryd.ntmps74
    go_wp2
    exact bodyPost_ret (v := .agg #[.int .i64 2, .int .i64 var, .int .i64 oth, .int .i64 wd, .int .i64 wd2, .int .i64 0, .slice none 0 0]) (by simp [results, Tryd.results74, go_sem]) rfl ⟨rfl, below_two _ _ _⟩
  by_cases h3 : op = 3
  · subst h3
    go_enter Tryd.func74, Tryd.ntmps74
    go_wp2
    exact bodyPost_ret (v := .agg #[.int .i64 3, .int .i64 0, .int .i64 oth, .int .i64 0, .int .i64 wd2, .int .i64 0, .slice a cf.length c]) (by simp [results, Tryd.results74, go_sem]) rfl ⟨rfl, below_two _ _ _⟩
  by_cases h4 : op = 4
  · subst h4
    go_enter Tryd.func74, Tryd.ntmps74
    go_wp2
    exact bodyPost_ret (v := .agg #[.int .i64 4, .int .i64 0, .int .i64 0, .int .i64 0, .int .i64 0, .int .i64 num, .slice a cf.length c]) (by simp [results, Tryd.results74, go_sem]) rfl ⟨rfl, below_two _ _ _⟩
  by_cases h8 : op = 8
  · subst h8
    go_enter Tryd.func74, Tryd.ntmps74
    go_wp2
    exact bodyPost_ret (v := .agg #[.int .i64 8, .int .i64 0, .int .i64 oth, .int .i64 wd, .int .i64 wd2, .int .i64 num, .slice a cf.length c]) (by simp [results, Tryd.results74, go_sem]) rfl ⟨rfl, below_two _ _ _⟩
  by_cases h9 : op = 9
  · subst h9
    go_enter Tryd.func74, Tryd.ntmps74
    go_wp2
    exact bodyPost_ret (v := .agg #[.int .i64 9, .int .i64 0, .int .i64 oth, .int .i64 wd, .int .i64 wd2, .int .i64 num, .slice a cf.length c]) (by simp [results, Tryd.results74, go_sem]) rfl ⟨rfl, below_two _ _ _⟩
  have e1 : (op == 1) = false := by simpa using h1
  have e2 : (op == 2) = false := by simpa using h2
  have e3 : (op == 3) = false := by simpa using h3
  have e4 : (op == 4) = false := by simpa using h4
  have e8 : (op == 8) = false := by simpa using h8
  have e9 : (op == 9) = false := by simpa using h9
  have hu : unN ⟨op, var, oth, wd, wd2, num, cf⟩ = ⟨op, var, oth, wd, wd2, num, cf⟩ := by unfold unN; simp only; rw [if_neg (by omega), if_neg h3, if_neg h4, if_neg (by omega)]
  have ha : unA ⟨op, var, oth, wd, wd2, num, cf⟩ a = a := by unfold unA; simp only; rw [if_neg (by omega)]
  have hk : unK ⟨op, var, oth, wd, wd2, num, cf⟩ c = c := by unfold unK; simp only; rw [if_neg (by omega)]
  rw [hu, ha, hk]
  clear hu ha hk h1 h2 h3 h4 h8 h9
  go_enter Tryd.func74, Tryd.ntmps74
  go_wp2
  exact bodyPost_ret (v := .agg #[.int .i64 op, .int .i64 var, .int .i64 oth, .int .i64 wd, .int .i64 wd2, .int .i64 num, .slice a cf.length c]) (by simp [results, Tryd.results74, go_sem]) rfl ⟨rfl, below_two _ _ _⟩
end Go.Proofs.YtgbmemkoggogdaaDoor

/- Package formula: inRange: contract. -/
namespace Go.Proofs.YtgbmemkoggogdaaDoor
open Go.RowKit

set_option maxHeartbeats 8000000 in
set_option maxRecDepth 4000 in
theorem inRange_any (n : Nd) (a : Option Addr) (c : Nat) (w : World) (hs : Sl w a n.cf.length n.cf) : Calls Tryd.prog 72 #[ndV n a c] w fun e w' => e = .returned (.bool (decide (ndR n))) ∧ Below w.heap.size w w' := by
  have HB := hide ((Below.refl w.heap.size w).alloc (Nat.le_refl _) (ndO n a c))
  obtain ⟨⟨p0, p1, p2, p3, p4, p5, p6⟩, -⟩ := box7_cells (heap_alloc_last w (ndO n a c))
  have hsl := sl_below hs HB.out
  have HD : Hid (∀ b : Bool, (b = true ↔ (1 ≤ n.op ∧ n.op ≤ 9) ∧ ((n.op = 3 ∨ n.op = 4 ∨ n.op = 8 ∨ n.op = 9) → 0 ≤ n.var ∧ n.var < 5) ∧ (n.op = 4 → 0 ≤ n.oth ∧ n.oth < 5) ∧ ((n.op = 3 ∨ n.op = 4) → 0 ≤ n.wd ∧ n.wd < 3) ∧ (n.op = 4 → 0 ≤ n.wd2 ∧ n.wd2 < 3) ∧ (n.op = 3 → 0 ≤ n.num ∧ n.num ≤ 9) ∧ ((n.op = 1 ∨ n.op = 2) → n.cf.length ≤ 5 ∧ absT n.cf n.cf.length ≤ 12 ∧ -60 ≤ n.num ∧ n.num ≤ 60)) → decide (ndR n) = b) := fun b h => by
    cases b with
    | true => exact decide_eq_true (h.1 rfl)
    | false => exact decide_eq_false (fun hq => by have := h.2 hq; cases this)
  have HCK : Hid (n.cf.length ≤ 5 → Calls Tryd.prog 77 #[.slice a n.cf.length c, .int .i64 n.num] (w.alloc (ndO n a c)) fun e w' => e = .returned (errV (ckC n.cf n.num)) ∧ w' = w.alloc (ndO n a c)) := fun h5 => lnCheck_any a n.cf.length c n.cf n.num _ hsl h5
  have HCC : Hid (ckC n.cf n.num = if absT n.cf n.cf.length ≤ 12 ∧ -60 ≤ n.num ∧ n.num ≤ 60 then 0 else 1) := rfl
  have hmx := hs.2.1
  unfold maxLen at hmx
  have HWD := hide (fun W => isWord_any n.wd W)
  have HW2 := hide (fun W => isWord_any n.wd2 W)
  have HVA := hide (fun W => isVar_any n.var W)
  have HOT := hide (fun W => isVar_any n.oth W)
  unfold ndV
  generalize hW1 : w.alloc (ndO n a c) = W1 at HB p0 p1 p2 p3 p4 p5 p6 hsl HCK
  clear hs hsl
  generalize decide (ndR n) = R at HD ⊢
  obtain ⟨op, var, oth, wd, wd2, num, cf⟩ := n
  simp only at p0 p1 p2 p3 p4 p5 p6 HD HCK HCC hmx HWD HW2 HVA HOT hW1 ⊢
  generalize absT cf cf.length = sz at HD HCC
  generalize ckC cf num = ck at HCK HCC
  by_cases h12 : op = 1 ∨ op = 2
  · by_cases h5 : (cf.length : Int) ≤ 5
    · have hck := HCC.out
      have HK := hide (HCK.out (by omega))
      clear HCC HCK
      by_cases hok : sz ≤ 12 ∧ -60 ≤ num ∧ num ≤ 60
      · rw [if_pos hok] at hck
        have HR := hide (HD.out true ⟨fun _ => by omega, fun _ => rfl⟩)
        rw [hck, show errV 0 = .nilIface from rfl] at HK
        clear HD hck hok
        rcases h12 with rfl | rfl
        all_goals
          go_enter Tryd.func72, Tryd.ntmps72
          go_wp2_with (go_at_call 77; refine HK.out.mono ?_; rintro e w' ⟨rfl, hw'⟩; rw [hw']; clear hw' w')
          go_ret
          exact ⟨by rw [HR.out]; first | rfl | (rw [decide_eq_false (show ¬ num ≤ 9 by omega)]; rfl), HB.out⟩
      · rw [if_neg hok] at hck
        have HR := hide (HD.out false ⟨(fun h => by cases h), fun h => by omega⟩)
        rw [hck, show errV 1 = .iface 26 (.int .i64 1) from rfl] at HK
        clear HD hck hok
        rcases h12 with rfl | rfl
        all_goals
          go_enter Tryd.func72, Tryd.ntmps72
          go_wp2_with (go_at_call 77; refine HK.out.mono ?_; rintro e w' ⟨rfl, hw'⟩; rw [hw']; clear hw' w')
          go_ret
          exact ⟨by rw [HR.out]; first | rfl | (rw [decide_eq_false (show ¬ num ≤ 9 by omega)]; rfl), HB.out⟩
    · have HR := hide (HD.out false ⟨(fun h => by cases h), fun h => by omega⟩)
      clear HD HCC HCK
      rcases h12 with rfl | rfl
      all_goals
        go_enter Tryd.func72, Tryd.ntmps72
        go_wp2
        go_ret
        exact ⟨by rw [HR.out]; first | rfl | (rw [decide_eq_false (show ¬ num ≤ 9 by omega)]; rfl), HB.out⟩
  clear HCC HCK
  by_cases h3 : op = 3
  · subst h3
    by_cases qwd : 0 ≤ wd ∧ wd < 3
    · rw [decide_eq_true qwd] at HWD
      by_cases qvar : 0 ≤ var ∧ var < 5
      · rw [decide_eq_true qvar] at HVA
        by_cases qa : num ≥ 0
        · by_cases qb : num ≤ 9
          · skip
            have HR := hide (HD.out true ⟨fun _ => by omega, fun _ => rfl⟩)
            clear HD qwd qvar
            go_enter Tryd.func72, Tryd.ntmps72
            go_wp2_with (first
              | (go_at_call 88; refine (HWD.out _).mono ?_; rintro e w' ⟨rfl, hw'⟩; rw [hw']; clear hw' w')
              | (go_at_call 89; refine (HVA.out _).mono ?_; rintro e w' ⟨rfl, hw'⟩; rw [hw']; clear hw' w'))
            go_ret
            exact ⟨by rw [HR.out]; first | rfl | (rw [decide_eq_false (show ¬ num ≤ 9 by omega)]; rfl), HB.out⟩
          · skip
            have HR := hide (HD.out false ⟨(fun h => by cases h), fun h => by omega⟩)
            clear HD qwd qvar
            go_enter Tryd.func72, Tryd.ntmps72
            go_wp2_with (first
              | (go_at_call 88; refine (HWD.out _).mono ?_; rintro e w' ⟨rfl, hw'⟩; rw [hw']; clear hw' w')
              | (go_at_call 89; refine (HVA.out _).mono ?_; rintro e w' ⟨rfl, hw'⟩; rw [hw']; clear hw' w'))
            go_ret
            exact ⟨by rw [HR.out]; first | rfl | (rw [decide_eq_false (show ¬ num ≤ 9 by omega)]; rfl), HB.out⟩
        · skip
          have HR := hide (HD.out false ⟨(fun h => by cases h), fun h => by omega⟩)
          clear HD qwd qvar
          go_enter Tryd.func72, Tryd.ntmps72
          go_wp2_with (first
            | (go_at_call 88; refine (HWD.out _).mono ?_; rintro e w' ⟨rfl, hw'⟩; rw [hw']; clear hw' w')
            | (go_at_call 89; refine (HVA.out _).mono ?_; rintro e w' ⟨rfl, hw'⟩; rw [hw']; clear hw' w'))
          go_ret
          exact ⟨by rw [HR.out]; first | rfl | (rw [decide_eq_false (show ¬ num ≤ 9 by omega)]; rfl), HB.out⟩
      · rw [decide_eq_false qvar] at HVA
        have HR := hide (HD.out false ⟨(fun h => by cases h), fun h => by omega⟩)
        clear HD qwd qvar
        go_enter Tryd.func72, Tryd.ntmps72
        go_wp2_with (first
          | (go_at_call 88; refine (HWD.out _).mono ?_; rintro e w' ⟨rfl, hw'⟩; rw [hw']; clear hw' w')
          | (go_at_call 89; refine (HVA.out _).mono ?_; rintro e w' ⟨rfl, hw'⟩; rw [hw']; clear hw' w'))
        go_ret
        exact ⟨by rw [HR.out]; first | rfl | (rw [decide_eq_false (show ¬ num ≤ 9 by omega)]; rfl), HB.out⟩
    · rw [decide_eq_false qwd] at HWD
      have HR := hide (HD.out false ⟨(fun h => by cases h), fun h => by omega⟩)
      clear HD qwd
      go_enter Tryd.func72, Tryd.ntmps72
      go_wp2_with (first
        | (go_at_call 88; refine (HWD.out _).mono ?_; rintro e w' ⟨rfl, hw'⟩; rw [hw']; clear hw' w')
        | (go_at_call 89; refine (HVA.out _).mono ?_; rintro e w' ⟨rfl, hw'⟩; rw [hw']; clear hw' w'))
      go_ret
      exact ⟨by rw [HR.out]; first | rfl | (rw [decide_eq_false (show ¬ num ≤ 9 by omega)]; rfl), HB.out⟩
  by_cases h4 : op = 4
  · subst h4
    by_cases qwd : 0 ≤ wd ∧ wd < 3
    · rw [decide_eq_true qwd] at HWD
      by_cases qvar : 0 ≤ var ∧ var < 5
      · rw [decide_eq_true qvar] at HVA
        by_cases qwd2 : 0 ≤ wd2 ∧ wd2 < 3
        · rw [decide_eq_true qwd2] at HW2
          by_cases qoth : 0 ≤ oth ∧ oth < 5
          · rw [decide_eq_true qoth] at HOT
            have HR := hide (HD.out true ⟨fun _ => by omega, fun _ => rfl⟩)
            clear HD qwd qvar qwd2 qoth
            go_enter Tryd.func72, Tryd.ntmps72
            go_wp2_with (first
              | (go_at_call 88; refine (HWD.out _).mono ?_; rintro e w' ⟨rfl, hw'⟩; rw [hw']; clear hw' w')
              | (go_at_call 88; refine (HW2.out _).mono ?_; rintro e w' ⟨rfl, hw'⟩; rw [hw']; clear hw' w')
              | (go_at_call 89; refine (HVA.out _).mono ?_; rintro e w' ⟨rfl, hw'⟩; rw [hw']; clear hw' w')
              | (go_at_call 89; refine (HOT.out _).mono ?_; rintro e w' ⟨rfl, hw'⟩; rw [hw']; clear hw' w'))
            go_ret
            exact ⟨by rw [HR.out]; first | rfl | (rw [decide_eq_false (show ¬ num ≤ 9 by omega)]; rfl), HB.out⟩
          · rw [decide_eq_false qoth] at HOT
            have HR := hide (HD.out false ⟨(fun h => by cases h), fun h => by omega⟩)
            clear HD qwd qvar qwd2 qoth
            go_enter Tryd.func72, Tryd.ntmps72
            go_wp2_with (first
              | (go_at_call 88; refine (HWD.out _).mono ?_; rintro e w' ⟨rfl, hw'⟩; rw [hw']; clear hw' w')
              | (go_at_call 88; refine (HW2.out _).mono ?_; rintro e w' ⟨rfl, hw'⟩; rw [hw']; clear hw' w')
              | (go_at_call 89; refine (HVA.out _).mono ?_; rintro e w' ⟨rfl, hw'⟩; rw [hw']; clear hw' w')
              | (go_at_call 89; refine (HOT.out _).mono ?_; rintro e w' ⟨rfl, hw'⟩; rw [hw']; clear hw' w'))
            go_ret
            exact ⟨by rw [HR.out]; first | rfl | (rw [decide_eq_false (show ¬ num ≤ 9 by omega)]; rfl), HB.out⟩
        · rw [decide_eq_false qwd2] at HW2
          have HR := hide (HD.out false ⟨(fun h => by cases h), fun h => by omega⟩)
          clear HD qwd qvar qwd2
          go_enter Tryd.func72, Tryd.ntmps72
          go_wp2_with (first
            | (go_at_call 88; refine (HWD.out _).mono ?_; rintro e w' ⟨rfl, hw'⟩; rw [hw']; clear hw' w')
            | (go_at_call 88; refine (HW2.out _).mono ?_; rintro e w' ⟨rfl, hw'⟩; rw [hw']; clear hw' w')
            | (go_at_call 89; refine (HVA.out _).mono ?_; rintro e w' ⟨rfl, hw'⟩; rw [hw']; clear hw' w')
            | (go_at_call 89; refine (HOT.out _).mono ?_; rintro e w' ⟨rfl, hw'⟩; rw [hw']; clear hw' w'))
          go_ret
          exact ⟨by rw [HR.out]; first | rfl | (rw [decide_eq_false (show ¬ num ≤ 9 by omega)]; rfl), HB.out⟩
      · rw [decide_eq_false qvar] at HVA
        have HR := hide (HD.out false ⟨(fun h => by cases h), fun h => by omega⟩)
        clear HD qwd qvar
        go_enter Tryd.func72, Tryd.ntmps72
        go_wp2_with (first
          | (go_at_call 88; refine (HWD.out _).mono ?_; rintro e w' ⟨rfl, hw'⟩; rw [hw']; clear hw' w')
          | (go_at_call 88; refine (HW2.out _).mono ?_; rintro e w' ⟨rfl, hw'⟩; rw [hw']; clear hw' w')
          | (go_at_call 89; refine (HVA.out _).mono ?_; rintro e w' ⟨rfl, hw'⟩; rw [hw']; clear hw' w')
          | (go_at_call 89; refine (HOT.out _).mono ?_; rintro e w' ⟨rfl, hw'⟩; rw [hw']; clear hw' w'))
        go_ret
        exact ⟨by rw [HR.out]; first | rfl | (rw [decide_eq_false (show ¬ num ≤ 9 by omega)]; rfl), HB.out⟩
    · rw [decide_eq_false qwd] at HWD
      have HR := hide (HD.out false ⟨(fun h => by cases h), fun h => by omega⟩)
      clear HD qwd
      go_enter Tryd.func72, Tryd.ntmps72
      go_wp2_with (first
        | (go_at_call 88; refine (HWD.out _).mono ?_; rintro e w' ⟨rfl, hw'⟩; rw [hw']; clear hw' w')
        | (go_at_call 88; refine (HW2.out _).mono ?_; rintro e w' ⟨rfl, hw'⟩; rw [hw']; clear hw' w')
        | (go_at_call 89; refine (HVA.out _).mono ?_; rintro e w' ⟨rfl, hw'⟩; rw [hw']; clear hw' w')
        | (go_at_call 89; refine (HOT.out _).mono ?_; rintro e w' ⟨rfl, hw'⟩; rw [hw']; clear hw' w'))
      go_ret
      exact ⟨by rw [HR.out]; first | rfl | (rw [decide_eq_false (show ¬ num ≤ 9 by omega)]; rfl), HB.out⟩
  by_cases h8 : op = 8
  · subst h8
    by_cases qvar : 0 ≤ var ∧ var < 5
    · rw [decide_eq_true qvar] at HVA
      have HR := hide (HD.out true ⟨fun _ => by omega, fun _ => rfl⟩)
      clear HD qvar
      go_enter Tryd.func72, Tryd.ntmps72
      go_wp2_with (first
        | (go_at_call 89; refine (HVA.out _).mono ?_; rintro e w' ⟨rfl, hw'⟩; rw [hw']; clear hw' w'))
      go_ret
      exact ⟨by rw [HR.out]; first | rfl | (rw [decide_eq_false (show ¬ num ≤ 9 by omega)]; rfl), HB.out⟩
    · rw [decide_eq_false qvar] at HVA
      have HR := hide (HD.out false ⟨(fun h => by cases h), fun h => by omega⟩)
      clear HD qvar
      go_enter Tryd.func72, Tryd.ntmps72
      go_wp2_with (first
        | (go_at_call 89; refine (HVA.out _).mono ?_; rintro e w' ⟨rfl, hw'⟩; rw [hw']; clear hw' w'))
      go_ret
      exact ⟨by rw [HR.out]; first | rfl | (rw [decide_eq_false (show ¬ num ≤ 9 by omega)]; rfl), HB.out⟩
  by_cases h9 : op = 9
  · subst h9
    by_cases qvar : 0 ≤ var ∧ var < 5
    · rw [decide_eq_true qvar] at HVA
      have HR := hide (HD.out true ⟨fun _ => by omega, fun _ => rfl⟩)
      clear HD qvar
      go_enter Tryd.func72, Tryd.ntmps72
      go_wp2_with (first
        | (go_at_call 89; refine (HVA.out _).mono ?_; rintro e w' ⟨rfl, hw'⟩; rw [hw']; clear hw' w'))
      go_ret
      exact ⟨by rw [HR.out]; first | rfl | (rw [decide_eq_false (show ¬ num ≤ 9 by omega)]; rfl), HB.out⟩
    · rw [decide_eq_false qvar] at HVA
      have HR := hide (HD.out false ⟨(fun h => by cases h), fun h => by omega⟩)
      clear HD qvar
      go_enter Tryd.func72, Tryd.ntmps72
      go_wp2_with (first
        | (go_at_call 89; refine (HVA.out _).mono ?_; rintro e w' ⟨rfl, hw'⟩; rw [hw']; clear hw' w'))
      go_ret
      exact ⟨by rw [HR.out]; first | rfl | (rw [decide_eq_false (show ¬ num ≤ 9 by omega)]; rfl), HB.out⟩
  by_cases h5 : op = 5
  · subst h5
    have HR := hide (HD.out true ⟨fun _ => by omega, fun _ => rfl⟩)
    clear HD 
    go_enter Tryd.func72, Tryd.ntmps72
    go_wp2
    go_ret
    exact ⟨by rw [HR.out]; first | rfl | (rw [decide_eq_false (show ¬ num ≤ 9 by omega)]; rfl), HB.out⟩
  by_cases h6 : op = 6
  · subst h6
    have HR := hide (HD.out true ⟨fun _ => by omega, fun _ => rfl⟩)
    clear HD 
    go_enter Tryd.func72, Tryd.ntmps72
    go_wp2
    go_ret
    exact ⟨by rw [HR.out]; first | rfl | (rw [decide_eq_false (show ¬ num ≤ 9 by omega)]; rfl), HB.out⟩
  by_cases h7 : op = 7
  · subst h7
    have HR := hide (HD.out true ⟨fun _ => by omega, fun _ => rfl⟩)
    clear HD 
    go_enter Tryd.func72, Tryd.ntmps72
    go_wp2
    go_ret
    exact ⟨by rw [HR.out]; first | rfl | (rw [decide_eq_false (show ¬ num ≤ 9 by omega)]; rfl), HB.out⟩
  have e3 : (op == 3) = false := by simpa using h3
  have e4 : (op == 4) = false := by simpa using h4
  have e5 : (op == 5) = false := by simpa using h5
  have e6 : (op == 6) = false := by simpa using h6
  have e7 : (op == 7) = false := by simpa using h7
  have e8 : (op == 8) = false := by simpa using h8
  have e9 : (op == 9) = false := by simpa using h9
  have e1 : (op == 1) = false := by simp; omega
  have e2 : (op == 2) = false := by simp; omega
  have HR := hide (HD.out false ⟨(fun h => by cases h), fun h => by omega⟩)
  clear HD h12 h3 h4 h5 h6 h7 h8 h9
  go_enter Tryd.func72, Tryd.ntmps72
  go_wp2
  go_ret
  exact ⟨by rw [HR.out]; first | rfl | (rw [decide_eq_false (show ¬ num ≤ 9 by omega)]; rfl), HB.out⟩
end Go.Proofs.YtgbmemkoggogdaaDoor

/- Package formula: checkNode, Check: contracts. -/
namespace Go.Proofs.YtgbmemkoggogdaaDoor
open Go.RowKit

theorem un_blank {n : Nd} (_h : ndR n) : blankP (unN n) ↔ (¬ varsP n → n.var = 0) ∧ (n.op ≠ 4 → n.oth = 0 ∧ n.wd2 = 0) ∧ (¬ wordsP n → n.wd = 0) ∧ (¬ lineP n → n.op ≠ 3 → n.num = 0) ∧ (¬ lineP n → n.cf.length = 0) := by
  unfold blankP unN varsP wordsP lineP
  by_cases h12 : n.op = 1 ∨ n.op = 2
  · rw [if_pos h12]
    simp only [List.length_nil, and_true]
    constructor <;> intro h <;> omega
  · rw [if_neg h12]
    by_cases h3 : n.op = 3
    · rw [if_pos h3]; simp only [true_and]; constructor <;> intro h <;> omega
    · rw [if_neg h3]
      by_cases h4 : n.op = 4
      · rw [if_pos h4]; simp only [true_and]; constructor <;> intro h <;> omega
      · rw [if_neg h4]
        by_cases h8 : n.op = 8 ∨ n.op = 9
        · rw [if_pos h8]; simp only [true_and]; constructor <;> intro h <;> omega
        · rw [if_neg h8]; constructor <;> intro h <;> omega
theorem ndF_ranged {n : Nd} (h : ¬ ndR n) : ndF n = 1 := by unfold ndF; rw [if_neg h]
theorem ndF_shaped {n : Nd} (h : ndR n) (hb : ¬ blankP (unN n)) : ndF n = 2 := by
  unfold ndF
  rw [if_pos h, if_neg]
  intro hs
  exact hb ((un_blank h).2 ⟨hs.1, hs.2.1, hs.2.2.1, hs.2.2.2.1, hs.2.2.2.2.1⟩)
theorem ndF_lasts {n : Nd} (h : ndR n) (hb : blankP (unN n)) : ndF n = if 0 < n.cf.length ∧ n.cf.getD (n.cf.length - 1) 0 = 0 then 2 else 0 := by
  unfold ndF
  rw [if_pos h]
  obtain ⟨h1, h2, h3, h4, h5⟩ := (un_blank h).1 hb
  by_cases hq : 0 < n.cf.length ∧ n.cf.getD (n.cf.length - 1) 0 = 0
  · rw [if_pos hq, if_neg (fun hs => hs.2.2.2.2.2 hq.1 hq.2)]
  · rw [if_neg hq, if_pos ⟨h1, h2, h3, h4, h5, fun h0 h6 => hq ⟨h0, h6⟩⟩]
set_option maxHeartbeats 8000000 in
set_option maxRecDepth 4000 in
theorem checkNode_any (n : Nd) (a : Option Addr) (c : Nat) (w : World) (hs : Sl w a n.cf.length n.cf) : Calls Tryd.prog 47 #[ndV n a c] w fun e w' => e = .returned (errV (ndF n)) ∧ Below w.heap.size w w' := by
  have HB := hide ((Below.refl w.heap.size w).alloc (Nat.le_refl _) (ndO n a c))
  have HX := hide (heap_alloc_last w (ndO n a c))
  have HS := hide (sl_below hs HB.out)
  have hmx := hs.2.1
  unfold maxLen at hmx
  have HIR := hide (inRange_any n a c _ HS.out)
  have HUN := hide (fun W => unused_any n a c W)
  have HBL := hide (fun W => isBlank_any (unN n) (unA n a) (unK n c) W)
  have H1 := hide (@ndF_ranged n)
  have H2 := hide (@ndF_shaped n)
  have H3 := hide (@ndF_lasts n)
  unfold ndV at HIR HUN HBL ⊢
  generalize hW1 : w.alloc (ndO n a c) = W1 at HB HX HS HIR
  clear hs
  have HZ : Hid (∀ W, Below W1.heap.size W1 W → _) := fun W h => (box7_cells ((h.block _ (Array.getElem?_eq_some_iff.1 HX.out).1).trans HX.out)).1
  obtain ⟨z0, z1, z2, z3, z4, z5, z6⟩ := (box7_cells HX.out).1
  generalize unN n = un at *
  generalize ndF n = F at H1 H2 H3 ⊢
  go_enter Tryd.func47, Tryd.ntmps47
  go_wp2_with fail
  clear z0 z1 z2 z3 z4 z5 z6
  refine HIR.out.mono ?_
  rintro e w2 ⟨rfl, hb2⟩
  have HB2 := hide hb2
  clear hb2
  by_cases hr : ndR n
  · rw [decide_eq_true hr]
    have H2' := hide (H2.out hr)
    have H3' := hide (H3.out hr)
    clear hr H1 H2 H3 HIR
    obtain ⟨z0, z1, z2, z3, z4, z5, z6⟩ := HZ.out w2 HB2.out
    clear hW1
    go_wp2_with (go_at_call 74; refine (HUN.out _).mono ?_; rintro e w3 ⟨rfl, hb3⟩; clear z0 z1 z2 z3 z4 z5 z6)
    refine (HBL.out _).mono ?_
    rintro e w4 ⟨rfl, hb4⟩
    have HB4 := hide (below_step (below_step HB2.out hb3) hb4)
    clear hb3 hb4
    obtain ⟨z0, z1, z2, z3, z4, z5, z6⟩ := HZ.out w4 HB4.out
    by_cases hbl : blankP un
    · rw [decide_eq_true hbl]
      have hF := H3'.out hbl
      clear hbl H2' H3'
      by_cases hl : (n.cf.length : Int) > 0
      · obtain ⟨bo, oo, rfl, hc⟩ := sl_cell (sl_below HS.out HB4.out) (n.cf.length - 1) (by omega)
        generalize n.cf.getD (n.cf.length - 1) 0 = z at hc hF
        by_cases hz : z = 0
        · rw [if_pos (by omega)] at hF
          subst hz
          have HF := hide hF
          clear hF
          go_wp2
          go_ret
          exact ⟨by rw [HF.out]; rfl, below_step HB.out HB4.out⟩
        · rw [if_neg (by omega)] at hF
          have ez : (z == 0) = false := by simpa using hz
          have HF := hide hF
          clear hF hz
          go_wp2
          go_ret
          exact ⟨by rw [HF.out]; rfl, below_step HB.out HB4.out⟩
      · rw [if_neg (by omega)] at hF
        have HF := hide hF
        clear hF
        go_wp2
        go_ret
        exact ⟨by rw [HF.out]; rfl, below_step HB.out HB4.out⟩
    · rw [decide_eq_false hbl]
      have HF := hide (H2'.out hbl)
      clear hbl H2' H3'
      go_wp2
      go_ret
      exact ⟨by rw [HF.out]; rfl, below_step HB.out HB4.out⟩
  · rw [decide_eq_false hr]
    have HF := hide (H1.out hr)
    clear hr H1 H2 H3 hW1
    go_wp2
    go_ret
    exact ⟨by rw [HF.out]; rfl, below_step HB.out HB2.out⟩
set_option maxHeartbeats 4000000 in
set_option maxRecDepth 4000 in
theorem devCheck_any (a : Option Addr) (n cap : Nat) (ns : List Nd) (w : World) (hs : SlF w a n ns) : Calls Tryd.prog 26 #[.slice a n cap] w fun e w' => e = .returned (.tuple #[.int .i64 ((formP ns).1 : Nat), errV (formP ns).2]) ∧ Below w.heap.size w w' := by
  have hL := hs.1
  have hmx := hs.2.1
  unfold maxLen at hmx
  by_cases h0 : n = 0
  · have e : formP ns = (0, 4) := by unfold formP; rw [if_pos (by omega)]
    rw [e]
    subst h0
    clear hs e
    go_enter Tryd.func26, Tryd.ntmps26
    go_wp2
    go_ret2
    exact ⟨rfl, Below.refl _ _⟩
  have h0' : ((n : Int) == 0) = false := by simp; omega
  by_cases h40 : (n : Int) > 40
  · have e : formP ns = (0, 3) := by unfold formP; rw [if_neg (by omega), if_pos (by omega)]
    rw [e]
    clear hs e hL
    go_enter Tryd.func26, Tryd.ntmps26
    go_wp2
    go_ret2
    exact ⟨rfl, Below.refl _ _⟩
  have HE : Hid (formP ns = ffGo (ns.drop 0) 0 1) := by show _ = _; unfold formP; rw [if_neg (by omega), if_neg (by omega)]; rfl
  have HS := hide hs
  have HPO := hide (fun op W => devParts_any op W)
  have HN := hide (fun nd a' c' W (h : Sl W a' nd.cf.length nd.cf) => checkNode_any nd a' c' W h)
  unfold ndV at HN
  have HDR := hide (fun k (hk : k < n) => drop_nd (l := ns) (k := k) (by omega))
  have HEND : Hid (ns.drop n = []) := by show _ = _; rw [← hL]; exact List.drop_length
  clear hs hL
  generalize formP ns = R at HE ⊢
  go_enter Tryd.func26, Tryd.ntmps26
  go_wp2
  go_loopw [4, 18] (fun ov iv wx => ∃ k o : Nat, k ≤ n ∧ o ≤ 1 + 2 * k ∧ ov = .int .i64 o ∧ iv = .int .i64 k ∧ R = ffGo (ns.drop k) k o ∧ Below w.heap.size w wx) (fun _ iv _ => n - (intOf iv).toNat)
  case atStart => exact ⟨0, 1, by omega, by omega, rfl, rfl, HE.out, Below.refl _ _⟩
  case round =>
    obtain ⟨k, o, hk, ho, rfl, rfl, hR, hb⟩ := hrel
    have HR := hide hR
    have HB := hide hb
    clear hR hb HE
    by_cases hlt : k < n
    · have hlti : (k : Int) < (n : Int) := by omega
      obtain ⟨bb, oo, a', c', rfl, x0, x1, x2, x3, x4, x5, x6, hsl⟩ := slF_cell (slF_below HS.out HB.out) k hlt
      have HD := hide (HDR.out k hlt)
      generalize ns.getD k zNd = nd at x0 x1 x2 x3 x4 x5 x6 hsl HD
      have hBa := (Below.refl wr.heap.size wr).alloc (Nat.le_refl _) (ndO nd a' c')
      have HNF := hide (HN.out nd a' c' (wr.alloc (ndO nd a' c')) (sl_below hsl hBa))
      have HBA := hide (below_step HB.out hBa)
      have HRS : Hid (R = if ndF nd = 0 then (if o = 0 then (k, 2) else ffGo (ns.drop (k + 1)) (k + 1) (o - 1 + partsN nd.op)) else (k, ndF nd)) := by show _ = _; rw [HR.out, HD.out]; rfl
      have HP2 := hide (partsN_le nd.op)
      have HX := hide (heap_alloc_last wr (ndO nd a' c'))
      clear hsl HR HD
      generalize hWa : wr.alloc (ndO nd a' c') = Wa at HNF HBA HX
      obtain ⟨⟨z0, z1, z2, z3, z4, z5, z6⟩, -⟩ := box7_cells HX.out
      go_wp2_with fail
      clear hWa
      refine HNF.out.mono ?_
      rintro e w1 ⟨rfl, hb1⟩
      have HB1 := hide (below_step HBA.out hb1)
      have hx0 := (box7_cells ((hb1.block _ (Array.getElem?_eq_some_iff.1 HX.out).1).trans HX.out)).1.1
      have HX0 := hide hx0
      clear x0 x1 x2 x3 x4 x5 x6 z0 z1 z2 z3 z4 z5 z6 hx0 hBa
      by_cases hz : ndF nd = 0
      · have hz' := HRS.out
        rw [if_pos hz] at hz'
        rw [hz, show errV 0 = .nilIface from rfl]
        by_cases hoz : o = 0
        · rw [if_pos hoz] at hz'
          have HRZ := hide hz'
          subst hoz
          clear hz hz' HRS
          go_wp2
          go_ret2
          exact ⟨by rw [HRZ.out]; rfl, HB1.out⟩
        · rw [if_neg hoz] at hz'
          have hoz' : ((o : Int) == 0) = false := by simp; omega
          have HRZ := hide hz'
          have hp2 := HP2.out
          have ho1 : 1 ≤ o := by omega
          have x0 := HX0.out
          have HPP := hide (HPO.out nd.op)
          clear hz hoz hz' HRS hb1
          generalize partsN nd.op = pn at HRZ hp2 HPP
          go_wp2_with (go_at_call 48; refine (HPP.out _).mono ?_; rintro e w' ⟨rfl, hw'⟩; rw [hw']; clear hw' w')
          go_roundw
          case rel => exact ⟨k + 1, o - 1 + pn, by omega, by omega, by go_num, by go_num, HRZ.out, HB1.out⟩
          case measure => simp [intOf]; omega
      · have hz' := HRS.out
        rw [if_neg hz] at hz'
        have HRZ := hide hz'
        have hze : errV (ndF nd) = .iface 26 (.int .i64 (ndF nd)) := by unfold errV; rw [if_neg hz]
        rw [hze]
        clear hz hz' HRS hb1
        have HZE := hide hze
        clear hze
        generalize ndF nd = z at HRZ HZE ⊢
        go_wp2
        go_ret2
        exact ⟨by rw [HRZ.out]; show _ = Ending.returned (.tuple #[_, errV z]); rw [HZE.out]; rfl, HB1.out⟩
    · have hlti : ¬ (k : Int) < (n : Int) := by omega
      obtain rfl : k = n := by omega
      have hz' := HR.out
      rw [HEND.out] at hz'
      unfold ffGo at hz'
      by_cases ho0 : (o : Int) > 0
      · rw [if_pos (by omega)] at hz'
        have HRZ := hide hz'
        clear hz' HR
        go_wp2
        go_ret2
        exact ⟨by rw [HRZ.out]; rfl, HB.out⟩
      · rw [if_neg (by omega)] at hz'
        have HRZ := hide hz'
        clear hz' HR
        go_wp2
        go_ret2
        exact ⟨by rw [HRZ.out]; rfl, HB.out⟩

end Go.Proofs.YtgbmemkoggogdaaDoor
