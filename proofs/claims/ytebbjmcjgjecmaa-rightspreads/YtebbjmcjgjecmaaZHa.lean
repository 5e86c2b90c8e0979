/- 3 texts in one. -/
import Derived.Lib.SlicesCompact
import Derived.Test.YtebbjmcjgjecmaaZEg
import Derived.Test.YtebbjmcjgjecmaaZNx
/- Sets as lists in order, each member once: mathematics. -/
namespace Go.Proofs.Ytebbjmcjgjecmaa
open Go.RowKit

/-- Lists in strict order with the same members are the same. -/
theorem strict_ext : ∀ {l k : List Int}, l.Pairwise (· < ·) → k.Pairwise (· < ·) → (∀ x, x ∈ l ↔ x ∈ k) → l = k
  | [], [], _, _, _ => rfl
  | [], y :: k, _, _, h => by have := (h y).2 (by simp); simp at this
  | x :: l, [], _, _, h => by have := (h x).1 (by simp); simp at this
  | x :: l, y :: k, hl, hk, h => by
    obtain ⟨h1, h2⟩ := List.pairwise_cons.1 hl
    obtain ⟨h3, h4⟩ := List.pairwise_cons.1 hk
    have e : x = y := by
      have hx := (h x).1 (by simp)
      have hy := (h y).2 (by simp)
      simp only [List.mem_cons] at hx hy
      rcases hx with hx | hx
      · exact hx
      · rcases hy with hy | hy
        · exact hy.symm
        · have := h1 y hy; have := h3 x hx; omega
    subst e
    rw [strict_ext h2 h4 (fun z => by
      constructor
      · intro hz
        have := (h z).1 (by simp [hz])
        simp only [List.mem_cons] at this
        rcases this with rfl | h'
        · have := h1 z hz; omega
        · exact h'
      · intro hz
        have := (h z).2 (by simp [hz])
        simp only [List.mem_cons] at this
        rcases this with rfl | h'
        · have := h3 z hz; omega
        · exact h')]

/-- What is left of a list in order, of each run one: in strict order, the same members. -/
theorem compactUpTo_sorted (zs : List Int) (hs : zs.Pairwise (· ≤ ·)) : ∀ m, m ≤ zs.length → (Lib.compactUpTo zs.toArray m).Pairwise (· < ·) ∧ (∀ x, x ∈ Lib.compactUpTo zs.toArray m ↔ ∃ j, j < m ∧ zs.getD j 0 = x)
  | 0, _ => by simp [Lib.compactUpTo]
  | m + 1, hm => by
    obtain ⟨h1, h2⟩ := compactUpTo_sorted zs hs m (by omega)
    have hle : ∀ i j, i ≤ j → j < zs.length → zs.getD i 0 ≤ zs.getD j 0 := fun i j hij hj => by
      rcases Nat.lt_or_eq_of_le hij with h | h
      · have := List.pairwise_iff_getElem.1 hs i j (by omega) hj h
        simpa [List.getD, show i < zs.length by omega, hj] using this
      · rw [h]; exact Int.le_refl _
    have hat : ∀ j, j < zs.length → zs.toArray[j]! = zs.getD j 0 := fun j hj => by simp [List.getD, hj]
    rw [Lib.compactUpTo_succ]
    by_cases hk : Lib.keeps zs.toArray m = true
    · rw [if_pos hk, hat m (by omega)]
      refine ⟨List.pairwise_append.2 ⟨h1, List.pairwise_singleton _ _, fun x hx y hy => ?_⟩, fun x => ?_⟩
      · simp only [List.mem_singleton] at hy
        subst hy
        obtain ⟨j, hj, rfl⟩ := (h2 x).1 hx
        have a1 := hle j (m - 1) (by omega) (by omega)
        have a2 := hle (m - 1) m (by omega) (by omega)
        simp only [Lib.keeps, decide_eq_true_eq] at hk
        rcases hk with hk | hk
        · omega
        · rw [hat m (by omega), hat (m - 1) (by omega)] at hk
          omega
      · simp only [List.mem_append, List.mem_singleton]
        rw [h2 x]
        constructor
        · rintro (⟨j, hj, e⟩ | e)
          · exact ⟨j, by omega, e⟩
          · exact ⟨m, by omega, e.symm⟩
        · rintro ⟨j, hj, e⟩
          rcases Nat.lt_or_ge j m with h | h
          · exact .inl ⟨j, h, e⟩
          · have : j = m := by omega
            subst this
            exact .inr e.symm
    · rw [if_neg hk, List.append_nil]
      refine ⟨h1, fun x => ?_⟩
      rw [h2 x]
      constructor
      · rintro ⟨j, hj, e⟩; exact ⟨j, by omega, e⟩
      · rintro ⟨j, hj, e⟩
        rcases Nat.lt_or_ge j m with h | h
        · exact ⟨j, h, e⟩
        · have : j = m := by omega
          subst this
          simp only [Lib.keeps, decide_eq_true_eq, not_or, Decidable.not_not] at hk
          obtain ⟨k1, k2⟩ := hk
          rw [hat j (by omega), hat (j - 1) (by omega)] at k2
          exact ⟨j - 1, by omega, by rw [← k2, e]⟩
/-- A list put in order, each once. -/
def ordL (l : List Int) : List Int := Lib.compact (l.mergeSort fun x y => decide (x ≤ y))
theorem ordL_sorted (l : List Int) : (ordL l).Pairwise (· < ·) ∧ ∀ x, x ∈ ordL l ↔ x ∈ l := by
  have hs : (l.mergeSort fun x y => decide (x ≤ y)).Pairwise (· ≤ ·) := by
    have := List.pairwise_mergeSort (le := fun x y : Int => decide (x ≤ y)) (fun a b c h1 h2 => by simp at h1 h2 ⊢; omega) (fun a b => by simp; omega) l
    exact this.imp (fun h => by simpa using h)
  obtain ⟨h1, h2⟩ := compactUpTo_sorted _ hs _ (Nat.le_refl _)
  refine ⟨h1, fun x => ?_⟩
  unfold ordL Lib.compact
  rw [h2 x]
  have hp := List.mergeSort_perm l (fun x y => decide (x ≤ y))
  refine Iff.trans ?_ hp.mem_iff
  constructor
  · rintro ⟨j, hj, rfl⟩
    rw [getD_at _ j hj]; exact List.getElem_mem _
  · intro hx
    obtain ⟨j, hj, e⟩ := List.getElem_of_mem hx
    exact ⟨j, hj, by rw [getD_at _ j hj, e]⟩
theorem ordL_len (l : List Int) : (ordL l).length ≤ l.length := by
  unfold ordL Lib.compact Lib.compactUpTo
  have h := List.length_filter_le (Lib.keeps (l.mergeSort fun x y => decide (x ≤ y)).toArray) (List.range (l.mergeSort fun x y => decide (x ≤ y)).length)
  simp only [List.length_range, List.length_mergeSort] at h
  simpa using h
theorem ordL_nil : ordL [] = [] := by simp [ordL, Lib.compact, Lib.compactUpTo]

/-- A set as a list in order. -/
def setL (n M : Nat) : List Int := ((List.range n).filter fun s => M.testBit s).map fun s : Nat => (s : Int)
theorem mem_setL {n M : Nat} {x : Int} : x ∈ setL n M ↔ 0 ≤ x ∧ x.toNat < n ∧ M.testBit x.toNat = true := by
  simp only [setL, List.mem_map, List.mem_filter, List.mem_range]
  constructor
  · rintro ⟨s, ⟨h1, h2⟩, rfl⟩
    exact ⟨by omega, by simpa using h1, by simpa using h2⟩
  · rintro ⟨h0, h1, h2⟩
    exact ⟨x.toNat, ⟨h1, h2⟩, by omega⟩
theorem setL_sorted (n M : Nat) : (setL n M).Pairwise (· < ·) := by
  unfold setL
  refine List.Pairwise.map _ (fun a b h => ?_) (List.Pairwise.filter _ (List.pairwise_lt_range (n := n)))
  exact Int.ofNat_lt.2 h
theorem setL_len (n M : Nat) : (setL n M).length ≤ n := by
  have h := List.length_filter_le (fun s => M.testBit s) (List.range n)
  simpa [setL] using h
theorem ordL_setL {l : List Int} {n M : Nat} (h : ∀ x, x ∈ l ↔ 0 ≤ x ∧ x.toNat < n ∧ M.testBit x.toNat = true) : ordL l = setL n M :=
  strict_ext (ordL_sorted l).1 (setL_sorted n M) fun x => by rw [(ordL_sorted l).2, h x, mem_setL]
theorem setL_inj {n M M' : Nat} (h : M < 2 ^ n) (h' : M' < 2 ^ n) (e : setL n M = setL n M') : M = M' :=
  mask_ext h h' fun s hs => by
    have := @mem_setL n M (s : Int)
    rw [e, mem_setL] at this
    simp only [Int.toNat_natCast] at this
    have h3 : M'.testBit s = true ↔ M.testBit s = true := ⟨fun hb => (this.1 ⟨by omega, hs, hb⟩).2.2, fun hb => (this.2 ⟨by omega, hs, hb⟩).2.2⟩
    cases h4 : M.testBit s <;> cases h5 : M'.testBit s <;> simp_all
theorem setL_one {n : Nat} (h : 0 < n) : setL n (2 ^ 0) = [0] := strict_ext (setL_sorted _ _) (List.pairwise_singleton _ _) fun x => by
  rw [mem_setL]
  simp only [List.mem_singleton, Nat.testBit_two_pow]
  constructor
  · rintro ⟨h0, h1, h2⟩; simp at h2; omega
  · rintro rfl; simp [h]
/-- A set that a list in strict order, all below n, has. -/
theorem setL_sub {n M M' : Nat} (h : M < 2 ^ n) (h' : M' < 2 ^ n) (hs : ∀ s, M.testBit s = true → M'.testBit s = true) (hl : (setL n M').length ≤ (setL n M).length) : M = M' := by
  refine mask_ext h h' fun s hsn => ?_
  cases h4 : M.testBit s with
  | true => exact (hs s h4).symm
  | false =>
    cases h5 : M'.testBit s with
    | false => rfl
    | true =>
      have hnd : ∀ K : Nat, ((List.range n).filter fun s => K.testBit s).Nodup := fun K => List.Pairwise.filter _ List.nodup_range
      have := nodup_sub (L := s :: (List.range n).filter fun s => M.testBit s) (K := (List.range n).filter fun s => M'.testBit s) (List.nodup_cons.2 ⟨by simp [h4], hnd M⟩) (fun x hx => by
        simp only [List.mem_cons, List.mem_filter, List.mem_range] at hx ⊢
        rcases hx with rfl | ⟨k1, k2⟩
        · exact ⟨hsn, h5⟩
        · exact ⟨k1, hs x k2⟩)
      simp only [setL, List.length_map] at hl
      simp only [List.length_cons] at this
      omega
theorem setL_len_lt {n M M' : Nat} (h : M < 2 ^ n) (h' : M' < 2 ^ n) (hs : ∀ s, M.testBit s = true → M'.testBit s = true) (hne : M ≠ M') : (setL n M).length < (setL n M').length := by
  rcases Nat.lt_or_ge (setL n M).length (setL n M').length with h1 | h1
  · exact h1
  · exact absurd (setL_sub h h' hs h1) hne

/-- The set's key: its states as bytes. -/
def keyL (l : List Int) : List UInt8 := l.map fun x => UInt8.ofNat x.toNat
theorem keyL_inj : ∀ {l k : List Int}, (∀ x ∈ l, 0 ≤ x ∧ x < 256) → (∀ x ∈ k, 0 ≤ x ∧ x < 256) → keyL l = keyL k → l = k
  | [], [], _, _, _ => rfl
  | [], y :: k, _, _, h => by simp [keyL] at h
  | x :: l, [], _, _, h => by simp [keyL] at h
  | x :: l, y :: k, hl, hk, h => by
    simp only [keyL, List.map_cons, List.cons.injEq] at h
    have hx := hl x (by simp)
    have hy := hk y (by simp)
    have e := congrArg UInt8.toNat h.1
    simp only [UInt8.toNat_ofNat'] at e
    rw [Nat.mod_eq_of_lt (by omega), Nat.mod_eq_of_lt (by omega)] at e
    rw [keyL_inj (fun z hz => hl z (by simp [hz])) (fun z hz => hk z (by simp [hz])) h.2, show x = y by omega]

/-- Sets hang on which letters there are, not on their order. -/
theorem stepM_mem {N : List (List Int)} {n : Nat} {ls ls' : List Int} (h : ∀ x, x ∈ ls ↔ x ∈ ls') (M : Nat) : stepM N n ls M = stepM N n ls' M := by
  refine mask_ext (stepM_lt _ _ _ _) (stepM_lt _ _ _ _) fun s _ => ?_
  have e : (stepM N n ls M).testBit s = true ↔ (stepM N n ls' M).testBit s = true := by
    rw [stepM_bit, stepM_bit]
    constructor <;> (rintro ⟨h1, t, h2, h3, l, h4, h5⟩; refine ⟨h1, t, h2, h3, l, ?_, h5⟩)
    · exact (h l).1 h4
    · exact (h l).2 h4
  cases h4 : (stepM N n ls M).testBit s <;> cases h5 : (stepM N n ls' M).testBit s <;> simp_all
theorem cloM_mem {m n : Nat} {N : List (List Int)} (hG : GoodN m n N) {ls ls' : List Int} (hl : ∀ x ∈ ls, 0 ≤ x ∧ x < (m : Int)) (h : ∀ x, x ∈ ls ↔ x ∈ ls') : cloM N n ls = cloM N n ls' := by
  refine mask_ext (cloM_lt _ _ _) (cloM_lt _ _ _) fun s _ => ?_
  have e : (cloM N n ls).testBit s = true ↔ (cloM N n ls').testBit s = true := by
    rw [cloM_bit hG hl, cloM_bit hG (fun x hx => hl x ((h x).2 hx))]
    constructor <;> (rintro ⟨z, h1, h2⟩; refine ⟨z, fun x hx => ?_, h2⟩)
    · exact (h x).1 (h1 x hx)
    · exact (h x).2 (h1 x hx)
  cases h4 : (cloM N n ls).testBit s <;> cases h5 : (cloM N n ls').testBit s <;> simp_all
/-- Wider by one letter. -/
def widM (N : List (List Int)) (n : Nat) (ls : List Int) (M : Nat) : Nat := M ||| stepM N n ls M
theorem widM_lt {N : List (List Int)} {n : Nat} {ls : List Int} {M : Nat} (h : M < 2 ^ n) : widM N n ls M < 2 ^ n := Nat.or_lt_two_pow h (stepM_lt _ _ _ _)
theorem widM_sub {N : List (List Int)} {n : Nat} {ls : List Int} {M s : Nat} (h : M.testBit s = true) : (widM N n ls M).testBit s = true := by simp [widM, h]
theorem widM_list {N : List (List Int)} {n : Nat} {ls : List Int} {M : Nat} : ordL (setL n M ++ setL n (stepM N n ls M)) = setL n (widM N n ls M) := ordL_setL fun x => by
  rw [List.mem_append, mem_setL, mem_setL]
  simp only [widM, Nat.testBit_or, Bool.or_eq_true]
  constructor
  · rintro (⟨h1, h2, h3⟩ | ⟨h1, h2, h3⟩)
    · exact ⟨h1, h2, .inl h3⟩
    · exact ⟨h1, h2, .inr h3⟩
  · rintro ⟨h1, h2, h3 | h3⟩
    · exact .inl ⟨h1, h2, h3⟩
    · exact .inr ⟨h1, h2, h3⟩
theorem clo_wid {m n : Nat} {N : List (List Int)} (hG : GoodN m n N) {ls : List Int} (hl : ∀ x ∈ ls, 0 ≤ x ∧ x < (m : Int)) {M : Nat} (hM : ∀ s, M.testBit s = true → (cloM N n ls).testBit s = true) : ∀ s, (widM N n ls M).testBit s = true → (cloM N n ls).testBit s = true := fun s hs => by
  simp only [widM, Nat.testBit_or, Bool.or_eq_true] at hs
  rcases hs with hs | hs
  · exact hM s hs
  · obtain ⟨h1, t, h2, h3, l, h4, h5⟩ := stepM_bit.1 hs
    obtain ⟨z, hz, e⟩ := (cloM_bit hG hl).1 (hM t h3)
    refine (cloM_bit hG hl).2 ⟨z ++ [l], fun x hx => ?_, ?_⟩
    · rcases List.mem_append.1 hx with hx | hx
      · exact hz x hx
      · simp at hx; rw [hx]; exact h4
    · rw [runL_append, e]
      exact h5
theorem clo_done {m n : Nat} {N : List (List Int)} (hG : GoodN m n N) {ls : List Int} (hl : ∀ x ∈ ls, 0 ≤ x ∧ x < (m : Int)) {M : Nat} (hlt : M < 2 ^ n) (h0 : M.testBit 0 = true) (hM : ∀ s, M.testBit s = true → (cloM N n ls).testBit s = true) (hw : widM N n ls M = M) : M = cloM N n ls := by
  have hcl : ∀ (z : List Int) (s : Nat), M.testBit s = true → (∀ x ∈ z, x ∈ ls) → M.testBit (runF N s z) = true := by
    intro z
    induction z with
    | nil => intro s h _; exact h
    | cons x z ih =>
      intro s h hz
      have hx := hz x (by simp)
      refine ih (stepL N s x) ?_ (fun y hy => hz y (by simp [hy]))
      rw [← hw]
      simp only [widM, Nat.testBit_or, Bool.or_eq_true]
      have hs := bit_lt hlt h
      refine .inr (stepM_bit.2 ⟨?_, s, hs, h, x, hx, rfl⟩)
      exact runF_lt hG hs (v := [x]) (fun y hy => hl y (by simp at hy; rw [hy]; exact hx))
  refine mask_ext hlt (cloM_lt _ _ _) fun s _ => ?_
  have e : M.testBit s = true ↔ (cloM N n ls).testBit s = true := ⟨hM s, fun h => by
    obtain ⟨z, hz, e⟩ := (cloM_bit hG hl).1 h
    rw [← e]; exact hcl z 0 h0 hz⟩
  cases h4 : M.testBit s <;> cases h5 : (cloM N n ls).testBit s <;> simp_all
end Go.Proofs.Ytebbjmcjgjecmaa

/- some.hasEnd: contract. -/
namespace Go.Proofs.Ytebbjmcjgjecmaa
open Go.RowKit

theorem end_list {n : Nat} {E : List Bool} {M : Nat} : (setL n M).any (fun x => E.getD x.toNat false) = endM n E M := by
  rw [Bool.eq_iff_iff, endM_iff, List.any_eq_true]
  constructor
  · rintro ⟨x, h1, h2⟩
    obtain ⟨k0, k1, k2⟩ := mem_setL.1 h1
    exact ⟨x.toNat, k1, h2, k2⟩
  · rintro ⟨s, h1, h2, h3⟩
    exact ⟨(s : Int), mem_setL.2 ⟨by omega, by simpa using h1, by simpa using h3⟩, by simpa using h2⟩

def Same1 (v : Value) (w : World) (e : Ending) (w' : World) : Prop := e = .returned v ∧ w' = w
set_option maxHeartbeats 4000000 in
set_option maxRecDepth 4000 in
theorem hasEnd1_any (B : Nat) (a' : Option Addr) (k' cap' : Nat) (E : List Bool) (s : Nat) (W : World) (hb : W.cell? ⟨B, 3, none⟩ = some (.slice a' k' cap')) (he : SlB W a' k' E) (hs : s < k') :
    Calls Try.prog 51 #[.int .i64 (s : Int), .pointer (some ⟨B, 0, none⟩)] W (Same1 (.bool (E.getD s false)) W) := by
  obtain ⟨b1, o1, rfl, hc⟩ := slB_cell he s hs
  have hsi : (s : Int) < (k' : Int) := by omega
  clear he
  go_enter Try.func51, Try.ntmps51
  go_wp2
  go_ret
  exact ⟨rfl, rfl⟩

def IdxU (p : Int → Bool) (l : List Int) (w : World) (e : Ending) (w' : World) : Prop := ∃ i : Int, e = .returned (.int .i64 i) ∧ decide (0 ≤ i) = l.any p ∧ w' = w
set_option maxHeartbeats 4000000 in
set_option maxRecDepth 4000 in
theorem indexFunc_any (B : Nat) (a' : Option Addr) (k' cap' : Nat) (E : List Bool) (as_ : Option Addr) (n c : Nat) (l : List Int) (w : World) (hb : w.cell? ⟨B, 3, none⟩ = some (.slice a' k' cap')) (he : SlB w a' k' E) (hs : Sl w as_ n l) (hl : ∀ x ∈ l, 0 ≤ x ∧ x < (k' : Int)) :
    Calls Try.prog 56 #[.slice as_ n c, .func (.func 51) #[] #[.pointer (some ⟨B, 0, none⟩)]] w (IdxU (fun x => E.getD x.toNat false) l w) := by
  have hL := hs.1
  have hnm := hs.2.1
  unfold maxLen at hnm
  have HS := hide hs
  have H1 := hide (fun s hs => hasEnd1_any B a' k' cap' E s w hb he hs)
  unfold Same1 at H1
  have HLR : Hid (∀ i, i < n → 0 ≤ l.getD i 0 ∧ l.getD i 0 < (k' : Int)) := fun i hi => hl _ (by rw [getD_at _ i (by omega)]; exact List.getElem_mem _)
  have HYES : Hid (∀ i, i < n → E.getD (l.getD i 0).toNat false = true → l.any (fun x => E.getD x.toNat false) = true) := fun i hi h => List.any_eq_true.2 ⟨l.getD i 0, by rw [getD_at _ i (by omega)]; exact List.getElem_mem _, h⟩
  have HNO : Hid ((∀ i, i < n → E.getD (l.getD i 0).toNat false = false) → l.any (fun x => E.getD x.toNat false) = false) := fun h => by
    rw [List.any_eq_false]
    intro x hx
    obtain ⟨i, hi, e⟩ := List.getElem_of_mem hx
    have := h i (by omega)
    rw [getD_at _ i hi, e] at this
    rw [this]
    exact Bool.false_ne_true
  clear hb he hs hl hL
  go_enter Try.func56, Try.ntmps56
  go_wp2
  go_loop [8] (fun u => ∃ k : Nat, k ≤ n ∧ u = .int .i64 k ∧ ∀ i, i < k → E.getD (l.getD i 0).toNat false = false) (fun u => n - (intOf u).toNat)
  case atStart => exact ⟨0, by omega, rfl, fun i hi => by omega⟩
  case round =>
    obtain ⟨k, hk, rfl, hno⟩ := hrel
    have HN := hide hno
    clear hno
    by_cases hlt : k < n
    · have hlti : (k : Int) < (n : Int) := by omega
      obtain ⟨b1, o1, rfl, hcx⟩ := sl_cell HS.out k hlt
      have hr := HLR.out k hlt
      obtain ⟨s, hs⟩ : ∃ s : Nat, l.getD k 0 = s := ⟨(l.getD k 0).toNat, by omega⟩
      have HY := hide (HYES.out k hlt)
      have HX : Hid (E.getD (l.getD k 0).toNat false = E.getD s false) := by show _ = _; rw [hs]; rfl
      rw [HX.out] at HY
      rw [hs] at hcx hr
      have HC := hide (H1.out s (by omega))
      clear hs hr
      cases hq : E.getD s false with
      | true =>
        rw [hq] at HC
        have HY2 := hide (HY.out hq)
        clear HY
        go_wp2_with (go_at_call 51; refine HC.out.mono ?_; rintro e w' ⟨rfl, rfl⟩)
        go_ret
        exact ⟨(k : Int), rfl, by rw [HY2.out]; exact decide_eq_true (Int.natCast_nonneg k), rfl⟩
      | false =>
        rw [hq] at HC HX
        go_wp2_with (go_at_call 51; refine HC.out.mono ?_; rintro e w' ⟨rfl, rfl⟩)
        go_round
        case rel => exact ⟨k + 1, by omega, by go_num, fun i hi => by
          rcases Nat.lt_or_ge i k with h | h
          · exact HN.out i h
          · have : i = k := by omega
            subst this; exact HX.out⟩
        case measure => simp [intOf]; omega
    · have hlti : ¬ (k : Int) < (n : Int) := by omega
      obtain rfl : k = n := by omega
      have HF := hide (HNO.out HN.out)
      go_wp2
      go_ret
      exact ⟨-1, rfl, (show decide ((0 : Int) ≤ -1) = _ from HF.out.symm), rfl⟩

set_option maxHeartbeats 4000000 in
set_option maxRecDepth 4000 in
theorem containsFunc_any (B : Nat) (a' : Option Addr) (k' cap' : Nat) (E : List Bool) (as_ : Option Addr) (n c : Nat) (l : List Int) (w : World) (hb : w.cell? ⟨B, 3, none⟩ = some (.slice a' k' cap')) (he : SlB w a' k' E) (hs : Sl w as_ n l) (hl : ∀ x ∈ l, 0 ≤ x ∧ x < (k' : Int)) :
    Calls Try.prog 50 #[.slice as_ n c, .func (.func 51) #[] #[.pointer (some ⟨B, 0, none⟩)]] w (Same1 (.bool (l.any fun x => E.getD x.toNat false)) w) := by
  have H := hide (indexFunc_any B a' k' cap' E as_ n c l w hb he hs hl)
  unfold IdxU at H
  clear hb he hs hl
  generalize l.any (fun x => E.getD x.toNat false) = q at H
  go_enter Try.func50, Try.ntmps50
  go_wp2_with (go_at_call 56; refine H.out.mono ?_; rintro e w' ⟨i, rfl, hi, rfl⟩; have HI := hide hi; clear hi)
  go_ret
  exact ⟨by rw [show q = decide (0 ≤ i) from HI.out.symm]; rfl, rfl⟩

def BoolU (q : Bool) (w : World) (e : Ending) (w' : World) : Prop := e = .returned (.bool q) ∧ Below w.heap.size w w'
set_option maxHeartbeats 4000000 in
set_option maxRecDepth 4000 in
theorem hasEnd_any (b t : Int) (a : Option Addr) (n cap : Nat) (a' : Option Addr) (k' cap' : Nat) (E : List Bool) (as_ : Option Addr) (M c : Nat) (w : World) (he : SlB w a' k' E) (hk : n ≤ k') (hs : Sl w as_ (setL n M).length (setL n M)) :
    Calls Try.prog 43 #[.agg #[.int .i64 b, .int .i64 t, .slice a n cap, .slice a' k' cap'], .slice as_ (setL n M).length c] w (BoolU (endM n E M) w) := by
  have HBX : Hid (Below w.heap.size w (w.alloc (.cells #[.int .i64 b, .int .i64 t, .slice a n cap, .slice a' k' cap'] 25))) := (Below.refl _ _).alloc (Nat.le_refl _) _
  have h4 := box4 (w := w) (v0 := .int .i64 b) (v1 := .int .i64 t) (v2 := .slice a n cap) (v3 := .slice a' k' cap') (T := 25) (Below.refl _ _)
  have H := hide (containsFunc_any w.heap.size a' k' cap' E as_ (setL n M).length c (setL n M) _ h4.2.2.2 (slB_below he HBX.out) (sl_below hs HBX.out) (fun x hx => by have := mem_setL.1 hx; omega))
  unfold Same1 at H
  rw [end_list] at H
  clear he hs h4
  generalize hwb : w.alloc (.cells #[.int .i64 b, .int .i64 t, .slice a n cap, .slice a' k' cap'] 25) = wb at HBX H
  go_enter Try.func43, Try.ntmps43
  go_wp2_with (go_at_call 50; refine H.out.mono ?_; rintro e w' ⟨rfl, rfl⟩)
  go_ret
  exact ⟨rfl, HBX.out⟩
end Go.Proofs.Ytebbjmcjgjecmaa

/- Letters by what is left of them without a track; the sets' automata of package some: mathematics. -/
namespace Go.Proofs.Ytebbjmcjgjecmaa
open Go.RowKit

/-- The letters below x of which l is left. -/
def leftL (b : Int) (tr tk x : Nat) (l : Nat) : List Int := ((List.range x).filter fun y : Nat => decide (delT b tr tk (y : Int) = (l : Int))).map fun y : Nat => (y : Int)
def leftR (b : Int) (tr tk m mu : Nat) : List (List Int) := (List.range mu).map fun l => leftL b tr tk m l
theorem leftR_len (b : Int) (tr tk m mu : Nat) : (leftR b tr tk m mu).length = mu := by simp [leftR]
theorem leftR_get {b : Int} {tr tk m mu l : Nat} (hl : l < mu) : (leftR b tr tk m mu).getD l [] = leftL b tr tk m l := by simp [leftR, List.getD, hl]
theorem leftL_zero (b : Int) (tr tk l : Nat) : leftL b tr tk 0 l = [] := by simp [leftL]
theorem leftL_step (b : Int) (tr tk x l : Nat) : leftL b tr tk (x + 1) l = if delT b tr tk (x : Int) = (l : Int) then leftL b tr tk x l ++ [(x : Int)] else leftL b tr tk x l := by
  unfold leftL
  rw [List.range_succ, List.filter_append, List.map_append]
  by_cases h : delT b tr tk (x : Int) = (l : Int)
  · rw [if_pos h]; simp [h]
  · rw [if_neg h]; simp [h]
theorem leftL_len (b : Int) (tr tk x l : Nat) : (leftL b tr tk x l).length ≤ x := by
  have h := List.length_filter_le (fun y : Nat => decide (delT b tr tk (y : Int) = (l : Int))) (List.range x)
  simpa [leftL] using h
theorem mem_leftL {b : Int} {tr tk x l : Nat} {y : Int} : y ∈ leftL b tr tk x l ↔ (0 ≤ y ∧ y < (x : Int)) ∧ delT b tr tk y = (l : Int) := by
  simp only [leftL, List.mem_map, List.mem_filter, List.mem_range, decide_eq_true_eq]
  constructor
  · rintro ⟨s, ⟨h1, h2⟩, rfl⟩
    exact ⟨by omega, h2⟩
  · rintro ⟨h1, h2⟩
    exact ⟨y.toNat, ⟨by omega, by rw [Int.toNat_of_nonneg h1.1]; exact h2⟩, by omega⟩
/-- The same letters as in the document's words. -/
theorem leftL_with {b : Int} (h2 : b ≤ 6) {tr tk m mu : Nat} (ht : tk ≤ tr) (hm : pw (kindsI b) (tr + 1) = (m : Int)) (hf : pw (kindsI b) tr = (mu : Int)) {l : Nat} (hl : l < mu) (x : Int) : x ∈ leftL b tr tk m l ↔ x ∈ withL b tr tk (l : Int) := by
  rw [mem_leftL, mem_withL h2 ht hm hf (by omega)]

/-- Sets hang on which letters there are, not on their order: all that comes up. -/
theorem outG_ext {d d' : Nat → Nat → Nat} {m : Nat} (h : ∀ x l, l < m → d x l = d' x l) (f : Nat) : ∀ i, outG d m f i = outG d' m f i := by
  have hr : ∀ (L : List Nat) (x l : Nat), l ≤ m → rowG d L x l = rowG d' L x l := by
    intro L x l
    induction l with
    | zero => intro _; rfl
    | succ l ih => intro hl; simp only [rowG]; rw [ih (by omega), h x l (by omega)]
  intro i
  induction i with
  | zero => rfl
  | succ i ih => simp only [outG]; rw [ih, hr _ _ _ (Nat.le_refl _)]
theorem gN_ext {d d' : Nat → Nat → Nat} {m : Nat} (h : ∀ x l, l < m → d x l = d' x l) (L : List Nat) : gN d m L = gN d' m L := by
  unfold gN
  refine List.map_congr_left fun x _ => List.map_congr_left fun l hl => ?_
  rw [h x l (List.mem_range.1 hl)]
theorem sets_ext {m n : Nat} {N : List (List Int)} (hG : GoodN m n N) {R R' : List (List Int)} (hlen : R.length = R'.length) (h0 : 0 < R.length) (hr : ∀ l, l < R.length → ∀ x ∈ R.getD l [], 0 ≤ x ∧ x < (m : Int)) (h : ∀ l, l < R.length → ∀ x, x ∈ R.getD l [] ↔ x ∈ R'.getD l []) :
    setsS N n R (R.getD 0 []) = setsS N n R' (R'.getD 0 []) ∧ setN N n R (R.getD 0 []) = setN N n R' (R'.getD 0 []) ∧ ∀ E, setE N n E R (R.getD 0 []) = setE N n E R' (R'.getD 0 []) := by
  have hd : ∀ x l, l < R.length → dM N n R x l = dM N n R' x l := fun x l hl => stepM_mem (h l hl) x
  have h1 : setsS N n R (R.getD 0 []) = setsS N n R' (R'.getD 0 []) := by
    unfold setsS
    rw [cloM_mem hG (hr 0 h0) (h 0 h0), outG_ext hd, hlen]
  refine ⟨h1, ?_, fun E => ?_⟩
  · unfold setN
    rw [h1, gN_ext hd, hlen]
  · unfold setE
    rw [h1]
end Go.Proofs.Ytebbjmcjgjecmaa
