/- 4 texts in one. -/
import Derived.Maps.AppendAt
import Derived.Test.YtokcejakjaimladDoorZGf
import Derived.Test.YtokcejakjaimladDoorZLp
import Derived.Test.YtokcejakjaimladDoorBp
import Derived.Test.YtokcejakjaimladDoorDb
/- The reference's Grown, forward: contract. -/
namespace Go.Proofs.YtokcejakjaimladDoor
open Go.RowKit

def GrownR (w : World) (d : Nat → Nat → Nat) (m : Nat) (L : List Nat) (e : Ending) (w' : World) : Prop :=
  (L.length ≤ 2000 → ∃ bs cs an cn, e = .returned (.tuple #[.slice (some ⟨bs, 0, none⟩) L.length cs, .slice an L.length cn, .bool true]) ∧ QueG w' bs L.length cs L ∧ Sl2 w' an L.length (gN d m L) ∧ Below w.heap.size w w') ∧
  (2000 < L.length → e = .returned (.tuple #[.slice none 0 0, .slice none 0 0, .bool false]) ∧ Below w.heap.size w w')
theorem pre_idx {a b : List Nat} (h : a <+: b) {x : Nat} (hx : x ∈ a) : b.idxOf x = a.idxOf x := by
  obtain ⟨t, rfl⟩ := h
  rw [List.idxOf_append, if_pos hx]
theorem idx_new {a : List Nat} {x : Nat} (hx : ¬ x ∈ a) : (a ++ [x]).idxOf x = a.length := by
  rw [List.idxOf_append, if_neg hx]
  simp
/-- The row of the i-th set. -/
def rowI (d : Nat → Nat → Nat) (m : Nat) (L : List Nat) (i : Nat) : List Int := (List.range m).map fun l => ((L.idxOf (d (L.getD i 0) l) : Nat) : Int)
theorem rowI_len (d : Nat → Nat → Nat) (m : Nat) (L : List Nat) (i : Nat) : (rowI d m L i).length = m := by simp [rowI]
theorem rowI_take {d : Nat → Nat → Nat} {m : Nat} {L : List Nat} {i l : Nat} (hl : l < m) : (rowI d m L i).take (l + 1) = (rowI d m L i).take l ++ [((L.idxOf (d (L.getD i 0) l) : Nat) : Int)] := by
  rw [List.take_succ_eq_append_getElem (by rw [rowI_len]; exact hl)]
  simp [rowI]
theorem outG_succ {d : Nat → Nat → Nat} {m f i : Nat} (h : i < (outG d m f i).length) : outG d m f (i + 1) = rowG d (outG d m f i) ((outG d m f i).getD i 0) m := by
  conv => lhs; unfold outG
  rw [if_pos h]
theorem rowG_le {d : Nat → Nat → Nat} {m f i l : Nat} (h : i < (outG d m f i).length) (hi : i < 2000) (hl : l ≤ m) : rowG d (outG d m f i) ((outG d m f i).getD i 0) l <+: outG d m f 2000 := by
  refine List.IsPrefix.trans ?_ (outG_le (show i + 1 ≤ 2000 by omega))
  rw [outG_succ h]
  have := rowG_pre d (outG d m f i) ((outG d m f i).getD i 0) l (m - l)
  rwa [Nat.add_sub_cancel' hl] at this
theorem rowI_wf {d : Nat → Nat → Nat} {m : Nat} {L : List Nat} {i : Nat} (hL : L.length ≤ 1000000) : ∀ x ∈ rowI d m L i, (Lit.int .i64 x).wf = true := by
  intro x hx
  obtain ⟨l, _, rfl⟩ := List.mem_map.1 hx
  have := List.idxOf_le_length (a := d (L.getD i 0) l) (l := L)
  exact WalkArith.wf_i64 (by omega)

theorem rowG_len (d : Nat → Nat → Nat) (L : List Nat) (x l : Nat) : (rowG d L x l).length ≤ L.length + l := by
  induction l with
  | zero => exact Nat.le_refl _
  | succ l ih =>
    have := addG_len (rowG d L x l) (d x l)
    show (addG (rowG d L x l) (d x l)).length ≤ _
    omega
theorem outG_len (d : Nat → Nat → Nat) (m f i : Nat) : (outG d m f i).length ≤ 1 + i * m := by
  induction i with
  | zero => simp [outG]
  | succ i ih =>
    have := rowG_len d (outG d m f i) ((outG d m f i).getD i 0) m
    have e : (i + 1) * m = i * m + m := Nat.succ_mul i m
    conv => lhs; unfold outG
    split <;> omega

end Go.Proofs.YtokcejakjaimladDoor

/- The reference's SomeOf: contract. -/
namespace Go.Proofs.YtokcejakjaimladDoor
open Go.RowKit

def SomeR (w : World) (cnt c1 b t : Int) (N : List (List Int)) (E : List Bool) (c2 : Int) (e : Ending) (w' : World) : Prop :=
  ∃ a ca a' ca', e = .returned (.tuple #[.int .i64 cnt, .int .i64 c1, .agg #[.int .i64 b, .int .i64 t, .slice a N.length ca, .slice a' N.length ca'], .int .i64 c2]) ∧ AutoNew w a N.length N a' E w' ∧ Below w.heap.size w w'
/-- A row of bools that is appended to. -/
def GrowB (w : World) (bs : List Bool) (v : Value) (W : World) : Prop := W.ownsRow w.heap.size 4 1 v bs.length (bs.map Value.bool) ∧ Below w.heap.size w W
theorem growB_nil (w : World) : GrowB w [] (.slice none 0 0) w := ⟨World.ownsRow_nil _ _ _ _, Below.refl _ _⟩
theorem growB_push {w : World} {bs : List Bool} {v v2 : Value} {W w3 : World} {o : Obj} {x : Bool} (h : GrowB w bs v W) (hown : w3.ownsRow w.heap.size 4 1 v2 (bs.length + 1) (bs.map Value.bool ++ [.bool x])) (hg : (W.alloc o).grownBy w3 v.ownBlock) : GrowB w (bs ++ [x]) v2 w3 :=
  ⟨by rw [List.length_append, List.map_append]; exact hown, Below.grown (h.2.alloc h.2.size o) hg (by have := h.2.size; simp; omega) (fun k hk => (h.1.lt k hk).1)⟩
theorem growB_below {w : World} {bs : List Bool} {v : Value} {W W2 : World} (h : GrowB w bs v W) (hb : Below W.heap.size W W2) : GrowB w bs v W2 := ⟨ownsRow_of_block h.1 (fun x hx => hb.block _ (h.1.lt x hx).2), below_step h.2 hb⟩
theorem growB_end {w : World} {bs : List Bool} {v : Value} {W : World} (h : GrowB w bs v W) (hm : bs.length ≤ maxLen) : ∃ a cap, v = .slice a bs.length cap ∧ SlB W a bs.length bs := by
  obtain ⟨⟨h0, h1⟩, -⟩ := h
  rcases h1 with ⟨rfl, hn⟩ | ⟨g, cap, cur, rfl, hg, hh, hc, hcm, hcs, ht⟩
  · exact ⟨none, 0, by rw [hn], rfl, hm, Or.inl hn⟩
  · refine ⟨_, cap, rfl, rfl, hm, Or.inr ⟨g, 0, rfl, fun i hi => ?_⟩⟩
    rw [cell_of_row W g (0 + i) cur 4 (0, 0) hh, Nat.zero_add]
    have h3 : (cur.toList.take (bs.length * 1))[i]? = (bs.map Value.bool)[i]? := by rw [ht]
    rw [List.getElem?_take, if_pos (by omega), Array.getElem?_toList] at h3
    rw [h3]
    simp [List.getD, hi]

end Go.Proofs.YtokcejakjaimladDoor

/- The reference's single and CloseOf: contracts. -/
namespace Go.Proofs.YtokcejakjaimladDoor
open Go.RowKit

theorem sl_one (w : World) (x : Int) (hx : (Lit.int .i64 x).wf = true) (T : TypeId) : Sl (w.alloc (.cells #[.int .i64 x] T)) (some ⟨w.heap.size, 0, none⟩) 1 [x] := by
  refine ⟨rfl, by decide, fun y hy => by simp at hy; rw [hy]; exact hx, Or.inr ⟨_, _, rfl, fun i hi => ?_⟩⟩
  rw [cell_of_row _ _ (0 + i) _ T (0, 0) (heap_alloc_last w _)]
  obtain rfl : i = 0 := by omega
  rfl
def GivesRows (w : World) (L : List (List Int)) (e : Ending) (w' : World) : Prop := ∃ a c, e = .returned (.slice a L.length c) ∧ Sl2 w' a L.length L ∧ Below w.heap.size w w'

set_option maxHeartbeats 4000000 in
set_option maxRecDepth 4000 in
theorem single_any (m : Nat) (w : World) (hm : m ≤ 1000) : Calls Tryd.prog 17 #[.int .i64 (m : Int)] w (GivesRows w (sglR m)) := by
  obtain ⟨j0, hj0, hy0, hy1, hy2⟩ := info_parts infoS2
  have HRD := hide (fun l h => @sglR_get m l h)
  have HRL := hide (sglR_len m)
  go_enter Tryd.func17, Tryd.ntmps17
  go_wp2
  go_loopw [3, 4] (fun v lv wx => ∃ l : Nat, l ≤ m ∧ lv = .int .i64 l ∧ RwAt w (fun l => [(l : Int)]) l v wx) (fun _ lv _ => m - (intOf lv).toNat)
  case atStart => exact ⟨0, by omega, rfl, rwAt_nil _ _⟩
  case round =>
    obtain ⟨l, hl, rfl, hrw⟩ := hrel
    have HRW := hide hrw
    clear hrw
    by_cases hlt : l < m
    · have hlti : (l : Int) < (m : Int) := by omega
      have hbr := (Below.refl wr.heap.size wr).alloc (Nat.le_refl _) (.cells #[.int .i64 (l : Int)] 3)
      obtain ⟨vals, hoN, hszN, hnx⟩ := @rwAt_push w wr _ (fun l => [(l : Int)]) l u3 (some ⟨wr.heap.size, 0, none⟩) 1 HRW.out hbr ⟨sl_one wr (l : Int) (WalkArith.wf_i64 (by omega)) 3, fun ad e => by cases e; exact Nat.le_refl _⟩
      have HNX := hide hnx
      have HOWN := hide hoN
      have HSZ := hide hszN
      clear hnx hoN hszN hbr
      go_wp2_with (at_builtin; refine wpList_append_lies _ rfl _ _ 22 rfl w.heap.size 37 j0 (.slice none 0 0) 1 24 Tryd.underlying22 hj0 hy0 hy1 hy2 rfl (by decide) u3 l vals rfl (HOWN.out.alloc _) ⟨wr.heap.size + 1, 0, none⟩ 1 1 [.slice (some ⟨wr.heap.size, 0, none⟩) 1 1] rfl rfl (one_new_at _ _ _ _ (by simp)) (fun u hu => by simp at hu; subst hu; rfl) (by omega) (by unfold maxLen; omega) (by omega) (by have := HSZ.out; simp at this ⊢; omega) _ rfl ?_; intro g' cg w5 hown5 hgrow5 hat5 hlt5; have HN5 := hide (HNX.out w5 _ g' cg hown5 hgrow5 hat5); clear hown5 hgrow5 hat5 hlt5)
      go_roundw
      case rel => exact ⟨l + 1, by omega, by go_num, HN5.out⟩
      case measure => simp [intOf]; omega
    · have hlti : ¬ (l : Int) < (m : Int) := by omega
      obtain rfl : m = l := by omega
      obtain ⟨ax, cx, rfl, hsx⟩ := rwAt_end HRW.out (by unfold maxLen; omega) (sglR m) HRL.out (fun j hj => HRD.out j hj)
      have HSX := hide hsx
      have HB : Hid (Below w.heap.size w wr) := by obtain ⟨_, _, _, h⟩ := HRW.out; exact h
      clear hsx
      go_wp2
      go_ret
      exact ⟨ax, cx, by rw [HRL.out]; simp, by rw [HRL.out]; exact HSX.out, HB.out⟩

end Go.Proofs.YtokcejakjaimladDoor

/- The reference's Grown, from behind: contract. -/
namespace Go.Proofs.YtokcejakjaimladDoor
open Go.RowKit

/-- All some letter of which leads into a set. -/
def stepB (N : List (List Int)) (n : Nat) (ls : List Int) (M : Nat) : Nat := maskB n fun s => ls.any fun x => M.testBit (stepL N s x)
def dMB (N : List (List Int)) (n : Nat) (read : List (List Int)) (M l : Nat) : Nat := stepB N n (read.getD l []) M
theorem stepB_lt (N : List (List Int)) (n : Nat) (ls : List Int) (M : Nat) : stepB N n ls M < 2 ^ n := maskB_lt _ _
/-- .. of s states, and of the next one by k letters. -/
def stB (N : List (List Int)) (n : Nat) (ls : List Int) (S s k : Nat) : Nat := maskB n fun s' => (decide (s' < s) && ls.any fun x => S.testBit (stepL N s' x)) || (decide (s' = s) && (ls.take k).any fun x => S.testBit (stepL N s x))
theorem stB_bit {N : List (List Int)} {n : Nat} {ls : List Int} {S s k t : Nat} : (stB N n ls S s k).testBit t = true ↔ t < n ∧ ((t < s ∧ ∃ x ∈ ls, S.testBit (stepL N t x) = true) ∨ (t = s ∧ ∃ x ∈ ls.take k, S.testBit (stepL N s x) = true)) := by
  unfold stB
  rw [maskB_bit]
  simp only [Bool.and_eq_true, Bool.or_eq_true, decide_eq_true_eq, List.any_eq_true]
theorem stB_lt (N : List (List Int)) (n : Nat) (ls : List Int) (S s k : Nat) : stB N n ls S s k < 2 ^ n := maskB_lt _ _
theorem stB_zero (N : List (List Int)) (n : Nat) (ls : List Int) (S : Nat) : stB N n ls S 0 0 = 0 := by
  refine mask_ext (n := n) (stB_lt _ _ _ _ _ _) (Nat.two_pow_pos n) fun t _ => ?_
  rw [Bool.eq_iff_iff, stB_bit]
  simp
theorem stB_put {N : List (List Int)} {n : Nat} {ls : List Int} {S s k : Nat} (hk : k < ls.length) (hs : s < n) (h : S.testBit (stepL N s (ls.getD k 0)) = true) : putM (stB N n ls S s k) s = stB N n ls S s (k + 1) := by
  refine mask_ext (n := n) (putM_lt (stB_lt _ _ _ _ _ _) hs) (stB_lt _ _ _ _ _ _) fun t ht => ?_
  rw [Bool.eq_iff_iff, putM_bit, Bool.or_eq_true, decide_eq_true_iff, stB_bit, stB_bit, List.take_succ_eq_append_getElem hk, ← getD_at _ k hk]
  constructor
  · rintro (⟨h1, h2 | ⟨h2, x, h3, h4⟩⟩ | h1)
    · exact ⟨h1, .inl h2⟩
    · exact ⟨h1, .inr ⟨h2, x, by simp [h3], h4⟩⟩
    · exact ⟨ht, .inr ⟨h1.symm, _, by simp, h⟩⟩
  · rintro ⟨h1, h2 | ⟨h2, x, h3, h4⟩⟩
    · exact .inl ⟨h1, .inl h2⟩
    · exact .inr h2.symm
theorem stB_skip {N : List (List Int)} {n : Nat} {ls : List Int} {S s k : Nat} (hk : k < ls.length) (h : S.testBit (stepL N s (ls.getD k 0)) = false) : stB N n ls S s k = stB N n ls S s (k + 1) := by
  refine mask_ext (n := n) (stB_lt _ _ _ _ _ _) (stB_lt _ _ _ _ _ _) fun t ht => ?_
  rw [Bool.eq_iff_iff, stB_bit, stB_bit, List.take_succ_eq_append_getElem hk, ← getD_at _ k hk]
  constructor
  · rintro ⟨h1, h2 | ⟨h2, x, h3, h4⟩⟩
    · exact ⟨h1, .inl h2⟩
    · exact ⟨h1, .inr ⟨h2, x, by simp [h3], h4⟩⟩
  · rintro ⟨h1, h2 | ⟨h2, x, h3, h4⟩⟩
    · exact ⟨h1, .inl h2⟩
    · rcases List.mem_append.1 h3 with h3 | h3
      · exact ⟨h1, .inr ⟨h2, x, h3, h4⟩⟩
      · simp only [List.mem_singleton] at h3
        rw [h3, h] at h4
        cases h4
theorem stB_row {N : List (List Int)} {n : Nat} {ls : List Int} {S s : Nat} : stB N n ls S s ls.length = stB N n ls S (s + 1) 0 := by
  refine mask_ext (n := n) (stB_lt _ _ _ _ _ _) (stB_lt _ _ _ _ _ _) fun t _ => ?_
  rw [Bool.eq_iff_iff, stB_bit, stB_bit, List.take_length]
  constructor
  · rintro ⟨h1, ⟨h2, h3⟩ | ⟨rfl, h3⟩⟩
    · exact ⟨h1, .inl ⟨by omega, h3⟩⟩
    · exact ⟨h1, .inl ⟨by omega, h3⟩⟩
  · rintro ⟨h1, ⟨h2, h3⟩ | ⟨_, x, h3, _⟩⟩
    · by_cases e : t = s
      · subst e; exact ⟨h1, .inr ⟨rfl, h3⟩⟩
      · exact ⟨h1, .inl ⟨by omega, h3⟩⟩
    · simp at h3
theorem stB_end {N : List (List Int)} {n : Nat} {ls : List Int} {S : Nat} : stB N n ls S n 0 = stepB N n ls S := by
  refine mask_ext (n := n) (stB_lt _ _ _ _ _ _) (stepB_lt _ _ _ _) fun t ht => ?_
  unfold stepB
  rw [Bool.eq_iff_iff, stB_bit, maskB_bit]
  simp [ht]
theorem dMB_sgl {N : List (List Int)} {n m M l : Nat} (hl : l < m) : dMB N n (sglR m) M l = dB N n M l := by
  unfold dMB stepB dB
  rw [sglR_get hl]
  simp only [List.any_cons, List.any_nil, Bool.or_false]
  rfl

set_option maxHeartbeats 32000000 in
set_option maxRecDepth 8000 in
theorem grownB_any (b t : Int) (a : Option Addr) (n cap : Nat) (a' : Option Addr) (k' cap' : Nat) (m : Nat) (N : List (List Int)) (F : Nat) (ar : Option Addr) (lr cr : Nat) (read : List (List Int)) (w : World) (hs : Sl2 w a n N) (hG : GoodN m n N) (hn : n ≤ 80) (hr : Sl2 w ar lr read) (hro : ∀ l, l < lr → ∀ x ∈ read.getD l [], 0 ≤ x ∧ x < (m : Int)) (hrl : ∀ l, l < lr → (read.getD l []).length ≤ 1000) (hF : F < 2 ^ n) (h1 : 1 ≤ lr) (h36 : lr ≤ 36) :
    Calls Tryd.prog 15 #[.agg #[.int .i64 b, .int .i64 t, .slice a n cap, .slice a' k' cap'], .agg #[.int .i64 (loS F), .int .i64 (hiS F)], .slice ar lr cr, .bool true] w (GrownR w (dMB N n read) lr (outG (dMB N n read) lr F 2000)) := by
  have hB0 := below_two w (.cells #[.int .i64 b, .int .i64 t, .slice a n cap, .slice a' k' cap'] 25) (.cells #[.int .i64 (loS F), .int .i64 (hiS F)] 49)
  have HX1 := hide (heap_alloc2_fst w (.cells #[.int .i64 b, .int .i64 t, .slice a n cap, .slice a' k' cap'] 25) (.cells #[.int .i64 (loS F), .int .i64 (hiS F)] 49))
  have HX2 := hide (heap_alloc2_snd w (.cells #[.int .i64 b, .int .i64 t, .slice a n cap, .slice a' k' cap'] 25) (.cells #[.int .i64 (loS F), .int .i64 (hiS F)] 49))
  have HS := hide (sl2_below hs hB0)
  have HR := hide (sl2_below hr hB0)
  have HPUT := hide (fun M s W h1 h2 => put_any M s W h1 h2)
  have HIN := hide (fun M s W h1 h2 => in_any M s W h1 h2)
  unfold GivesSet at HPUT
  have H80 : Hid (∀ M, M < 2 ^ n → M < 2 ^ 80) := fun M h => Nat.lt_of_lt_of_le h (Nat.pow_le_pow_right (by decide) hn)
  have HOLT : Hid (∀ i, ∀ x ∈ outG (dMB N n read) lr F i, x < 2 ^ n) := fun i x hx => by
    obtain ⟨u, _, rfl⟩ := outG_reach hx
    induction u using list_snoc_ind with
    | h0 => exact hF
    | h1 u y _ => rw [runG_snoc]; exact stepB_lt _ _ _ _
  have HG := hide hG
  have HRO := hide hro
  have HRL := hide hrl
  obtain ⟨K, hK⟩ : ∃ K, K = 2 ^ 80 := ⟨_, rfl⟩
  rw [← hK] at H80 HPUT HIN
  clear hK
  have HRLEN := hide hr.1
  have HD0 : Hid (∀ M l, dMB N n read M l = stepB N n (read.getD l []) M) := fun _ _ => rfl
  have HOP := hide (outG_pos (dMB N n read) lr F)
  have HOS := hide (fun i h => @outG_succ (dMB N n read) lr F i h)
  have HRP := hide (fun i l h1 h2 h3 => @rowG_le (dMB N n read) lr F i l h1 h2 h3)
  have HOT := hide (fun i j h => @outG_stay (dMB N n read) lr F i h j)
  have HO0 : Hid (outG (dMB N n read) lr F 0 = [F]) := rfl
  have HOLN := hide (outG_len (dMB N n read) lr F)
  have HOLE := hide (fun i k (h : i ≤ k) => @outG_le (dMB N n read) lr F i k h)
  generalize hO : outG (dMB N n read) lr F = O at HOLT HOP HOS HRP HOT HO0 HOLE HOLN ⊢
  clear hO
  obtain ⟨LF, hLF⟩ : ∃ LF, LF = O 2000 := ⟨_, rfl⟩
  rw [← hLF] at HRP ⊢
  have HLF := hide hLF
  have HLFB : Hid (LF.length ≤ 1000000) := by
    have h1 := HOLN.out 2000
    have h2 : 2000 * lr ≤ 2000 * 36 := Nat.mul_le_mul_left _ h36
    rw [← hLF] at h1
    show LF.length ≤ 1000000
    omega
  have HDT : Hid (∀ i l, i < (O i).length → i < 2000 → l < lr → LF.getD i 0 = (O i).getD i 0) := fun i l h1 h2 _ => by
    rw [HLF.out]
    exact pre_getN (HOLE.out i 2000 (by omega)) h1
  generalize dMB N n read = d at HD0 HOS HRP ⊢
  generalize hW0 : (w.alloc (.cells #[.int .i64 b, .int .i64 t, .slice a n cap, .slice a' k' cap'] 25)).alloc (.cells #[.int .i64 (loS F), .int .i64 (hiS F)] 49) = wb at hB0 HX1 HX2 HS HR
  have HB0 := hide hB0
  have HSZ0 : Hid (wb.heap.size = w.heap.size + 2) := by show _ = _; rw [← hW0]; simp
  have HQ0 : Hid (QueG (wb.alloc (.cells #[.int .i64 (loS F), .int .i64 (hiS F)] 49)) wb.heap.size 1 1 [F]) := ⟨rfl, by decide, by decide, #[.int .i64 (loS F), .int .i64 (hiS F)], heap_alloc_last _ _, by simp, fun q hq => by
    rcases (show q = 0 ∨ q = 1 by omega) with rfl | rfl
    · simp [setC]
    · simp [setC]⟩
  have HB3 := hide ((Below.refl wb.heap.size wb).alloc (Nat.le_refl _) (.cells #[.int .i64 (loS F), .int .i64 (hiS F)] 49))
  obtain ⟨⟨p0, p1⟩, -⟩ := box2_cells HX2.out
  obtain ⟨i0, hi0, hz0, hz1, hz2⟩ := info_parts info3
  obtain ⟨j0, hj0, hy0, hy1, hy2⟩ := info_parts infoS2
  clear hs hr hro hrl hG hB0 hF hLF
  go_enter Tryd.func15, Tryd.ntmps15
  go_wp2
  clear hW0 p0 p1
  generalize wb.alloc (.cells #[.int .i64 (loS F), .int .i64 (hiS F)] 49) = wA at HQ0 HB3 ⊢
  go_loopw [11, 12, 13] (fun v v' iv wx => ∃ i bq cq : Nat, iv = .int .i64 i ∧ i ≤ (O i).length ∧ (O i).length ≤ 2000 ∧ v = .slice (some ⟨bq, 0, none⟩) (O i).length cq ∧ QueG wx bq (O i).length cq (O i) ∧ RwX wb (rowI d lr LF) i v' [bq] wx) (fun _ _ iv _ => 2001 - (intOf iv).toNat)
  case atStart => exact ⟨0, wb.heap.size, 1, rfl, Nat.zero_le _, by rw [HO0.out]; simp, by rw [HO0.out]; rfl, by rw [HO0.out]; exact HQ0.out, rwX_nil _ _ _ _ HB3.out (by simp)⟩
  case round =>
    obtain ⟨i, bq, cq, rfl, hil, hi2, rfl, hqu, hrw⟩ := hrel
    have HQU := hide hqu
    have HRW := hide hrw
    clear hqu hrw
    by_cases hlt : i < (O i).length
    · have hlti : (i : Int) < ((O i).length : Int) := by omega
      have hi3 : i < 2000 := by omega
      have HSU := hide (HOS.out i hlt)
      have HRPi := hide (fun l h => HRP.out i l hlt hi3 h)
      have HSI : Hid ((O i).getD i 0 < 2 ^ n) := HOLT.out i _ (getN_mem hlt)
      have HGI : Hid (GrI wb wr bq (O i) [] (.slice (some ⟨bq, 0, none⟩) (O i).length cq) (.slice none 0 0) wr bq cq) := ⟨rfl, HQU.out, .inl rfl, World.ownsRow_nil _ _ _ _, by simp [Value.ownBlock], fun _ _ _ => rfl, HRW.out.2.1, Nat.le_refl _, ⟨HRW.out.2.2 bq (by simp), HRW.out.2.1.size⟩⟩
      have HLFi := hide (HDT.out i)
      have HRI : Hid (∀ l, l < lr → (rowI d lr LF i).take (l + 1) = (rowI d lr LF i).take l ++ [((LF.idxOf (d ((O i).getD i 0) l) : Nat) : Int)]) := fun l hl => by
        rw [rowI_take hl, HLFi.out l hlt hi3 hl]
      obtain ⟨S, hS⟩ : ∃ S, S = (O i).getD i 0 := ⟨_, rfl⟩
      rw [← hS] at HSU HRPi HSI HRI
      have HS0 := hide hS
      clear hS
      go_wp2
      obtain ⟨wq, hwq⟩ : ∃ wq : World, wq = wr := ⟨_, rfl⟩
      rw [← hwq] at HQU HRW HGI ⊢
      clear hwq wr
      go_loopw [11, 14, 15] (fun v v' lv wx => ∃ l b' cp : Nat, l ≤ lr ∧ lv = .int .i64 l ∧ GrI wb wq bq (rowG d (O i) S l) ((rowI d lr LF i).take l) v v' wx b' cp ∧ (rowG d (O i) S l).length ≤ 2000) (fun _ _ lv _ => lr - (intOf lv).toNat)
      case atStart => exact ⟨0, bq, cq, by omega, rfl, HGI.out, hi2⟩
      case round =>
        obtain ⟨l, b', cp, hll, rfl, hgi, hg2⟩ := hrel
        have HGL := hide hgi
        obtain rfl := hgi.val
        clear hgi
        by_cases hlr : l < lr
        · have hlri : (l : Int) < (lr : Int) := by omega
          have HDS := hide (HD0.out S l)
          have HROl := hide (HRO.out l hlr)
          have HRLl := hide (HRL.out l hlr)
          obtain ⟨ls, hls⟩ : ∃ ls, ls = read.getD l [] := ⟨_, rfl⟩
          have HLSd := hide hls
          rw [← hls] at HDS HROl HRLl
          clear hls
          have hll2 := HRLl.out
          have HZ0 : Hid ((wr.alloc (.cells #[.int .i64 0, .int .i64 0] 49)).heap[wr.heap.size]? = some (.cells #[.int .i64 (loS (stB N n ls S 0 0)), .int .i64 (hiS (stB N n ls S 0 0))] 49 (0, 0))) := by rw [stB_zero]; exact heap_alloc_last _ _
          have HBZ := hide ((Below.refl wr.heap.size wr).alloc (Nat.le_refl _) (.cells #[.int .i64 0, .int .i64 0] 49))
          go_wp2
          generalize wr.alloc (.cells #[.int .i64 0, .int .i64 0] 49) = wZ at HZ0 HBZ ⊢
          obtain ⟨wz, hwz⟩ : ∃ wz : World, wz = wr := ⟨_, rfl⟩
          rw [← hwz] at HGL HZ0 HBZ ⊢
          clear hwz wr
          have HBz := hide HGL.out.below
          have HQz := hide HGL.out.que
          have HQPRE : Hid (O i <+: rowG d (O i) S l) := rowG_from _ _ _ _
          go_loopw [17] (fun sv wx => ∃ s : Nat, s ≤ n ∧ sv = .int .i64 s ∧ wx.heap[wz.heap.size]? = some (.cells #[.int .i64 (loS (stB N n ls S s 0)), .int .i64 (hiS (stB N n ls S s 0))] 49 (0, 0)) ∧ Below wz.heap.size wz wx) (fun sv _ => n - (intOf sv).toNat)
          case atStart => exact ⟨0, by omega, rfl, HZ0.out, HBZ.out⟩
          case round =>
            obtain ⟨s, hsn, rfl, hox, hbx⟩ := hrel
            have HOX := hide hox
            have HBX := hide hbx
            have HBB := hide (below_step HBz.out hbx)
            obtain ⟨⟨p0, p1, p2, p3⟩, -⟩ := box_cells ((HBB.out.block _ (Array.getElem?_eq_some_iff.1 HX1.out).1).trans HX1.out)
            clear hox hbx
            by_cases hlt2 : s < n
            · have hlti2 : (s : Int) < (n : Int) := by omega
              go_wp2
              clear p0 p1 p2 p3
              go_loopw [18] (fun kv wx => ∃ k : Nat, k ≤ ls.length ∧ kv = .int .i64 k ∧ wx.heap[wz.heap.size]? = some (.cells #[.int .i64 (loS (stB N n ls S s k)), .int .i64 (hiS (stB N n ls S s k))] 49 (0, 0)) ∧ Below wz.heap.size wz wx) (fun kv _ => ls.length - (intOf kv).toNat)
              case atStart => exact ⟨0, by omega, rfl, HOX.out, HBX.out⟩
              case round =>
                obtain ⟨k, hkl, rfl, hox, hbx⟩ := hrel
                have HOX2 := hide hox
                have HBX2 := hide hbx
                have HBB2 := hide (below_step HBz.out hbx)
                obtain ⟨br, or, al, cl, rfl, hcr, hsr⟩ := sl2_cell (sl2_below HR.out HBB2.out) l hlr
                rw [← HLSd.out] at hcr hsr
                have HSR := hide hsr
                clear hox hbx hsr
                by_cases hkl2 : k < ls.length
                · have hkli : (k : Int) < (ls.length : Int) := by omega
                  obtain ⟨⟨p0, p1, p2, p3⟩, -⟩ := box_cells ((HBB2.out.block _ (Array.getElem?_eq_some_iff.1 HX1.out).1).trans HX1.out)
                  obtain ⟨⟨o0, o1⟩, of⟩ := box2_cells HOX2.out
                  obtain ⟨bn, on, an, cn, rfl, hcn, hsn2⟩ := sl2_cell (sl2_below HS.out HBB2.out) s hlt2
                  rw [(HG.out.2.2.2.2.2 s hlt2).1] at hcn hsn2
                  obtain ⟨bl, ol, rfl, hcl⟩ := sl_cell HSR.out k hkl2
                  have hx := HROl.out (ls.getD k 0) (by rw [getD_at _ k hkl2]; exact List.getElem_mem _)
                  have HPT := hide (fun h1 => @stB_put N n ls S s k hkl2 hlt2 h1)
                  have HSK := hide (fun h1 => @stB_skip N n ls S s k hkl2 h1)
                  have hst : stepL N s (ls.getD k 0) = nxt N s (ls.getD k 0).toNat := rfl
                  rw [hst] at HPT HSK
                  obtain ⟨x, hxe⟩ : ∃ x : Nat, ls.getD k 0 = (x : Int) := ⟨(ls.getD k 0).toNat, by omega⟩
                  rw [hxe] at hcl hx HPT HSK
                  rw [Int.toNat_natCast] at HPT HSK
                  have hxm : x < m := by omega
                  have hxi : (x : Int) < (m : Int) := by omega
                  obtain ⟨b1, o1', rfl, hcx⟩ := sl_cell hsn2 x hxm
                  obtain ⟨hy1, hy2⟩ := nxt_cell HG.out hlt2 hxm
                  rw [hy2] at hcx
                  have HQC := hide (queG_at (queG_kept HQz.out (HBX2.out.block _ (queG_lt HQz.out))) i (Nat.lt_of_lt_of_le hlt HQPRE.out.length_le))
                  rw [pre_getN HQPRE.out hlt, ← HS0.out] at HQC
                  obtain ⟨c0, c1⟩ := HQC.out
                  have HIC := hide (fun W => HIN.out S (nxt N s x) W (H80.out S HSI.out) (by omega))
                  have HPC := hide (fun W => HPUT.out (stB N n ls S s k) s W (H80.out _ (stB_lt _ _ _ _ _ _)) (by omega))
                  have hilr : (i : Int) < ((rowG d (O i) S l).length : Int) := by have := HQPRE.out.length_le; omega
                  generalize nxt N s x = y at hcx hy1 HIC HPT HSK
                  clear hsn2 hst hxe hx hy2 HQC
                  go_wp2
                  go_quiet (fail)
                  have HBD := hide (below_drewN (Below.refl wr.heap.size wr) nq)
                  have d0 : (wr.drewN nq).cell? ⟨b', i * 2, none⟩ = some (.int .i64 (loS S)) := c0
                  have d1 : (wr.drewN nq).cell? ⟨b', i * 2 + 1, none⟩ = some (.int .i64 (hiS S)) := c1
                  have HOX3 : Hid ((wr.drewN nq).heap[wz.heap.size]? = some (.cells #[.int .i64 (loS (stB N n ls S s k)), .int .i64 (hiS (stB N n ls S s k))] 49 (0, 0))) := HOX2.out
                  have HBX3 := hide (below_step HBX2.out HBD.out)
                  clear c0 c1 o0 o1 of p0 p1 p2 p3 hcn hcl hcx hcr HBX2 HOX2 HBB2 HBD HSR
                  generalize wr.drewN nq = wd at d0 d1 HOX3 HBX3 ⊢
                  cases hm : S.testBit y with
                  | false =>
                    rw [hm] at HIC
                    have HEQ := hide (HSK.out hm)
                    clear hm
                    go_wp2_with (go_at_call 29; refine (HIC.out _).mono ?_; rintro e w2 ⟨rfl, hb2⟩; have HB2 := hide hb2; clear hb2)
                    go_roundw
                    case rel => exact ⟨k + 1, by omega, by go_num, by rw [← HEQ.out]; exact (HB2.out.block _ (Array.getElem?_eq_some_iff.1 HOX3.out).1).trans HOX3.out, below_step HBX3.out HB2.out⟩
                    case measure => simp [intOf]; omega
                  | true =>
                    rw [hm] at HIC
                    have HEQ := hide (HPT.out hm)
                    clear hm
                    go_wp2_with (first
                      | (go_at_call 29; refine (HIC.out _).mono ?_; rintro e w2 ⟨rfl, hb2⟩; have HB2 := hide hb2; have hox4 := (hb2.block _ (Array.getElem?_eq_some_iff.1 HOX3.out).1).trans HOX3.out; have HOX4 := hide hox4; obtain ⟨⟨e0, e1⟩, ef⟩ := box2_cells hox4; clear hb2 hox4)
                      | (go_at_call 28; refine (HPC.out _).mono ?_; rintro e w4 ⟨rfl, hb4⟩; have HB4 := hide hb4; have hox5 := (hb4.block _ (Array.getElem?_eq_some_iff.1 HOX4.out).1).trans HOX4.out; have HOX5 := hide hox5; obtain ⟨⟨f0, f1⟩, ff⟩ := box2_cells hox5; clear hb4 hox5))
                    obtain ⟨⟨hset, -, -⟩, hbel⟩ := box2_set (v0 := .int .i64 (loS (putM (stB N n ls S s k) s))) (v1 := .int .i64 (hiS (putM (stB N n ls S s k) s))) HOX5.out rfl
                    rw [HEQ.out] at hset hbel ⊢
                    have HSET := hide hset
                    have HBX6 := hide (hbel _ _ (below_step (below_step HBX3.out HB2.out) HB4.out) (Nat.le_refl _))
                    clear hset hbel
                    go_roundw
                    case rel => exact ⟨k + 1, by omega, by go_num, HSET.out, HBX6.out⟩
                    case measure => simp [intOf]; omega
                · have hkli : ¬ (k : Int) < (ls.length : Int) := by omega
                  obtain rfl : k = ls.length := by omega
                  have HOX3 := hide HOX2.out
                  rw [stB_row] at HOX3
                  go_wp2
                  go_roundw
                  case rel => exact ⟨s + 1, by omega, by go_num, HOX3.out, HBX2.out⟩
                  case measure => simp [intOf]; omega
            · have hlti2 : ¬ (s : Int) < (n : Int) := by omega
              obtain rfl : n = s := by omega
              have HOXe := hide HOX.out
              rw [stB_end, ← HDS.out] at HOXe
              obtain ⟨⟨o0, o1⟩, -⟩ := box2_cells HOXe.out
              have HGW := hide (grI_below HGL.out HBX.out)
              have HFI := hide (find_any b' (rowG d (O i) S l).length cp (rowG d (O i) S l) (d S l) wr HGW.out.que (by omega))
              have HRT := hide (HRI.out l hlr)
              have HPL := hide (HRPi.out l (by omega))
              have HPS := hide (HRPi.out (l + 1) (by omega))
              have hsuc : rowG d (O i) S (l + 1) = addG (rowG d (O i) S l) (d S l) := rfl
              rw [hsuc] at HPS
              have HSUC := hide hsuc
              have HTL : Hid (((rowI d lr LF i).take l).length = l) := by show _ = _; rw [List.length_take, rowI_len]; omega
              clear hsuc
              by_cases hmem : d S l ∈ rowG d (O i) S l
              · have hfi : findI (rowG d (O i) S l) (d S l) = (((rowG d (O i) S l).idxOf (d S l) : Nat) : Int) := by unfold findI; rw [if_pos hmem]
                have HIX := hide (pre_idx HPL.out hmem)
                rw [hfi, ← HIX.out] at HFI
                have HOLD := hide (addG_old hmem)
                clear hfi hmem HIX
                generalize LF.idxOf (d S l) = ix at HFI HRT
                have hixn : ¬ ((ix : Int) < 0) := by omega
                have hixd : decide ((ix : Int) < 0) = false := by simp
                go_wp2_with (first
                  | (go_at_call 31; refine HFI.out.mono ?_; rintro e w5 ⟨rfl, hb5⟩; have HG5 := hide (grI_below HGW.out hb5); have HOWN := hide HG5.out.row_; rw [HTL.out] at HOWN; have HSZ := hide HG5.out.size; clear hb5)
                  | (at_builtin; refine wpList_append_own_at _ rfl _ _ 37 rfl wq.heap.size 3 i0 (.int .i64 0) 1 8 Tryd.underlying37 hi0 hz0 hz1 hz2 rfl (by decide) _ l (((rowI d lr LF i).take l).map (Value.int .i64)) rfl (HOWN.out.alloc _) ⟨w5.heap.size, 0, none⟩ 1 1 [.int .i64 (ix : Int)] rfl rfl (one_new _ _ _) (fun u hu => by simp at hu; subst hu; rfl) (by unfold maxLen; omega) (by omega) (by have := HSZ.out; simp; omega) ?_; intro v6 w6 hown6 hgrow6 _ hat6; have HG6 := hide (grI_row HG5.out (by rw [HTL.out]; exact hown6) hgrow6 hat6); clear hown6 hgrow6 hat6))
                rw [← HRT.out] at HG6
                have HG7 : Hid (GrI wb wq bq (rowG d (O i) S (l + 1)) ((rowI d lr LF i).take (l + 1)) (.slice (some ⟨b', 0, none⟩) (rowG d (O i) S l).length cp) v6 w6 b' cp ∧ (rowG d (O i) S (l + 1)).length ≤ 2000) := by
                  have e : rowG d (O i) S (l + 1) = rowG d (O i) S l := by rw [HSUC.out, HOLD.out]
                  rw [e]
                  exact ⟨HG6.out, hg2⟩
                go_roundw
                case rel => exact ⟨l + 1, b', cp, by omega, by go_num, HG7.out⟩
                case measure => simp [intOf]; omega
              · have hfi : findI (rowG d (O i) S l) (d S l) = -1 := by unfold findI; rw [if_neg hmem]
                rw [hfi] at HFI
                have HNEW := hide (addG_new hmem)
                rw [HNEW.out] at HPS
                have HIX := hide (pre_idx HPS.out (x := d S l) (by simp))
                rw [idx_new hmem] at HIX
                rw [HIX.out] at HRT
                clear hfi hmem
                by_cases h20 : (rowG d (O i) S l).length = 2000
                · have h20i : (((rowG d (O i) S l).length : Int) == 2000) = true := by simp [h20]
                  have HBIG : Hid (2000 < LF.length) := by
                    have := HPS.out.length_le
                    rw [List.length_append, h20] at this
                    simp at this
                    show 2000 < LF.length
                    omega
                  clear h20
                  go_wp2_with (go_at_call 31; refine HFI.out.mono ?_; rintro e w5 ⟨rfl, hb5⟩; have HBE := hide (below_step HB0.out (grI_below HGW.out hb5).below); clear hb5)
                  exact bodyPost_ret (v := .tuple #[.slice none 0 0, .slice none 0 0, .bool false]) (by simp [results, Tryd.results15, go_sem]) rfl ⟨fun h => by have := HBIG.out; omega, fun _ => ⟨rfl, HBE.out⟩⟩
                · have h20i : (((rowG d (O i) S l).length : Int) == 2000) = false := by simp; omega
                  have HG3 : Hid ((rowG d (O i) S l).length < 2000) := by show _ < _; omega
                  clear h20
                  go_wp2_with (first
                    | (go_at_call 31; refine HFI.out.mono ?_; rintro e w5 ⟨rfl, hb5⟩; have HG5 := hide (grI_below HGW.out hb5); have hox5 := (hb5.block _ (Array.getElem?_eq_some_iff.1 HOXe.out).1).trans HOXe.out; obtain ⟨⟨e0, e1⟩, -⟩ := box2_cells hox5; clear hb5 hox5)
                    | (at_builtin; have hown0 := HOWN; clear hown0; refine wpList_append_own_at _ rfl _ _ 37 rfl wq.heap.size 3 i0 (.int .i64 0) 1 8 Tryd.underlying37 hi0 hz0 hz1 hz2 rfl (by decide) _ l (((rowI d lr LF i).take l).map (Value.int .i64)) rfl (HOWN.out.alloc _) ⟨w6.heap.size, 0, none⟩ 1 1 [.int .i64 ((rowG d (O i) S l).length : Int)] rfl rfl (one_new _ _ _) (fun u hu => by simp at hu; subst hu; rfl) (by unfold maxLen; omega) (by omega) (by have := HSZ.out; simp; omega) ?_; intro v7 w7 hown7 hgrow7 _ hat7; have HG7 := hide (grI_row HG6.out (by rw [HTL.out]; exact hown7) hgrow7 hat7); clear hown7 hgrow7 hat7)
                    | (at_builtin; refine wpList_append_queG _ rfl _ _ rfl b' (rowG d (O i) S l).length cp (rowG d (O i) S l) rfl (queG_kept HG5.out.que (Below.heap_alloc _ _ _ (queG_lt HG5.out.que))) ⟨w5.heap.size, 0, none⟩ (d S l) (loS (d S l)) (hiS (d S l)) rfl rfl rfl (two_new _ _ _ _) (by omega) ?_; intro b6 cap6 w6 hq6 hg6 hb6; have HG6 := hide (grI_set HG5.out hq6 hg6 hb6); have HOWN := hide HG6.out.row_; rw [HTL.out] at HOWN; have HSZ := hide HG6.out.size; clear hq6 hg6 hb6))
                  rw [← HRT.out] at HG7
                  have HG8 : Hid (GrI wb wq bq (rowG d (O i) S (l + 1)) ((rowI d lr LF i).take (l + 1)) (.slice (some ⟨b6, 0, none⟩) ((rowG d (O i) S l).length + 1) cap6) v7 w7 b6 cap6 ∧ (rowG d (O i) S (l + 1)).length ≤ 2000) := by
                    have e : rowG d (O i) S (l + 1) = rowG d (O i) S l ++ [d S l] := by rw [HSUC.out, HNEW.out]
                    rw [e]
                    exact ⟨HG7.out, by rw [List.length_append, List.length_singleton]; have := HG3.out; omega⟩
                  go_roundw
                  case rel => exact ⟨l + 1, b6, cap6, by omega, by go_num, HG8.out⟩
                  case measure => simp [intOf]; omega
        · have hlri : ¬ (l : Int) < (lr : Int) := by omega
          obtain rfl : lr = l := by omega
          have HFULL : Hid ((rowI d lr LF i).take lr = rowI d lr LF i) := List.take_of_length_le (by rw [rowI_len]; exact Nat.le_refl _)
          rw [HFULL.out, ← HSU.out] at HGL
          rw [← HSU.out] at hg2 ⊢
          have HB4 : Hid (b' < wr.heap.size ∧ bq < wq.heap.size) := ⟨queG_lt HGL.out.que, queG_lt HQU.out⟩
          have hown := HGL.out.row_
          rw [rowI_len] at hown
          obtain ⟨hw0, hw1⟩ := hown
          rcases hw1 with ⟨rfl, hn0⟩ | ⟨g, cg, cur, rfl, hg, hh, hc, hcm, hcs, ht⟩
          · omega
          have hsg := sl_of_owns (rowI_len d lr LF i) (by unfold maxLen; omega) (rowI_wf HLFB.out) (by have := HGL.out.row_; rwa [rowI_len] at this)
          obtain ⟨ag, cg2, eg, hsg, -⟩ := hsg
          cases eg
          have hat := HGL.out.at_
          have hfar := HGL.out.far
          have hgb : g ≠ b' := fun e => hfar (by simp [Value.ownBlock, e])
          have hbb : wb.heap.size ≤ b' := by
            have h1 := HRW.out.2.2 bq (by simp)
            have h2 := HRW.out.2.1.size
            omega
          have HRW2 : Hid (RwX wb (rowI d lr LF) i u12 [bq, b'] wq) := rwX_turn HRW.out (fun _ _ _ => rfl) (fun x hx => by
            simp at hx
            rcases hx with rfl | rfl
            · exact .inl (by simp)
            · rcases hat with rfl | h
              · exact .inl (by simp)
              · exact .inr h) HRW.out.2.1 (fun x hx => by
            simp at hx
            rcases hx with rfl | rfl
            · exact HRW.out.2.2 _ (by simp)
            · exact hbb)
          have HPU := hide (@rwX_push wb (rowI d lr LF) i u12 [bq, b'] wq wr g cg HRW2.out (fun x hx hne => HGL.out.keep x hx (fun e => hne (by simp [e]))) HGL.out.size HGL.out.below (by rw [rowI_len]; exact hsg) hg (by
            have h1 := HB4.out
            simp
            omega) (fun x hx => by
            have h1 := HB4.out
            have h2 := HGL.out.size
            simp at hx
            omega))
          rw [rowI_len] at HPU
          obtain ⟨vals, c1, c2, c3⟩ := HPU.out
          have HOWN := hide c1
          have HNX := hide c3
          have HLE2 := hide (HOLE.out i (i + 1) (by omega)).length_le
          have HQW := hide HGL.out.que
          have HSZ := hide HGL.out.below.size
          have HBB := hide hbb
          clear c1 c2 c3 HPU hw0 hh hc hcm hcs ht hsg hat hfar hgb hbb
          go_wp2_with (at_builtin; refine wpList_append_lies _ rfl _ _ 22 rfl wb.heap.size 37 j0 (.slice none 0 0) 1 24 Tryd.underlying22 hj0 hy0 hy1 hy2 rfl (by decide) u12 i vals rfl (HOWN.out.alloc _) ⟨wr.heap.size, 0, none⟩ 1 1 [.slice (some ⟨g, 0, none⟩) lr cg] rfl rfl (one_new _ _ _) (fun u hu => by simp at hu; subst hu; rfl) (by omega) (by unfold maxLen; omega) (by omega) (by have := HSZ.out; simp; omega) (wr.heap.size + 1) (by simp) ?_; intro g' cg' w3 hown3 hgrow3 hat3 hlt3; have HN3 := hide (HNX.out w3 _ g' cg' hown3 hgrow3 hat3); clear hown3 hgrow3 hat3)
          have HRE : Hid (RwX wb (rowI d lr LF) (i + 1) (.slice (some ⟨g', 0, none⟩) (i + 1) cg') [b'] w3) := rwX_turn HN3.out.1 (fun _ _ _ => rfl) (fun x hx => by simp at hx; subst hx; exact .inl (by simp)) HN3.out.1.2.1 (fun x hx => by simp at hx; subst hx; exact HBB.out)
          have HQE := hide (queG_kept HQW.out (HN3.out.2 b' (by simp)))
          clear hlt3
          go_roundw
          case rel => exact ⟨i + 1, b', cp, by go_num, by have := HLE2.out; omega, hg2, rfl, HQE.out, HRE.out⟩
          case measure => simp [intOf]; omega
    · have hlti : ¬ (i : Int) < ((O i).length : Int) := by omega
      obtain ⟨hie, hle⟩ : (O i).length = i ∧ LF = O i := by
        have h1 : (O i).length = i := by omega
        refine ⟨h1, ?_⟩
        have := HOT.out i (2000 - i) (by omega)
        rw [Nat.add_sub_cancel' (by omega)] at this
        rw [HLF.out, this]
      have HEND := hide (rwX_end HRW.out (by unfold maxLen; omega) (gN d lr LF) (by rw [gN_len, hle, hie]) (fun j hj => by rw [gN_row (by rw [hle, hie]; exact hj)]; rfl))
      obtain ⟨an, cn, rfl, hsn⟩ := HEND.out
      have HBE := hide (below_step HB0.out HRW.out.2.1)
      have HSN := hide hsn
      have HQE := hide HQU.out
      rw [← hle] at HQE ⊢
      have hlf : LF.length = i := by rw [hle]; exact hie
      rw [← hlf] at HSN
      clear hsn HEND hie hle HOT HLF
      go_wp2
      rw [← hlf]
      exact bodyPost_ret (v := .tuple #[.slice (some ⟨bq, 0, none⟩) LF.length cq, .slice an LF.length cn, .bool true]) (by simp [results, Tryd.results15, go_sem]) rfl ⟨fun _ => ⟨bq, cq, an, cn, rfl, HQE.out, HSN.out, HBE.out⟩, fun h => by omega⟩
end Go.Proofs.YtokcejakjaimladDoor
