/- 2 texts in one. -/
import Derived.Laws.BytesArg
import Derived.Test.YtebbjmcjgjecmaaZNx
import Derived.Test.YtebbjmcjgjecmaaZHa
import Derived.Test.YtebbjmcjgjecmaaZEg
/- some.key: contract. -/
namespace Go.Proofs.Ytebbjmcjgjecmaa
open Go.RowKit

theorem infoY : (Try.prog.info? 5).map (fun i => (i.zero, i.size, i.bytes)) = some (some (.int .u8 0), 1, 1) := by kernel_rfl
theorem make_bytes (n : Nat) (hn : n ≤ 1000000000000) (w : World) : (Instr.makeSlice 84 (.int .i64 (n : Int)) (.int .i64 (n : Int))).run Try.prog w = .ok (.slice (some ⟨w.heap.size, 0, none⟩) n n) (w.alloc (.cells (madeCells #[.int .u8 0] n) 5)) :=
  run_make_row' 84 5 (.int .u8 0) 1 Try.underlying84 infoY rfl .i64 .i64 n (by omega) (by omega) w
theorem wrap_byte (x : Int) (h0 : 0 ≤ x) (h1 : x < 256) : IntKind.wrap .u8 x = x := by
  have : (IntKind.wrap .u8 x) = x % 256 := by kernel_rfl
  rw [this]; omega

def KeyAt (w : World) (l : List Int) (n k : Nat) (wx : World) : Prop := wx.rowIs w.heap.size 5 n (fun i => .int .u8 (if i < k then l.getD i 0 else 0)) ∧ Below w.heap.size w wx
theorem keyAt_start (w : World) (l : List Int) (n : Nat) : KeyAt w l n 0 (w.alloc (.cells (madeCells #[.int .u8 0] n) 5)) :=
  ⟨(World.rowIs_made w (.int .u8 0) n 5).congr fun p hp => by rw [if_neg (by omega)], (Below.refl _ _).alloc (Nat.le_refl _) _⟩
theorem keyAt_step {w : World} {l : List Int} {n k : Nat} {wx : World} (h : KeyAt w l n k wx) : KeyAt w l n (k + 1) (wx.setCell ⟨w.heap.size, k, none⟩ (.int .u8 (l.getD k 0))) := by
  refine ⟨(h.1.set k _).congr fun p hp => ?_, h.2.setCell (Nat.le_refl _) _⟩
  by_cases e : p = k
  · subst e; rw [if_pos rfl, if_pos (by omega)]
  · rw [if_neg e]
    by_cases e2 : p < k
    · rw [if_pos e2, if_pos (by omega)]
    · rw [if_neg e2, if_neg (by omega)]
def KeyU (w : World) (l : List Int) (e : Ending) (w' : World) : Prop := e = .returned (.string (strOfNums l)) ∧ Below w.heap.size w w'

set_option maxHeartbeats 4000000 in
set_option maxRecDepth 4000 in
theorem key_any (a : Option Addr) (n cap : Nat) (l : List Int) (w : World) (hs : Sl w a n l) (hn : n ≤ 100) (hb : ∀ x ∈ l, 0 ≤ x ∧ x < 256) :
    Calls Try.prog 40 #[.slice a n cap] w (KeyU w l) := by
  unfold KeyU
  have hL := hs.1
  have HS := hide hs
  have hmk := make_bytes n (by omega)
  have H0 := hide (keyAt_start w l n)
  have HST := hide (fun k wx h => @keyAt_step w l n k wx h)
  have HWR : Hid (∀ k, k < n → IntKind.wrap .u8 (l.getD k 0) = l.getD k 0) := fun k hk => by
    have := hb _ (show l.getD k 0 ∈ l by rw [getD_at _ k (by omega)]; exact List.getElem_mem _)
    exact wrap_byte _ this.1 this.2
  have HCV : Hid (∀ wx, KeyAt w l n n wx → (convert 84 9 (.slice (some ⟨w.heap.size, 0, none⟩) n n)).run Try.prog wx = .ok (.string (strOfNums l)) wx) := fun wx h =>
    run_convert_bytes_arg wx _ 5 Try.underlying84 Try.underlying5 w.heap.size 0 n n l hL (fun i hi => by rw [Nat.zero_add, h.1.cell hi, if_pos hi]) 9 Try.underlying9
  clear hs hb hL
  go_enter Try.func40, Try.ntmps40
  go_wp2
  clear hmk
  generalize w.alloc (.cells (madeCells #[.int .u8 0] n) 5) = W0 at H0 ⊢
  go_loopw [11] (fun u wx => ∃ k : Nat, k ≤ n ∧ u = .int .i64 k ∧ KeyAt w l n k wx) (fun u _ => n - (intOf u).toNat)
  case atStart => exact ⟨0, by omega, rfl, H0.out⟩
  case round =>
    obtain ⟨k, hk, rfl, hka⟩ := hrel
    have HKA := hide hka
    clear hka
    by_cases hlt : k < n
    · have hlti : (k : Int) < (n : Int) := by omega
      obtain ⟨b1, o1, rfl, hcx⟩ := sl_cell (sl_below HS.out HKA.out.2) k hlt
      have hwr := HWR.out k hlt
      have HN := hide (HST.out k _ HKA.out)
      have hck := HKA.out.1.cell hlt
      have hfk := HKA.out.1.frozen k
      generalize l.getD k 0 = x at hcx hwr HN hck
      go_wp2
      go_roundw
      case rel => exact ⟨k + 1, by omega, by go_num, HN.out⟩
      case measure => simp [intOf]; omega
    · have hlti : ¬ (k : Int) < (n : Int) := by omega
      obtain rfl : k = n := by omega
      have hcv := HCV.out _ HKA.out
      go_wp2
      go_ret
      exact ⟨rfl, HKA.out.2⟩
end Go.Proofs.Ytebbjmcjgjecmaa

/- some.nextSet: contract, from what some.inOrder does. -/
namespace Go.Proofs.Ytebbjmcjgjecmaa
open Go.RowKit

def OrdU (base : Nat) (w : World) (l : List Int) (e : Ending) (w' : World) : Prop :=
  ∃ a cap, e = .returned (.slice a (ordL l).length cap) ∧ SlN base w' a (ordL l).length (ordL l) ∧ ∀ (W0 : World) (b0 : Nat), b0 ≤ base → Below b0 W0 w → Below b0 W0 w'
/-- What some.inOrder does with a row of the caller's own. -/
def OrdSays : Prop := ∀ (base : Nat) (v : Value) (l : List Int) (w : World), l.length ≤ 1000 → (∀ x ∈ l, (Lit.int .i64 x).wf = true) → w.ownsRow base 3 1 v l.length (l.map (Value.int .i64)) → Calls Try.prog 48 #[v] w (OrdU base w l)

/-- Where the letters lead from a state; from the states of a list, in the order in which it is met. -/
def nxR (N : List (List Int)) (ls : List Int) (s : Int) : List Int := ls.map fun l => ((stepL N s.toNat l : Nat) : Int)
def nxO (N : List (List Int)) (ls : List Int) (set : List Int) (i : Nat) : List Int := (set.take i).foldl (fun o s => rowAdd o (nxR N ls s)) []
theorem nxO_zero (N : List (List Int)) (ls set : List Int) : nxO N ls set 0 = [] := by simp [nxO]
theorem nxO_succ (N : List (List Int)) (ls set : List Int) (i : Nat) (hi : i < set.length) : nxO N ls set (i + 1) = rowAdd (nxO N ls set i) (nxR N ls (set.getD i 0)) := by
  unfold nxO
  rw [List.take_succ_eq_append_getElem hi, List.foldl_append, getD_at _ i hi]
  rfl
theorem mem_rowAdd {o r : List Int} {x : Int} : x ∈ rowAdd o r ↔ x ∈ o ∨ x ∈ r := by
  induction r generalizing o with
  | nil => simp [rowAdd]
  | cons y r ih =>
    show x ∈ rowAdd (addL o y) r ↔ _
    rw [ih]
    unfold addL
    by_cases h : y ∈ o
    · rw [if_pos h]
      constructor
      · rintro (h1 | h1)
        · exact .inl h1
        · exact .inr (List.mem_cons_of_mem _ h1)
      · rintro (h1 | h1)
        · exact .inl h1
        · rcases List.mem_cons.1 h1 with rfl | h1
          · exact .inl h
          · exact .inr h1
    · rw [if_neg h]
      simp only [List.mem_append, List.mem_cons, List.not_mem_nil, or_false]
      constructor
      · rintro ((h1 | h1) | h1)
        · exact .inl h1
        · exact .inr (.inl h1)
        · exact .inr (.inr h1)
      · rintro (h1 | h1 | h1)
        · exact .inl (.inl h1)
        · exact .inl (.inr h1)
        · exact .inr h1
theorem mem_nxO {N : List (List Int)} {ls set : List Int} {x : Int} : ∀ {i : Nat}, i ≤ set.length → (x ∈ nxO N ls set i ↔ ∃ j, j < i ∧ x ∈ nxR N ls (set.getD j 0))
  | 0, _ => by simp [nxO_zero]
  | i + 1, hi => by
    rw [nxO_succ _ _ _ _ (by omega), mem_rowAdd, mem_nxO (by omega)]
    constructor
    · rintro (⟨j, h1, h2⟩ | h)
      · exact ⟨j, by omega, h2⟩
      · exact ⟨i, by omega, h⟩
    · rintro ⟨j, h1, h2⟩
      rcases Nat.lt_or_ge j i with h | h
      · exact .inl ⟨j, h, h2⟩
      · have : j = i := by omega
        subst this
        exact .inr h2
theorem nxR_ok {m n : Nat} {N : List (List Int)} (hG : GoodN m n N) {ls : List Int} (hl : ∀ x ∈ ls, 0 ≤ x ∧ x < (m : Int)) {s : Int} (hs : 0 ≤ s ∧ s < (n : Int)) : ∀ x ∈ nxR N ls s, 0 ≤ x ∧ x < (n : Int) := fun x hx => by
  obtain ⟨l, h1, rfl⟩ := List.mem_map.1 hx
  have := runF_lt hG (s := s.toNat) (by omega) (v := [l]) (fun y hy => hl y (by simp at hy; rw [hy]; exact h1))
  have e : runF N s.toNat [l] = stepL N s.toNat l := rfl
  rw [e] at this
  omega
theorem nxO_ok {m n : Nat} {N : List (List Int)} (hG : GoodN m n N) {ls : List Int} (hl : ∀ x ∈ ls, 0 ≤ x ∧ x < (m : Int)) {set : List Int} (hs : ∀ x ∈ set, 0 ≤ x ∧ x < (n : Int)) : ∀ i, i ≤ set.length → OkO n (nxO N ls set i)
  | 0, _ => by rw [nxO_zero]; exact ⟨List.nodup_nil, by simp⟩
  | i + 1, hi => by
    rw [nxO_succ _ _ _ _ (by omega)]
    exact okO_row (nxO_ok hG hl hs i (by omega)) _ (nxR_ok hG hl (hs _ (by rw [getD_at _ i (by omega)]; exact List.getElem_mem _)))
/-- The set of the nexts. -/
theorem nxO_set {m n : Nat} {N : List (List Int)} (hG : GoodN m n N) {ls : List Int} (hl : ∀ x ∈ ls, 0 ≤ x ∧ x < (m : Int)) (M : Nat) : ordL (nxO N ls (setL n M) (setL n M).length) = setL n (stepM N n ls M) := ordL_setL fun x => by
  rw [mem_nxO (Nat.le_refl _)]
  have e : (∃ j, j < (setL n M).length ∧ x ∈ nxR N ls ((setL n M).getD j 0)) ↔ ∃ s ∈ setL n M, x ∈ nxR N ls s := by
    constructor
    · rintro ⟨j, h1, h2⟩
      exact ⟨_, by rw [getD_at _ j h1]; exact List.getElem_mem _, h2⟩
    · rintro ⟨s, h1, h2⟩
      obtain ⟨j, hj, e⟩ := List.getElem_of_mem h1
      exact ⟨j, hj, by rw [getD_at _ j hj, e]; exact h2⟩
  rw [e]
  constructor
  · rintro ⟨s, h1, h2⟩
    obtain ⟨k0, k1, k2⟩ := mem_setL.1 h1
    have hr := nxR_ok hG hl (s := s) (by omega) x h2
    obtain ⟨l, h3, h4⟩ := List.mem_map.1 h2
    refine ⟨hr.1, by omega, stepM_bit.2 ⟨by omega, s.toNat, k1, k2, l, h3, by omega⟩⟩
  · rintro ⟨h0, h1, h2⟩
    obtain ⟨k1, s, k2, k3, l, k4, k5⟩ := stepM_bit.1 h2
    exact ⟨(s : Int), mem_setL.2 ⟨by omega, by omega, by simpa using k3⟩, List.mem_map.2 ⟨l, k4, by simp [k5]; omega⟩⟩

/-- Which were seen, in an array. -/
def MtA (w : World) (sn o : List Int) (v : Value) (W : World) : Prop :=
  (W.rowIs w.heap.size 86 80 fun p => .bool (decide ((p : Int) ∈ sn))) ∧ W.ownsRow w.heap.size 3 1 v o.length (o.map (Value.int .i64)) ∧ Below w.heap.size w W
theorem arr_zero : ∀ p, p < 80 → (Try.zeroCells86)[p]? = some (.bool false) := by
  have e : Try.zeroCells86 = Array.replicate 80 (.bool false) := by kernel_rfl
  intro p hp
  rw [e]
  simp [hp]
theorem arr_size : (Try.zeroCells86).size = 80 := by kernel_rfl
theorem not_arr_block {W : World} {S n : Nat} {f : Nat → Value} (h : W.rowIs S 86 n f) {base k : Nat} {v : Value} {xs : List Value} (hr : W.ownsRow base 3 1 v k xs) : v.ownBlock ≠ some S := by
  obtain ⟨c, hc, _⟩ := h
  rcases hr.2 with ⟨rfl, _⟩ | ⟨g, cap, cur, rfl, _, hgb, _⟩
  · simp [Value.ownBlock]
  · intro e
    obtain rfl : g = S := by simpa [Value.ownBlock] using e
    rw [hc] at hgb
    simp at hgb
theorem mtA_start (w : World) : MtA w [] [] (.slice none 0 0) (w.alloc (.cells Try.zeroCells86 86)) :=
  ⟨⟨_, heap_alloc_last w _, arr_size, fun p hp => by rw [arr_zero p hp]; simp⟩, World.ownsRow_nil _ _ _ _, (Below.refl _ _).alloc (Nat.le_refl _) _⟩
theorem mtA_seen {w : World} {sn o : List Int} {v : Value} {W : World} (h : MtA w sn o v W) (x : Nat) : MtA w (sn ++ [(x : Int)]) o v (W.setCell ⟨w.heap.size, x, none⟩ (.bool true)) := by
  refine ⟨(h.1.set x (.bool true)).congr fun p hp => ?_, ownsRow_setCell_other h.2.1 (not_arr_block h.1 h.2.1) _, h.2.2.setCell (Nat.le_refl _) _⟩
  by_cases e : p = x
  · subst e; simp
  · rw [if_neg e]
    have : ¬ ((p : Int) = (x : Int)) := by omega
    simp [this]
theorem mtA_push {w : World} {sn o : List Int} {v v' : Value} {W w3 : World} {ob : Obj} {x : Int} (h : MtA w sn o v W) (hown : w3.ownsRow w.heap.size 3 1 v' (o.length + 1) (o.map (Value.int .i64) ++ [.int .i64 x])) (hgrow : (W.alloc ob).grownBy w3 v.ownBlock) : MtA w sn (o ++ [x]) v' w3 := by
  refine ⟨(h.1.alloc ob).of_block (hgrow.block _ (by have := h.1.lt; simp; omega) (fun e => not_arr_block h.1 h.2.1 e.symm)), by rw [List.length_append, List.map_append]; exact hown, ?_⟩
  exact Below.grown (h.2.2.alloc h.2.2.size ob) hgrow (by have := h.2.2.size; simp; omega) (fun k hk => (h.2.1.lt k hk).1)
theorem owns_any {W : World} {base : Nat} {v : Value} {n : Nat} {xs : List Value} (h : W.ownsRow base 3 1 v n xs) : ∃ a c, v = .slice a n c := by
  rcases h.2 with ⟨rfl, rfl⟩ | ⟨g, cap, cur, rfl, _⟩
  · exact ⟨none, 0, rfl⟩
  · exact ⟨_, _, rfl⟩

set_option maxHeartbeats 8000000 in
set_option maxRecDepth 8000 in
theorem nextSet_of (HO : OrdSays) (b t : Int) (a : Option Addr) (n cap : Nat) (a' : Option Addr) (k' cap' : Nat) (m : Nat) (N : List (List Int)) (as_ : Option Addr) (sn sc : Nat) (set : List Int) (al : Option Addr) (ll cl : Nat) (ls : List Int) (w : World) (hs : Sl2 w a n N) (hG : GoodN m n N) (hn : n ≤ 80) (hset : Sl w as_ sn set) (hsr : ∀ x ∈ set, 0 ≤ x ∧ x < (n : Int)) (hls : Sl w al ll ls) (hl : ∀ x ∈ ls, 0 ≤ x ∧ x < (m : Int)) :
    Calls Try.prog 42 #[.agg #[.int .i64 b, .int .i64 t, .slice a n cap, .slice a' k' cap'], .slice as_ sn sc, .slice al ll cl] w (GivesRow w (ordL (nxO N ls set set.length))) := by
  obtain ⟨i0, hi0, hz0, hz1, hz2⟩ := info_parts info3
  have hL := hls.1
  have hSL := hset.1
  have hllm := hls.2.1
  have hsnm := hset.2.1
  unfold maxLen at hllm hsnm
  have hn1 := hG.2.1
  have HBX : Hid (Below w.heap.size w (w.alloc (.cells #[.int .i64 b, .int .i64 t, .slice a n cap, .slice a' k' cap'] 25))) := (Below.refl _ _).alloc (Nat.le_refl _) _
  have HAT := hide (box4 (w := w) (v0 := .int .i64 b) (v1 := .int .i64 t) (v2 := .slice a n cap) (v3 := .slice a' k' cap') (T := 25) (Below.refl _ _))
  have HS := hide hs
  have HSET := hide hset
  have HLS := hide hls
  have HSR : Hid (∀ i, i < sn → 0 ≤ set.getD i 0 ∧ set.getD i 0 < (n : Int)) := fun i hi => hsr _ (by rw [getD_at _ i (by omega)]; exact List.getElem_mem _)
  have HOK := hide (nxO_ok hG hl hsr)
  have HROK : Hid (∀ s : Int, 0 ≤ s ∧ s < (n : Int) → ∀ x ∈ nxR N ls s, 0 ≤ x ∧ x < (n : Int)) := fun s h => nxR_ok hG hl h
  have HLM : Hid (∀ i, i < ll → 0 ≤ ls.getD i 0 ∧ ls.getD i 0 < (m : Int)) := fun i hi => hl _ (by rw [getD_at _ i (by omega)]; exact List.getElem_mem _)
  have HROW : Hid (∀ s, s < n → (N.getD s []).length = m ∧ ∀ j, j < m → 0 ≤ (N.getD s []).getD j 0 ∧ (N.getD s []).getD j 0 < (n : Int)) := hG.2.2.2.2.2
  have HSUC := hide (fun i => nxO_succ N ls set i)
  rw [hSL] at HSUC HOK
  have HNXL : Hid (∀ s, (nxR N ls s).length = ll) := fun s => by rw [← hL]; simp [nxR]
  have HNXG : Hid (∀ s i, i < ll → (nxR N ls s).getD i 0 = ((stepL N s.toNat (ls.getD i 0) : Nat) : Int)) := fun s i hi => by
    simp [nxR, List.getD, show i < ls.length by omega]
  have HORD : Hid (∀ (v : Value) (W : World), MtA (w.alloc (.cells #[.int .i64 b, .int .i64 t, .slice a n cap, .slice a' k' cap'] 25)) (nxO N ls set sn) (nxO N ls set sn) v W → Calls Try.prog 48 #[v] W (GivesRow w (ordL (nxO N ls set set.length)))) := fun v W h => by
    have ho := HOK.out sn (Nat.le_refl _)
    rw [hSL]
    have hlen := nodup_len n _ ho
    refine (HO _ v (nxO N ls set sn) W (by omega) (okO_wf (by omega) ho) h.2.1).mono ?_
    rintro e w' ⟨a1, c1, rfl, h1, h2⟩
    exact ⟨a1, c1, rfl, ⟨h1.1, fun ad e => by have := h1.2 ad e; simp at this; omega⟩, h2 w w.heap.size (by simp) ((Below.refl _ _).alloc (Nat.le_refl _) _ |>.trans (h.2.2.mono (by simp)))⟩
  clear hs hset hls hl hsr hG HO hL hSL
  generalize hwb : w.alloc (.cells #[.int .i64 b, .int .i64 t, .slice a n cap, .slice a' k' cap'] 25) = wb at HBX HAT HORD
  have HSZ : Hid (wb.heap.size = w.heap.size + 1) := by show _ = _; rw [← hwb]; simp
  have HR0 := hide (mtA_start wb)
  have HBW : Hid (∀ sn o v W, MtA wb sn o v W → Below w.heap.size w W) := fun sn o v W h => HBX.out.trans (h.2.2.mono HBX.out.size)
  have HBOX : Hid (∀ sn o v W, MtA wb sn o v W → W.cell? ⟨w.heap.size, 2, none⟩ = some (.slice a n cap)) := fun sn o v W h => by
    have hlt : w.heap.size < wb.heap.size := by rw [HSZ.out]; omega
    exact (h.2.2.cell (p := ⟨w.heap.size, 2, none⟩) hlt).trans HAT.out.2.2.1
  go_enter Try.func42, Try.ntmps42
  go_wp2_with fail
  clear hwb
  generalize wb.alloc (.cells Try.zeroCells86 86) = W0 at HR0 ⊢
  rw [← nxO_zero N ls set] at HR0
  go_loopw [8, 16] (fun v u wx => ∃ i : Nat, i ≤ sn ∧ u = .int .i64 i ∧ MtA wb (nxO N ls set i) (nxO N ls set i) v wx) (fun _ u _ => sn - (intOf u).toNat)
  case atStart => exact ⟨0, by omega, rfl, HR0.out⟩
  case round =>
    obtain ⟨i, hi, rfl, hma⟩ := hrel
    have HMA := hide hma
    clear hma
    by_cases hlt : i < sn
    · have hlti : (i : Int) < (sn : Int) := by omega
      obtain ⟨b1, o1, rfl, hcs⟩ := sl_cell (sl_below HSET.out (HBW.out _ _ _ _ HMA.out)) i hlt
      have hsr := HSR.out i hlt
      have HSUC' := hide (HSUC.out i hlt)
      have HOKI := hide (HOK.out i (by omega))
      obtain ⟨s, hs⟩ : ∃ s : Nat, set.getD i 0 = s := ⟨(set.getD i 0).toNat, by omega⟩
      rw [hs] at hcs hsr HSUC'
      have hsn : s < n := by omega
      have hsni : (s : Int) < (n : Int) := by omega
      have HRROK := hide (HROK.out (s : Int) hsr)
      have HRL := hide (HNXL.out (s : Int))
      have HRG := hide (HNXG.out (s : Int))
      rw [Int.toNat_natCast] at HRG
      obtain ⟨hrl, hrr⟩ := HROW.out s hsn
      obtain ⟨bn, on, a1, c1, rfl, hcn0, hsl⟩ := sl2_cell HS.out s hsn
      rw [hrl] at hcn0 hsl
      have HCN0 := hide hcn0
      have HSLN := hide hsl
      have HRR := hide hrr
      clear hsl hrr hcn0 hrl hs hsr
      generalize hO : nxO N ls set i = O at HMA HSUC' HOKI ⊢
      clear hO
      generalize hRW : nxR N ls (s : Int) = row at HRROK HRL HRG HSUC'
      clear hRW
      have HOKQ : Hid (∀ q, OkO n (rowAdd O (row.take q))) := fun q => okO_row HOKI.out _ fun x hx => HRROK.out x (List.mem_of_mem_take hx)
      have HTS := hide (fun q => rowAdd_take_succ O row q)
      have HALL : Hid (rowAdd O (row.take ll) = rowAdd O row) := by show _ = _; rw [← HRL.out, rowAdd_all]
      rw [HRL.out] at HTS
      obtain ⟨av, cv, rfl⟩ := owns_any HMA.out.2.1
      have HMA0 : Hid (MtA wb (rowAdd O (row.take 0)) (rowAdd O (row.take 0)) (.slice av O.length cv) wr) := HMA.out
      clear HMA
      go_wp2
      obtain ⟨wo, hwo⟩ : ∃ wo : World, wo = wr := ⟨_, rfl⟩
      rw [← hwo] at HMA0 ⊢
      clear hwo hcs wr
      go_loopw [8, 22] (fun v u wx => ∃ q : Nat, q ≤ ll ∧ u = .int .i64 q ∧ MtA wb (rowAdd O (row.take q)) (rowAdd O (row.take q)) v wx) (fun _ u _ => ll - (intOf u).toNat)
      case atStart => exact ⟨0, by omega, rfl, HMA0.out⟩
      case round =>
        obtain ⟨q, hq, rfl, hma⟩ := hrel
        have HMA := hide hma
        obtain ⟨av1, cv1, rfl⟩ := owns_any hma.2.1
        clear hma
        by_cases hqt : q < ll
        · have hqti : (q : Int) < (ll : Int) := by omega
          have HBQ := hide (HBW.out _ _ _ _ HMA.out)
          obtain ⟨bl, ol, rfl, hcl⟩ := sl_cell (sl_below HLS.out HBQ.out) q hqt
          have hlr := HLM.out q hqt
          have HRG' := hide (HRG.out q hqt)
          have HTS' := hide (HTS.out q hqt)
          have hqn := nodup_len n _ (HOKQ.out q)
          obtain ⟨y, hy⟩ : ∃ y : Nat, ls.getD q 0 = y := ⟨(ls.getD q 0).toNat, by omega⟩
          rw [hy] at hcl hlr HRG'
          have hym : y < m := by omega
          have hymi : (y : Int) < (m : Int) := by omega
          have hbox := HBOX.out _ _ _ _ HMA.out
          have hcn := (HBQ.out.cell (p := ⟨bn, on + s, none⟩) (World.block_lt_of_cell? w _ HCN0.out)).trans HCN0.out
          obtain ⟨br, orr, rfl, hcr⟩ := sl_cell (sl_below HSLN.out HBQ.out) y hym
          have hxr := HRR.out y hym
          obtain ⟨x, hx⟩ : ∃ x : Nat, (N.getD s []).getD y 0 = x := ⟨((N.getD s []).getD y 0).toNat, by omega⟩
          have hst : stepL N s (y : Int) = x := by
            have e : stepL N s (y : Int) = ((N.getD s []).getD y 0).toNat := rfl
            rw [e, hx]; rfl
          rw [hst] at HRG'
          rw [HRG'.out] at HTS'
          rw [hx] at hcr hxr
          have hxn : x < 80 := by omega
          have hxni : (x : Int) < 80 := by omega
          clear hx hxr hy hlr hst
          have hcs := HMA.out.1.cell hxn
          have hfs := HMA.out.1.frozen x
          by_cases hin : (x : Int) ∈ rowAdd O (row.take q)
          · rw [addL_yes hin] at HTS'
            rw [decide_eq_true hin] at hcs
            clear hin
            generalize rowAdd O (row.take q) = Oq at HMA HTS' hqn ⊢
            go_wp2
            go_roundw
            case rel => exact ⟨q + 1, by omega, by go_num, by rw [HTS'.out]; exact HMA.out⟩
            case measure => simp [intOf]; omega
          · rw [addL_no hin] at HTS'
            rw [decide_eq_false hin] at hcs
            clear hin
            generalize rowAdd O (row.take q) = Oq at HMA HTS' hqn ⊢
            have HM2 := hide (mtA_seen HMA.out x)
            have HOWN := hide HM2.out.2.1
            have HS2 := hide HM2.out.2.2.size
            have HSZW : Hid ((wr.setCell ⟨wb.heap.size, x, none⟩ (.bool true)).heap.size = wr.heap.size) := by show _ = _; simp
            go_wp2_with (at_builtin; refine wpList_append_own _ rfl _ _ 31 rfl wb.heap.size 3 i0 (.int .i64 0) 1 8 Try.underlying31 hi0 hz0 hz1 hz2 rfl (by decide) _ Oq.length (Oq.map (Value.int .i64)) rfl (HOWN.out.alloc _) ⟨wr.heap.size, 0, none⟩ 1 1 [.int .i64 x] rfl rfl (one_new_at _ _ _ _ (by simp)) (fun u hu => by simp at hu; subst hu; rfl) (by unfold maxLen; omega) (by omega) (by have := HS2.out; simp at this ⊢; omega) ?_; intro v' w3 hown hgrow hnil)
            go_roundw
            case rel => exact ⟨q + 1, by omega, by go_num, by rw [HTS'.out]; exact mtA_push HM2.out hown hgrow⟩
            case measure => simp [intOf]; omega
        · have hqti : ¬ ((q : Int) < (ll : Int)) := by omega
          obtain rfl : q = ll := by omega
          rw [HALL.out] at HMA
          rw [HALL.out]
          go_wp2
          go_roundw
          case rel => exact ⟨i + 1, by omega, by go_num, by rw [HSUC'.out]; exact HMA.out⟩
          case measure => simp [intOf]; omega
    · have hlti : ¬ (i : Int) < (sn : Int) := by omega
      obtain rfl : i = sn := by omega
      have HF := hide (HORD.out _ _ HMA.out)
      obtain ⟨av, cv, rfl⟩ := owns_any HMA.out.2.1
      go_wp2_with (go_at_call 48; refine HF.out.mono ?_; intro e w' h; have HR := hide h; obtain ⟨ar, cr, rfl, -⟩ := h)
      go_ret
      exact HR.out
end Go.Proofs.Ytebbjmcjgjecmaa
