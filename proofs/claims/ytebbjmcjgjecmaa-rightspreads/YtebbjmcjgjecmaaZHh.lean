/- 3 texts in one. -/
import Derived.Deep.AppendLies
import Derived.StringKeys
import Derived.Test.YtebbjmcjgjecmaaZHc
import Derived.Test.YtebbjmcjgjecmaaZMp
import Derived.Test.YtebbjmcjgjecmaaZNx
/- The closure of some.setsOf that numbers the sets: contract. -/
namespace Go.Proofs.Ytebbjmcjgjecmaa
open Go.RowKit

/-- Nothing of what was there has turned but what F names. -/
structure Tch (F : Nat → Prop) (W W' : World) : Prop where
  os : W'.os = W.os
  tape : W'.tape = W.tape
  output : W'.output = W.output
  size : W.heap.size ≤ W'.heap.size
  block : ∀ x, x < W.heap.size → ¬ F x → W'.heap[x]? = W.heap[x]?
theorem tch_trans {F F1 : Nat → Prop} {W W1 W2 : World} (h : Tch F W W1) (h1 : Tch F1 W1 W2) (hF : ∀ x, x < W.heap.size → F1 x → F x) : Tch F W W2 :=
  ⟨h1.os.trans h.os, h1.tape.trans h.tape, h1.output.trans h.output, Nat.le_trans h.size h1.size, fun x hx hn => (h1.block x (Nat.lt_of_lt_of_le hx h.size) (fun k => hn (hF x hx k))).trans (h.block x hx hn)⟩
theorem tch_below {F : Nat → Prop} {W W' : World} (h : Below W.heap.size W W') : Tch F W W' := ⟨h.os, h.tape, h.output, h.size, fun x hx _ => h.block x hx⟩
theorem below_tch {F : Nat → Prop} {B : Nat} {w W W' : World} (h : Below B w W) (h1 : Tch F W W') (hF : ∀ x, F x → B ≤ x) (hB : B ≤ W.heap.size) : Below B w W' :=
  ⟨h1.os.trans h.os, h1.tape.trans h.tape, h1.output.trans h.output, Nat.le_trans h.size h1.size, fun x hx => (h1.block x (by omega) (fun k => by have := hF x k; omega)).trans (h.block x hx)⟩
theorem tch_grown {F : Nat → Prop} {W W' : World} {r : Option Nat} (h : W.grownBy W' r) (hr : ∀ x, r = some x → F x) : Tch F W W' := ⟨h.os, h.tape, h.output, h.size, fun x hx hn => h.block x hx (fun e => hn (hr x e.symm))⟩
theorem tch_alloc {F : Nat → Prop} (W : World) (o : Obj) : Tch F W (W.alloc o) := tch_below ((Below.refl _ _).alloc (Nat.le_refl _) _)
theorem tch_set {F : Nat → Prop} (W : World) {a : Addr} (ha : F a.block) (v : Value) : Tch F W (W.setCell a v) := ⟨rfl, rfl, rfl, by simp, fun x _ hn => Below.heap_setCell _ _ _ _ (fun e => hn (e ▸ ha))⟩
theorem tch_turned {F : Nat → Prop} {W W' : World} {b : Nat} (h : W.mapTurned W' b) (hb : F b) : Tch F W W' := tch_grown h.grown (fun x e => by cases e; exact hb)

/-- The set's key; numbered keys. -/
def keyV (n M : Nat) : Value := .string (strOfNums (setL n M))
theorem keyV_inj {n M M' : Nat} (hn : n ≤ 80) (h : M < 2 ^ n) (h' : M' < 2 ^ n) (e : keyV n M = keyV n M') : M = M' := by
  unfold keyV at e
  injection e with e
  have e2 : keyL (setL n M) = keyL (setL n M') := by
    have := congrArg (fun b : ByteArray => b.data.toList) e
    rw [strOfNums_data, strOfNums_data] at this
    exact this
  have hb : ∀ K, ∀ x ∈ setL n K, 0 ≤ x ∧ x < 256 := fun K x hx => by have := mem_setL.1 hx; omega
  exact setL_inj h h' (keyL_inj (hb M) (hb M') e2)
theorem keyV_key {n : Nat} (hn : n ≤ 80) (M : Nat) : keyOf Try.prog 9 (keyV n M) = some (.string (strOfNums (setL n M)).data.toList) :=
  WideMaps.keyOf_string_mk Try.underlying9 (by rw [strOfNums_size]; have := setL_len n M; unfold maxLen; omega)
def numS (n : Nat) (L : List Nat) : List (Value × Value) := (List.range L.length).map fun i => (keyV n (L.getD i 0), Value.int .i64 (i : Int))
theorem numS_len (n : Nat) (L : List Nat) : (numS n L).length = L.length := by simp [numS]
theorem numS_new (n : Nat) (L : List Nat) (M : Nat) : numS n (L ++ [M]) = numS n L ++ [(keyV n M, Value.int .i64 (L.length : Int))] := by
  unfold numS
  rw [List.length_append, List.length_singleton, List.range_succ, List.map_append]
  congr 1
  · refine List.map_congr_left fun i hi => ?_
    have := List.mem_range.1 hi
    simp [List.getD, List.getElem?_append_left this]
  · simp [List.getD]
theorem numS_mem {n : Nat} {L : List Nat} {M : Nat} (h : M ∈ L) : (keyV n M, Value.int .i64 ((L.idxOf M : Nat) : Int)) ∈ numS n L := by
  refine List.mem_map.2 ⟨L.idxOf M, List.mem_range.2 (List.idxOf_lt_length_of_mem h), ?_⟩
  rw [idx_get h]
theorem numS_not {n : Nat} {L : List Nat} {M : Nat} (hn : n ≤ 80) (hM : M < 2 ^ n) (hL : ∀ x ∈ L, x < 2 ^ n) (h : ¬ M ∈ L) : ¬ keyV n M ∈ (numS n L).map Prod.fst := fun hx => by
  obtain ⟨p, hp, e⟩ := List.mem_map.1 hx
  obtain ⟨i, hi, rfl⟩ := List.mem_map.1 hp
  have hil := List.mem_range.1 hi
  have hm := getN_mem hil
  exact h (keyV_inj hn (hL _ hm) hM e ▸ hm)

/-- The sets that were numbered, in the order of their numbers: block mv holds the map, block sv the row of them. -/
structure SetI (base n mv sv : Nat) (L : List Nat) (F : Nat → Prop) (W : World) (mb : Nat) (v : Value) (vals : List Value) : Prop where
  hm : W.heap[mv]? = some (.cells #[.map (some mb)] 71 (0, 0))
  map : MapAt Try.prog 9 W mb (numS n L)
  hv : W.heap[sv]? = some (.cells #[v] 22 (0, 0))
  own : W.ownsRow base 31 1 v L.length vals
  rows : ∀ j, j < L.length → ∃ a cap, vals[j]? = some (.slice a (setL n (L.getD j 0)).length cap) ∧ Sl W a (setL n (L.getD j 0)).length (setL n (L.getD j 0)) ∧ ∀ x, slB a (setL n (L.getD j 0)).length x → F x ∧ x ≠ mb ∧ x ≠ mv ∧ x ≠ sv ∧ v.ownBlock ≠ some x
  fmb : F mb
  fmv : F mv
  fsv : F sv
  fv : ∀ x, v.ownBlock = some x → F x ∧ x ≠ mb ∧ x ≠ mv ∧ x ≠ sv
  ne1 : mb ≠ mv
  ne2 : mb ≠ sv
  ne3 : mv ≠ sv
  lt : ∀ x, F x → base ≤ x ∧ x < W.heap.size
  hb : base ≤ W.heap.size
theorem setI_keep {base n mv sv : Nat} {L : List Nat} {F : Nat → Prop} {W W' : World} {mb : Nat} {v : Value} {vals : List Value} (h : SetI base n mv sv L F W mb v vals) (hk : ∀ x, F x → W'.heap[x]? = W.heap[x]?) (hsz : W.heap.size ≤ W'.heap.size) : SetI base n mv sv L F W' mb v vals where
  hm := (hk _ h.fmv).trans h.hm
  map := h.map.of_block (hk _ h.fmb)
  hv := (hk _ h.fsv).trans h.hv
  own := ownsRow_of_block h.own fun x hx => hk x (h.fv x hx).1
  rows := fun j hj => by
    obtain ⟨a, cap, e1, e2, e3⟩ := h.rows j hj
    exact ⟨a, cap, e1, sl_keep e2 fun x hx => hk x (e3 x hx).1, e3⟩
  fmb := h.fmb
  fmv := h.fmv
  fsv := h.fsv
  fv := h.fv
  ne1 := h.ne1
  ne2 := h.ne2
  ne3 := h.ne3
  lt := fun x hx => ⟨(h.lt x hx).1, Nat.lt_of_lt_of_le (h.lt x hx).2 hsz⟩
  hb := Nat.le_trans h.hb hsz
def SetSt (base n mv sv : Nat) (L : List Nat) (F : Nat → Prop) (W : World) : Prop := ∃ mb v vals, SetI base n mv sv L F W mb v vals
theorem setSt_keep {base n mv sv : Nat} {L : List Nat} {F : Nat → Prop} {W W' : World} (h : SetSt base n mv sv L F W) (hk : ∀ x, F x → W'.heap[x]? = W.heap[x]?) (hsz : W.heap.size ≤ W'.heap.size) : SetSt base n mv sv L F W' := by
  obtain ⟨mb, v, vals, h⟩ := h
  exact ⟨mb, v, vals, setI_keep h hk hsz⟩
theorem setSt_below {base n mv sv : Nat} {L : List Nat} {F : Nat → Prop} {W W' : World} (h : SetSt base n mv sv L F W) (hb : Below W.heap.size W W') : SetSt base n mv sv L F W' := by
  obtain ⟨mb, v, vals, h⟩ := h
  exact ⟨mb, v, vals, setI_keep h (fun x hx => hb.block x (h.lt x hx).2) hb.size⟩

def setF (F : Nat → Prop) (a : Option Addr) (len lo hi : Nat) (x : Nat) : Prop := F x ∨ slB a len x ∨ (lo ≤ x ∧ x < hi)
/-- One set more. -/
theorem setI_new {base n mv sv : Nat} {L : List Nat} {F : Nat → Prop} {W1 w2 w3 : World} {mb : Nat} {v : Value} {vals : List Value} {a : Option Addr} {M cap : Nat} {o : Obj} {g' cap' : Nat} (h : SetI base n mv sv L F W1 mb v vals)
    (hs : Sl W1 a (setL n M).length (setL n M)) (hfar : ∀ x, slB a (setL n M).length x → ¬ F x ∧ base ≤ x)
    (hmap : MapAt Try.prog 9 w2 mb (numS n L ++ [(keyV n M, .int .i64 (L.length : Int))])) (hturn : W1.mapTurned w2 mb)
    (hown : w3.ownsRow base 31 1 (.slice (some ⟨g', 0, none⟩) (L.length + 1) cap') (L.length + 1) (vals ++ [.slice a (setL n M).length cap])) (hgrow : (w2.alloc o).grownBy w3 v.ownBlock) (hat : v.ownBlock = some g' ∨ g' = (w2.alloc o).heap.size) :
    (w3.cell? ⟨sv, 0, none⟩ = some v ∧ w3.frozen? ⟨sv, 0, none⟩ = false) ∧ SetI base n mv sv (L ++ [M]) (setF F a (setL n M).length W1.heap.size w3.heap.size) (w3.setCell ⟨sv, 0, none⟩ (.slice (some ⟨g', 0, none⟩) (L.length + 1) cap')) mb (.slice (some ⟨g', 0, none⟩) (L.length + 1) cap') (vals ++ [.slice a (setL n M).length cap]) ∧ Tch F W1 (w3.setCell ⟨sv, 0, none⟩ (.slice (some ⟨g', 0, none⟩) (L.length + 1) cap')) := by
  have s2 := hturn.grown.size
  have s3 := hgrow.size
  rw [World.size_alloc] at s3
  have s3' : W1.heap.size < w3.heap.size := by omega
  have k2 : ∀ x, x < W1.heap.size → x ≠ mb → w2.heap[x]? = W1.heap[x]? := fun x hx hne => hturn.grown.block x hx (fun e => hne (by cases e; rfl))
  have k3 : ∀ x, x < W1.heap.size → x ≠ mb → v.ownBlock ≠ some x → w3.heap[x]? = W1.heap[x]? := fun x hx hne hv => by
    rw [hgrow.block x (by rw [World.size_alloc]; omega) (fun e => hv e.symm), Below.heap_alloc _ _ _ (by omega), k2 x hx hne]
  have k4 : ∀ x, x < W1.heap.size → x ≠ mb → v.ownBlock ≠ some x → x ≠ sv → (w3.setCell ⟨sv, 0, none⟩ (.slice (some ⟨g', 0, none⟩) (L.length + 1) cap')).heap[x]? = W1.heap[x]? := fun x hx hne hv hsv => by
    rw [Below.heap_setCell _ _ _ _ hsv, k3 x hx hne hv]
  have vsv : v.ownBlock ≠ some sv := fun e => (h.fv _ e).2.2.2 rfl
  have vmv : v.ownBlock ≠ some mv := fun e => (h.fv _ e).2.2.1 rfl
  have vmb : v.ownBlock ≠ some mb := fun e => (h.fv _ e).2.1 rfl
  have lsv := (h.lt _ h.fsv).2
  have lmv := (h.lt _ h.fmv).2
  have lmb := (h.lt _ h.fmb).2
  have hsv3 : w3.heap[sv]? = some (.cells #[v] 22 (0, 0)) := (k3 sv lsv (Ne.symm h.ne2) vsv).trans h.hv
  have hgn : g' = g' ∧ (∀ x, x < W1.heap.size → v.ownBlock ≠ some x → x ≠ g') := ⟨rfl, fun x hx hv e => by
    rcases hat with h1 | h1
    · exact hv (by rw [e]; exact h1)
    · rw [World.size_alloc] at h1; omega⟩
  have hown4 : (w3.setCell ⟨sv, 0, none⟩ (.slice (some ⟨g', 0, none⟩) (L.length + 1) cap')).ownsRow base 31 1 (.slice (some ⟨g', 0, none⟩) (L.length + 1) cap') (L.length + 1) (vals ++ [.slice a (setL n M).length cap]) :=
    ownsRow_setCell_other hown (fun e => hgn.2 sv lsv vsv (by simpa [Value.ownBlock] using e.symm)) _
  have hvl : vals.length = L.length := by have := h.own.1; omega
  have glt : g' < w3.heap.size := (hown.lt g' (by simp [Value.ownBlock])).2
  have gbs : base ≤ g' := (hown.lt g' (by simp [Value.ownBlock])).1
  refine ⟨⟨by simp [World.cell?, hsv3], by simp [World.frozen?, hsv3]⟩, ?_, ?_⟩
  · refine ⟨(k4 mv lmv (Ne.symm h.ne1) vmv h.ne3).trans h.hm, ?_, ?_, by rw [List.length_append]; exact hown4, fun j hj => ?_, .inl h.fmb, .inl h.fmv, .inl h.fsv, fun x hx => ?_, h.ne1, h.ne2, h.ne3, fun x hx => ?_, ?_⟩
    · rw [numS_new]
      exact ((hmap.alloc o).grown hgrow (fun e => vmb e.symm)).setCell h.ne2 _
    · simp [World.setCell, Array.getElem?_modify, hsv3]
    · rw [List.length_append, List.length_singleton] at hj
      by_cases e : j = L.length
      · subst e
        have e1 : (L ++ [M]).getD L.length 0 = M := by simp [List.getD]
        rw [e1]
        refine ⟨a, cap, by rw [List.getElem?_append_right (by omega), hvl]; simp, sl_keep hs fun x hx => ?_, fun x hx => ?_⟩
        · obtain ⟨hn, _⟩ := hfar x hx
          exact k4 x (slB_lt hs hx) (fun e => hn (e ▸ h.fmb)) (fun e => hn (h.fv x e).1) (fun e => hn (e ▸ h.fsv))
        · obtain ⟨hn, _⟩ := hfar x hx
          refine ⟨.inr (.inl hx), fun e => hn (e ▸ h.fmb), fun e => hn (e ▸ h.fmv), fun e => hn (e ▸ h.fsv), fun e => ?_⟩
          exact hgn.2 x (slB_lt hs hx) (fun e => hn (h.fv x e).1) (by simpa [Value.ownBlock] using e.symm)
      · have hj' : j < L.length := by omega
        have e1 : (L ++ [M]).getD j 0 = L.getD j 0 := by simp [List.getD, List.getElem?_append_left hj']
        rw [e1]
        obtain ⟨a2, cap2, r1, r2, r3⟩ := h.rows j hj'
        refine ⟨a2, cap2, by rw [List.getElem?_append_left (by omega)]; exact r1, sl_keep r2 fun x hx => ?_, fun x hx => ?_⟩
        · obtain ⟨q1, q2, q3, q4, q5⟩ := r3 x hx
          exact k4 x (slB_lt r2 hx) q2 q5 q4
        · obtain ⟨q1, q2, q3, q4, q5⟩ := r3 x hx
          exact ⟨.inl q1, q2, q3, q4, fun e => hgn.2 x (slB_lt r2 hx) q5 (by simpa [Value.ownBlock] using e.symm)⟩
    · have e : g' = x := by simpa [Value.ownBlock] using hx
      subst e
      rcases hat with h1 | h1
      · obtain ⟨q1, q2, q3, q4⟩ := h.fv _ h1
        exact ⟨.inl q1, q2, q3, q4⟩
      · rw [World.size_alloc] at h1
        exact ⟨.inr (.inr ⟨by omega, glt⟩), by omega, by omega, by omega⟩
    · have hsz : (w3.setCell ⟨sv, 0, none⟩ (.slice (some ⟨g', 0, none⟩) (L.length + 1) cap')).heap.size = w3.heap.size := by simp
      rw [hsz]
      rcases hx with hx | hx | hx
      · have := h.lt x hx; omega
      · have := slB_lt hs hx; have := (hfar x hx).2; omega
      · have := h.hb; omega
    · have hsz : (w3.setCell ⟨sv, 0, none⟩ (.slice (some ⟨g', 0, none⟩) (L.length + 1) cap')).heap.size = w3.heap.size := by simp
      rw [hsz]; have := h.hb; omega
  · exact tch_trans (tch_trans (tch_trans (tch_turned hturn h.fmb) (tch_alloc (F := F) w2 o) (fun _ _ hx => hx)) (tch_grown (F := F) hgrow (fun x e => (h.fv x e).1)) (fun _ _ hx => hx)) (tch_set (F := F) w3 (a := ⟨sv, 0, none⟩) h.fsv _) (fun _ _ hx => hx)

theorem infoSl : (Try.prog.info? 31).map (fun i => (i.zero, i.size, i.bytes)) = some (some (.slice none 0 0), 1, 24) := by kernel_rfl
def NumU (base n mv sv : Nat) (L : List Nat) (F : Nat → Prop) (M : Nat) (a : Option Addr) (W : World) (e : Ending) (W' : World) : Prop :=
  e = .returned (.int .i64 (((addG L M).idxOf M : Nat) : Int)) ∧ ∃ F', SetSt base n mv sv (addG L M) F' W' ∧ (∀ x, F x → F' x) ∧ (∀ x, F' x → F x ∨ slB a (setL n M).length x ∨ W.heap.size ≤ x) ∧ Tch F W W'
theorem zeroI_any (w : World) : (zeroValue 3).run Try.prog w = .ok (.int .i64 0) w := Try.zeroValue3 w
set_option maxHeartbeats 8000000 in
set_option maxRecDepth 8000 in
theorem number_any (base n mv sv : Nat) (L : List Nat) (F : Nat → Prop) (M : Nat) (a : Option Addr) (cap : Nat) (W : World) (h : SetSt base n mv sv L F W) (hs : Sl W a (setL n M).length (setL n M)) (hM : M < 2 ^ n) (hL : ∀ x ∈ L, x < 2 ^ n) (hn : n ≤ 80) (hlen : L.length ≤ 4000) (hfar : ∀ x, slB a (setL n M).length x → ¬ F x ∧ base ≤ x) :
    Calls Try.prog 39 #[.slice a (setL n M).length cap, .pointer (some ⟨mv, 0, none⟩), .pointer (some ⟨sv, 0, none⟩)] W (NumU base n mv sv L F M a W) := by
  obtain ⟨mb, v, vals, h⟩ := h
  obtain ⟨j0, hj0, hy0, hy1, hy2⟩ := info_parts infoSl
  have hsl := setL_len n M
  have HK := hide (key_any a (setL n M).length cap (setL n M) W hs (by omega) (fun x hx => by have := mem_setL.1 hx; omega))
  unfold KeyU at HK
  have HKEY := hide (keyV_key hn M)
  have HKV : Hid (Value.string (strOfNums (setL n M)) = keyV n M) := rfl
  have H1 : Hid (∀ W1, Below W.heap.size W W1 → SetI base n mv sv L F W1 mb v vals) := fun W1 hb => setI_keep h (fun x hx => hb.block x (h.lt x hx).2) hb.size
  have HSL : Hid (∀ W1, Below W.heap.size W W1 → Sl W1 a (setL n M).length (setL n M)) := fun W1 hb => sl_below hs hb
  have HFAR := hide hfar
  have HCM : Hid (∀ W1, SetI base n mv sv L F W1 mb v vals → W1.cell? ⟨mv, 0, none⟩ = some (.map (some mb)) ∧ W1.cell? ⟨sv, 0, none⟩ = some v) := fun W1 h => ⟨by simp [World.cell?, h.hm], by simp [World.cell?, h.hv]⟩
  obtain ⟨av, cv, hv⟩ : ∃ av cv, v = .slice av L.length cv := by
    rcases h.own.2 with ⟨e1, e2⟩ | ⟨g, c, cur, e, _⟩
    · exact ⟨none, 0, by rw [e1, e2]⟩
    · exact ⟨_, _, e⟩
  subst hv
  by_cases hin : M ∈ L
  · have HMEM := hide (numS_mem (n := n) hin)
    have HAD := hide (addG_old hin)
    clear h hs hfar hin hM hL
    go_enter Try.func39, Try.ntmps39
    go_wp2_with (first
      | (go_at_call 40; refine HK.out.mono ?_; rintro e W1 ⟨rfl, hb1⟩; have HB1 := hide hb1; have HI := hide (H1.out _ hb1); clear hb1; obtain ⟨c1, c2⟩ := HCM.out _ HI.out; rw [HKV.out]; generalize keyV n M = kv at HKEY HMEM ⊢)
      | (at_lookup; refine wpList_look_yes _ rfl _ _ 71 rfl 9 3 (Maps.string_keyed Try.underlying9) Try.underlying71 (zeroI_any _) mb _ rfl HI.out.map _ _ rfl HKEY.out _ HMEM.out ?_))
    go_ret
    exact ⟨by rw [HAD.out]; rfl, F, by rw [HAD.out]; exact ⟨mb, _, vals, HI.out⟩, fun _ hx => hx, fun _ hx => .inl hx, tch_below HB1.out⟩
  · have HNM := hide (numS_not hn hM hL hin)
    have HAD := hide (addG_new hin)
    have HIX : Hid ((L ++ [M]).idxOf M = L.length) := by
      show _ = _
      rw [List.idxOf_append, if_neg hin]; simp
    have hbase := h.hb
    clear h hs hfar hin hM hL
    go_enter Try.func39, Try.ntmps39
    go_wp2_with (first
      | (go_at_call 40; refine HK.out.mono ?_; rintro e W1 ⟨rfl, hb1⟩; have HB1 := hide hb1; have HI := hide (H1.out _ hb1); have HSL1 := hide (HSL.out _ hb1); clear hb1; obtain ⟨c1, c2⟩ := HCM.out _ HI.out; have HNEW := hide (fun w2 w3 o g' cap' k1 k2 k3 k4 k5 => @setI_new base n mv sv L F W1 w2 w3 mb (.slice av L.length cv) vals a M cap o g' cap' HI.out HSL1.out HFAR.out k1 k2 k3 k4 k5); rw [HKV.out]; generalize hkv : keyV n M = kv at HKEY HNM HNEW ⊢; clear hkv HKV)
      | (at_lookup; refine wpList_look_no _ rfl _ _ 71 rfl 9 3 (Maps.string_keyed Try.underlying9) Try.underlying71 (zeroI_any _) mb _ rfl HI.out.map _ _ rfl HKEY.out HNM.out ?_)
      | (at_mapUpdate; refine wpList_put_at _ rfl _ _ _ 71 rfl 9 3 (Maps.string_keyed Try.underlying9) Try.underlying71 mb _ rfl HI.out.map (by rw [numS_len]; unfold maxLen; omega) kv (.int .i64 (L.length : Int)) _ rfl rfl HKEY.out HNM.out ?_; intro w2 hmp htn; have HMP := hide hmp; have HTN := hide htn; clear hmp htn; have hv2 : w2.cell? ⟨sv, 0, none⟩ = some (.slice av L.length cv) := (World.cell?_of_block (a := ⟨sv, 0, none⟩) (HTN.out.grown.block sv (HI.out.lt _ HI.out.fsv).2 (fun e => HI.out.ne2 (by cases e; rfl)))).trans c2; have HO2 : Hid (w2.ownsRow base 31 1 (.slice av L.length cv) L.length vals) := (ownsRow_of_block HI.out.own (fun x hx => HTN.out.grown.block x (HI.out.lt _ (HI.out.fv x hx).1).2 (fun e => (HI.out.fv x hx).2.1 (by cases e; rfl)))); have HS2 : Hid (base ≤ w2.heap.size) := (Nat.le_trans HI.out.hb HTN.out.grown.size))
      | (at_builtin; refine wpList_append_lies _ rfl _ _ 22 rfl base 31 j0 (.slice none 0 0) 1 24 Try.underlying22 hj0 hy0 hy1 hy2 rfl (by decide) (.slice av L.length cv) L.length vals rfl (HO2.out.alloc _) ⟨w2.heap.size, 0, none⟩ 1 1 [.slice a (setL n M).length cap] rfl rfl (one_new _ _ _) (fun u hu => by simp at hu; subst hu; rfl) (by omega) (by unfold maxLen; omega) (by omega) (by have := HS2.out; simp; omega) (w2.heap.size + 1) (by simp) ?_; intro g' cap' w3 hown hgrow hat hglt; obtain ⟨⟨hc3, hf3⟩, hn1, hn2⟩ := HNEW.out w2 w3 _ g' cap' HMP.out HTN.out hown hgrow (by rw [World.size_alloc]; exact hat); have HN1 := hide hn1; have HN2 := hide hn2; clear hn1 hn2 hown hgrow hat hglt))
    go_ret
    unfold NumU
    rw [HAD.out]
    refine ⟨by rw [HIX.out]; rfl, _, ⟨mb, _, _, HN1.out⟩, fun x hx => .inl hx, fun x hx => ?_, tch_trans (tch_below HB1.out) HN2.out (fun _ _ hx => hx)⟩
    rcases hx with hx | hx | hx
    · exact .inl hx
    · exact .inr (.inl hx)
    · exact .inr (.inr (Nat.le_trans HB1.out.size hx.1))
end Go.Proofs.Ytebbjmcjgjecmaa

/- An automaton that a call builds, its rows each in a block of its own. -/
namespace Go.Proofs.Ytebbjmcjgjecmaa
open Go.RowKit

structure AutI (base bx m : Nat) (b t : Int) (rows : Nat → List Int) (es : Nat → Bool) (qn qe : Nat) (G : Nat → Prop) (W : World) (vN vE : Value) (vals : List Value) : Prop where
  box : W.heap[bx]? = some (.cells #[.int .i64 b, .int .i64 t, vN, vE] 25 (0, 0))
  ownN : W.ownsRow base 31 1 vN qn vals
  ownE : W.ownsRow base 4 1 vE qe ((List.range qe).map fun j => Value.bool (es j))
  rw_ : ∀ j, j < qn → ∃ g, vals[j]? = some (.slice (some ⟨g, 0, none⟩) m m) ∧ (W.rowIs g 3 m fun i => .int .i64 ((rows j).getD i 0)) ∧ G g ∧ g ≠ bx ∧ vN.ownBlock ≠ some g ∧ vE.ownBlock ≠ some g
  inj : ∀ i j, i < qn → j < qn → vals[i]? = vals[j]? → i = j
  gb : G bx
  gN : ∀ x, vN.ownBlock = some x → G x ∧ x ≠ bx ∧ vE.ownBlock ≠ some x
  gE : ∀ x, vE.ownBlock = some x → G x ∧ x ≠ bx
  lt : ∀ x, G x → base ≤ x ∧ x < W.heap.size
  hb : base ≤ W.heap.size
theorem autI_keep {base bx m : Nat} {b t : Int} {rows : Nat → List Int} {es : Nat → Bool} {qn qe : Nat} {G : Nat → Prop} {W W' : World} {vN vE : Value} {vals : List Value} (h : AutI base bx m b t rows es qn qe G W vN vE vals) (hk : ∀ x, G x → W'.heap[x]? = W.heap[x]?) (hsz : W.heap.size ≤ W'.heap.size) : AutI base bx m b t rows es qn qe G W' vN vE vals where
  box := (hk _ h.gb).trans h.box
  ownN := ownsRow_of_block h.ownN fun x hx => hk x (h.gN x hx).1
  ownE := ownsRow_of_block h.ownE fun x hx => hk x (h.gE x hx).1
  rw_ := fun j hj => by
    obtain ⟨g, e1, e2, e3⟩ := h.rw_ j hj
    exact ⟨g, e1, e2.of_block (hk g e3.1), e3⟩
  inj := h.inj
  gb := h.gb
  gN := h.gN
  gE := h.gE
  lt := fun x hx => ⟨(h.lt x hx).1, Nat.lt_of_lt_of_le (h.lt x hx).2 hsz⟩
  hb := Nat.le_trans h.hb hsz
def AutSt (base bx m : Nat) (b t : Int) (rows : Nat → List Int) (es : Nat → Bool) (qn qe : Nat) (G : Nat → Prop) (W : World) : Prop := ∃ vN vE vals, AutI base bx m b t rows es qn qe G W vN vE vals
theorem autSt_keep {base bx m : Nat} {b t : Int} {rows : Nat → List Int} {es : Nat → Bool} {qn qe : Nat} {G : Nat → Prop} {W W' : World} (h : AutSt base bx m b t rows es qn qe G W) (hk : ∀ x, G x → W'.heap[x]? = W.heap[x]?) (hsz : W.heap.size ≤ W'.heap.size) : AutSt base bx m b t rows es qn qe G W' := by
  obtain ⟨vN, vE, vals, h⟩ := h
  exact ⟨vN, vE, vals, autI_keep h hk hsz⟩
theorem autI_start {base bx m : Nat} {b t : Int} {W : World} (rows : Nat → List Int) (es : Nat → Bool) (hb : base ≤ W.heap.size) (hbx : base ≤ bx) (h : W.heap[bx]? = some (.cells #[.int .i64 b, .int .i64 t, .slice none 0 0, .slice none 0 0] 25 (0, 0))) : AutI base bx m b t rows es 0 0 (fun x => x = bx) W (.slice none 0 0) (.slice none 0 0) [] :=
  ⟨h, World.ownsRow_nil _ _ _ _, World.ownsRow_nil _ _ _ _, fun j hj => by omega, fun i j hi => by omega, rfl, fun x hx => by simp [Value.ownBlock] at hx, fun x hx => by simp [Value.ownBlock] at hx, fun x hx => ⟨hx ▸ hbx, hx ▸ (Array.getElem?_eq_some_iff.1 h).1⟩, hb⟩

def autF (G : Nat → Prop) (nb lo hi : Nat) (x : Nat) : Prop := G x ∨ x = nb ∨ (lo ≤ x ∧ x < hi)
/-- One row more. -/
theorem autI_N {base bx m : Nat} {b t : Int} {rows : Nat → List Int} {es : Nat → Bool} {q qe : Nat} {G : Nat → Prop} {W w3 : World} {vN vE : Value} {vals : List Value} {nb : Nat} {o : Obj} {g' cap' : Nat} (h : AutI base bx m b t rows es q qe G W vN vE vals)
    (hr : W.rowIs nb 3 m fun i => .int .i64 ((rows q).getD i 0)) (hnb : ¬ G nb ∧ base ≤ nb)
    (hown : w3.ownsRow base 31 1 (.slice (some ⟨g', 0, none⟩) (q + 1) cap') (q + 1) (vals ++ [.slice (some ⟨nb, 0, none⟩) m m])) (hgrow : (W.alloc o).grownBy w3 vN.ownBlock) (hat : vN.ownBlock = some g' ∨ g' = (W.alloc o).heap.size) :
    (w3.cell? ⟨bx, 2, none⟩ = some vN ∧ w3.frozen? ⟨bx, 2, none⟩ = false) ∧ AutI base bx m b t rows es (q + 1) qe (autF G nb W.heap.size w3.heap.size) (w3.setCell ⟨bx, 2, none⟩ (.slice (some ⟨g', 0, none⟩) (q + 1) cap')) (.slice (some ⟨g', 0, none⟩) (q + 1) cap') vE (vals ++ [.slice (some ⟨nb, 0, none⟩) m m]) ∧ Tch G W (w3.setCell ⟨bx, 2, none⟩ (.slice (some ⟨g', 0, none⟩) (q + 1) cap')) := by
  have s3 := hgrow.size
  rw [World.size_alloc] at s3
  have k3 : ∀ x, x < W.heap.size → vN.ownBlock ≠ some x → w3.heap[x]? = W.heap[x]? := fun x hx hv => by
    rw [hgrow.block x (by rw [World.size_alloc]; omega) (fun e => hv e.symm), Below.heap_alloc _ _ _ hx]
  have k4 : ∀ x, x < W.heap.size → vN.ownBlock ≠ some x → x ≠ bx → (w3.setCell ⟨bx, 2, none⟩ (.slice (some ⟨g', 0, none⟩) (q + 1) cap')).heap[x]? = W.heap[x]? := fun x hx hv hb => by
    rw [Below.heap_setCell _ _ _ _ hb, k3 x hx hv]
  have nbx : vN.ownBlock ≠ some bx := fun e => (h.gN _ e).2.1 rfl
  have nnb : vN.ownBlock ≠ some nb := fun e => hnb.1 (h.gN _ e).1
  have lbx := (h.lt _ h.gb).2
  have hbx3 := (k3 bx lbx nbx).trans h.box
  have hgn : ∀ x, x < W.heap.size → vN.ownBlock ≠ some x → x ≠ g' := fun x hx hv e => by
    rcases hat with h1 | h1
    · exact hv (by rw [e]; exact h1)
    · rw [World.size_alloc] at h1; omega
  have hvl : vals.length = q := by have := h.ownN.1; omega
  have glt : g' < w3.heap.size := (hown.lt g' (by simp [Value.ownBlock])).2
  have hsz : (w3.setCell ⟨bx, 2, none⟩ (.slice (some ⟨g', 0, none⟩) (q + 1) cap')).heap.size = w3.heap.size := by simp
  have hob : ∀ x, (Value.slice (some ⟨g', 0, none⟩) (q + 1) cap').ownBlock = some x → g' = x := fun x e => by simpa [Value.ownBlock] using e
  refine ⟨⟨by simp [World.cell?, hbx3], by simp [World.frozen?, hbx3]⟩, ?_, tch_trans (tch_trans (tch_alloc (F := G) W o) (tch_grown (F := G) hgrow (fun x e => (h.gN x e).1)) (fun _ _ hx => hx)) (tch_set (F := G) w3 (a := ⟨bx, 2, none⟩) h.gb _) (fun _ _ hx => hx)⟩
  refine ⟨?_, ownsRow_setCell_other hown (fun e => hgn bx lbx nbx (hob _ e).symm) _, ownsRow_of_block h.ownE fun x hx => ?_, fun j hj => ?_, fun i j hi hj e => ?_, .inl h.gb, fun x hx => ?_, fun x hx => ⟨.inl (h.gE x hx).1, (h.gE x hx).2⟩, fun x hx => ?_, by rw [hsz]; have := h.hb; omega⟩
  · simp [World.setCell, Array.getElem?_modify, hbx3]
  · exact k4 x (h.lt _ (h.gE x hx).1).2 (fun e => (h.gN x e).2.2 hx) (h.gE x hx).2
  · by_cases e : j = q
    · subst e
      exact ⟨nb, by rw [List.getElem?_append_right (by omega), hvl]; simp, hr.of_block (k4 nb hr.lt nnb (fun e => hnb.1 (e ▸ h.gb))), .inr (.inl rfl), fun e => hnb.1 (e ▸ h.gb), fun e => hgn nb hr.lt nnb (hob _ e).symm, fun e => hnb.1 (h.gE _ e).1⟩
    · obtain ⟨g, r1, r2, r3, r4, r5, r6⟩ := h.rw_ j (by omega)
      exact ⟨g, by rw [List.getElem?_append_left (by omega)]; exact r1, r2.of_block (k4 g (h.lt _ r3).2 r5 r4), .inl r3, r4, fun e => hgn g (h.lt _ r3).2 r5 (hob _ e).symm, r6⟩
  · have hnew : ∀ i, i < q → vals[i]? ≠ some (.slice (some ⟨nb, 0, none⟩) m m) := fun i hi e => by
      obtain ⟨g, r1, r2, r3, -⟩ := h.rw_ i hi
      rw [r1] at e
      simp only [Option.some.injEq, Value.slice.injEq, Addr.mk.injEq, and_true] at e
      exact hnb.1 (e ▸ r3)
    by_cases e1 : i = q
    · by_cases e2 : j = q
      · omega
      · subst e1
        rw [List.getElem?_append_right (by omega), hvl, List.getElem?_append_left (by omega)] at e
        simp at e
        exact absurd e.symm (hnew j (by omega))
    · by_cases e2 : j = q
      · subst e2
        rw [List.getElem?_append_left (by omega), List.getElem?_append_right (by omega), hvl] at e
        simp at e
        exact absurd e (hnew i (by omega))
      · rw [List.getElem?_append_left (by omega), List.getElem?_append_left (by omega)] at e
        exact h.inj i j (by omega) (by omega) e
  · have e := hob _ hx
    subst e
    rcases hat with h1 | h1
    · obtain ⟨q1, q2, q3⟩ := h.gN _ h1
      exact ⟨.inl q1, q2, q3⟩
    · rw [World.size_alloc] at h1
      exact ⟨.inr (.inr ⟨by omega, glt⟩), by omega, fun e => by have := (h.lt _ (h.gE _ e).1).2; omega⟩
  · rw [hsz]
    rcases hx with hx | hx | hx
    · have := h.lt x hx; omega
    · have := hr.lt; rw [hx]; omega
    · have := h.hb; omega
/-- One end more. -/
theorem autI_E {base bx m : Nat} {b t : Int} {rows : Nat → List Int} {es : Nat → Bool} {qn q : Nat} {G : Nat → Prop} {W w3 : World} {vN vE : Value} {vals : List Value} {o : Obj} {g' cap' : Nat} (h : AutI base bx m b t rows es qn q G W vN vE vals)
    (hown : w3.ownsRow base 4 1 (.slice (some ⟨g', 0, none⟩) (q + 1) cap') (q + 1) (((List.range q).map fun j => Value.bool (es j)) ++ [.bool (es q)])) (hgrow : (W.alloc o).grownBy w3 vE.ownBlock) (hat : vE.ownBlock = some g' ∨ g' = (W.alloc o).heap.size) :
    (w3.cell? ⟨bx, 3, none⟩ = some vE ∧ w3.frozen? ⟨bx, 3, none⟩ = false) ∧ AutI base bx m b t rows es qn (q + 1) (autF G bx W.heap.size w3.heap.size) (w3.setCell ⟨bx, 3, none⟩ (.slice (some ⟨g', 0, none⟩) (q + 1) cap')) vN (.slice (some ⟨g', 0, none⟩) (q + 1) cap') vals ∧ Tch G W (w3.setCell ⟨bx, 3, none⟩ (.slice (some ⟨g', 0, none⟩) (q + 1) cap')) := by
  have s3 := hgrow.size
  rw [World.size_alloc] at s3
  have k3 : ∀ x, x < W.heap.size → vE.ownBlock ≠ some x → w3.heap[x]? = W.heap[x]? := fun x hx hv => by
    rw [hgrow.block x (by rw [World.size_alloc]; omega) (fun e => hv e.symm), Below.heap_alloc _ _ _ hx]
  have k4 : ∀ x, x < W.heap.size → vE.ownBlock ≠ some x → x ≠ bx → (w3.setCell ⟨bx, 3, none⟩ (.slice (some ⟨g', 0, none⟩) (q + 1) cap')).heap[x]? = W.heap[x]? := fun x hx hv hb => by
    rw [Below.heap_setCell _ _ _ _ hb, k3 x hx hv]
  have nbx : vE.ownBlock ≠ some bx := fun e => (h.gE _ e).2 rfl
  have lbx := (h.lt _ h.gb).2
  have hbx3 := (k3 bx lbx nbx).trans h.box
  have hgn : ∀ x, x < W.heap.size → vE.ownBlock ≠ some x → x ≠ g' := fun x hx hv e => by
    rcases hat with h1 | h1
    · exact hv (by rw [e]; exact h1)
    · rw [World.size_alloc] at h1; omega
  have glt : g' < w3.heap.size := (hown.lt g' (by simp [Value.ownBlock])).2
  have hsz : (w3.setCell ⟨bx, 3, none⟩ (.slice (some ⟨g', 0, none⟩) (q + 1) cap')).heap.size = w3.heap.size := by simp
  have hob : ∀ x, (Value.slice (some ⟨g', 0, none⟩) (q + 1) cap').ownBlock = some x → g' = x := fun x e => by simpa [Value.ownBlock] using e
  refine ⟨⟨by simp [World.cell?, hbx3], by simp [World.frozen?, hbx3]⟩, ?_, tch_trans (tch_trans (tch_alloc (F := G) W o) (tch_grown (F := G) hgrow (fun x e => (h.gE x e).1)) (fun _ _ hx => hx)) (tch_set (F := G) w3 (a := ⟨bx, 3, none⟩) h.gb _) (fun _ _ hx => hx)⟩
  refine ⟨?_, ownsRow_of_block h.ownN fun x hx => ?_, ?_, fun j hj => ?_, h.inj, .inl h.gb, fun x hx => ?_, fun x hx => ?_, fun x hx => ?_, by rw [hsz]; have := h.hb; omega⟩
  · simp [World.setCell, Array.getElem?_modify, hbx3]
  · exact k4 x (h.lt _ (h.gN x hx).1).2 (h.gN x hx).2.2 (h.gN x hx).2.1
  · rw [List.range_succ, List.map_append]
    exact ownsRow_setCell_other hown (fun e => hgn bx lbx nbx (hob _ e).symm) _
  · obtain ⟨g, r1, r2, r3, r4, r5, r6⟩ := h.rw_ j hj
    exact ⟨g, r1, r2.of_block (k4 g (h.lt _ r3).2 r6 r4), .inl r3, r4, r5, fun e => hgn g (h.lt _ r3).2 r6 (hob _ e).symm⟩
  · obtain ⟨q1, q2, q3⟩ := h.gN x hx
    exact ⟨.inl q1, q2, fun e => hgn x (h.lt _ q1).2 q3 (hob _ e).symm⟩
  · have e := hob _ hx
    subst e
    rcases hat with h1 | h1
    · obtain ⟨q1, q2⟩ := h.gE _ h1
      exact ⟨.inl q1, q2⟩
    · rw [World.size_alloc] at h1
      exact ⟨.inr (.inr ⟨by omega, glt⟩), by omega⟩
  · rw [hsz]
    rcases hx with hx | hx | hx
    · have := h.lt x hx; omega
    · have := h.lt _ h.gb; rw [hx]; omega
    · have := h.hb; omega
end Go.Proofs.Ytebbjmcjgjecmaa

/- The rows as they are found, one after another; an automaton that a call builds: more. -/
namespace Go.Proofs.Ytebbjmcjgjecmaa
open Go.RowKit

/-- The rows and the ends as they are found, one after another. -/
def foundR (d : Nat → Nat → Nat) (m f : Nat) (j : Nat) : List Int := (List.range m).map fun l => (((outG d m f (j + 1)).idxOf (d ((outG d m f j).getD j 0) l) : Nat) : Int)
theorem foundR_get {d : Nat → Nat → Nat} {m f j l : Nat} (hl : l < m) : (foundR d m f j).getD l 0 = (((outG d m f (j + 1)).idxOf (d ((outG d m f j).getD j 0) l) : Nat) : Int) := by simp [foundR, List.getD, hl]
theorem idx_pre {a b : List Nat} (h : a <+: b) {x : Nat} (hx : x ∈ a) : b.idxOf x = a.idxOf x := by
  obtain ⟨c, rfl⟩ := h
  rw [List.idxOf_append, if_pos hx]
theorem outG_nextH {d : Nat → Nat → Nat} {m f i : Nat} (h : i < (outG d m f i).length) : outG d m f (i + 1) = rowG d (outG d m f i) ((outG d m f i).getD i 0) m := by simp only [outG]; rw [if_pos h]
theorem rowG_succ (d : Nat → Nat → Nat) (L : List Nat) (x l : Nat) : rowG d L x (l + 1) = addG (rowG d L x l) (d x l) := rfl
theorem rowG_lenH (d : Nat → Nat → Nat) (L : List Nat) (x : Nat) : ∀ l, (rowG d L x l).length ≤ L.length + l
  | 0 => Nat.le_refl _
  | l + 1 => by rw [rowG_succ]; have := addG_len (rowG d L x l) (d x l); have := rowG_lenH d L x l; omega
/-- Behind l letters the number of what the next one leads to is the one that it has in the end. -/
theorem found_idx {d : Nat → Nat → Nat} {m f i l : Nat} (h : i < (outG d m f i).length) (hl : l < m) : (addG (rowG d (outG d m f i) ((outG d m f i).getD i 0) l) (d ((outG d m f i).getD i 0) l)).idxOf (d ((outG d m f i).getD i 0) l) = (outG d m f (i + 1)).idxOf (d ((outG d m f i).getD i 0) l) := by
  rw [outG_nextH h]
  have e : m = l + 1 + (m - (l + 1)) := by omega
  have hp : rowG d (outG d m f i) ((outG d m f i).getD i 0) (l + 1) <+: rowG d (outG d m f i) ((outG d m f i).getD i 0) m := by
    have := rowG_pre d (outG d m f i) ((outG d m f i).getD i 0) (l + 1) (m - (l + 1))
    rwa [← e] at this
  rw [idx_pre hp (by rw [rowG_succ]; exact addG_mem.2 (.inr rfl))]
  rfl
/-- In the end it is the automaton of the sets. -/
theorem found_end {d : Nat → Nat → Nat} {m f i : Nat} (h : (outG d m f i).length ≤ i) (hi : i ≤ (outG d m f i).length) (j : Nat) (hj : j < i) : (gN d m (outG d m f i)).getD j [] = foundR d m f j := by
  have hj2 : j < (outG d m f i).length := by omega
  rw [gN_row hj2]
  unfold foundR
  refine List.map_congr_left fun l hl => ?_
  have hlm := List.mem_range.1 hl
  have hjl : j < (outG d m f j).length := by
    rcases Nat.lt_or_ge j (outG d m f j).length with h1 | h1
    · exact h1
    · have := outG_stay h1 (i - j)
      rw [show j + (i - j) = i by omega] at this
      rw [this] at hj2; omega
  have e1 : (outG d m f i).getD j 0 = (outG d m f j).getD j 0 := pre_getN (outG_le (by omega)) hjl
  rw [e1]
  have hmem : d ((outG d m f j).getD j 0) l ∈ outG d m f (j + 1) := by
    rw [outG_nextH hjl]
    exact rowG_mem.2 (.inr ⟨l, hlm, rfl⟩)
  rw [idx_pre (outG_le (show j + 1 ≤ i by omega)) hmem]
theorem found_ends {d : Nat → Nat → Nat} {m f i : Nat} (p : Nat → Bool) (h : (outG d m f i).length ≤ i) (hi : i ≤ (outG d m f i).length) (j : Nat) (hj : j < i) : (gE p (outG d m f i)).getD j false = p ((outG d m f j).getD j 0) := by
  have hj2 : j < (outG d m f i).length := by omega
  rw [gE_get hj2]
  have hjl : j < (outG d m f j).length := by
    rcases Nat.lt_or_ge j (outG d m f j).length with h1 | h1
    · exact h1
    · have := outG_stay h1 (i - j)
      rw [show j + (i - j) = i by omega] at this
      rw [this] at hj2; omega
  rw [pre_getN (outG_le (by omega)) hjl]
theorem owns_mono {W : World} {base base' : Nat} {e : TypeId} {v : Value} {n : Nat} {xs : List Value} (h : W.ownsRow base e 1 v n xs) (hb : base' ≤ base) : W.ownsRow base' e 1 v n xs := by
  refine ⟨h.1, ?_⟩
  rcases h.2 with h1 | ⟨g, cap, cur, e1, e2, e3⟩
  · exact .inl h1
  · exact .inr ⟨g, cap, cur, e1, Nat.le_trans hb e2, e3⟩
theorem autI_mono {base base' bx m : Nat} {b t : Int} {rows : Nat → List Int} {es : Nat → Bool} {qn qe : Nat} {G : Nat → Prop} {W : World} {vN vE : Value} {vals : List Value} (h : AutI base bx m b t rows es qn qe G W vN vE vals) (hb : base' ≤ base) : AutI base' bx m b t rows es qn qe G W vN vE vals :=
  ⟨h.box, owns_mono h.ownN hb, owns_mono h.ownE hb, h.rw_, h.inj, h.gb, h.gN, h.gE, fun x hx => ⟨Nat.le_trans hb (h.lt x hx).1, (h.lt x hx).2⟩, Nat.le_trans hb h.hb⟩
theorem owns_sl {W : World} {base : Nat} {e : TypeId} {v : Value} {n : Nat} {xs : List Value} (h : W.ownsRow base e 1 v n xs) : ∃ a c, v = .slice a n c := by
  rcases h.2 with ⟨rfl, rfl⟩ | ⟨g, cap, cur, rfl, _⟩
  · exact ⟨none, 0, rfl⟩
  · exact ⟨_, _, rfl⟩
theorem autI_congr {base bx m : Nat} {b t : Int} {rows rows' : Nat → List Int} {es es' : Nat → Bool} {qn qe : Nat} {G : Nat → Prop} {W : World} {vN vE : Value} {vals : List Value} (h : AutI base bx m b t rows es qn qe G W vN vE vals) (h1 : ∀ j, j < qn → rows j = rows' j) (h2 : ∀ j, j < qe → es j = es' j) : AutI base bx m b t rows' es' qn qe G W vN vE vals :=
  ⟨h.box, h.ownN, by
    have e : ((List.range qe).map fun j => Value.bool (es' j)) = (List.range qe).map fun j => Value.bool (es j) := List.map_congr_left fun j hj => by rw [h2 j (List.mem_range.1 hj)]
    rw [e]; exact h.ownE, fun j hj => by
    obtain ⟨g, e1, e2, e3⟩ := h.rw_ j hj
    exact ⟨g, e1, by rw [← h1 j hj]; exact e2, e3⟩, h.inj, h.gb, h.gN, h.gE, h.lt, h.hb⟩
/-- What some.setsOf hands back where there are not too many. -/
def SetsOk (w : World) (b t : Int) (m : Nat) (SN : List (List Int)) (SE : List Bool) (e : Ending) (w' : World) : Prop :=
  ∃ bx vN vE vals G, e = .returned (.tuple #[.agg #[.int .i64 b, .int .i64 t, vN, vE], .nilIface]) ∧ AutI w.heap.size bx m b t (fun j => SN.getD j []) (fun j => SE.getD j false) SN.length SN.length G w' vN vE vals ∧ Below w.heap.size w w'
def SetsU (w : World) (b t : Int) (m : Nat) (len : Nat) (SN : List (List Int)) (SE : List Bool) (e : Ending) (w' : World) : Prop :=
  (len ≤ 2000 → SetsOk w b t m SN SE e w') ∧ (2000 < len → e = .returned (.tuple #[.agg #[.int .i64 0, .int .i64 0, .slice none 0 0, .slice none 0 0], errV 3]) ∧ Below w.heap.size w w')
theorem autI_sl2 {base bx m : Nat} {b t : Int} {G : Nat → Prop} {W : World} {vN vE : Value} {vals : List Value} {SN : List (List Int)} {SE : List Bool} (h : AutI base bx m b t (fun j => SN.getD j []) (fun j => SE.getD j false) SN.length SN.length G W vN vE vals) (hk : SN.length ≤ 100000000) (hm : m ≤ 36) (hl : ∀ j, j < SN.length → (SN.getD j []).length = m) (hw : ∀ j, j < SN.length → ∀ x ∈ SN.getD j [], (Lit.int .i64 x).wf = true) (hE : SE.length = SN.length) : ∃ aN cN aE cE, vN = .slice aN SN.length cN ∧ vE = .slice aE SN.length cE ∧ Sl2 W aN SN.length SN ∧ SlB W aE SN.length SE := by
  have hr : ∀ j, j < SN.length → ∃ g, vals[j]? = some (.slice (some ⟨g, 0, none⟩) m m) ∧ Sl W (some ⟨g, 0, none⟩) m (SN.getD j []) := fun j hj => by
    obtain ⟨g, r1, r2, -⟩ := h.rw_ j hj
    exact ⟨g, r1, sl_of_rowIs (hl j hj) (by unfold maxLen; omega) (hw j hj) r2⟩
  rcases h.ownN.2 with ⟨e1, e2⟩ | ⟨g, c, cur, e, _⟩
  · rcases h.ownE.2 with ⟨k1, k2⟩ | ⟨g', c', cur', e', _⟩
    · exact ⟨none, 0, none, 0, by rw [e1, e2], by rw [k1, e2], ⟨rfl, by unfold maxLen; omega, Or.inl e2⟩, ⟨hE, by unfold maxLen; omega, Or.inl e2⟩⟩
    · exact ⟨none, 0, some ⟨g', 0, none⟩, c', by rw [e1, e2], e', ⟨rfl, by unfold maxLen; omega, Or.inl e2⟩, ⟨hE, by unfold maxLen; omega, Or.inl e2⟩⟩
  · have hN : Sl2 W (some ⟨g, 0, none⟩) SN.length SN := ⟨rfl, by unfold maxLen; omega, Or.inr ⟨g, 0, rfl, fun j hj => by
      obtain ⟨gj, r1, r2⟩ := hr j hj
      have ho := h.ownN
      rw [e] at ho
      rw [hl j hj]
      exact ⟨some ⟨gj, 0, none⟩, m, by rw [Nat.zero_add]; exact (ho.cellAt j (by omega)).trans r1, r2⟩⟩⟩
    rcases h.ownE.2 with ⟨k1, k2⟩ | ⟨g', c', cur', e', _⟩
    · exact ⟨some ⟨g, 0, none⟩, c, none, 0, e, by rw [k1, k2], hN, ⟨hE, by unfold maxLen; omega, Or.inl k2⟩⟩
    · refine ⟨some ⟨g, 0, none⟩, c, some ⟨g', 0, none⟩, c', e, e', hN, ⟨hE, by unfold maxLen; omega, Or.inr ⟨g', 0, rfl, fun j hj => ?_⟩⟩⟩
      have ho := h.ownE
      rw [e'] at ho
      rw [Nat.zero_add, ho.cellAt j (by omega)]
      simp [hj]
theorem good_wf {m n : Nat} {N : List (List Int)} (hG : GoodN m n N) : ∀ j, j < n → (N.getD j []).length = m ∧ ∀ x ∈ N.getD j [], (Lit.int .i64 x).wf = true := fun j hj => by
  obtain ⟨h1, h2⟩ := hG.2.2.2.2.2 j hj
  have hn := hG.2.2.1
  refine ⟨h1, fun x hx => ?_⟩
  obtain ⟨l, hl, rfl⟩ := List.getElem_of_mem hx
  have := h2 l (by omega)
  rw [getD_at _ l hl] at this
  exact Go.WalkArith.wf_i64 (by omega)
end Go.Proofs.Ytebbjmcjgjecmaa
