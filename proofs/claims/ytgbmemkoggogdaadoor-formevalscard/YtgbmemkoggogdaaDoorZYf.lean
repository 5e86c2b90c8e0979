/- 7 texts in one. -/
import Derived.Laws.EntriesVeiled
import Derived.BigQuiet
import Derived.BigRegion
import Derived.Test.YtgbmemkoggogdaaDoorZPva
import Derived.Test.YtgbmemkoggogdaaDoorZEg
import Derived.Test.YtgbmemkoggogdaaDoorZXd
import Derived.Test.YtgbmemkoggogdaaDoorZNx
/- Package formula: freeOf and its closure: contracts. -/
namespace Go.Proofs.YtgbmemkoggogdaaDoor
open Go.RowKit

/-- Five truths, of a function. -/
def fL (g : Nat → Bool) : List Bool := [g 0, g 1, g 2, g 3, g 4]
def lookV (s : Nat) : Value := .func (.func 75) #[] #[.pointer (some ⟨s, 0, none⟩), .pointer (some ⟨s + 1 + 1, 0, none⟩), .pointer (some ⟨s + 1 + 1 + 1, 0, none⟩)]
abbrev z5O : Obj := .cells #[.bool false, .bool false, .bool false, .bool false, .bool false] 95
theorem alloc4 (w : World) (o1 o2 o3 o4 : Obj) : ((((w.alloc o1).alloc o2).alloc o3).alloc o4).heap[w.heap.size]? = some o1 ∧ ((((w.alloc o1).alloc o2).alloc o3).alloc o4).heap[w.heap.size + 1]? = some o2 ∧ ((((w.alloc o1).alloc o2).alloc o3).alloc o4).heap[w.heap.size + 1 + 1]? = some o3 ∧ ((((w.alloc o1).alloc o2).alloc o3).alloc o4).heap[w.heap.size + 1 + 1 + 1]? = some o4 := by
  have hsz : (((w.alloc o1).alloc o2).alloc o3).heap.size = w.heap.size + 1 + 1 + 1 := by simp
  refine ⟨?_, ?_, ?_, ?_⟩
  · rw [Below.heap_alloc _ _ _ (by omega), heap_alloc3_fst]
  · rw [Below.heap_alloc _ _ _ (by omega), heap3_snd]
  · rw [Below.heap_alloc _ _ _ (by omega), heap_alloc3_last]
  · rw [← hsz, heap_alloc_last]
/-- What lies in memory while free variables are looked for. -/
def FoI (w0 : World) (a : Option Addr) (n cap : Nat) (W : World) (g : Nat → Bool) : Prop :=
  W.heap[w0.heap.size]? = some (.cells #[.slice a n cap] 40 (0, 0)) ∧ W.heap[w0.heap.size + 1]? = some z5O ∧ BoAt W (w0.heap.size + 1 + 1) (fL g) ∧ W.heap[w0.heap.size + 1 + 1 + 1]? = some (.cells #[lookV w0.heap.size] 128 (0, 0)) ∧ Below w0.heap.size w0 W
/-- One block alone may have turned. -/
def Kp (x : Nat) (W W' : World) : Prop := W.heap.size ≤ W'.heap.size ∧ ∀ y, y < W.heap.size → y ≠ x → W'.heap[y]? = W.heap[y]?
theorem Kp.refl (x : Nat) (W : World) : Kp x W W := ⟨Nat.le_refl _, fun _ _ _ => rfl⟩
theorem Kp.trans {x : Nat} {W W1 W2 : World} (h : Kp x W W1) (h2 : Kp x W1 W2) : Kp x W W2 := ⟨Nat.le_trans h.1 h2.1, fun y hy hx => (h2.2 y (Nat.lt_of_lt_of_le hy h.1) hx).trans (h.2 y hy hx)⟩
theorem Kp.below {x : Nat} {W W1 W2 : World} (h : Kp x W W1) (h2 : Below W1.heap.size W1 W2) : Kp x W W2 := h.trans ⟨h2.size, fun y hy _ => h2.block y hy⟩
theorem setCell_size (W : World) (p : Addr) (v : Value) : (W.setCell p v).heap.size = W.heap.size := by simp [World.setCell]
theorem Kp.set {x : Nat} {W W1 : World} (h : Kp x W W1) {B o : Nat} (hB : B = x ∨ W.heap.size ≤ B) (v : Value) : Kp x W (W1.setCell ⟨B, o, none⟩ v) := by
  refine ⟨by rw [setCell_size]; exact h.1, fun y hy hx => ?_⟩
  rw [Below.heap_setCell _ _ _ _ (show y ≠ B by rcases hB with rfl | hB; exact hx; omega)]
  exact h.2 y hy hx
theorem fL_len (g : Nat → Bool) : (fL g).length = 5 := rfl
theorem fL_get (g : Nat → Bool) {k : Nat} (h : k < 5) : (fL g).getD k false = g k := by
  match k, h with
  | 0, _ => rfl
  | 1, _ => rfl
  | 2, _ => rfl
  | 3, _ => rfl
  | 4, _ => rfl
theorem fL_congr {g h : Nat → Bool} (e : ∀ v, v < 5 → g v = h v) : fL g = fL h := by
  unfold fL
  rw [e 0 (by decide), e 1 (by decide), e 2 (by decide), e 3 (by decide), e 4 (by decide)]
theorem fL_set (g : Nat → Bool) {k : Nat} (hk : k < 5) (b : Bool) : (fL g).set k b = fL (fun v => if v = k then b else g v) := by
  match k, hk with
  | 0, _ => rfl
  | 1, _ => rfl
  | 2, _ => rfl
  | 3, _ => rfl
  | 4, _ => rfl
theorem useL_fL (n : Nd) : useL n = fL (fun v => useB n ((v : Nat) : Int)) := rfl
theorem FoI.congr {w0 : World} {a : Option Addr} {n cap : Nat} {W : World} {g h : Nat → Bool} (hg : FoI w0 a n cap W g) (e : ∀ v, v < 5 → g v = h v) : FoI w0 a n cap W h := by
  unfold FoI at hg ⊢
  rw [← fL_congr e]
  exact hg
theorem foI_size {w0 : World} {a : Option Addr} {n cap : Nat} {W : World} {g : Nat → Bool} (h : FoI w0 a n cap W g) : w0.heap.size + 1 + 1 + 1 < W.heap.size := (Array.getElem?_eq_some_iff.1 h.2.2.2.1).1
theorem foI_below {w0 : World} {a : Option Addr} {n cap : Nat} {W W' : World} {g : Nat → Bool} (h : FoI w0 a n cap W g) (hb : Below W.heap.size W W') : FoI w0 a n cap W' g := by
  have hs := foI_size h
  obtain ⟨h1, h2, h3, h4, h5⟩ := h
  exact ⟨(hb.block _ (by omega)).trans h1, (hb.block _ (by omega)).trans h2, (hb.block _ (by omega)).trans h3, (hb.block _ (by omega)).trans h4, below_step h5 hb⟩
/-- Another block turns. -/
theorem foI_other {w0 : World} {a : Option Addr} {n cap : Nat} {W : World} {g : Nat → Bool} (h : FoI w0 a n cap W g) {B o : Nat} (hB : w0.heap.size + 1 + 1 + 1 < B) (v : Value) : FoI w0 a n cap (W.setCell ⟨B, o, none⟩ v) g := by
  obtain ⟨h1, h2, h3, h4, h5⟩ := h
  refine ⟨?_, ?_, ?_, ?_, h5.setCell (show w0.heap.size ≤ B by omega) _⟩
  · rw [Below.heap_setCell _ _ _ _ (show w0.heap.size ≠ B by omega)]; exact h1
  · rw [Below.heap_setCell _ _ _ _ (show w0.heap.size + 1 ≠ B by omega)]; exact h2
  · show _ = _; rw [Below.heap_setCell _ _ _ _ (show w0.heap.size + 1 + 1 ≠ B by omega)]; exact h3
  · rw [Below.heap_setCell _ _ _ _ (show w0.heap.size + 1 + 1 + 1 ≠ B by omega)]; exact h4
theorem foI_set {w0 : World} {a : Option Addr} {n cap : Nat} {W : World} {g : Nat → Bool} (h : FoI w0 a n cap W g) {k : Nat} (hk : k < 5) (b : Bool) : FoI w0 a n cap (W.setCell ⟨w0.heap.size + 1 + 1, k, none⟩ (.bool b)) (fun v => if v = k then b else g v) := by
  obtain ⟨h1, h2, h3, h4, h5⟩ := h
  refine ⟨?_, ?_, ?_, ?_, h5.setCell (show w0.heap.size ≤ w0.heap.size + 1 + 1 by omega) _⟩
  · rw [Below.heap_setCell _ _ _ _ (show w0.heap.size ≠ w0.heap.size + 1 + 1 by omega)]; exact h1
  · rw [Below.heap_setCell _ _ _ _ (show w0.heap.size + 1 ≠ w0.heap.size + 1 + 1 by omega)]; exact h2
  · rw [← fL_set g hk]; exact bo_set h3 k b
  · rw [Below.heap_setCell _ _ _ _ (show w0.heap.size + 1 + 1 + 1 ≠ w0.heap.size + 1 + 1 by omega)]; exact h4
def bdN (nd : Nd) (bd : Nat → Bool) (v : Nat) : Bool := bd v || (decide (nd.op = 8 ∨ nd.op = 9) && decide (nd.var = ((v : Nat) : Int)))
/-- What is free in a part, below what is bound. -/
theorem fre_bd {t : Fm} (bd : Nat → Bool) (v : Nat) : (t.fre ((v : Nat) : Int) && !bd v) = ((useB t.node ((v : Nat) : Int) && !bd v) || t.kids.any (fun c => c.fre ((v : Nat) : Int) && !bdN t.node bd v)) := by
  have hany : t.kids.any (fun c => c.fre ((v : Nat) : Int) && !bdN t.node bd v) = (t.kids.any (fun c => c.fre ((v : Nat) : Int)) && !bdN t.node bd v) := by
    generalize t.kids = l
    generalize bdN t.node bd v = z
    induction l with
    | nil => rfl
    | cons x r ih => rw [List.any_cons, List.any_cons, ih]; cases x.fre ((v : Nat) : Int) <;> cases z <;> simp
  rw [hany, fre_node]
  unfold bdN
  by_cases h8 : (t.node.op = 8 ∨ t.node.op = 9) ∧ t.node.var = ((v : Nat) : Int)
  · rw [if_pos h8, decide_eq_true h8.1, decide_eq_true h8.2]
    have hu : useB t.node ((v : Nat) : Int) = false := by
      unfold useB
      rw [if_neg (by omega)]
      simp
      omega
    rw [hu]
    simp
  · rw [if_neg h8]
    have : (decide (t.node.op = 8 ∨ t.node.op = 9) && decide (t.node.var = ((v : Nat) : Int))) = false := by
      rw [Bool.and_eq_false_iff]
      by_cases q : t.node.op = 8 ∨ t.node.op = 9
      · exact .inr (decide_eq_false (fun e => h8 ⟨q, e⟩))
      · exact .inl (decide_eq_false q)
    rw [this, Bool.or_false]
    cases useB t.node ((v : Nat) : Int) <;> cases bd v <;> simp
end Go.Proofs.YtgbmemkoggogdaaDoor

/- Package formula: freeOf's closure: contract. -/
namespace Go.Proofs.YtgbmemkoggogdaaDoor
open Go.RowKit

def LookR (w0 : World) (a : Option Addr) (n cap : Nat) (W : World) (p : Nat) (g : Nat → Bool) (e : Ending) (W' : World) : Prop := e = .returned (.int .i64 ((p : Nat) : Int)) ∧ FoI w0 a n cap W' g ∧ Kp (w0.heap.size + 1 + 1) W W'
set_option maxHeartbeats 16000000 in
set_option maxRecDepth 4000 in
theorem look_any (a : Option Addr) (n cap : Nat) (ns : List Nd) (w0 : World) (hs : SlF w0 a n ns) (hn : n ≤ 40) : ∀ (N : Nat) (t : Fm), t.flat.length ≤ N → t.ok → ∀ (pre post : List Nd) (W : World) (g bd : Nat → Bool), ns = pre ++ (t.flat ++ post) → FoI w0 a n cap W g → Calls Tryd.prog 75 #[.int .i64 (pre.length : Int), .agg #[.bool (bd 0), .bool (bd 1), .bool (bd 2), .bool (bd 3), .bool (bd 4)], .pointer (some ⟨w0.heap.size, 0, none⟩), .pointer (some ⟨w0.heap.size + 1 + 1, 0, none⟩), .pointer (some ⟨w0.heap.size + 1 + 1 + 1, 0, none⟩)] W (LookR w0 a n cap W (pre.length + t.flat.length) (fun v => g v || (t.fre ((v : Nat) : Int) && !bd v))) := by
  intro N
  induction N with
  | zero => intro t htl; have := flat_pos t; omega
  | succ N ih =>
    intro t htl hok pre post W g bd he hI
    obtain ⟨hnd, hkl, hkok⟩ := ok_node hok
    have hL := hs.1
    have hfl := flat_node t
    have hpn : pre.length < n := by rw [← hL, he, hfl]; simp <;> omega
    have hget : ns.getD pre.length zNd = t.node := by rw [he, hfl]; simp [List.getD]
    have hsz := foI_size hI
    have hB1 := (Below.refl W.heap.size W).alloc (Nat.le_refl _) (.cells #[.bool (bd 0), .bool (bd 1), .bool (bd 2), .bool (bd 3), .bool (bd 4)] 95)
    obtain ⟨bb, oo, a', c', ha, x0, x1, x2, x3, x4, x5, x6, hsl⟩ := slF_cell (slF_below hs (below_step hI.2.2.2.2 hB1)) pre.length hpn
    subst ha
    rw [hget] at x0 x1 x2 x3 x4 x5 x6 hsl
    have hB2 := hB1.alloc hB1.size (ndO t.node a' c')
    have hI2 := foI_below hI hB2
    have hc0 : (W.alloc (.cells #[.bool (bd 0), .bool (bd 1), .bool (bd 2), .bool (bd 3), .bool (bd 4)] 95)).cell? ⟨w0.heap.size, 0, none⟩ = some (.slice (some ⟨bb, oo, none⟩) n cap) := by
      have h := (foI_below hI hB1).1
      simp [World.cell?, h]
    have HX : Hid (((W.alloc (.cells #[.bool (bd 0), .bool (bd 1), .bool (bd 2), .bool (bd 3), .bool (bd 4)] 95)).alloc (ndO t.node a' c')).heap[W.heap.size]? = some (.cells #[.bool (bd 0), .bool (bd 1), .bool (bd 2), .bool (bd 3), .bool (bd 4)] 95 (0, 0))) := heap_alloc2_fst W _ _
    have HX2 : Hid (((W.alloc (.cells #[.bool (bd 0), .bool (bd 1), .bool (bd 2), .bool (bd 3), .bool (bd 4)] 95)).alloc (ndO t.node a' c')).heap[W.heap.size + 1]? = some (ndO t.node a' c')) := heap_alloc2_snd W _ _
    have HVO := hide (varsOf_any t.node a' c' ((W.alloc (.cells #[.bool (bd 0), .bool (bd 1), .bool (bd 2), .bool (bd 3), .bool (bd 4)] 95)).alloc (ndO t.node a' c')) (sl_below hsl ((Below.refl _ _).alloc (Nat.le_refl _) _)) hnd)
    have HK2 := hide ((Kp.refl (w0.heap.size + 1 + 1) W).below hB2)
    have HI2 := hide hI2
    have HFB := hide (fun v => fre_bd (t := t) bd v)
    have HBI := hide (fun W => binds_any t.node.op W)
    have HPO := hide (fun W => devParts_any t.node.op W)
    rw [← hkl] at HPO
    have HVR : Hid ((t.node.op = 8 ∨ t.node.op = 9) → 0 ≤ t.node.var ∧ t.node.var < 5) := fun h => (ndF_zero hnd).1.2.1 (by unfold varsP; omega)
    have HIH : Hid (∀ (k : Nat), k < t.kids.length → ∃ c, t.kids.take (k + 1) = t.kids.take k ++ [c] ∧ (flatL (t.kids.take (k + 1))).length = (flatL (t.kids.take k)).length + c.flat.length ∧ pre.length + 1 + (flatL (t.kids.take k)).length + c.flat.length ≤ n ∧ ∀ (W : World) (g bd : Nat → Bool), FoI w0 (some ⟨bb, oo, none⟩) n cap W g → (Calls Tryd.prog 75 #[.int .i64 ((pre.length + 1 + (flatL (t.kids.take k)).length : Nat) : Int), .agg #[.bool (bd 0), .bool (bd 1), .bool (bd 2), .bool (bd 3), .bool (bd 4)], .pointer (some ⟨w0.heap.size, 0, none⟩), .pointer (some ⟨w0.heap.size + 1 + 1, 0, none⟩), .pointer (some ⟨w0.heap.size + 1 + 1 + 1, 0, none⟩)] W (LookR w0 (some ⟨bb, oo, none⟩) n cap W (pre.length + 1 + (flatL (t.kids.take k)).length + c.flat.length) (fun v => g v || (c.fre ((v : Nat) : Int) && !bd v))))) := fun k hk => by
      obtain ⟨c, hc, h1, h2⟩ := take_kid hk
      have hns : ns = (pre ++ (t.node :: flatL (t.kids.take k))) ++ (c.flat ++ (flatL (t.kids.drop (k + 1)) ++ post)) := by
        rw [he, hfl]
        have h3 : flatL t.kids = flatL (t.kids.take k) ++ (c.flat ++ flatL (t.kids.drop (k + 1))) := by
          rw [← flatL_cons, ← flatL_append, ← h2]
        rw [h3]
        simp
      have hlen : (pre ++ (t.node :: flatL (t.kids.take k))).length = pre.length + 1 + (flatL (t.kids.take k)).length := by simp <;> omega
      refine ⟨c, h1, by rw [h1, flatL_append, List.length_append]; simp [flatL], by rw [← hL, hns, List.length_append, hlen, List.length_append]; omega, fun W g bd hW => ?_⟩
      have := ih c (by have := kid_lt hc; omega) (hkok c hc) _ _ W g bd hns hW
      rw [hlen] at this
      exact this
    have HEND : Hid (pre.length + t.flat.length = pre.length + 1 + (flatL (t.kids.take t.kids.length)).length) := by show _ = _; rw [hfl, List.take_length, List.length_cons]; omega
    have HAT : Hid (t.kids.take t.kids.length = t.kids) := List.take_length
    have hk2 : t.kids.length ≤ 2 := by have := partsN_le t.node.op; omega
    have hpi : (pre.length : Int) < (n : Int) := by omega
    unfold ndV at HVO
    clear hs hsl hok hkok hfl hget he ih htl hL hnd hkl hI hI2 hB1 hB2
    generalize pre.length + t.flat.length = pe at HEND ⊢
    generalize pre.length = p at *
    generalize t.fre = FR at HFB ⊢
    generalize t.kids = ks at *
    generalize t.node = nd at *
    generalize hW2 : (W.alloc (.cells #[.bool (bd 0), .bool (bd 1), .bool (bd 2), .bool (bd 3), .bool (bd 4)] 95)).alloc (ndO nd a' c') = W2 at HX HX2 HVO HK2 HI2
    obtain ⟨⟨z0, z1, z2, z3, z4, z5, z6⟩, -⟩ := box7_cells HX2.out
    go_enter Tryd.func75, Tryd.ntmps75
    go_wp2_with fail
    clear hW2 x0 x1 x2 x3 x4 x5 x6 z0 z1 z2 z3 z4 z5 z6 hc0
    refine HVO.out.mono ?_
    rintro e w3 ⟨rfl, hb3⟩
    have HI3 := hide (foI_below HI2.out hb3)
    have HK3 := hide (HK2.out.below hb3)
    have HX3 : Hid (BoAt w3 W.heap.size (fL bd)) := (hb3.block _ (Array.getElem?_eq_some_iff.1 HX.out).1).trans HX.out
    have HX4 := hide ((hb3.block _ (Array.getElem?_eq_some_iff.1 HX2.out).1).trans HX2.out)
    clear hb3
    go_wp2
    go_loopw [18] (fun iv wx => ∃ k : Nat, k ≤ 5 ∧ iv = .int .i64 k ∧ FoI w0 (some ⟨bb, oo, none⟩) n cap wx (fun v => g v || (decide (v < k) && useB nd ((v : Nat) : Int) && !bd v)) ∧ BoAt wx W.heap.size (fL bd) ∧ wx.heap[W.heap.size + 1]? = some (ndO nd a' c') ∧ Kp (w0.heap.size + 1 + 1) W wx) (fun iv _ => 5 - (intOf iv).toNat)
    case atStart => exact ⟨0, by omega, rfl, HI3.out.congr (fun v _ => by simp), HX3.out, HX4.out, HK3.out⟩
    case round =>
      obtain ⟨k, hk, rfl, hI, hB, hN, hK⟩ := hrel
      have HI := hide hI
      have HB := hide hB
      have HN := hide hN
      have HK := hide hK
      by_cases hlt : k < 5
      · have hlti : (k : Int) < 5 := by omega
        have hix := index58 (bArr (useL nd)) k hlt (.bool (useB nd ((k : Nat) : Int))) (by rw [bArr_get _ k (by rw [useL_fL]; exact hlt), useL_fL, fL_get _ hlt])
        obtain ⟨hd, hf⟩ := bo_cell hI.2.2.1 (k := k) hlt
        rw [fL_get _ hlt] at hd
        have e0 : (g k || (decide (k < k) && useB nd ((k : Nat) : Int) && !bd k)) = g k := by simp
        rw [e0] at hd
        obtain ⟨hbc, -⟩ := bo_cell hB (k := k) hlt
        rw [fL_get _ hlt] at hbc
        have HREL : Hid (∀ b, b = (g k || (useB nd ((k : Nat) : Int) && !bd k)) → FoI w0 (some ⟨bb, oo, none⟩) n cap (wr.setCell ⟨w0.heap.size + 1 + 1, k, none⟩ (.bool b)) (fun v => g v || (decide (v < k + 1) && useB nd ((v : Nat) : Int) && !bd v)) ∧ BoAt (wr.setCell ⟨w0.heap.size + 1 + 1, k, none⟩ (.bool b)) W.heap.size (fL bd) ∧ (wr.setCell ⟨w0.heap.size + 1 + 1, k, none⟩ (.bool b)).heap[W.heap.size + 1]? = some (ndO nd a' c') ∧ Kp (w0.heap.size + 1 + 1) W (wr.setCell ⟨w0.heap.size + 1 + 1, k, none⟩ (.bool b))) := fun b hb => by
          refine ⟨(foI_set hI hlt b).congr (fun v _ => ?_), ?_, ?_, hK.set (.inl rfl) _⟩
          · by_cases e : v = k
            · subst e; rw [if_pos rfl, hb]; simp
            · rw [if_neg e]
              have : decide (v < k) = decide (v < k + 1) := decide_eq_decide.2 (by omega)
              rw [this]
          · show _ = _; rw [Below.heap_setCell _ _ _ _ (show W.heap.size ≠ w0.heap.size + 1 + 1 by omega)]; exact hB
          · rw [Below.heap_setCell _ _ _ _ (show W.heap.size + 1 ≠ w0.heap.size + 1 + 1 by omega)]; exact hN
        clear hI hB hN hK e0
        generalize g k = gk at hd HREL
        generalize useB nd ((k : Nat) : Int) = U at hix HREL
        generalize bd k = bk at hbc HREL
        cases gk with
        | true =>
          have HR2 := hide (HREL.out true (by simp))
          clear HREL
          go_wp2
          go_roundw
          case rel => exact ⟨k + 1, by omega, by go_num, HR2.out⟩
          case measure => simp [intOf]; omega
        | false =>
          cases U with
          | true =>
            have HR2 := hide (HREL.out (!bk) (by simp))
            clear HREL
            go_wp2
            go_roundw
            case rel => exact ⟨k + 1, by omega, by go_num, HR2.out⟩
            case measure => simp [intOf]; omega
          | false =>
            have HR2 := hide (HREL.out false (by simp))
            clear HREL
            go_wp2
            go_roundw
            case rel => exact ⟨k + 1, by omega, by go_num, HR2.out⟩
            case measure => simp [intOf]; omega
      · have hlti : ¬ (k : Int) < 5 := by omega
        obtain rfl : k = 5 := by omega
        have hI1 : FoI w0 (some ⟨bb, oo, none⟩) n cap wr (fun v => g v || (useB nd ((v : Nat) : Int) && !bd v)) := hI.congr (fun v hv => by rw [decide_eq_true hv]; simp)
        have HI1 := hide hI1
        clear hI1 hI
        obtain ⟨z0, z1, z2, z3, z4, z5, z6⟩ := (box7_cells hN).1
        clear hB hN hK
        obtain ⟨wo, hwo⟩ : ∃ wo : World, wo = wr := ⟨_, rfl⟩
        rw [← hwo] at HI HB HN HK HI1 z0 z1 z2 z3 z4 z5 z6 ⊢
        clear hwo wr HI
        by_cases h8 : nd.op = 8 ∨ nd.op = 9
        · obtain ⟨hv0, hv5⟩ := HVR.out h8
          rw [decide_eq_true h8] at HBI
          obtain ⟨q, hq⟩ : ∃ q : Nat, nd.var = (q : Int) := ⟨nd.var.toNat, by omega⟩
          have hq5 : q < 5 := by omega
          have hq5i : (q : Int) < 5 := by omega
          obtain ⟨hd, hf⟩ := bo_cell HB.out (k := q) hq5
          have hI5 : FoI w0 (some ⟨bb, oo, none⟩) n cap (wo.setCell ⟨W.heap.size, q, none⟩ (.bool true)) (fun v => g v || (useB nd ((v : Nat) : Int) && !bd v)) := foI_other HI1.out (by omega) _
          have hB5 : BoAt (wo.setCell ⟨W.heap.size, q, none⟩ (.bool true)) W.heap.size (fL (bdN nd bd)) := by
            have h := bo_set HB.out q true
            rw [fL_set _ hq5] at h
            rw [← fL_congr (g := fun v => if v = q then true else bd v)]
            · exact h
            · intro v _
              unfold bdN
              rw [decide_eq_true h8, hq]
              by_cases e : v = q
              · subst e; simp
              · have : decide (((q : Nat) : Int) = ((v : Nat) : Int)) = false := decide_eq_false (by omega)
                rw [if_neg e, this]; simp
          have hK5 : Kp (w0.heap.size + 1 + 1) W (wo.setCell ⟨W.heap.size, q, none⟩ (.bool true)) := HK.out.set (.inr (Nat.le_refl _)) _
          have hy0 : (wo.setCell ⟨W.heap.size, q, none⟩ (.bool true)).cell? ⟨W.heap.size + 1, 0, none⟩ = some (.int .i64 nd.op) := by
            have h : (wo.setCell ⟨W.heap.size, q, none⟩ (.bool true)).heap[W.heap.size + 1]? = some (ndO nd a' c') := by rw [Below.heap_setCell _ _ _ _ (show W.heap.size + 1 ≠ W.heap.size by omega)]; exact HN.out
            exact (box7_cells h).1.1
          rw [hq] at z1
          have HQ := hide hq
          clear hq h8 hv0 hv5
          generalize hW5 : wo.setCell ⟨W.heap.size, q, none⟩ (.bool true) = W5 at hI5 hB5 hK5 hy0
          go_wp2_with (first
            | (go_at_call 27; refine (HBI.out _).mono ?_; rintro e w' ⟨rfl, hw'⟩; rw [hw']; clear hw' w')
            | (go_at_call 48; refine (HPO.out _).mono ?_; rintro e w' ⟨rfl, hw'⟩; rw [hw']; clear hw' w'))
          clear hW5 hy0 z0 z1 z2 z3 z4 z5 z6 hd hf
          have HI5 := hide hI5
          have HB5 := hide hB5
          have HK5 := hide hK5
          clear hI5 hB5 hK5
          go_loopw [11, 48] (fun av kv wx => ∃ k : Nat, k ≤ ks.length ∧ kv = .int .i64 k ∧ av = .int .i64 ((p + 1 + (flatL (ks.take k)).length : Nat) : Int) ∧ FoI w0 (some ⟨bb, oo, none⟩) n cap wx (fun v => (g v || (useB nd ((v : Nat) : Int) && !bd v)) || (ks.take k).any (fun c => c.fre ((v : Nat) : Int) && !bdN nd bd v)) ∧ BoAt wx W.heap.size (fL (bdN nd bd)) ∧ Kp (w0.heap.size + 1 + 1) W wx) (fun _ kv _ => ks.length + 1 - (intOf kv).toNat)
          case atStart => exact ⟨0, by omega, rfl, by simp [flatL], HI5.out.congr (fun v _ => by simp), HB5.out, HK5.out⟩
          case round =>
            obtain ⟨k, hk, rfl, rfl, hI, hB, hK⟩ := hrel
            have HI := hide hI
            have HB := hide hB
            have HK := hide hK
            by_cases hlt : k < ks.length
            · have hlti : (k : Int) < (ks.length : Int) := by omega
              obtain ⟨c, h1, h2, h3, h4⟩ := HIH.out k hlt
              have HCA := hide (h4 wr _ (bdN nd bd) hI)
              obtain ⟨⟨y0, y1, y2, y3, y4⟩, -⟩ := box5_cells hB
              have hlk : wr.cell? ⟨w0.heap.size + 1 + 1 + 1, 0, none⟩ = some (.func (.func 75) #[] #[.pointer (some ⟨w0.heap.size, 0, none⟩), .pointer (some ⟨w0.heap.size + 1 + 1, 0, none⟩), .pointer (some ⟨w0.heap.size + 1 + 1 + 1, 0, none⟩)]) := by
                have := hI.2.2.2.1
                simp [World.cell?, this, lookV]
              have HLL := hide h2
              have HTK := hide h1
              have hBs := (Array.getElem?_eq_some_iff.1 hB).1
              have HBS := hide hBs
              clear h1 h2 h4 hI hB hK hBs
              generalize (flatL (ks.take k)).length = L at *
              generalize c.flat.length = lc at *
              go_wp2_with fail
              clear y0 y1 y2 y3 y4 hlk
              refine HCA.out.mono ?_
              rintro e w4 ⟨rfl, hI4, hK4⟩
              have HI4 := hide hI4
              have HK4 := hide hK4
              clear hI4 hK4
              go_wp2
              go_roundw
              case rel => exact ⟨k + 1, by omega, by go_num, by rw [HLL.out]; congr 2; omega, HI4.out.congr (fun v _ => by rw [HTK.out, List.any_append]; simp [Bool.or_assoc]), (HK4.out.2 _ HBS.out (by omega)).trans HB.out, HK.out.trans HK4.out⟩
              case measure => simp [intOf]; omega
            · have hlti : ¬ (k : Int) < (ks.length : Int) := by omega
              obtain rfl : k = ks.length := by omega
              clear hI hB hK
              rw [← HEND.out]
              go_wp2
              go_ret
              exact ⟨rfl, HI.out.congr (fun v _ => by rw [HAT.out, HFB.out v]; simp [Bool.or_assoc]), HK.out⟩
        · rw [decide_eq_false h8] at HBI
          have hI5 := HI1.out
          have hB5 : BoAt wo W.heap.size (fL (bdN nd bd)) := by
            rw [← fL_congr (g := bd)]
            · exact HB.out
            · intro v _
              unfold bdN
              rw [decide_eq_false h8]; simp
          have hK5 := HK.out
          have HH8 := hide h8
          clear h8
          go_wp2_with (first
            | (go_at_call 27; refine (HBI.out _).mono ?_; rintro e w' ⟨rfl, hw'⟩; rw [hw']; clear hw' w')
            | (go_at_call 48; refine (HPO.out _).mono ?_; rintro e w' ⟨rfl, hw'⟩; rw [hw']; clear hw' w'))
          clear z0 z1 z2 z3 z4 z5 z6
          have HI5 := hide hI5
          have HB5 := hide hB5
          have HK5 := hide hK5
          clear hI5 hB5 hK5
          go_loopw [11, 48] (fun av kv wx => ∃ k : Nat, k ≤ ks.length ∧ kv = .int .i64 k ∧ av = .int .i64 ((p + 1 + (flatL (ks.take k)).length : Nat) : Int) ∧ FoI w0 (some ⟨bb, oo, none⟩) n cap wx (fun v => (g v || (useB nd ((v : Nat) : Int) && !bd v)) || (ks.take k).any (fun c => c.fre ((v : Nat) : Int) && !bdN nd bd v)) ∧ BoAt wx W.heap.size (fL (bdN nd bd)) ∧ Kp (w0.heap.size + 1 + 1) W wx) (fun _ kv _ => ks.length + 1 - (intOf kv).toNat)
          case atStart => exact ⟨0, by omega, rfl, by simp [flatL], HI5.out.congr (fun v _ => by simp), HB5.out, HK5.out⟩
          case round =>
            obtain ⟨k, hk, rfl, rfl, hI, hB, hK⟩ := hrel
            have HI := hide hI
            have HB := hide hB
            have HK := hide hK
            by_cases hlt : k < ks.length
            · have hlti : (k : Int) < (ks.length : Int) := by omega
              obtain ⟨c, h1, h2, h3, h4⟩ := HIH.out k hlt
              have HCA := hide (h4 wr _ (bdN nd bd) hI)
              obtain ⟨⟨y0, y1, y2, y3, y4⟩, -⟩ := box5_cells hB
              have hlk : wr.cell? ⟨w0.heap.size + 1 + 1 + 1, 0, none⟩ = some (.func (.func 75) #[] #[.pointer (some ⟨w0.heap.size, 0, none⟩), .pointer (some ⟨w0.heap.size + 1 + 1, 0, none⟩), .pointer (some ⟨w0.heap.size + 1 + 1 + 1, 0, none⟩)]) := by
                have := hI.2.2.2.1
                simp [World.cell?, this, lookV]
              have HLL := hide h2
              have HTK := hide h1
              have hBs := (Array.getElem?_eq_some_iff.1 hB).1
              have HBS := hide hBs
              clear h1 h2 h4 hI hB hK hBs
              generalize (flatL (ks.take k)).length = L at *
              generalize c.flat.length = lc at *
              go_wp2_with fail
              clear y0 y1 y2 y3 y4 hlk
              refine HCA.out.mono ?_
              rintro e w4 ⟨rfl, hI4, hK4⟩
              have HI4 := hide hI4
              have HK4 := hide hK4
              clear hI4 hK4
              go_wp2
              go_roundw
              case rel => exact ⟨k + 1, by omega, by go_num, by rw [HLL.out]; congr 2; omega, HI4.out.congr (fun v _ => by rw [HTK.out, List.any_append]; simp [Bool.or_assoc]), (HK4.out.2 _ HBS.out (by omega)).trans HB.out, HK.out.trans HK4.out⟩
              case measure => simp [intOf]; omega
            · have hlti : ¬ (k : Int) < (ks.length : Int) := by omega
              obtain rfl : k = ks.length := by omega
              clear hI hB hK
              rw [← HEND.out]
              go_wp2
              go_ret
              exact ⟨rfl, HI.out.congr (fun v _ => by rw [HAT.out, HFB.out v]; simp [Bool.or_assoc]), HK.out⟩
end Go.Proofs.YtgbmemkoggogdaaDoor

/- Package formula: freeOf: contract. -/
namespace Go.Proofs.YtgbmemkoggogdaaDoor
open Go.RowKit

def freB (t : Fm) : List Bool := fL (fun v => t.fre ((v : Nat) : Int))
def FreeR (w : World) (t : Fm) (e : Ending) (w' : World) : Prop := e = .returned (.agg (bArr (freB t))) ∧ Below w.heap.size w w'
set_option maxHeartbeats 4000000 in
set_option maxRecDepth 4000 in
theorem freeOf_dev (a : Option Addr) (n cap : Nat) (ns : List Nd) (w : World) (hs : SlF w a n ns) (hn : n ≤ 40) (t : Fm) (hok : t.ok) (he : ns = t.flat) : Calls Tryd.prog 50 #[.slice a n cap] w (FreeR w t) := by
  have HLK : Hid (∀ (W : World) (g bd : Nat → Bool), FoI w a n cap W g → Calls Tryd.prog 75 #[.int .i64 0, .agg #[.bool (bd 0), .bool (bd 1), .bool (bd 2), .bool (bd 3), .bool (bd 4)], .pointer (some ⟨w.heap.size, 0, none⟩), .pointer (some ⟨w.heap.size + 1 + 1, 0, none⟩), .pointer (some ⟨w.heap.size + 1 + 1 + 1, 0, none⟩)] W (LookR w a n cap W (0 + t.flat.length) (fun v => g v || (t.fre ((v : Nat) : Int) && !bd v)))) := fun W g bd h => look_any a n cap ns w hs hn t.flat.length t (Nat.le_refl _) hok [] [] W g bd (by simp [he]) h
  clear hs he hok
  have HW : Hid (FoI w a n cap (((((w.alloc (.cells #[.slice a n cap] 40)).alloc z5O).alloc z5O).alloc (.cells #[.nilFunc] 128)).setCell ⟨w.heap.size + 1 + 1 + 1, 0, none⟩ (lookV w.heap.size)) (fun _ => false)) := by
    refine ⟨?_, ?_, ?_, ?_, ?_⟩
    · rw [Below.heap_setCell _ _ _ _ (show w.heap.size ≠ w.heap.size + 1 + 1 + 1 by omega)]
      exact (alloc4 w _ _ _ _).1
    · rw [Below.heap_setCell _ _ _ _ (show w.heap.size + 1 ≠ w.heap.size + 1 + 1 + 1 by omega)]
      exact (alloc4 w _ _ _ _).2.1
    · show _ = _
      rw [Below.heap_setCell _ _ _ _ (show w.heap.size + 1 + 1 ≠ w.heap.size + 1 + 1 + 1 by omega)]
      exact (alloc4 w _ _ _ _).2.2.1
    · have : ((((w.alloc (.cells #[.slice a n cap] 40)).alloc z5O).alloc z5O).alloc (.cells #[.nilFunc] 128)).heap[w.heap.size + 1 + 1 + 1]? = some (.cells #[.nilFunc] 128 (0, 0)) := (alloc4 w _ _ _ _).2.2.2
      exact heap_setCell_at (k := 0) (v := lookV w.heap.size) this
    · exact ((((((Below.refl _ _).alloc (Nat.le_refl _) _).alloc (by simp) _).alloc (by simp; omega) _).alloc (by simp; omega) _).setCell (show w.heap.size ≤ w.heap.size + 1 + 1 + 1 by omega) _)
  have h4 : ((((w.alloc (.cells #[.slice a n cap] 40)).alloc z5O).alloc z5O).alloc (.cells #[.nilFunc] 128)).heap[w.heap.size + 1 + 1 + 1]? = some (.cells #[.nilFunc] 128 (0, 0)) := (alloc4 w _ _ _ _).2.2.2
  generalize hW4 : (((w.alloc (.cells #[.slice a n cap] 40)).alloc z5O).alloc z5O).alloc (.cells #[.nilFunc] 128) = W4 at h4 HW
  have hc : W4.cell? ⟨w.heap.size + 1 + 1 + 1, 0, none⟩ = some .nilFunc := by simp [World.cell?, h4]
  have hf : W4.frozen? ⟨w.heap.size + 1 + 1 + 1, 0, none⟩ = false := by simp [World.frozen?, h4]
  unfold lookV at HW
  generalize hW5 : W4.setCell ⟨w.heap.size + 1 + 1 + 1, 0, none⟩ (.func (.func 75) #[] #[.pointer (some ⟨w.heap.size, 0, none⟩), .pointer (some ⟨w.heap.size + 1 + 1, 0, none⟩), .pointer (some ⟨w.heap.size + 1 + 1 + 1, 0, none⟩)]) = W5 at HW
  have hl : W5.cell? ⟨w.heap.size + 1 + 1 + 1, 0, none⟩ = some (.func (.func 75) #[] #[.pointer (some ⟨w.heap.size, 0, none⟩), .pointer (some ⟨w.heap.size + 1 + 1, 0, none⟩), .pointer (some ⟨w.heap.size + 1 + 1 + 1, 0, none⟩)]) := by
    have := HW.out.2.2.2.1
    simp [World.cell?, this, lookV]
  clear h4
  go_enter Tryd.func50, Tryd.ntmps50
  go_wp2_with fail
  clear hW4 hc hf hl
  refine (HLK.out W5 _ (fun _ => false) HW.out).mono ?_
  rintro e w6 ⟨rfl, hI6, -⟩
  have hI7 : FoI w a n cap w6 (fun v => t.fre ((v : Nat) : Int)) := hI6.congr (fun v _ => by simp)
  clear hW5 HW hI6
  have hbo := hI7.2.2.1
  have HBL := hide hI7.2.2.2.2
  have h1 := hI7.2.1
  obtain ⟨b0, b1, b2, b3, b4, hl5⟩ := five_of (fL_len (fun v => t.fre ((v : Nat) : Int)))
  have HU : Hid (freB t = [b0, b1, b2, b3, b4]) := hl5
  rw [hl5] at hbo
  obtain ⟨⟨y0, y1, y2, y3, y4⟩, -⟩ := box5_cells hbo
  obtain ⟨⟨x0, x1, x2, x3, x4⟩, f0, f1, f2, f3, f4⟩ := box5_cells h1
  obtain ⟨Wf, hWf, g3, hbf⟩ := five_behind h1 HBL.out (by omega) (.bool b0) (.bool b1) (.bool b2) (.bool b3) (.bool b4)
  obtain ⟨⟨t0, t1, t2, t3, t4⟩, -⟩ := box5_cells g3
  clear g3 hbo h1 hI7 hl5
  go_wp2
  exact bodyPost_ret (v := .agg #[.bool b0, .bool b1, .bool b2, .bool b3, .bool b4]) (by simp [results, Tryd.results50, go_sem, t0, t1, t2, t3, t4]) rfl ⟨by rw [HU.out]; rfl, hbf⟩
end Go.Proofs.YtgbmemkoggogdaaDoor

/- Package formula: Free: contract. -/
namespace Go.Proofs.YtgbmemkoggogdaaDoor
open Go.RowKit

theorem freB_get (t : Fm) {k : Nat} (h : k < 5) : (bArr (freB t))[k]? = some (.bool (t.fre ((k : Nat) : Int))) := by
  unfold freB
  rw [bArr_get _ _ (by rw [fL_len]; exact h), fL_get _ h]
end Go.Proofs.YtgbmemkoggogdaaDoor

/- Package formula: checkNums: contract. -/
namespace Go.Proofs.YtgbmemkoggogdaaDoor
open Go.RowKit

def nmC (t : Fm) (nums : List Int) : Int := if shortB t nums.length = true then 2 else if numOk nums = true then 0 else 1
theorem short_yes {t : Fm} {m k : Nat} (hk : k < 5) (hf : t.fre ((k : Nat) : Int) = true) (hm : m ≤ k) : shortB t m = true := by
  unfold shortB
  rw [List.any_eq_true]
  refine ⟨(k : Int), ?_, decide_eq_true (by omega)⟩
  unfold freL
  rw [List.mem_filter]
  refine ⟨?_, hf⟩
  match k, hk with
  | 0, _ => simp
  | 1, _ => simp
  | 2, _ => simp
  | 3, _ => simp
  | 4, _ => simp
theorem short_no {t : Fm} {m : Nat} (h : ∀ k : Nat, k < 5 → t.fre ((k : Nat) : Int) = true → k < m) : shortB t m = false := by
  unfold shortB
  rw [List.any_eq_false]
  intro v hv
  unfold freL at hv
  rw [List.mem_filter] at hv
  obtain ⟨h1, h2⟩ := hv
  have h3 : 0 ≤ v ∧ v < 5 := by simp at h1; omega
  obtain ⟨q, rfl⟩ : ∃ q : Nat, v = (q : Int) := ⟨v.toNat, by omega⟩
  have := h q (by omega) h2
  simp
  omega
theorem numOk_no {nums : List Int} {k : Nat} (hk : k < nums.length) (h : ¬ (0 ≤ nums.getD k 0 ∧ nums.getD k 0 ≤ 1099511627776)) : numOk nums = false := by
  unfold numOk
  rw [List.all_eq_false]
  refine ⟨nums.getD k 0, by simp [List.getD, hk], fun h' => h (of_decide_eq_true h')⟩
theorem numOk_yes {nums : List Int} (h : ∀ k, k < nums.length → 0 ≤ nums.getD k 0 ∧ nums.getD k 0 ≤ 1099511627776) : numOk nums = true := by
  unfold numOk
  rw [List.all_eq_true]
  intro x hx
  obtain ⟨k, hk, rfl⟩ := List.getElem_of_mem hx
  have := h k hk
  simp only [List.getD, List.getElem?_eq_getElem hk, Option.getD_some] at this
  exact decide_eq_true this
set_option maxHeartbeats 4000000 in
set_option maxRecDepth 4000 in
theorem checkNums_any (a : Option Addr) (n cap : Nat) (ns : List Nd) (a2 : Option Addr) (m cap2 : Nat) (nums : List Int) (w : World) (hs : SlF w a n ns) (h2 : Sl w a2 m nums) (hn : n ≤ 40) (t : Fm) (hok : t.ok) (he : ns = t.flat) : Calls Tryd.prog 29 #[.slice a n cap, .slice a2 m cap2] w fun e w' => e = .returned (errV (nmC t nums)) ∧ Below w.heap.size w w' := by
  have hL := h2.1
  have hmx := h2.2.1
  unfold maxLen at hmx
  have HFO := hide (freeOf_dev a n cap ns w hs hn t hok he)
  have HGT := hide (fun k (h : k < 5) => freB_get t h)
  have HS2 := hide h2
  have HSY : Hid (∀ k, k < 5 → t.fre ((k : Nat) : Int) = true → m ≤ k → nmC t nums = 2) := fun k hk hf hm => by unfold nmC; rw [if_pos (short_yes hk hf (by omega))]
  have HSN : Hid ((∀ k : Nat, k < 5 → t.fre ((k : Nat) : Int) = true → k < m) → (∀ k, k < m → ¬ (0 ≤ nums.getD k 0 ∧ nums.getD k 0 ≤ 1099511627776) → nmC t nums = 1) ∧ ((∀ k, k < m → 0 ≤ nums.getD k 0 ∧ nums.getD k 0 ≤ 1099511627776) → nmC t nums = 0)) := fun h => by
    have e : shortB t nums.length = false := short_no (by rw [hL]; exact h)
    unfold nmC
    rw [e, if_neg (by decide)]
    refine ⟨fun k hk hq => ?_, fun hq => ?_⟩
    · rw [numOk_no (by omega) hq, if_neg (by decide)]
    · rw [numOk_yes (by rw [hL]; exact hq), if_pos rfl]
  clear hs h2 hok he hL
  generalize nmC t nums = R at HSY HSN ⊢
  unfold FreeR at HFO
  generalize bArr (freB t) = FA at HGT HFO
  go_enter Tryd.func29, Tryd.ntmps29
  go_wp2_with fail
  refine HFO.out.mono ?_
  rintro e w1 ⟨rfl, hb1⟩
  have HB1 := hide hb1
  clear hb1
  go_wp2
  go_loop [11] (fun kv => ∃ k : Nat, k ≤ 5 ∧ kv = .int .i64 k ∧ ∀ j : Nat, j < k → t.fre ((j : Nat) : Int) = true → j < m) (fun kv => 5 - (intOf kv).toNat)
  case atStart => exact ⟨0, by omega, rfl, fun j hj => by omega⟩
  case round =>
    obtain ⟨k, hk, rfl, hz⟩ := hrel
    have HZ := hide hz
    clear hz
    by_cases hlt : k < 5
    · have hlti : (k : Int) < 5 := by omega
      have hix := index58 FA k hlt _ (HGT.out k hlt)
      have HY := hide (HSY.out k hlt)
      have HNX : Hid ((t.fre ((k : Nat) : Int) = true → k < m) → ∀ j : Nat, j < k + 1 → t.fre ((j : Nat) : Int) = true → j < m) := fun h j hj hq => by
        by_cases e : j = k
        · subst e; exact h hq
        · exact HZ.out j (by omega) hq
      generalize t.fre ((k : Nat) : Int) = q at hix HY HNX
      cases q with
      | true =>
        by_cases hm : (k : Int) ≥ (m : Int)
        · have HR := hide (HY.out rfl (by omega))
          clear HY HNX
          go_wp2
          go_ret
          exact ⟨by rw [HR.out]; rfl, HB1.out⟩
        · have HN := hide (HNX.out (fun _ => by omega))
          clear HY HNX
          go_wp2
          exact ⟨⟨k + 1, by omega, by go_num, HN.out⟩, by simp [intOf]; omega⟩
      | false =>
        have HN := hide (HNX.out (fun h => by cases h))
        clear HY HNX
        go_wp2
        exact ⟨⟨k + 1, by omega, by go_num, HN.out⟩, by simp [intOf]; omega⟩
    · have hlti : ¬ (k : Int) < 5 := by omega
      obtain rfl : k = 5 := by omega
      obtain ⟨hr1, hr0⟩ := HSN.out HZ.out
      have HR1 := hide hr1
      have HR0 := hide hr0
      clear hr1 hr0 HSN HSY HZ
      go_wp2
      go_loop [26] (fun jv => ∃ j : Nat, j ≤ m ∧ jv = .int .i64 j ∧ ∀ i, i < j → 0 ≤ nums.getD i 0 ∧ nums.getD i 0 ≤ 1099511627776) (fun jv => m - (intOf jv).toNat)
      case atStart => exact ⟨0, by omega, rfl, fun j hj => by omega⟩
      case round =>
        obtain ⟨j, hj, rfl, hz⟩ := hrel
        have HZ := hide hz
        clear hz
        by_cases hlt2 : j < m
        · have hlti2 : (j : Int) < (m : Int) := by omega
          obtain ⟨bo, oo, rfl, hc⟩ := sl_cell (sl_below HS2.out HB1.out) j hlt2
          have HR1j := hide (HR1.out j hlt2)
          have HNX : Hid (0 ≤ nums.getD j 0 ∧ nums.getD j 0 ≤ 1099511627776 → ∀ i, i < j + 1 → 0 ≤ nums.getD i 0 ∧ nums.getD i 0 ≤ 1099511627776) := fun h i hi => by
            by_cases e : i = j
            · subst e; exact h
            · exact HZ.out i (by omega)
          generalize nums.getD j 0 = z at hc HR1j HNX
          by_cases q1 : z < 0
          · have HR := hide (HR1j.out (by omega))
            clear HR1j HNX
            go_wp2
            go_ret
            exact ⟨by rw [HR.out]; rfl, HB1.out⟩
          · by_cases q2 : z > 1099511627776
            · have HR := hide (HR1j.out (by omega))
              clear HR1j HNX
              go_wp2
              go_ret
              exact ⟨by rw [HR.out]; rfl, HB1.out⟩
            · have HN := hide (HNX.out (by omega))
              clear HR1j HNX
              go_wp2
              exact ⟨⟨j + 1, by omega, by go_num, HN.out⟩, by simp [intOf]; omega⟩
        · have hlti2 : ¬ (j : Int) < (m : Int) := by omega
          obtain rfl : j = m := by omega
          have HR := hide (HR0.out HZ.out)
          clear HR0 HR1 HZ
          go_wp2
          go_ret
          exact ⟨by rw [HR.out]; rfl, HB1.out⟩
end Go.Proofs.YtgbmemkoggogdaaDoor

/- Package formula: join and its closure: contracts. -/
namespace Go.Proofs.YtgbmemkoggogdaaDoor
open Go.RowKit

/-- A tree's truth, by what is said of its leaves. -/
def Fm.bare : Fm → Prop
  | .at0 n => n.op ≠ 8 ∧ n.op ≠ 9
  | .un n f => (n.op ≠ 8 ∧ n.op ≠ 9) ∧ f.bare
  | .bin n f g => (n.op ≠ 8 ∧ n.op ≠ 9) ∧ f.bare ∧ g.bare
def nextV (s : Nat) : Value := .func (.func 53) #[] #[.pointer (some ⟨s + 1 + 1, 0, none⟩), .pointer (some ⟨s, 0, none⟩), .pointer (some ⟨s + 1 + 1 + 1, 0, none⟩), .pointer (some ⟨s + 1, 0, none⟩)]
def JoI (w0 : World) (a : Option Addr) (n cap : Nat) (a2 : Option Addr) (cap2 : Nat) (W : World) (p : Nat) : Prop :=
  W.heap[w0.heap.size]? = some (.cells #[.slice a n cap] 40 (0, 0)) ∧ W.heap[w0.heap.size + 1]? = some (.cells #[.slice a2 n cap2] 28 (0, 0)) ∧ W.heap[w0.heap.size + 1 + 1]? = some (.cells #[.int .i64 ((p : Nat) : Int)] 3 (0, 0)) ∧ W.heap[w0.heap.size + 1 + 1 + 1]? = some (.cells #[nextV w0.heap.size] 99 (0, 0)) ∧ Below w0.heap.size w0 W
theorem jbx1 {W : World} {B : Nat} {v : Value} {T : TypeId} (h : W.heap[B]? = some (.cells #[v] T (0, 0))) : W.cell? ⟨B, 0, none⟩ = some v ∧ W.frozen? ⟨B, 0, none⟩ = false := ⟨by simp [World.cell?, h], by simp [World.frozen?, h]⟩
theorem joI_set {w0 : World} {a : Option Addr} {n cap : Nat} {a2 : Option Addr} {cap2 : Nat} {W : World} {p : Nat} (h : JoI w0 a n cap a2 cap2 W p) (q : Nat) : JoI w0 a n cap a2 cap2 (W.setCell ⟨w0.heap.size + 1 + 1, 0, none⟩ (.int .i64 ((q : Nat) : Int))) q := by
  obtain ⟨h1, h2, h3, h4, h5⟩ := h
  refine ⟨?_, ?_, ?_, ?_, h5.setCell (show w0.heap.size ≤ w0.heap.size + 1 + 1 by omega) _⟩
  · rw [Below.heap_setCell _ _ _ _ (show w0.heap.size ≠ w0.heap.size + 1 + 1 by omega)]; exact h1
  · rw [Below.heap_setCell _ _ _ _ (show w0.heap.size + 1 ≠ w0.heap.size + 1 + 1 by omega)]; exact h2
  · exact heap_setCell_at (k := 0) (v := .int .i64 ((q : Nat) : Int)) h3
  · rw [Below.heap_setCell _ _ _ _ (show w0.heap.size + 1 + 1 + 1 ≠ w0.heap.size + 1 + 1 by omega)]; exact h4
theorem joI_drew {w0 : World} {a : Option Addr} {n cap : Nat} {a2 : Option Addr} {cap2 : Nat} {W : World} {p : Nat} (h : JoI w0 a n cap a2 cap2 W p) : JoI w0 a n cap a2 cap2 W.drew p := ⟨h.1, h.2.1, h.2.2.1, h.2.2.2.1, h.2.2.2.2.drew⟩
def JoinR (w0 : World) (a : Option Addr) (n cap : Nat) (a2 : Option Addr) (cap2 : Nat) (p : Nat) (b : Bool) (e : Ending) (W' : World) : Prop := e = .returned (.bool b) ∧ JoI w0 a n cap a2 cap2 W' p
set_option maxHeartbeats 16000000 in
set_option maxRecDepth 4000 in
theorem next_any (a : Option Addr) (n cap : Nat) (ns : List Nd) (a2 : Option Addr) (cap2 : Nat) (os : List Om) (nums : List Int) (w0 : World) (hs : SlF w0 a n ns) (hS : SlB w0 a2 n (ns.map (holdB os nums))) (hn : n ≤ 40) : ∀ (N : Nat) (t : Fm), t.flat.length ≤ N → t.ok → t.bare → ∀ (pre post : List Nd) (W : World), ns = pre ++ (t.flat ++ post) → JoI w0 a n cap a2 cap2 W pre.length → Calls Tryd.prog 53 #[.pointer (some ⟨w0.heap.size + 1 + 1, 0, none⟩), .pointer (some ⟨w0.heap.size, 0, none⟩), .pointer (some ⟨w0.heap.size + 1 + 1 + 1, 0, none⟩), .pointer (some ⟨w0.heap.size + 1, 0, none⟩)] W (JoinR w0 a n cap a2 cap2 (pre.length + t.flat.length) (t.tru os nums)) := by
  intro N
  induction N with
  | zero => intro t htl; have := flat_pos t; omega
  | succ N ih =>
    intro t htl hok hba pre post W he hI
    have hL := hs.1
    have hfl := flat_node t
    have hpn : pre.length < n := by rw [← hL, he, hfl]; simp <;> omega
    have hget : ns.getD pre.length zNd = t.node := by rw [he, hfl]; simp [List.getD]
    have hsv : (ns.map (holdB os nums)).getD pre.length false = holdB os nums t.node := by rw [← hget]; simp [List.getD, show pre.length < ns.length by omega]
    have hI1 := joI_set hI (pre.length + 1)
    obtain ⟨c0, f0⟩ := jbx1 hI.2.2.1
    have hpi : (pre.length : Int) < (n : Int) := by omega
    generalize hW1 : W.setCell ⟨w0.heap.size + 1 + 1, 0, none⟩ (.int .i64 ((pre.length + 1 : Nat) : Int)) = W1 at hI1
    obtain ⟨bb, oo, a', c', ha, x0, -⟩ := slF_cell (slF_below hs hI1.2.2.2.2) pre.length hpn
    subst ha
    rw [hget] at x0
    obtain ⟨d0, -⟩ := jbx1 hI1.1
    obtain ⟨d1, -⟩ := jbx1 hI1.2.1
    obtain ⟨d3, -⟩ := jbx1 hI1.2.2.2.1
    unfold nextV at d3
    rw [show ((pre.length + 1 : Nat) : Int) = (pre.length : Int) + 1 by omega] at hW1
    have HI1 := hide hI1
    cases t with
    | at0 nd =>
      obtain ⟨bs, os_, hae, y0⟩ := slB_cell (slB_below hS hI1.2.2.2.2) pre.length hpn
      subst hae
      rw [hsv] at y0
      have hp0 := hok.2
      have e5 : (nd.op == 5) = false := by simp; intro h; rw [h] at hp0; simp [partsN] at hp0
      have e6 : (nd.op == 6) = false := by simp; intro h; rw [h] at hp0; simp [partsN] at hp0
      have e7 : (nd.op == 7) = false := by simp; intro h; rw [h] at hp0; simp [partsN] at hp0
      simp only [Fm.node] at x0 y0
      have HT : Hid ((Fm.at0 nd).tru os nums = holdB os nums nd) := rfl
      have HP : Hid (pre.length + (Fm.at0 nd).flat.length = pre.length + 1) := rfl
      clear hs hS hok hba hfl hget he ih htl hL hI hI1 hsv hp0
      generalize (Fm.at0 nd).tru os nums = T at HT ⊢
      generalize pre.length + (Fm.at0 nd).flat.length = pe at HP ⊢
      generalize holdB os nums nd = hv at HT y0
      generalize pre.length = p at *
      go_enter Tryd.func53, Tryd.ntmps53
      go_wp2
      go_ret
      exact ⟨by rw [HT.out]; rfl, by rw [HP.out]; exact HI1.out⟩
    | un nd f =>
      obtain ⟨hnd, hp1, hfo⟩ := hok
      obtain ⟨hb8, hfb⟩ := hba
      have h5 : nd.op = 5 := by
        unfold partsN at hp1
        by_cases q : nd.op = 5 ∨ nd.op = 8 ∨ nd.op = 9
        · omega
        · rw [if_neg q] at hp1
          split at hp1 <;> omega
      have e5 : (nd.op == 5) = true := by simp [h5]
      have HT : Hid ((Fm.un nd f).tru os nums = !f.tru os nums) := rfl
      have HP : Hid (pre.length + (Fm.un nd f).flat.length = pre.length + 1 + f.flat.length) := by show _ = _; simp [Fm.flat]; omega
      have HC := hide (ih f (by simp [Fm.flat] at htl; omega) hfo hfb (pre ++ [nd]) post W1 (by rw [he]; simp [Fm.flat]) (by rw [show (pre ++ [nd]).length = pre.length + 1 by simp]; exact HI1.out))
      rw [show (pre ++ [nd]).length = pre.length + 1 by simp] at HC
      simp only [Fm.node] at x0
      clear hs hS hfo hfb hfl hget he ih htl hL hI hI1 hsv hp1 hb8 h5 hnd
      generalize (Fm.un nd f).tru os nums = T at HT ⊢
      generalize pre.length + (Fm.un nd f).flat.length = pe at HP ⊢
      generalize f.tru os nums = tv at HT HC
      generalize f.flat.length = fl at HP HC
      generalize pre.length = p at *
      go_enter Tryd.func53, Tryd.ntmps53
      go_wp2_with fail
      refine HC.out.mono ?_
      rintro e w2 ⟨rfl, hI2⟩
      have HI2 := hide hI2
      clear hI2 hW1 d0 d1 d3 x0 c0 f0
      go_wp2
      go_ret
      exact ⟨by rw [HT.out]; rfl, by rw [HP.out]; exact HI2.out⟩
    | bin nd f g =>
      obtain ⟨hnd, hp1, hfo, hgo⟩ := hok
      obtain ⟨hb8, hfb, hgb⟩ := hba
      have h67 : nd.op = 6 ∨ nd.op = 7 := by
        unfold partsN at hp1
        by_cases q : nd.op = 5 ∨ nd.op = 8 ∨ nd.op = 9
        · rw [if_pos q] at hp1; omega
        · rw [if_neg q] at hp1
          split at hp1 <;> omega
      have e5 : (nd.op == 5) = false := by simp; omega
      have HT : Hid ((Fm.bin nd f g).tru os nums = if nd.op = 6 then f.tru os nums && g.tru os nums else f.tru os nums || g.tru os nums) := rfl
      have HP : Hid (pre.length + (Fm.bin nd f g).flat.length = pre.length + 1 + f.flat.length + g.flat.length) := by show _ = _; simp [Fm.flat]; omega
      have HC := hide (ih f (by simp [Fm.flat] at htl; omega) hfo hfb (pre ++ [nd]) (g.flat ++ post) W1.drew (by rw [he]; simp [Fm.flat]) (by rw [show (pre ++ [nd]).length = pre.length + 1 by simp]; exact joI_drew HI1.out))
      rw [show (pre ++ [nd]).length = pre.length + 1 by simp] at HC
      have HC2 := hide (fun (W : World) (h : JoI w0 (some ⟨bb, oo, none⟩) n cap a2 cap2 W (pre.length + 1 + f.flat.length)) => ih g (by simp [Fm.flat] at htl; omega) hgo hgb (pre ++ (nd :: f.flat)) post W (by rw [he]; simp [Fm.flat]) (by rw [show (pre ++ (nd :: f.flat)).length = pre.length + 1 + f.flat.length by simp; omega]; exact h))
      rw [show (pre ++ (nd :: f.flat)).length = pre.length + 1 + f.flat.length by simp; omega] at HC2
      have HXF : Hid (∀ (W : World) (q : Nat), JoI w0 (some ⟨bb, oo, none⟩) n cap a2 cap2 W q → W.cell? ⟨w0.heap.size, 0, none⟩ = some (.slice (some ⟨bb, oo, none⟩) n cap) ∧ W.cell? ⟨bb, oo + pre.length * 7, none⟩ = some (.int .i64 nd.op) ∧ W.cell? ⟨w0.heap.size + 1 + 1 + 1, 0, none⟩ = some (.func (.func 53) #[] #[.pointer (some ⟨w0.heap.size + 1 + 1, 0, none⟩), .pointer (some ⟨w0.heap.size, 0, none⟩), .pointer (some ⟨w0.heap.size + 1 + 1 + 1, 0, none⟩), .pointer (some ⟨w0.heap.size + 1, 0, none⟩)])) := fun W q h => by
        obtain ⟨b', o', a'', c'', ea, v0, -⟩ := slF_cell (slF_below hs h.2.2.2.2) pre.length hpn
        cases ea
        rw [hget] at v0
        exact ⟨(jbx1 h.1).1, v0, (jbx1 h.2.2.2.1).1⟩
      simp only [Fm.node] at x0
      clear hs hS hfo hfb hgo hgb hfl hget he ih htl hL hI hI1 hsv hp1 hb8 hnd
      generalize (Fm.bin nd f g).tru os nums = T at HT ⊢
      generalize pre.length + (Fm.bin nd f g).flat.length = pe at HP ⊢
      generalize f.tru os nums = tv at HT HC
      generalize g.tru os nums = tw at HT HC2
      generalize f.flat.length = fl at HP HC HC2
      generalize g.flat.length = gl at HP HC2
      generalize pre.length = p at *
      have e67 : (nd.op == 6) = true ∨ ((nd.op == 6) = false ∧ (nd.op == 7) = true) := by
        rcases h67 with h | h
        · exact .inl (by simp [h])
        · exact .inr ⟨by simp [h], by simp [h]⟩
      go_enter Tryd.func53, Tryd.ntmps53
      rcases e67 with e6 | ⟨e6, e7⟩
      · have HT6 : Hid (T = (tv && tw)) := by show _ = _; rw [HT.out, if_pos (by simpa using e6)]
        clear h67 HT
        go_wp2_with fail
        go_region_with (first
          | (go_at_call 53; refine HC.out.mono ?_; rintro e w2 ⟨rfl, hI2⟩; have HI2 := hide hI2; obtain ⟨k0, k1, k3⟩ := HXF.out w2 _ hI2; clear hI2)
          | (go_at_call 53; refine (HC2.out _ HI2.out).mono ?_; rintro e w3 ⟨rfl, hI3⟩; have HI3 := hide hI3; obtain ⟨l0, l1, l3⟩ := HXF.out w3 _ hI3; clear hI3))
        all_goals
          cases tv
          all_goals
            go_wp2
            go_ret
            exact ⟨by rw [HT6.out]; rfl, by rw [HP.out]; exact HI3.out⟩
      · have HT6 : Hid (T = (tv || tw)) := by show _ = _; rw [HT.out, if_neg (by simpa using e6)]
        clear h67 HT
        go_wp2_with fail
        go_region_with (first
          | (go_at_call 53; refine HC.out.mono ?_; rintro e w2 ⟨rfl, hI2⟩; have HI2 := hide hI2; obtain ⟨k0, k1, k3⟩ := HXF.out w2 _ hI2; clear hI2)
          | (go_at_call 53; refine (HC2.out _ HI2.out).mono ?_; rintro e w3 ⟨rfl, hI3⟩; have HI3 := hide hI3; obtain ⟨l0, l1, l3⟩ := HXF.out w3 _ hI3; clear hI3))
        all_goals
          cases tv
          all_goals
            go_wp2
            go_ret
            exact ⟨by rw [HT6.out]; rfl, by rw [HP.out]; exact HI3.out⟩
end Go.Proofs.YtgbmemkoggogdaaDoor

/- Package formula: join: contract. -/
namespace Go.Proofs.YtgbmemkoggogdaaDoor
open Go.RowKit

set_option maxHeartbeats 4000000 in
set_option maxRecDepth 4000 in
theorem join_any (a : Option Addr) (n cap : Nat) (ns : List Nd) (a2 : Option Addr) (cap2 : Nat) (os : List Om) (nums : List Int) (w : World) (hs : SlF w a n ns) (hS : SlB w a2 n (ns.map (holdB os nums))) (hn : n ≤ 40) (t : Fm) (hok : t.ok) (hba : t.bare) (he : ns = t.flat) : Calls Tryd.prog 31 #[.slice a n cap, .slice a2 n cap2] w fun e w' => e = .returned (.bool (t.tru os nums)) ∧ Below w.heap.size w w' := by
  have HNX : Hid (∀ W, JoI w a n cap a2 cap2 W 0 → Calls Tryd.prog 53 #[.pointer (some ⟨w.heap.size + 1 + 1, 0, none⟩), .pointer (some ⟨w.heap.size, 0, none⟩), .pointer (some ⟨w.heap.size + 1 + 1 + 1, 0, none⟩), .pointer (some ⟨w.heap.size + 1, 0, none⟩)] W (JoinR w a n cap a2 cap2 (0 + t.flat.length) (t.tru os nums))) := fun W h => next_any a n cap ns a2 cap2 os nums w hs hS hn t.flat.length t (Nat.le_refl _) hok hba [] [] W (by simp [he]) h
  clear hs hS hok hba he
  generalize t.tru os nums = T at HNX ⊢
  have h4 : ((((w.alloc (.cells #[.slice a n cap] 40)).alloc (.cells #[.slice a2 n cap2] 28)).alloc (.cells #[.int .i64 0] 3)).alloc (.cells #[.nilFunc] 99)).heap[w.heap.size + 1 + 1 + 1]? = some (.cells #[.nilFunc] 99 (0, 0)) := (alloc4 w _ _ _ _).2.2.2
  have HW : Hid (JoI w a n cap a2 cap2 (((((w.alloc (.cells #[.slice a n cap] 40)).alloc (.cells #[.slice a2 n cap2] 28)).alloc (.cells #[.int .i64 0] 3)).alloc (.cells #[.nilFunc] 99)).setCell ⟨w.heap.size + 1 + 1 + 1, 0, none⟩ (nextV w.heap.size)) 0) := by
    refine ⟨?_, ?_, ?_, ?_, ?_⟩
    · rw [Below.heap_setCell _ _ _ _ (show w.heap.size ≠ w.heap.size + 1 + 1 + 1 by omega)]
      exact (alloc4 w _ _ _ _).1
    · rw [Below.heap_setCell _ _ _ _ (show w.heap.size + 1 ≠ w.heap.size + 1 + 1 + 1 by omega)]
      exact (alloc4 w _ _ _ _).2.1
    · rw [Below.heap_setCell _ _ _ _ (show w.heap.size + 1 + 1 ≠ w.heap.size + 1 + 1 + 1 by omega)]
      exact (alloc4 w _ _ _ _).2.2.1
    · exact heap_setCell_at (k := 0) (v := nextV w.heap.size) h4
    · exact ((((((Below.refl _ _).alloc (Nat.le_refl _) _).alloc (by simp) _).alloc (by simp; omega) _).alloc (by simp; omega) _).setCell (show w.heap.size ≤ w.heap.size + 1 + 1 + 1 by omega) _)
  generalize hW4 : (((w.alloc (.cells #[.slice a n cap] 40)).alloc (.cells #[.slice a2 n cap2] 28)).alloc (.cells #[.int .i64 0] 3)).alloc (.cells #[.nilFunc] 99) = W4 at h4 HW
  obtain ⟨hc, hf⟩ := jbx1 h4
  unfold nextV at HW
  generalize hW5 : W4.setCell ⟨w.heap.size + 1 + 1 + 1, 0, none⟩ (.func (.func 53) #[] #[.pointer (some ⟨w.heap.size + 1 + 1, 0, none⟩), .pointer (some ⟨w.heap.size, 0, none⟩), .pointer (some ⟨w.heap.size + 1 + 1 + 1, 0, none⟩), .pointer (some ⟨w.heap.size + 1, 0, none⟩)]) = W5 at HW
  have hl := (jbx1 HW.out.2.2.2.1).1
  unfold nextV at hl
  clear h4
  go_enter Tryd.func31, Tryd.ntmps31
  go_wp2_with fail
  clear hW4 hc hf hl
  refine (HNX.out W5 HW.out).mono ?_
  rintro e w6 ⟨rfl, hI6⟩
  have HB6 := hide hI6.2.2.2.2
  clear hW5 HW hI6
  go_wp2
  go_ret
  exact ⟨rfl, HB6.out⟩
end Go.Proofs.YtgbmemkoggogdaaDoor
