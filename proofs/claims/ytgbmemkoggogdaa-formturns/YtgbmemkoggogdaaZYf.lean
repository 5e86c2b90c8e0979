/- 14 texts in one. -/
import Derived.Laws.EntriesVeiled
import Derived.BigQuiet
import Derived.BigRegion
import Derived.Test.YtgbmemkoggogdaaZYe
import Derived.Test.YtgbmemkoggogdaaZEg
import Derived.Test.YtgbmemkoggogdaaZXd
import Derived.Test.YtgbmemkoggogdaaZFd
import Derived.Test.YtgbmemkoggogdaaZNx
import Derived.Test.YtgbmemkoggogdaaZF
/- Package formula: freeOf and its closure: contracts. -/
namespace Go.Proofs.Ytgbmemkoggogdaa
open Go.RowKit

/-- Five truths, of a function. -/
def fL (g : Nat → Bool) : List Bool := [g 0, g 1, g 2, g 3, g 4]
def lookV (s : Nat) : Value := .func (.func 52) #[] #[.pointer (some ⟨s, 0, none⟩), .pointer (some ⟨s + 1 + 1, 0, none⟩), .pointer (some ⟨s + 1 + 1 + 1, 0, none⟩)]
abbrev z5O : Obj := .cells #[.bool false, .bool false, .bool false, .bool false, .bool false] 65
theorem alloc4 (w : World) (o1 o2 o3 o4 : Obj) : ((((w.alloc o1).alloc o2).alloc o3).alloc o4).heap[w.heap.size]? = some o1 ∧ ((((w.alloc o1).alloc o2).alloc o3).alloc o4).heap[w.heap.size + 1]? = some o2 ∧ ((((w.alloc o1).alloc o2).alloc o3).alloc o4).heap[w.heap.size + 1 + 1]? = some o3 ∧ ((((w.alloc o1).alloc o2).alloc o3).alloc o4).heap[w.heap.size + 1 + 1 + 1]? = some o4 := by
  have hsz : (((w.alloc o1).alloc o2).alloc o3).heap.size = w.heap.size + 1 + 1 + 1 := by simp
  refine ⟨?_, ?_, ?_, ?_⟩
  · rw [Below.heap_alloc _ _ _ (by omega), heap_alloc3_fst]
  · rw [Below.heap_alloc _ _ _ (by omega), heap3_snd]
  · rw [Below.heap_alloc _ _ _ (by omega), heap_alloc3_last]
  · rw [← hsz, heap_alloc_last]
/-- What lies in memory while free variables are looked for. -/
def FoI (w0 : World) (a : Option Addr) (n cap : Nat) (W : World) (g : Nat → Bool) : Prop :=
  W.heap[w0.heap.size]? = some (.cells #[.slice a n cap] 41 (0, 0)) ∧ W.heap[w0.heap.size + 1]? = some z5O ∧ BoAt W (w0.heap.size + 1 + 1) (fL g) ∧ W.heap[w0.heap.size + 1 + 1 + 1]? = some (.cells #[lookV w0.heap.size] 92 (0, 0)) ∧ Below w0.heap.size w0 W
/-- One block alone may have turned. -/
def Kp (x : Nat) (W W' : World) : Prop := W.heap.size ≤ W'.heap.size ∧ ∀ y, y < W.heap.size → y ≠ x → W'.heap[y]? = W.heap[y]?
theorem Kp.refl (x : Nat) (W : World) : Kp x W W := ⟨Nat.le_refl _, fun _ _ _ => rfl⟩
theorem Kp.trans {x : Nat} {W W1 W2 : World} (h : Kp x W W1) (h2 : Kp x W1 W2) : Kp x W W2 := ⟨Nat.le_trans h.1 h2.1, fun y hy hx => (h2.2 y (Nat.lt_of_lt_of_le hy h.1) hx).trans (h.2 y hy hx)⟩
theorem Kp.below {x : Nat} {W W1 W2 : World} (h : Kp x W W1) (h2 : Below W1.heap.size W1 W2) : Kp x W W2 := h.trans ⟨h2.size, fun y hy _ => h2.block y hy⟩
theorem setCell_size (W : World) (p : Addr) (v : Value) : (W.setCell p v).heap.size = W.heap.size := by simp [World.setCell]
theorem Kp.set {x : Nat} {W W1 : World} (h : Kp x W W1) {B o : Nat} (hB : B = x ∨ W.heap.size ≤ B) (v : Value) : Kp x W (W1.setCell ⟨B, o, none⟩ v) := by
  refine ⟨by rw [setCell_size]; exact h.1, fun y hy hx => ?_⟩
  rw [Below.heap_setCell _ _ _ _ (show y ≠ B by rcases hB with rfl | hB; exact hx; omega)]
  exact h.2 y hy hx
theorem fL_len (g : Nat → Bool) : (fL g).length = 5 := rfl
theorem fL_get (g : Nat → Bool) {k : Nat} (h : k < 5) : (fL g).getD k false = g k := by
  match k, h with
  | 0, _ => rfl
  | 1, _ => rfl
  | 2, _ => rfl
  | 3, _ => rfl
  | 4, _ => rfl
theorem fL_congr {g h : Nat → Bool} (e : ∀ v, v < 5 → g v = h v) : fL g = fL h := by
  unfold fL
  rw [e 0 (by decide), e 1 (by decide), e 2 (by decide), e 3 (by decide), e 4 (by decide)]
theorem fL_set (g : Nat → Bool) {k : Nat} (hk : k < 5) (b : Bool) : (fL g).set k b = fL (fun v => if v = k then b else g v) := by
  match k, hk with
  | 0, _ => rfl
  | 1, _ => rfl
  | 2, _ => rfl
  | 3, _ => rfl
  | 4, _ => rfl
theorem useL_fL (n : Nd) : useL n = fL (fun v => useB n ((v : Nat) : Int)) := rfl
theorem FoI.congr {w0 : World} {a : Option Addr} {n cap : Nat} {W : World} {g h : Nat → Bool} (hg : FoI w0 a n cap W g) (e : ∀ v, v < 5 → g v = h v) : FoI w0 a n cap W h := by
  unfold FoI at hg ⊢
  rw [← fL_congr e]
  exact hg
theorem foI_size {w0 : World} {a : Option Addr} {n cap : Nat} {W : World} {g : Nat → Bool} (h : FoI w0 a n cap W g) : w0.heap.size + 1 + 1 + 1 < W.heap.size := (Array.getElem?_eq_some_iff.1 h.2.2.2.1).1
theorem foI_below {w0 : World} {a : Option Addr} {n cap : Nat} {W W' : World} {g : Nat → Bool} (h : FoI w0 a n cap W g) (hb : Below W.heap.size W W') : FoI w0 a n cap W' g := by
  have hs := foI_size h
  obtain ⟨h1, h2, h3, h4, h5⟩ := h
  exact ⟨(hb.block _ (by omega)).trans h1, (hb.block _ (by omega)).trans h2, (hb.block _ (by omega)).trans h3, (hb.block _ (by omega)).trans h4, below_step h5 hb⟩
/-- Another block turns. -/
theorem foI_other {w0 : World} {a : Option Addr} {n cap : Nat} {W : World} {g : Nat → Bool} (h : FoI w0 a n cap W g) {B o : Nat} (hB : w0.heap.size + 1 + 1 + 1 < B) (v : Value) : FoI w0 a n cap (W.setCell ⟨B, o, none⟩ v) g := by
  obtain ⟨h1, h2, h3, h4, h5⟩ := h
  refine ⟨?_, ?_, ?_, ?_, h5.setCell (show w0.heap.size ≤ B by omega) _⟩
  · rw [Below.heap_setCell _ _ _ _ (show w0.heap.size ≠ B by omega)]; exact h1
  · rw [Below.heap_setCell _ _ _ _ (show w0.heap.size + 1 ≠ B by omega)]; exact h2
  · show _ = _; rw [Below.heap_setCell _ _ _ _ (show w0.heap.size + 1 + 1 ≠ B by omega)]; exact h3
  · rw [Below.heap_setCell _ _ _ _ (show w0.heap.size + 1 + 1 + 1 ≠ B by omega)]; exact h4
theorem foI_set {w0 : World} {a : Option Addr} {n cap : Nat} {W : World} {g : Nat → Bool} (h : FoI w0 a n cap W g) {k : Nat} (hk : k < 5) (b : Bool) : FoI w0 a n cap (W.setCell ⟨w0.heap.size + 1 + 1, k, none⟩ (.bool b)) (fun v => if v = k then b else g v) := by
  obtain ⟨h1, h2, h3, h4, h5⟩ := h
  refine ⟨?_, ?_, ?_, ?_, h5.setCell (show w0.heap.size ≤ w0.heap.size + 1 + 1 by omega) _⟩
  · rw [Below.heap_setCell _ _ _ _ (show w0.heap.size ≠ w0.heap.size + 1 + 1 by omega)]; exact h1
  · rw [Below.heap_setCell _ _ _ _ (show w0.heap.size + 1 ≠ w0.heap.size + 1 + 1 by omega)]; exact h2
  · rw [← fL_set g hk]; exact bo_set h3 k b
  · rw [Below.heap_setCell _ _ _ _ (show w0.heap.size + 1 + 1 + 1 ≠ w0.heap.size + 1 + 1 by omega)]; exact h4
def bdN (nd : Nd) (bd : Nat → Bool) (v : Nat) : Bool := bd v || (decide (nd.op = 8 ∨ nd.op = 9) && decide (nd.var = ((v : Nat) : Int)))
/-- What is free in a part, below what is bound. -/
theorem fre_bd {t : Fm} (bd : Nat → Bool) (v : Nat) : (t.fre ((v : Nat) : Int) && !bd v) = ((useB t.node ((v : Nat) : Int) && !bd v) || t.kids.any (fun c => c.fre ((v : Nat) : Int) && !bdN t.node bd v)) := by
  have hany : t.kids.any (fun c => c.fre ((v : Nat) : Int) && !bdN t.node bd v) = (t.kids.any (fun c => c.fre ((v : Nat) : Int)) && !bdN t.node bd v) := by
    generalize t.kids = l
    generalize bdN t.node bd v = z
    induction l with
    | nil => rfl
    | cons x r ih => rw [List.any_cons, List.any_cons, ih]; cases x.fre ((v : Nat) : Int) <;> cases z <;> simp
  rw [hany, fre_node]
  unfold bdN
  by_cases h8 : (t.node.op = 8 ∨ t.node.op = 9) ∧ t.node.var = ((v : Nat) : Int)
  · rw [if_pos h8, decide_eq_true h8.1, decide_eq_true h8.2]
    have hu : useB t.node ((v : Nat) : Int) = false := by
      unfold useB
      rw [if_neg (by omega)]
      simp
      omega
    rw [hu]
    simp
  · rw [if_neg h8]
    have : (decide (t.node.op = 8 ∨ t.node.op = 9) && decide (t.node.var = ((v : Nat) : Int))) = false := by
      rw [Bool.and_eq_false_iff]
      by_cases q : t.node.op = 8 ∨ t.node.op = 9
      · exact .inr (decide_eq_false (fun e => h8 ⟨q, e⟩))
      · exact .inl (decide_eq_false q)
    rw [this, Bool.or_false]
    cases useB t.node ((v : Nat) : Int) <;> cases bd v <;> simp
end Go.Proofs.Ytgbmemkoggogdaa

/- Package formula: freeOf's closure: contract. -/
namespace Go.Proofs.Ytgbmemkoggogdaa
open Go.RowKit

def LookR (w0 : World) (a : Option Addr) (n cap : Nat) (W : World) (p : Nat) (g : Nat → Bool) (e : Ending) (W' : World) : Prop := e = .returned (.int .i64 ((p : Nat) : Int)) ∧ FoI w0 a n cap W' g ∧ Kp (w0.heap.size + 1 + 1) W W'
set_option maxHeartbeats 16000000 in
set_option maxRecDepth 4000 in
theorem look_any (a : Option Addr) (n cap : Nat) (ns : List Nd) (w0 : World) (hs : SlF w0 a n ns) (hn : n ≤ 40) : ∀ (N : Nat) (t : Fm), t.flat.length ≤ N → t.ok → ∀ (pre post : List Nd) (W : World) (g bd : Nat → Bool), ns = pre ++ (t.flat ++ post) → FoI w0 a n cap W g → Calls Try.prog 52 #[.int .i64 (pre.length : Int), .agg #[.bool (bd 0), .bool (bd 1), .bool (bd 2), .bool (bd 3), .bool (bd 4)], .pointer (some ⟨w0.heap.size, 0, none⟩), .pointer (some ⟨w0.heap.size + 1 + 1, 0, none⟩), .pointer (some ⟨w0.heap.size + 1 + 1 + 1, 0, none⟩)] W (LookR w0 a n cap W (pre.length + t.flat.length) (fun v => g v || (t.fre ((v : Nat) : Int) && !bd v))) := by
  intro N
  induction N with
  | zero => intro t htl; have := flat_pos t; omega
  | succ N ih =>
    intro t htl hok pre post W g bd he hI
    obtain ⟨hnd, hkl, hkok⟩ := ok_node hok
    have hL := hs.1
    have hfl := flat_node t
    have hpn : pre.length < n := by rw [← hL, he, hfl]; simp <;> omega
    have hget : ns.getD pre.length zNd = t.node := by rw [he, hfl]; simp [List.getD]
    have hsz := foI_size hI
    have hB1 := (Below.refl W.heap.size W).alloc (Nat.le_refl _) (.cells #[.bool (bd 0), .bool (bd 1), .bool (bd 2), .bool (bd 3), .bool (bd 4)] 65)
    obtain ⟨bb, oo, a', c', ha, x0, x1, x2, x3, x4, x5, x6, hsl⟩ := slF_cell (slF_below hs (below_step hI.2.2.2.2 hB1)) pre.length hpn
    subst ha
    rw [hget] at x0 x1 x2 x3 x4 x5 x6 hsl
    have hB2 := hB1.alloc hB1.size (ndO t.node a' c')
    have hI2 := foI_below hI hB2
    have hc0 : (W.alloc (.cells #[.bool (bd 0), .bool (bd 1), .bool (bd 2), .bool (bd 3), .bool (bd 4)] 65)).cell? ⟨w0.heap.size, 0, none⟩ = some (.slice (some ⟨bb, oo, none⟩) n cap) := by
      have h := (foI_below hI hB1).1
      simp [World.cell?, h]
    have HX : Hid (((W.alloc (.cells #[.bool (bd 0), .bool (bd 1), .bool (bd 2), .bool (bd 3), .bool (bd 4)] 65)).alloc (ndO t.node a' c')).heap[W.heap.size]? = some (.cells #[.bool (bd 0), .bool (bd 1), .bool (bd 2), .bool (bd 3), .bool (bd 4)] 65 (0, 0))) := heap_alloc2_fst W _ _
    have HX2 : Hid (((W.alloc (.cells #[.bool (bd 0), .bool (bd 1), .bool (bd 2), .bool (bd 3), .bool (bd 4)] 65)).alloc (ndO t.node a' c')).heap[W.heap.size + 1]? = some (ndO t.node a' c')) := heap_alloc2_snd W _ _
    have HVO := hide (varsOf_any t.node a' c' ((W.alloc (.cells #[.bool (bd 0), .bool (bd 1), .bool (bd 2), .bool (bd 3), .bool (bd 4)] 65)).alloc (ndO t.node a' c')) (sl_below hsl ((Below.refl _ _).alloc (Nat.le_refl _) _)) hnd)
    have HK2 := hide ((Kp.refl (w0.heap.size + 1 + 1) W).below hB2)
    have HI2 := hide hI2
    have HFB := hide (fun v => fre_bd (t := t) bd v)
    have HBI := hide (fun W => binds_any t.node.op W)
    have HPO := hide (fun W => devParts_any t.node.op W)
    rw [← hkl] at HPO
    have HVR : Hid ((t.node.op = 8 ∨ t.node.op = 9) → 0 ≤ t.node.var ∧ t.node.var < 5) := fun h => (ndF_zero hnd).1.2.1 (by unfold varsP; omega)
    have HIH : Hid (∀ (k : Nat), k < t.kids.length → ∃ c, t.kids.take (k + 1) = t.kids.take k ++ [c] ∧ (flatL (t.kids.take (k + 1))).length = (flatL (t.kids.take k)).length + c.flat.length ∧ pre.length + 1 + (flatL (t.kids.take k)).length + c.flat.length ≤ n ∧ ∀ (W : World) (g bd : Nat → Bool), FoI w0 (some ⟨bb, oo, none⟩) n cap W g → (Calls Try.prog 52 #[.int .i64 ((pre.length + 1 + (flatL (t.kids.take k)).length : Nat) : Int), .agg #[.bool (bd 0), .bool (bd 1), .bool (bd 2), .bool (bd 3), .bool (bd 4)], .pointer (some ⟨w0.heap.size, 0, none⟩), .pointer (some ⟨w0.heap.size + 1 + 1, 0, none⟩), .pointer (some ⟨w0.heap.size + 1 + 1 + 1, 0, none⟩)] W (LookR w0 (some ⟨bb, oo, none⟩) n cap W (pre.length + 1 + (flatL (t.kids.take k)).length + c.flat.length) (fun v => g v || (c.fre ((v : Nat) : Int) && !bd v))))) := fun k hk => by
      obtain ⟨c, hc, h1, h2⟩ := take_kid hk
      have hns : ns = (pre ++ (t.node :: flatL (t.kids.take k))) ++ (c.flat ++ (flatL (t.kids.drop (k + 1)) ++ post)) := by
        rw [he, hfl]
        have h3 : flatL t.kids = flatL (t.kids.take k) ++ (c.flat ++ flatL (t.kids.drop (k + 1))) := by
          rw [← flatL_cons, ← flatL_append, ← h2]
        rw [h3]
        simp
      have hlen : (pre ++ (t.node :: flatL (t.kids.take k))).length = pre.length + 1 + (flatL (t.kids.take k)).length := by simp <;> omega
      refine ⟨c, h1, by rw [h1, flatL_append, List.length_append]; simp [flatL], by rw [← hL, hns, List.length_append, hlen, List.length_append]; omega, fun W g bd hW => ?_⟩
      have := ih c (by have := kid_lt hc; omega) (hkok c hc) _ _ W g bd hns hW
      rw [hlen] at this
      exact this
    have HEND : Hid (pre.length + t.flat.length = pre.length + 1 + (flatL (t.kids.take t.kids.length)).length) := by show _ = _; rw [hfl, List.take_length, List.length_cons]; omega
    have HAT : Hid (t.kids.take t.kids.length = t.kids) := List.take_length
    have hk2 : t.kids.length ≤ 2 := by have := partsN_le t.node.op; omega
    have hpi : (pre.length : Int) < (n : Int) := by omega
    unfold ndV at HVO
    clear hs hsl hok hkok hfl hget he ih htl hL hnd hkl hI hI2 hB1 hB2
    generalize pre.length + t.flat.length = pe at HEND ⊢
    generalize pre.length = p at *
    generalize t.fre = FR at HFB ⊢
    generalize t.kids = ks at *
    generalize t.node = nd at *
    generalize hW2 : (W.alloc (.cells #[.bool (bd 0), .bool (bd 1), .bool (bd 2), .bool (bd 3), .bool (bd 4)] 65)).alloc (ndO nd a' c') = W2 at HX HX2 HVO HK2 HI2
    obtain ⟨⟨z0, z1, z2, z3, z4, z5, z6⟩, -⟩ := box7_cells HX2.out
    go_enter Try.func52, Try.ntmps52
    go_wp2_with fail
    clear hW2 x0 x1 x2 x3 x4 x5 x6 z0 z1 z2 z3 z4 z5 z6 hc0
    refine HVO.out.mono ?_
    rintro e w3 ⟨rfl, hb3⟩
    have HI3 := hide (foI_below HI2.out hb3)
    have HK3 := hide (HK2.out.below hb3)
    have HX3 : Hid (BoAt w3 W.heap.size (fL bd)) := (hb3.block _ (Array.getElem?_eq_some_iff.1 HX.out).1).trans HX.out
    have HX4 := hide ((hb3.block _ (Array.getElem?_eq_some_iff.1 HX2.out).1).trans HX2.out)
    clear hb3
    go_wp2
    go_loopw [18] (fun iv wx => ∃ k : Nat, k ≤ 5 ∧ iv = .int .i64 k ∧ FoI w0 (some ⟨bb, oo, none⟩) n cap wx (fun v => g v || (decide (v < k) && useB nd ((v : Nat) : Int) && !bd v)) ∧ BoAt wx W.heap.size (fL bd) ∧ wx.heap[W.heap.size + 1]? = some (ndO nd a' c') ∧ Kp (w0.heap.size + 1 + 1) W wx) (fun iv _ => 5 - (intOf iv).toNat)
    case atStart => exact ⟨0, by omega, rfl, HI3.out.congr (fun v _ => by simp), HX3.out, HX4.out, HK3.out⟩
    case round =>
      obtain ⟨k, hk, rfl, hI, hB, hN, hK⟩ := hrel
      have HI := hide hI
      have HB := hide hB
      have HN := hide hN
      have HK := hide hK
      by_cases hlt : k < 5
      · have hlti : (k : Int) < 5 := by omega
        have hix := index58 (bArr (useL nd)) k hlt (.bool (useB nd ((k : Nat) : Int))) (by rw [bArr_get _ k (by rw [useL_fL]; exact hlt), useL_fL, fL_get _ hlt])
        obtain ⟨hd, hf⟩ := bo_cell hI.2.2.1 (k := k) hlt
        rw [fL_get _ hlt] at hd
        have e0 : (g k || (decide (k < k) && useB nd ((k : Nat) : Int) && !bd k)) = g k := by simp
        rw [e0] at hd
        obtain ⟨hbc, -⟩ := bo_cell hB (k := k) hlt
        rw [fL_get _ hlt] at hbc
        have HREL : Hid (∀ b, b = (g k || (useB nd ((k : Nat) : Int) && !bd k)) → FoI w0 (some ⟨bb, oo, none⟩) n cap (wr.setCell ⟨w0.heap.size + 1 + 1, k, none⟩ (.bool b)) (fun v => g v || (decide (v < k + 1) && useB nd ((v : Nat) : Int) && !bd v)) ∧ BoAt (wr.setCell ⟨w0.heap.size + 1 + 1, k, none⟩ (.bool b)) W.heap.size (fL bd) ∧ (wr.setCell ⟨w0.heap.size + 1 + 1, k, none⟩ (.bool b)).heap[W.heap.size + 1]? = some (ndO nd a' c') ∧ Kp (w0.heap.size + 1 + 1) W (wr.setCell ⟨w0.heap.size + 1 + 1, k, none⟩ (.bool b))) := fun b hb => by
          refine ⟨(foI_set hI hlt b).congr (fun v _ => ?_), ?_, ?_, hK.set (.inl rfl) _⟩
          · by_cases e : v = k
            · subst e; rw [if_pos rfl, hb]; simp
            · rw [if_neg e]
              have : decide (v < k) = decide (v < k + 1) := decide_eq_decide.2 (by omega)
              rw [this]
          · show _ = _; rw [Below.heap_setCell _ _ _ _ (show W.heap.size ≠ w0.heap.size + 1 + 1 by omega)]; exact hB
          · rw [Below.heap_setCell _ _ _ _ (show W.heap.size + 1 ≠ w0.heap.size + 1 + 1 by omega)]; exact hN
        clear hI hB hN hK e0
        generalize g k = gk at hd HREL
        generalize useB nd ((k : Nat) : Int) = U at hix HREL
        generalize bd k = bk at hbc HREL
        cases gk with
        | true =>
          have HR2 := hide (HREL.out true (by simp))
          clear HREL
          go_wp2
          go_roundw
          case rel => exact ⟨k + 1, by omega, by go_num, HR2.out⟩
          case measure => simp [intOf]; omega
        | false =>
          cases U with
          | true =>
            have HR2 := hide (HREL.out (!bk) (by simp))
            clear HREL
            go_wp2
            go_roundw
            case rel => exact ⟨k + 1, by omega, by go_num, HR2.out⟩
            case measure => simp [intOf]; omega
          | false =>
            have HR2 := hide (HREL.out false (by simp))
            clear HREL
            go_wp2
            go_roundw
            case rel => exact ⟨k + 1, by omega, by go_num, HR2.out⟩
            case measure => simp [intOf]; omega
      · have hlti : ¬ (k : Int) < 5 := by omega
        obtain rfl : k = 5 := by omega
        have hI1 : FoI w0 (some ⟨bb, oo, none⟩) n cap wr (fun v => g v || (useB nd ((v : Nat) : Int) && !bd v)) := hI.congr (fun v hv => by rw [decide_eq_true hv]; simp)
        have HI1 := hide hI1
        clear hI1 hI
        obtain ⟨z0, z1, z2, z3, z4, z5, z6⟩ := (box7_cells hN).1
        clear hB hN hK
        obtain ⟨wo, hwo⟩ : ∃ wo : World, wo = wr := ⟨_, rfl⟩
        rw [← hwo] at HI HB HN HK HI1 z0 z1 z2 z3 z4 z5 z6 ⊢
        clear hwo wr HI
        by_cases h8 : nd.op = 8 ∨ nd.op = 9
        · obtain ⟨hv0, hv5⟩ := HVR.out h8
          rw [decide_eq_true h8] at HBI
          obtain ⟨q, hq⟩ : ∃ q : Nat, nd.var = (q : Int) := ⟨nd.var.toNat, by omega⟩
          have hq5 : q < 5 := by omega
          have hq5i : (q : Int) < 5 := by omega
          obtain ⟨hd, hf⟩ := bo_cell HB.out (k := q) hq5
          have hI5 : FoI w0 (some ⟨bb, oo, none⟩) n cap (wo.setCell ⟨W.heap.size, q, none⟩ (.bool true)) (fun v => g v || (useB nd ((v : Nat) : Int) && !bd v)) := foI_other HI1.out (by omega) _
          have hB5 : BoAt (wo.setCell ⟨W.heap.size, q, none⟩ (.bool true)) W.heap.size (fL (bdN nd bd)) := by
            have h := bo_set HB.out q true
            rw [fL_set _ hq5] at h
            rw [← fL_congr (g := fun v => if v = q then true else bd v)]
            · exact h
            · intro v _
              unfold bdN
              rw [decide_eq_true h8, hq]
              by_cases e : v = q
              · subst e; simp
              · have : decide (((q : Nat) : Int) = ((v : Nat) : Int)) = false := decide_eq_false (by omega)
                rw [if_neg e, this]; simp
          have hK5 : Kp (w0.heap.size + 1 + 1) W (wo.setCell ⟨W.heap.size, q, none⟩ (.bool true)) := HK.out.set (.inr (Nat.le_refl _)) _
          have hy0 : (wo.setCell ⟨W.heap.size, q, none⟩ (.bool true)).cell? ⟨W.heap.size + 1, 0, none⟩ = some (.int .i64 nd.op) := by
            have h : (wo.setCell ⟨W.heap.size, q, none⟩ (.bool true)).heap[W.heap.size + 1]? = some (ndO nd a' c') := by rw [Below.heap_setCell _ _ _ _ (show W.heap.size + 1 ≠ W.heap.size by omega)]; exact HN.out
            exact (box7_cells h).1.1
          rw [hq] at z1
          have HQ := hide hq
          clear hq h8 hv0 hv5
          generalize hW5 : wo.setCell ⟨W.heap.size, q, none⟩ (.bool true) = W5 at hI5 hB5 hK5 hy0
          go_wp2_with (first
            | (go_at_call 32; refine (HBI.out _).mono ?_; rintro e w' ⟨rfl, hw'⟩; rw [hw']; clear hw' w')
            | (go_at_call 51; refine (HPO.out _).mono ?_; rintro e w' ⟨rfl, hw'⟩; rw [hw']; clear hw' w'))
          clear hW5 hy0 z0 z1 z2 z3 z4 z5 z6 hd hf
          have HI5 := hide hI5
          have HB5 := hide hB5
          have HK5 := hide hK5
          clear hI5 hB5 hK5
          go_loopw [11, 48] (fun av kv wx => ∃ k : Nat, k ≤ ks.length ∧ kv = .int .i64 k ∧ av = .int .i64 ((p + 1 + (flatL (ks.take k)).length : Nat) : Int) ∧ FoI w0 (some ⟨bb, oo, none⟩) n cap wx (fun v => (g v || (useB nd ((v : Nat) : Int) && !bd v)) || (ks.take k).any (fun c => c.fre ((v : Nat) : Int) && !bdN nd bd v)) ∧ BoAt wx W.heap.size (fL (bdN nd bd)) ∧ Kp (w0.heap.size + 1 + 1) W wx) (fun _ kv _ => ks.length + 1 - (intOf kv).toNat)
          case atStart => exact ⟨0, by omega, rfl, by simp [flatL], HI5.out.congr (fun v _ => by simp), HB5.out, HK5.out⟩
          case round =>
            obtain ⟨k, hk, rfl, rfl, hI, hB, hK⟩ := hrel
            have HI := hide hI
            have HB := hide hB
            have HK := hide hK
            by_cases hlt : k < ks.length
            · have hlti : (k : Int) < (ks.length : Int) := by omega
              obtain ⟨c, h1, h2, h3, h4⟩ := HIH.out k hlt
              have HCA := hide (h4 wr _ (bdN nd bd) hI)
              obtain ⟨⟨y0, y1, y2, y3, y4⟩, -⟩ := box5_cells hB
              have hlk : wr.cell? ⟨w0.heap.size + 1 + 1 + 1, 0, none⟩ = some (.func (.func 52) #[] #[.pointer (some ⟨w0.heap.size, 0, none⟩), .pointer (some ⟨w0.heap.size + 1 + 1, 0, none⟩), .pointer (some ⟨w0.heap.size + 1 + 1 + 1, 0, none⟩)]) := by
                have := hI.2.2.2.1
                simp [World.cell?, this, lookV]
              have HLL := hide h2
              have HTK := hide h1
              have hBs := (Array.getElem?_eq_some_iff.1 hB).1
              have HBS := hide hBs
              clear h1 h2 h4 hI hB hK hBs
              generalize (flatL (ks.take k)).length = L at *
              generalize c.flat.length = lc at *
              go_wp2_with fail
              clear y0 y1 y2 y3 y4 hlk
              refine HCA.out.mono ?_
              rintro e w4 ⟨rfl, hI4, hK4⟩
              have HI4 := hide hI4
              have HK4 := hide hK4
              clear hI4 hK4
              go_wp2
              go_roundw
              case rel => exact ⟨k + 1, by omega, by go_num, by rw [HLL.out]; congr 2; omega, HI4.out.congr (fun v _ => by rw [HTK.out, List.any_append]; simp [Bool.or_assoc]), (HK4.out.2 _ HBS.out (by omega)).trans HB.out, HK.out.trans HK4.out⟩
              case measure => simp [intOf]; omega
            · have hlti : ¬ (k : Int) < (ks.length : Int) := by omega
              obtain rfl : k = ks.length := by omega
              clear hI hB hK
              rw [← HEND.out]
              go_wp2
              go_ret
              exact ⟨rfl, HI.out.congr (fun v _ => by rw [HAT.out, HFB.out v]; simp [Bool.or_assoc]), HK.out⟩
        · rw [decide_eq_false h8] at HBI
          have hI5 := HI1.out
          have hB5 : BoAt wo W.heap.size (fL (bdN nd bd)) := by
            rw [← fL_congr (g := bd)]
            · exact HB.out
            · intro v _
              unfold bdN
              rw [decide_eq_false h8]; simp
          have hK5 := HK.out
          have HH8 := hide h8
          clear h8
          go_wp2_with (first
            | (go_at_call 32; refine (HBI.out _).mono ?_; rintro e w' ⟨rfl, hw'⟩; rw [hw']; clear hw' w')
            | (go_at_call 51; refine (HPO.out _).mono ?_; rintro e w' ⟨rfl, hw'⟩; rw [hw']; clear hw' w'))
          clear z0 z1 z2 z3 z4 z5 z6
          have HI5 := hide hI5
          have HB5 := hide hB5
          have HK5 := hide hK5
          clear hI5 hB5 hK5
          go_loopw [11, 48] (fun av kv wx => ∃ k : Nat, k ≤ ks.length ∧ kv = .int .i64 k ∧ av = .int .i64 ((p + 1 + (flatL (ks.take k)).length : Nat) : Int) ∧ FoI w0 (some ⟨bb, oo, none⟩) n cap wx (fun v => (g v || (useB nd ((v : Nat) : Int) && !bd v)) || (ks.take k).any (fun c => c.fre ((v : Nat) : Int) && !bdN nd bd v)) ∧ BoAt wx W.heap.size (fL (bdN nd bd)) ∧ Kp (w0.heap.size + 1 + 1) W wx) (fun _ kv _ => ks.length + 1 - (intOf kv).toNat)
          case atStart => exact ⟨0, by omega, rfl, by simp [flatL], HI5.out.congr (fun v _ => by simp), HB5.out, HK5.out⟩
          case round =>
            obtain ⟨k, hk, rfl, rfl, hI, hB, hK⟩ := hrel
            have HI := hide hI
            have HB := hide hB
            have HK := hide hK
            by_cases hlt : k < ks.length
            · have hlti : (k : Int) < (ks.length : Int) := by omega
              obtain ⟨c, h1, h2, h3, h4⟩ := HIH.out k hlt
              have HCA := hide (h4 wr _ (bdN nd bd) hI)
              obtain ⟨⟨y0, y1, y2, y3, y4⟩, -⟩ := box5_cells hB
              have hlk : wr.cell? ⟨w0.heap.size + 1 + 1 + 1, 0, none⟩ = some (.func (.func 52) #[] #[.pointer (some ⟨w0.heap.size, 0, none⟩), .pointer (some ⟨w0.heap.size + 1 + 1, 0, none⟩), .pointer (some ⟨w0.heap.size + 1 + 1 + 1, 0, none⟩)]) := by
                have := hI.2.2.2.1
                simp [World.cell?, this, lookV]
              have HLL := hide h2
              have HTK := hide h1
              have hBs := (Array.getElem?_eq_some_iff.1 hB).1
              have HBS := hide hBs
              clear h1 h2 h4 hI hB hK hBs
              generalize (flatL (ks.take k)).length = L at *
              generalize c.flat.length = lc at *
              go_wp2_with fail
              clear y0 y1 y2 y3 y4 hlk
              refine HCA.out.mono ?_
              rintro e w4 ⟨rfl, hI4, hK4⟩
              have HI4 := hide hI4
              have HK4 := hide hK4
              clear hI4 hK4
              go_wp2
              go_roundw
              case rel => exact ⟨k + 1, by omega, by go_num, by rw [HLL.out]; congr 2; omega, HI4.out.congr (fun v _ => by rw [HTK.out, List.any_append]; simp [Bool.or_assoc]), (HK4.out.2 _ HBS.out (by omega)).trans HB.out, HK.out.trans HK4.out⟩
              case measure => simp [intOf]; omega
            · have hlti : ¬ (k : Int) < (ks.length : Int) := by omega
              obtain rfl : k = ks.length := by omega
              clear hI hB hK
              rw [← HEND.out]
              go_wp2
              go_ret
              exact ⟨rfl, HI.out.congr (fun v _ => by rw [HAT.out, HFB.out v]; simp [Bool.or_assoc]), HK.out⟩
end Go.Proofs.Ytgbmemkoggogdaa

/- Package formula: freeOf: contract. -/
namespace Go.Proofs.Ytgbmemkoggogdaa
open Go.RowKit

def freB (t : Fm) : List Bool := fL (fun v => t.fre ((v : Nat) : Int))
def FreeR (w : World) (t : Fm) (e : Ending) (w' : World) : Prop := e = .returned (.agg (bArr (freB t))) ∧ Below w.heap.size w w'
set_option maxHeartbeats 4000000 in
set_option maxRecDepth 4000 in
theorem freeOf_dev (a : Option Addr) (n cap : Nat) (ns : List Nd) (w : World) (hs : SlF w a n ns) (hn : n ≤ 40) (t : Fm) (hok : t.ok) (he : ns = t.flat) : Calls Try.prog 28 #[.slice a n cap] w (FreeR w t) := by
  have HLK : Hid (∀ (W : World) (g bd : Nat → Bool), FoI w a n cap W g → Calls Try.prog 52 #[.int .i64 0, .agg #[.bool (bd 0), .bool (bd 1), .bool (bd 2), .bool (bd 3), .bool (bd 4)], .pointer (some ⟨w.heap.size, 0, none⟩), .pointer (some ⟨w.heap.size + 1 + 1, 0, none⟩), .pointer (some ⟨w.heap.size + 1 + 1 + 1, 0, none⟩)] W (LookR w a n cap W (0 + t.flat.length) (fun v => g v || (t.fre ((v : Nat) : Int) && !bd v)))) := fun W g bd h => look_any a n cap ns w hs hn t.flat.length t (Nat.le_refl _) hok [] [] W g bd (by simp [he]) h
  clear hs he hok
  have HW : Hid (FoI w a n cap (((((w.alloc (.cells #[.slice a n cap] 41)).alloc z5O).alloc z5O).alloc (.cells #[.nilFunc] 92)).setCell ⟨w.heap.size + 1 + 1 + 1, 0, none⟩ (lookV w.heap.size)) (fun _ => false)) := by
    refine ⟨?_, ?_, ?_, ?_, ?_⟩
    · rw [Below.heap_setCell _ _ _ _ (show w.heap.size ≠ w.heap.size + 1 + 1 + 1 by omega)]
      exact (alloc4 w _ _ _ _).1
    · rw [Below.heap_setCell _ _ _ _ (show w.heap.size + 1 ≠ w.heap.size + 1 + 1 + 1 by omega)]
      exact (alloc4 w _ _ _ _).2.1
    · show _ = _
      rw [Below.heap_setCell _ _ _ _ (show w.heap.size + 1 + 1 ≠ w.heap.size + 1 + 1 + 1 by omega)]
      exact (alloc4 w _ _ _ _).2.2.1
    · have : ((((w.alloc (.cells #[.slice a n cap] 41)).alloc z5O).alloc z5O).alloc (.cells #[.nilFunc] 92)).heap[w.heap.size + 1 + 1 + 1]? = some (.cells #[.nilFunc] 92 (0, 0)) := (alloc4 w _ _ _ _).2.2.2
      exact heap_setCell_at (k := 0) (v := lookV w.heap.size) this
    · exact ((((((Below.refl _ _).alloc (Nat.le_refl _) _).alloc (by simp) _).alloc (by simp; omega) _).alloc (by simp; omega) _).setCell (show w.heap.size ≤ w.heap.size + 1 + 1 + 1 by omega) _)
  have h4 : ((((w.alloc (.cells #[.slice a n cap] 41)).alloc z5O).alloc z5O).alloc (.cells #[.nilFunc] 92)).heap[w.heap.size + 1 + 1 + 1]? = some (.cells #[.nilFunc] 92 (0, 0)) := (alloc4 w _ _ _ _).2.2.2
  generalize hW4 : (((w.alloc (.cells #[.slice a n cap] 41)).alloc z5O).alloc z5O).alloc (.cells #[.nilFunc] 92) = W4 at h4 HW
  have hc : W4.cell? ⟨w.heap.size + 1 + 1 + 1, 0, none⟩ = some .nilFunc := by simp [World.cell?, h4]
  have hf : W4.frozen? ⟨w.heap.size + 1 + 1 + 1, 0, none⟩ = false := by simp [World.frozen?, h4]
  unfold lookV at HW
  generalize hW5 : W4.setCell ⟨w.heap.size + 1 + 1 + 1, 0, none⟩ (.func (.func 52) #[] #[.pointer (some ⟨w.heap.size, 0, none⟩), .pointer (some ⟨w.heap.size + 1 + 1, 0, none⟩), .pointer (some ⟨w.heap.size + 1 + 1 + 1, 0, none⟩)]) = W5 at HW
  have hl : W5.cell? ⟨w.heap.size + 1 + 1 + 1, 0, none⟩ = some (.func (.func 52) #[] #[.pointer (some ⟨w.heap.size, 0, none⟩), .pointer (some ⟨w.heap.size + 1 + 1, 0, none⟩), .pointer (some ⟨w.heap.size + 1 + 1 + 1, 0, none⟩)]) := by
    have := HW.out.2.2.2.1
    simp [World.cell?, this, lookV]
  clear h4
  go_enter Try.func28, Try.ntmps28
  go_wp2_with fail
  clear hW4 hc hf hl
  refine (HLK.out W5 _ (fun _ => false) HW.out).mono ?_
  rintro e w6 ⟨rfl, hI6, -⟩
  have hI7 : FoI w a n cap w6 (fun v => t.fre ((v : Nat) : Int)) := hI6.congr (fun v _ => by simp)
  clear hW5 HW hI6
  have hbo := hI7.2.2.1
  have HBL := hide hI7.2.2.2.2
  have h1 := hI7.2.1
  obtain ⟨b0, b1, b2, b3, b4, hl5⟩ := five_of (fL_len (fun v => t.fre ((v : Nat) : Int)))
  have HU : Hid (freB t = [b0, b1, b2, b3, b4]) := hl5
  rw [hl5] at hbo
  obtain ⟨⟨y0, y1, y2, y3, y4⟩, -⟩ := box5_cells hbo
  obtain ⟨⟨x0, x1, x2, x3, x4⟩, f0, f1, f2, f3, f4⟩ := box5_cells h1
  obtain ⟨Wf, hWf, g3, hbf⟩ := five_behind h1 HBL.out (by omega) (.bool b0) (.bool b1) (.bool b2) (.bool b3) (.bool b4)
  obtain ⟨⟨t0, t1, t2, t3, t4⟩, -⟩ := box5_cells g3
  clear g3 hbo h1 hI7 hl5
  go_wp2
  exact bodyPost_ret (v := .agg #[.bool b0, .bool b1, .bool b2, .bool b3, .bool b4]) (by simp [results, Try.results28, go_sem, t0, t1, t2, t3, t4]) rfl ⟨by rw [HU.out]; rfl, hbf⟩
end Go.Proofs.Ytgbmemkoggogdaa

/- Package formula: Free: contract. -/
namespace Go.Proofs.Ytgbmemkoggogdaa
open Go.RowKit

def FreeIs (ns : List Nd) (FL : List Int) (c : Int) : Prop := c = (formP ns).2 ∧ (c ≠ 0 → FL = []) ∧ ∀ t : Fm, ns = t.flat → t.ok → FL = freL t
theorem freB_get (t : Fm) {k : Nat} (h : k < 5) : (bArr (freB t))[k]? = some (.bool (t.fre ((k : Nat) : Int))) := by
  unfold freB
  rw [bArr_get _ _ (by rw [fL_len]; exact h), fL_get _ h]
set_option maxHeartbeats 4000000 in
set_option maxRecDepth 4000 in
theorem devFree_any (a : Option Addr) (n cap : Nat) (ns : List Nd) (w : World) (hs : SlF w a n ns) (FL : List Int) (c : Int) (hF : FreeIs ns FL c) : Calls Try.prog 10 #[.slice a n cap] w (HeadR w FL c) := by
  obtain ⟨l0, hl0, hv0, hv1, hv2⟩ := info_parts info3
  obtain ⟨hc, hF2, hF3⟩ := hF
  have HCK := hide (devCheck_any a n cap ns w hs)
  rw [← hc] at HCK
  by_cases hz : c = 0
  · subst hz
    obtain ⟨t, he, hok, hn40, -⟩ := form_tree hc.symm
    have hn : n ≤ 40 := by rw [← hs.1]; exact hn40
    have hFL := hF3 t he hok
    subst hFL
    have HS := hide hs
    have HFO := hide (fun W (h : SlF W a n ns) => freeOf_dev a n cap ns W h hn t hok he)
    have HSU := hide (freK_succ t)
    have HLE := hide (freK_len t)
    have HWF := hide (fun k (h : k ≤ 5) => freK_wf t h)
    have H5 := hide (freK_five t)
    have HGT := hide (fun k (h : k < 5) => freB_get t h)
    rw [show errV 0 = .nilIface from rfl] at HCK
    clear hs he hok hc hF2 hF3
    generalize freL t = FL at H5 ⊢
    go_enter Try.func10, Try.ntmps10
    go_wp2_with fail
    refine HCK.out.mono ?_
    rintro e w1 ⟨rfl, hb1⟩
    have HB1 := hide hb1
    have HF1 := hide (HFO.out w1 (slF_below HS.out hb1))
    clear hb1 HFO HCK
    go_wp2_with fail
    refine HF1.out.mono ?_
    rintro e w2 ⟨rfl, hb2⟩
    have HG0 := hide (grow_below (grow_nil w) (below_step HB1.out hb2))
    clear hb2 HF1
    generalize bArr (freB t) = FA at HGT ⊢
    generalize (formP ns).1 = f1
    go_wp2
    go_loopw [6, 19] (fun lv kv wx => ∃ k : Nat, k ≤ 5 ∧ kv = .int .i64 k ∧ Grow w (freK t k) lv wx) (fun _ kv _ => 5 - (intOf kv).toNat)
    case atStart => exact ⟨0, by omega, rfl, HG0.out⟩
    case round =>
      obtain ⟨k, hk, rfl, hgr⟩ := hrel
      have HGR := hide hgr
      have hle := HLE.out k
      clear hgr
      by_cases hlt : k < 5
      · have hlti : (k : Int) < 5 := by omega
        have hix := index58 FA k hlt _ (HGT.out k hlt)
        have HS1 := hide (HSU.out k)
        generalize t.fre ((k : Nat) : Int) = q at hix HS1
        cases q with
        | true =>
          have hs1 := HS1.out
          rw [if_pos rfl] at hs1
          have HK1 := hide hs1
          clear hs1
          have HOWN := hide HGR.out.1
          have HSZ := hide HGR.out.2.size
          generalize hL : (freK t k).length = L at HOWN hle
          have HLL := hide hL
          clear hL
          go_wp2_with (at_builtin; refine wpList_append_own _ rfl _ _ 23 rfl w.heap.size 3 l0 (.int .i64 0) 1 8 Try.underlying23 hl0 hv0 hv1 hv2 rfl (by decide) _ L ((freK t k).map (Value.int .i64)) rfl (HOWN.out.alloc _) ⟨wr.heap.size, 0, none⟩ 1 1 [.int .i64 (k : Int)] rfl rfl (one_new _ _ _) (fun u hu => by simp at hu; subst hu; rfl) (by unfold maxLen; omega) (by omega) (by have := HSZ.out; simp; omega) ?_; intro v3 w6 hown hgrow _)
          go_roundw
          case rel => exact ⟨k + 1, by omega, by go_num, by rw [HK1.out]; exact grow_push HGR.out (by rw [HLL.out]; exact hown) hgrow⟩
          case measure => simp [intOf]; omega
        | false =>
          have hs1 := HS1.out
          rw [if_neg (by decide)] at hs1
          have HK1 := hide hs1
          clear hs1
          go_wp2
          go_roundw
          case rel => exact ⟨k + 1, by omega, by go_num, by rw [HK1.out]; exact HGR.out⟩
          case measure => simp [intOf]; omega
      · have hlti : ¬ (k : Int) < 5 := by omega
        obtain rfl : k = 5 := by omega
        have hend := grow_end HGR.out (by unfold maxLen; omega) (HWF.out 5 (Nat.le_refl _))
        rw [H5.out] at hend
        obtain ⟨ae, ce, hee, hse, hbe⟩ := hend
        injection hee with hee
        subst hee
        have HE := hide (⟨hse.1, hbe⟩ : _ ∧ _)
        clear hle hse hbe
        go_wp2
        go_ret2
        exact ⟨_, _, rfl, HE.out.1, HE.out.2⟩
  · have hFL := hF2 hz
    subst hFL
    have hze : errV c = .iface 54 (.int .i64 c) := by unfold errV; rw [if_neg hz]
    rw [hze] at HCK
    have HZE := hide hze
    clear hs hc hF2 hF3 hz hze
    go_enter Try.func10, Try.ntmps10
    go_wp2_with fail
    refine HCK.out.mono ?_
    rintro e w1 ⟨rfl, hb1⟩
    have HB1 := hide hb1
    clear hb1
    go_wp2
    go_ret2
    exact ⟨none, 0, by rw [HZE.out]; rfl, ⟨rfl, by decide, (fun x hx => by cases hx), .inl rfl⟩, HB1.out⟩
end Go.Proofs.Ytgbmemkoggogdaa

/- FormTurns: what it begins with: a is twice b. -/
namespace Go.Proofs.Ytgbmemkoggogdaa
open Go.RowKit

theorem even_free : FreeIs evenL [0] 0 := by
  refine ⟨by decide +kernel, fun h => absurd rfl h, fun t he hok => ?_⟩
  cases t with
  | at0 n => simp [evenL, Fm.flat] at he
  | un n f =>
    simp only [evenL, Fm.flat, List.cons.injEq] at he
    obtain ⟨rfl, he⟩ := he
    cases f with
    | at0 m =>
      simp only [Fm.flat, List.cons.injEq, and_true] at he
      subst he
      decide +kernel
    | un m g =>
      simp only [Fm.flat, List.cons.injEq] at he
      have := flat_pos g
      rw [← he.2] at this
      simp at this
    | bin m g h =>
      simp only [Fm.flat, List.cons.injEq] at he
      have := flat_pos g
      have h2 := congrArg List.length he.2
      simp at h2
      omega
  | bin n f g =>
    simp only [evenL, Fm.flat, List.cons.injEq] at he
    have h1 := flat_pos f
    have h2 := flat_pos g
    have h3 := congrArg List.length he.2
    simp at h3
    omega
end Go.Proofs.Ytgbmemkoggogdaa

/- Package formula: join and its closure: contracts. -/
namespace Go.Proofs.Ytgbmemkoggogdaa
open Go.RowKit

/-- A tree's truth, by what is said of its leaves. -/
def Fm.bare : Fm → Prop
  | .at0 n => n.op ≠ 8 ∧ n.op ≠ 9
  | .un n f => (n.op ≠ 8 ∧ n.op ≠ 9) ∧ f.bare
  | .bin n f g => (n.op ≠ 8 ∧ n.op ≠ 9) ∧ f.bare ∧ g.bare
def nextV (s : Nat) : Value := .func (.func 58) #[] #[.pointer (some ⟨s + 1 + 1, 0, none⟩), .pointer (some ⟨s, 0, none⟩), .pointer (some ⟨s + 1 + 1 + 1, 0, none⟩), .pointer (some ⟨s + 1, 0, none⟩)]
def JoI (w0 : World) (a : Option Addr) (n cap : Nat) (a2 : Option Addr) (cap2 : Nat) (W : World) (p : Nat) : Prop :=
  W.heap[w0.heap.size]? = some (.cells #[.slice a n cap] 41 (0, 0)) ∧ W.heap[w0.heap.size + 1]? = some (.cells #[.slice a2 n cap2] 30 (0, 0)) ∧ W.heap[w0.heap.size + 1 + 1]? = some (.cells #[.int .i64 ((p : Nat) : Int)] 3 (0, 0)) ∧ W.heap[w0.heap.size + 1 + 1 + 1]? = some (.cells #[nextV w0.heap.size] 99 (0, 0)) ∧ Below w0.heap.size w0 W
theorem jbx1 {W : World} {B : Nat} {v : Value} {T : TypeId} (h : W.heap[B]? = some (.cells #[v] T (0, 0))) : W.cell? ⟨B, 0, none⟩ = some v ∧ W.frozen? ⟨B, 0, none⟩ = false := ⟨by simp [World.cell?, h], by simp [World.frozen?, h]⟩
theorem joI_set {w0 : World} {a : Option Addr} {n cap : Nat} {a2 : Option Addr} {cap2 : Nat} {W : World} {p : Nat} (h : JoI w0 a n cap a2 cap2 W p) (q : Nat) : JoI w0 a n cap a2 cap2 (W.setCell ⟨w0.heap.size + 1 + 1, 0, none⟩ (.int .i64 ((q : Nat) : Int))) q := by
  obtain ⟨h1, h2, h3, h4, h5⟩ := h
  refine ⟨?_, ?_, ?_, ?_, h5.setCell (show w0.heap.size ≤ w0.heap.size + 1 + 1 by omega) _⟩
  · rw [Below.heap_setCell _ _ _ _ (show w0.heap.size ≠ w0.heap.size + 1 + 1 by omega)]; exact h1
  · rw [Below.heap_setCell _ _ _ _ (show w0.heap.size + 1 ≠ w0.heap.size + 1 + 1 by omega)]; exact h2
  · exact heap_setCell_at (k := 0) (v := .int .i64 ((q : Nat) : Int)) h3
  · rw [Below.heap_setCell _ _ _ _ (show w0.heap.size + 1 + 1 + 1 ≠ w0.heap.size + 1 + 1 by omega)]; exact h4
theorem joI_drew {w0 : World} {a : Option Addr} {n cap : Nat} {a2 : Option Addr} {cap2 : Nat} {W : World} {p : Nat} (h : JoI w0 a n cap a2 cap2 W p) : JoI w0 a n cap a2 cap2 W.drew p := ⟨h.1, h.2.1, h.2.2.1, h.2.2.2.1, h.2.2.2.2.drew⟩
def JoinR (w0 : World) (a : Option Addr) (n cap : Nat) (a2 : Option Addr) (cap2 : Nat) (p : Nat) (b : Bool) (e : Ending) (W' : World) : Prop := e = .returned (.bool b) ∧ JoI w0 a n cap a2 cap2 W' p
set_option maxHeartbeats 16000000 in
set_option maxRecDepth 4000 in
theorem next_any (a : Option Addr) (n cap : Nat) (ns : List Nd) (a2 : Option Addr) (cap2 : Nat) (os : List Om) (nums : List Int) (w0 : World) (hs : SlF w0 a n ns) (hS : SlB w0 a2 n (ns.map (holdB os nums))) (hn : n ≤ 40) : ∀ (N : Nat) (t : Fm), t.flat.length ≤ N → t.ok → t.bare → ∀ (pre post : List Nd) (W : World), ns = pre ++ (t.flat ++ post) → JoI w0 a n cap a2 cap2 W pre.length → Calls Try.prog 58 #[.pointer (some ⟨w0.heap.size + 1 + 1, 0, none⟩), .pointer (some ⟨w0.heap.size, 0, none⟩), .pointer (some ⟨w0.heap.size + 1 + 1 + 1, 0, none⟩), .pointer (some ⟨w0.heap.size + 1, 0, none⟩)] W (JoinR w0 a n cap a2 cap2 (pre.length + t.flat.length) (t.tru os nums)) := by
  intro N
  induction N with
  | zero => intro t htl; have := flat_pos t; omega
  | succ N ih =>
    intro t htl hok hba pre post W he hI
    have hL := hs.1
    have hfl := flat_node t
    have hpn : pre.length < n := by rw [← hL, he, hfl]; simp <;> omega
    have hget : ns.getD pre.length zNd = t.node := by rw [he, hfl]; simp [List.getD]
    have hsv : (ns.map (holdB os nums)).getD pre.length false = holdB os nums t.node := by rw [← hget]; simp [List.getD, show pre.length < ns.length by omega]
    have hI1 := joI_set hI (pre.length + 1)
    obtain ⟨c0, f0⟩ := jbx1 hI.2.2.1
    have hpi : (pre.length : Int) < (n : Int) := by omega
    generalize hW1 : W.setCell ⟨w0.heap.size + 1 + 1, 0, none⟩ (.int .i64 ((pre.length + 1 : Nat) : Int)) = W1 at hI1
    obtain ⟨bb, oo, a', c', ha, x0, -⟩ := slF_cell (slF_below hs hI1.2.2.2.2) pre.length hpn
    subst ha
    rw [hget] at x0
    obtain ⟨d0, -⟩ := jbx1 hI1.1
    obtain ⟨d1, -⟩ := jbx1 hI1.2.1
    obtain ⟨d3, -⟩ := jbx1 hI1.2.2.2.1
    unfold nextV at d3
    rw [show ((pre.length + 1 : Nat) : Int) = (pre.length : Int) + 1 by omega] at hW1
    have HI1 := hide hI1
    cases t with
    | at0 nd =>
      obtain ⟨bs, os_, hae, y0⟩ := slB_cell (slB_below hS hI1.2.2.2.2) pre.length hpn
      subst hae
      rw [hsv] at y0
      have hp0 := hok.2
      have e5 : (nd.op == 5) = false := by simp; intro h; rw [h] at hp0; simp [partsN] at hp0
      have e6 : (nd.op == 6) = false := by simp; intro h; rw [h] at hp0; simp [partsN] at hp0
      have e7 : (nd.op == 7) = false := by simp; intro h; rw [h] at hp0; simp [partsN] at hp0
      simp only [Fm.node] at x0 y0
      have HT : Hid ((Fm.at0 nd).tru os nums = holdB os nums nd) := rfl
      have HP : Hid (pre.length + (Fm.at0 nd).flat.length = pre.length + 1) := rfl
      clear hs hS hok hba hfl hget he ih htl hL hI hI1 hsv hp0
      generalize (Fm.at0 nd).tru os nums = T at HT ⊢
      generalize pre.length + (Fm.at0 nd).flat.length = pe at HP ⊢
      generalize holdB os nums nd = hv at HT y0
      generalize pre.length = p at *
      go_enter Try.func58, Try.ntmps58
      go_wp2
      go_ret
      exact ⟨by rw [HT.out]; rfl, by rw [HP.out]; exact HI1.out⟩
    | un nd f =>
      obtain ⟨hnd, hp1, hfo⟩ := hok
      obtain ⟨hb8, hfb⟩ := hba
      have h5 : nd.op = 5 := by
        unfold partsN at hp1
        by_cases q : nd.op = 5 ∨ nd.op = 8 ∨ nd.op = 9
        · omega
        · rw [if_neg q] at hp1
          split at hp1 <;> omega
      have e5 : (nd.op == 5) = true := by simp [h5]
      have HT : Hid ((Fm.un nd f).tru os nums = !f.tru os nums) := rfl
      have HP : Hid (pre.length + (Fm.un nd f).flat.length = pre.length + 1 + f.flat.length) := by show _ = _; simp [Fm.flat]; omega
      have HC := hide (ih f (by simp [Fm.flat] at htl; omega) hfo hfb (pre ++ [nd]) post W1 (by rw [he]; simp [Fm.flat]) (by rw [show (pre ++ [nd]).length = pre.length + 1 by simp]; exact HI1.out))
      rw [show (pre ++ [nd]).length = pre.length + 1 by simp] at HC
      simp only [Fm.node] at x0
      clear hs hS hfo hfb hfl hget he ih htl hL hI hI1 hsv hp1 hb8 h5 hnd
      generalize (Fm.un nd f).tru os nums = T at HT ⊢
      generalize pre.length + (Fm.un nd f).flat.length = pe at HP ⊢
      generalize f.tru os nums = tv at HT HC
      generalize f.flat.length = fl at HP HC
      generalize pre.length = p at *
      go_enter Try.func58, Try.ntmps58
      go_wp2_with fail
      refine HC.out.mono ?_
      rintro e w2 ⟨rfl, hI2⟩
      have HI2 := hide hI2
      clear hI2 hW1 d0 d1 d3 x0 c0 f0
      go_wp2
      go_ret
      exact ⟨by rw [HT.out]; rfl, by rw [HP.out]; exact HI2.out⟩
    | bin nd f g =>
      obtain ⟨hnd, hp1, hfo, hgo⟩ := hok
      obtain ⟨hb8, hfb, hgb⟩ := hba
      have h67 : nd.op = 6 ∨ nd.op = 7 := by
        unfold partsN at hp1
        by_cases q : nd.op = 5 ∨ nd.op = 8 ∨ nd.op = 9
        · rw [if_pos q] at hp1; omega
        · rw [if_neg q] at hp1
          split at hp1 <;> omega
      have e5 : (nd.op == 5) = false := by simp; omega
      have HT : Hid ((Fm.bin nd f g).tru os nums = if nd.op = 6 then f.tru os nums && g.tru os nums else f.tru os nums || g.tru os nums) := rfl
      have HP : Hid (pre.length + (Fm.bin nd f g).flat.length = pre.length + 1 + f.flat.length + g.flat.length) := by show _ = _; simp [Fm.flat]; omega
      have HC := hide (ih f (by simp [Fm.flat] at htl; omega) hfo hfb (pre ++ [nd]) (g.flat ++ post) W1.drew (by rw [he]; simp [Fm.flat]) (by rw [show (pre ++ [nd]).length = pre.length + 1 by simp]; exact joI_drew HI1.out))
      rw [show (pre ++ [nd]).length = pre.length + 1 by simp] at HC
      have HC2 := hide (fun (W : World) (h : JoI w0 (some ⟨bb, oo, none⟩) n cap a2 cap2 W (pre.length + 1 + f.flat.length)) => ih g (by simp [Fm.flat] at htl; omega) hgo hgb (pre ++ (nd :: f.flat)) post W (by rw [he]; simp [Fm.flat]) (by rw [show (pre ++ (nd :: f.flat)).length = pre.length + 1 + f.flat.length by simp; omega]; exact h))
      rw [show (pre ++ (nd :: f.flat)).length = pre.length + 1 + f.flat.length by simp; omega] at HC2
      have HXF : Hid (∀ (W : World) (q : Nat), JoI w0 (some ⟨bb, oo, none⟩) n cap a2 cap2 W q → W.cell? ⟨w0.heap.size, 0, none⟩ = some (.slice (some ⟨bb, oo, none⟩) n cap) ∧ W.cell? ⟨bb, oo + pre.length * 7, none⟩ = some (.int .i64 nd.op) ∧ W.cell? ⟨w0.heap.size + 1 + 1 + 1, 0, none⟩ = some (.func (.func 58) #[] #[.pointer (some ⟨w0.heap.size + 1 + 1, 0, none⟩), .pointer (some ⟨w0.heap.size, 0, none⟩), .pointer (some ⟨w0.heap.size + 1 + 1 + 1, 0, none⟩), .pointer (some ⟨w0.heap.size + 1, 0, none⟩)])) := fun W q h => by
        obtain ⟨b', o', a'', c'', ea, v0, -⟩ := slF_cell (slF_below hs h.2.2.2.2) pre.length hpn
        cases ea
        rw [hget] at v0
        exact ⟨(jbx1 h.1).1, v0, (jbx1 h.2.2.2.1).1⟩
      simp only [Fm.node] at x0
      clear hs hS hfo hfb hgo hgb hfl hget he ih htl hL hI hI1 hsv hp1 hb8 hnd
      generalize (Fm.bin nd f g).tru os nums = T at HT ⊢
      generalize pre.length + (Fm.bin nd f g).flat.length = pe at HP ⊢
      generalize f.tru os nums = tv at HT HC
      generalize g.tru os nums = tw at HT HC2
      generalize f.flat.length = fl at HP HC HC2
      generalize g.flat.length = gl at HP HC2
      generalize pre.length = p at *
      have e67 : (nd.op == 6) = true ∨ ((nd.op == 6) = false ∧ (nd.op == 7) = true) := by
        rcases h67 with h | h
        · exact .inl (by simp [h])
        · exact .inr ⟨by simp [h], by simp [h]⟩
      go_enter Try.func58, Try.ntmps58
      rcases e67 with e6 | ⟨e6, e7⟩
      · have HT6 : Hid (T = (tv && tw)) := by show _ = _; rw [HT.out, if_pos (by simpa using e6)]
        clear h67 HT
        go_wp2_with fail
        go_region_with (first
          | (go_at_call 58; refine HC.out.mono ?_; rintro e w2 ⟨rfl, hI2⟩; have HI2 := hide hI2; obtain ⟨k0, k1, k3⟩ := HXF.out w2 _ hI2; clear hI2)
          | (go_at_call 58; refine (HC2.out _ HI2.out).mono ?_; rintro e w3 ⟨rfl, hI3⟩; have HI3 := hide hI3; obtain ⟨l0, l1, l3⟩ := HXF.out w3 _ hI3; clear hI3))
        all_goals
          cases tv
          all_goals
            go_wp2
            go_ret
            exact ⟨by rw [HT6.out]; rfl, by rw [HP.out]; exact HI3.out⟩
      · have HT6 : Hid (T = (tv || tw)) := by show _ = _; rw [HT.out, if_neg (by simpa using e6)]
        clear h67 HT
        go_wp2_with fail
        go_region_with (first
          | (go_at_call 58; refine HC.out.mono ?_; rintro e w2 ⟨rfl, hI2⟩; have HI2 := hide hI2; obtain ⟨k0, k1, k3⟩ := HXF.out w2 _ hI2; clear hI2)
          | (go_at_call 58; refine (HC2.out _ HI2.out).mono ?_; rintro e w3 ⟨rfl, hI3⟩; have HI3 := hide hI3; obtain ⟨l0, l1, l3⟩ := HXF.out w3 _ hI3; clear hI3))
        all_goals
          cases tv
          all_goals
            go_wp2
            go_ret
            exact ⟨by rw [HT6.out]; rfl, by rw [HP.out]; exact HI3.out⟩
end Go.Proofs.Ytgbmemkoggogdaa

/- Package formula: join: contract. -/
namespace Go.Proofs.Ytgbmemkoggogdaa
open Go.RowKit

set_option maxHeartbeats 4000000 in
set_option maxRecDepth 4000 in
theorem join_any (a : Option Addr) (n cap : Nat) (ns : List Nd) (a2 : Option Addr) (cap2 : Nat) (os : List Om) (nums : List Int) (w : World) (hs : SlF w a n ns) (hS : SlB w a2 n (ns.map (holdB os nums))) (hn : n ≤ 40) (t : Fm) (hok : t.ok) (hba : t.bare) (he : ns = t.flat) : Calls Try.prog 36 #[.slice a n cap, .slice a2 n cap2] w fun e w' => e = .returned (.bool (t.tru os nums)) ∧ Below w.heap.size w w' := by
  have HNX : Hid (∀ W, JoI w a n cap a2 cap2 W 0 → Calls Try.prog 58 #[.pointer (some ⟨w.heap.size + 1 + 1, 0, none⟩), .pointer (some ⟨w.heap.size, 0, none⟩), .pointer (some ⟨w.heap.size + 1 + 1 + 1, 0, none⟩), .pointer (some ⟨w.heap.size + 1, 0, none⟩)] W (JoinR w a n cap a2 cap2 (0 + t.flat.length) (t.tru os nums))) := fun W h => next_any a n cap ns a2 cap2 os nums w hs hS hn t.flat.length t (Nat.le_refl _) hok hba [] [] W (by simp [he]) h
  clear hs hS hok hba he
  generalize t.tru os nums = T at HNX ⊢
  have h4 : ((((w.alloc (.cells #[.slice a n cap] 41)).alloc (.cells #[.slice a2 n cap2] 30)).alloc (.cells #[.int .i64 0] 3)).alloc (.cells #[.nilFunc] 99)).heap[w.heap.size + 1 + 1 + 1]? = some (.cells #[.nilFunc] 99 (0, 0)) := (alloc4 w _ _ _ _).2.2.2
  have HW : Hid (JoI w a n cap a2 cap2 (((((w.alloc (.cells #[.slice a n cap] 41)).alloc (.cells #[.slice a2 n cap2] 30)).alloc (.cells #[.int .i64 0] 3)).alloc (.cells #[.nilFunc] 99)).setCell ⟨w.heap.size + 1 + 1 + 1, 0, none⟩ (nextV w.heap.size)) 0) := by
    refine ⟨?_, ?_, ?_, ?_, ?_⟩
    · rw [Below.heap_setCell _ _ _ _ (show w.heap.size ≠ w.heap.size + 1 + 1 + 1 by omega)]
      exact (alloc4 w _ _ _ _).1
    · rw [Below.heap_setCell _ _ _ _ (show w.heap.size + 1 ≠ w.heap.size + 1 + 1 + 1 by omega)]
      exact (alloc4 w _ _ _ _).2.1
    · rw [Below.heap_setCell _ _ _ _ (show w.heap.size + 1 + 1 ≠ w.heap.size + 1 + 1 + 1 by omega)]
      exact (alloc4 w _ _ _ _).2.2.1
    · exact heap_setCell_at (k := 0) (v := nextV w.heap.size) h4
    · exact ((((((Below.refl _ _).alloc (Nat.le_refl _) _).alloc (by simp) _).alloc (by simp; omega) _).alloc (by simp; omega) _).setCell (show w.heap.size ≤ w.heap.size + 1 + 1 + 1 by omega) _)
  generalize hW4 : (((w.alloc (.cells #[.slice a n cap] 41)).alloc (.cells #[.slice a2 n cap2] 30)).alloc (.cells #[.int .i64 0] 3)).alloc (.cells #[.nilFunc] 99) = W4 at h4 HW
  obtain ⟨hc, hf⟩ := jbx1 h4
  unfold nextV at HW
  generalize hW5 : W4.setCell ⟨w.heap.size + 1 + 1 + 1, 0, none⟩ (.func (.func 58) #[] #[.pointer (some ⟨w.heap.size + 1 + 1, 0, none⟩), .pointer (some ⟨w.heap.size, 0, none⟩), .pointer (some ⟨w.heap.size + 1 + 1 + 1, 0, none⟩), .pointer (some ⟨w.heap.size + 1, 0, none⟩)]) = W5 at HW
  have hl := (jbx1 HW.out.2.2.2.1).1
  unfold nextV at hl
  clear h4
  go_enter Try.func36, Try.ntmps36
  go_wp2_with fail
  clear hW4 hc hf hl
  refine (HNX.out W5 HW.out).mono ?_
  rintro e w6 ⟨rfl, hI6⟩
  have HB6 := hide hI6.2.2.2.2
  clear hW5 HW hI6
  go_wp2
  go_ret
  exact ⟨rfl, HB6.out⟩
end Go.Proofs.Ytgbmemkoggogdaa

/- Package formula: checkNums: contract. -/
namespace Go.Proofs.Ytgbmemkoggogdaa
open Go.RowKit

def nmC (t : Fm) (nums : List Int) : Int := if shortB t nums.length = true then 2 else if numOk nums = true then 0 else 1
theorem short_yes {t : Fm} {m k : Nat} (hk : k < 5) (hf : t.fre ((k : Nat) : Int) = true) (hm : m ≤ k) : shortB t m = true := by
  unfold shortB
  rw [List.any_eq_true]
  refine ⟨(k : Int), ?_, decide_eq_true (by omega)⟩
  unfold freL
  rw [List.mem_filter]
  refine ⟨?_, hf⟩
  match k, hk with
  | 0, _ => simp
  | 1, _ => simp
  | 2, _ => simp
  | 3, _ => simp
  | 4, _ => simp
theorem short_no {t : Fm} {m : Nat} (h : ∀ k : Nat, k < 5 → t.fre ((k : Nat) : Int) = true → k < m) : shortB t m = false := by
  unfold shortB
  rw [List.any_eq_false]
  intro v hv
  unfold freL at hv
  rw [List.mem_filter] at hv
  obtain ⟨h1, h2⟩ := hv
  have h3 : 0 ≤ v ∧ v < 5 := by simp at h1; omega
  obtain ⟨q, rfl⟩ : ∃ q : Nat, v = (q : Int) := ⟨v.toNat, by omega⟩
  have := h q (by omega) h2
  simp
  omega
theorem numOk_no {nums : List Int} {k : Nat} (hk : k < nums.length) (h : ¬ (0 ≤ nums.getD k 0 ∧ nums.getD k 0 ≤ 1099511627776)) : numOk nums = false := by
  unfold numOk
  rw [List.all_eq_false]
  refine ⟨nums.getD k 0, by simp [List.getD, hk], fun h' => h (of_decide_eq_true h')⟩
theorem numOk_yes {nums : List Int} (h : ∀ k, k < nums.length → 0 ≤ nums.getD k 0 ∧ nums.getD k 0 ≤ 1099511627776) : numOk nums = true := by
  unfold numOk
  rw [List.all_eq_true]
  intro x hx
  obtain ⟨k, hk, rfl⟩ := List.getElem_of_mem hx
  have := h k hk
  simp only [List.getD, List.getElem?_eq_getElem hk, Option.getD_some] at this
  exact decide_eq_true this
set_option maxHeartbeats 4000000 in
set_option maxRecDepth 4000 in
theorem checkNums_any (a : Option Addr) (n cap : Nat) (ns : List Nd) (a2 : Option Addr) (m cap2 : Nat) (nums : List Int) (w : World) (hs : SlF w a n ns) (h2 : Sl w a2 m nums) (hn : n ≤ 40) (t : Fm) (hok : t.ok) (he : ns = t.flat) : Calls Try.prog 34 #[.slice a n cap, .slice a2 m cap2] w fun e w' => e = .returned (errV (nmC t nums)) ∧ Below w.heap.size w w' := by
  have hL := h2.1
  have hmx := h2.2.1
  unfold maxLen at hmx
  have HFO := hide (freeOf_dev a n cap ns w hs hn t hok he)
  have HGT := hide (fun k (h : k < 5) => freB_get t h)
  have HS2 := hide h2
  have HSY : Hid (∀ k, k < 5 → t.fre ((k : Nat) : Int) = true → m ≤ k → nmC t nums = 2) := fun k hk hf hm => by unfold nmC; rw [if_pos (short_yes hk hf (by omega))]
  have HSN : Hid ((∀ k : Nat, k < 5 → t.fre ((k : Nat) : Int) = true → k < m) → (∀ k, k < m → ¬ (0 ≤ nums.getD k 0 ∧ nums.getD k 0 ≤ 1099511627776) → nmC t nums = 1) ∧ ((∀ k, k < m → 0 ≤ nums.getD k 0 ∧ nums.getD k 0 ≤ 1099511627776) → nmC t nums = 0)) := fun h => by
    have e : shortB t nums.length = false := short_no (by rw [hL]; exact h)
    unfold nmC
    rw [e, if_neg (by decide)]
    refine ⟨fun k hk hq => ?_, fun hq => ?_⟩
    · rw [numOk_no (by omega) hq, if_neg (by decide)]
    · rw [numOk_yes (by rw [hL]; exact hq), if_pos rfl]
  clear hs h2 hok he hL
  generalize nmC t nums = R at HSY HSN ⊢
  unfold FreeR at HFO
  generalize bArr (freB t) = FA at HGT HFO
  go_enter Try.func34, Try.ntmps34
  go_wp2_with fail
  refine HFO.out.mono ?_
  rintro e w1 ⟨rfl, hb1⟩
  have HB1 := hide hb1
  clear hb1
  go_wp2
  go_loop [11] (fun kv => ∃ k : Nat, k ≤ 5 ∧ kv = .int .i64 k ∧ ∀ j : Nat, j < k → t.fre ((j : Nat) : Int) = true → j < m) (fun kv => 5 - (intOf kv).toNat)
  case atStart => exact ⟨0, by omega, rfl, fun j hj => by omega⟩
  case round =>
    obtain ⟨k, hk, rfl, hz⟩ := hrel
    have HZ := hide hz
    clear hz
    by_cases hlt : k < 5
    · have hlti : (k : Int) < 5 := by omega
      have hix := index58 FA k hlt _ (HGT.out k hlt)
      have HY := hide (HSY.out k hlt)
      have HNX : Hid ((t.fre ((k : Nat) : Int) = true → k < m) → ∀ j : Nat, j < k + 1 → t.fre ((j : Nat) : Int) = true → j < m) := fun h j hj hq => by
        by_cases e : j = k
        · subst e; exact h hq
        · exact HZ.out j (by omega) hq
      generalize t.fre ((k : Nat) : Int) = q at hix HY HNX
      cases q with
      | true =>
        by_cases hm : (k : Int) ≥ (m : Int)
        · have HR := hide (HY.out rfl (by omega))
          clear HY HNX
          go_wp2
          go_ret
          exact ⟨by rw [HR.out]; rfl, HB1.out⟩
        · have HN := hide (HNX.out (fun _ => by omega))
          clear HY HNX
          go_wp2
          exact ⟨⟨k + 1, by omega, by go_num, HN.out⟩, by simp [intOf]; omega⟩
      | false =>
        have HN := hide (HNX.out (fun h => by cases h))
        clear HY HNX
        go_wp2
        exact ⟨⟨k + 1, by omega, by go_num, HN.out⟩, by simp [intOf]; omega⟩
    · have hlti : ¬ (k : Int) < 5 := by omega
      obtain rfl : k = 5 := by omega
      obtain ⟨hr1, hr0⟩ := HSN.out HZ.out
      have HR1 := hide hr1
      have HR0 := hide hr0
      clear hr1 hr0 HSN HSY HZ
      go_wp2
      go_loop [26] (fun jv => ∃ j : Nat, j ≤ m ∧ jv = .int .i64 j ∧ ∀ i, i < j → 0 ≤ nums.getD i 0 ∧ nums.getD i 0 ≤ 1099511627776) (fun jv => m - (intOf jv).toNat)
      case atStart => exact ⟨0, by omega, rfl, fun j hj => by omega⟩
      case round =>
        obtain ⟨j, hj, rfl, hz⟩ := hrel
        have HZ := hide hz
        clear hz
        by_cases hlt2 : j < m
        · have hlti2 : (j : Int) < (m : Int) := by omega
          obtain ⟨bo, oo, rfl, hc⟩ := sl_cell (sl_below HS2.out HB1.out) j hlt2
          have HR1j := hide (HR1.out j hlt2)
          have HNX : Hid (0 ≤ nums.getD j 0 ∧ nums.getD j 0 ≤ 1099511627776 → ∀ i, i < j + 1 → 0 ≤ nums.getD i 0 ∧ nums.getD i 0 ≤ 1099511627776) := fun h i hi => by
            by_cases e : i = j
            · subst e; exact h
            · exact HZ.out i (by omega)
          generalize nums.getD j 0 = z at hc HR1j HNX
          by_cases q1 : z < 0
          · have HR := hide (HR1j.out (by omega))
            clear HR1j HNX
            go_wp2
            go_ret
            exact ⟨by rw [HR.out]; rfl, HB1.out⟩
          · by_cases q2 : z > 1099511627776
            · have HR := hide (HR1j.out (by omega))
              clear HR1j HNX
              go_wp2
              go_ret
              exact ⟨by rw [HR.out]; rfl, HB1.out⟩
            · have HN := hide (HNX.out (by omega))
              clear HR1j HNX
              go_wp2
              exact ⟨⟨j + 1, by omega, by go_num, HN.out⟩, by simp [intOf]; omega⟩
        · have hlti2 : ¬ (j : Int) < (m : Int) := by omega
          obtain rfl : j = m := by omega
          have HR := hide (HR0.out HZ.out)
          clear HR0 HR1 HZ
          go_wp2
          go_ret
          exact ⟨by rw [HR.out]; rfl, HB1.out⟩
end Go.Proofs.Ytgbmemkoggogdaa

/- Package formula: checkNames: contract. -/
namespace Go.Proofs.Ytgbmemkoggogdaa
open Go.RowKit

def ntB (tl : List Int) (k v : Nat) : Bool := decide (∃ j, j < k ∧ tl.getD j 0 = ((v : Nat) : Int))
theorem ntB_zero (tl : List Int) (v : Nat) : ntB tl 0 v = false := decide_eq_false (fun ⟨_, h, _⟩ => by omega)
theorem ntB_succ {tl : List Int} {k q : Nat} (hq : tl.getD k 0 = ((q : Nat) : Int)) (v : Nat) : ntB tl (k + 1) v = if v = q then true else ntB tl k v := by
  unfold ntB
  by_cases e : v = q
  · rw [if_pos e]
    exact decide_eq_true ⟨k, by omega, by rw [hq, e]⟩
  · rw [if_neg e]
    refine decide_eq_decide.2 ⟨fun ⟨j, h1, h2⟩ => ?_, fun ⟨j, h1, h2⟩ => ⟨j, by omega, h2⟩⟩
    by_cases ej : j = k
    · subst ej; rw [hq] at h2; omega
    · exact ⟨j, by omega, h2⟩
theorem nameC_range {tl : List Int} {k : Nat} (h : ¬ (0 ≤ tl.getD k 0 ∧ tl.getD k 0 < 5)) : nameC tl k = 1 := by unfold nameC; rw [if_neg h]
theorem nameC_tk {tl : List Int} {k q : Nat} (hq : tl.getD k 0 = ((q : Nat) : Int)) (h5 : q < 5) : nameC tl k = if ntB tl k q = true then 6 else 0 := by
  unfold nameC ntB
  rw [if_pos (by omega), hq]
  by_cases e : ∃ j, j < k ∧ tl.getD j 0 = ((q : Nat) : Int)
  · rw [if_pos e, if_pos (decide_eq_true e)]
  · rw [if_neg e, if_neg (by simpa using e)]
theorem namesC_pre {tl : List Int} (h5 : tl.length = 5) {k : Nat} (hk : k < 5) (h : ∀ j, j < k → nameC tl j = 0) (hc : nameC tl k ≠ 0) : namesC tl = nameC tl k := by
  have hg : ∀ j, j < 5 → ((List.range 5).map (nameC tl)).getD j 0 = nameC tl j := fun j hj => by simp [List.getD, hj]
  unfold namesC
  rw [if_pos h5, firstC_pre _ k (fun j hj => by rw [hg j (by omega)]; exact h j hj) (by simpa using hk) (by rw [hg k hk]; exact hc), hg k hk]
theorem namesC_all {tl : List Int} (h5 : tl.length = 5) (h : ∀ j, j < 5 → nameC tl j = 0) : namesC tl = 0 := by
  unfold namesC
  rw [if_pos h5]
  exact firstC_all _ (fun j hj => by
    have : j < 5 := by simpa using hj
    have hg : ((List.range 5).map (nameC tl)).getD j 0 = nameC tl j := by simp [List.getD, this]
    rw [hg]; exact h j this)
set_option maxHeartbeats 4000000 in
set_option maxRecDepth 4000 in
theorem checkNames_any (a : Option Addr) (n cap : Nat) (tl : List Int) (w : World) (hs : Sl w a n tl) : Calls Try.prog 29 #[.slice a n cap] w fun e w' => e = .returned (errV (namesC tl)) ∧ Below w.heap.size w w' := by
  have hL := hs.1
  have hmx := hs.2.1
  unfold maxLen at hmx
  by_cases h5 : n = 5
  · subst h5
    have HS := hide hs
    have HPR := hide (fun k (hk : k < 5) h hc => @namesC_pre tl hL k hk h hc)
    have HAL := hide (fun h => @namesC_all tl hL h)
    have hB1 := (Below.refl w.heap.size w).alloc (Nat.le_refl _) z5O
    have HBL := hide hB1
    have HB0 : Hid (BoAt (w.alloc z5O) w.heap.size (fL (ntB tl 0))) := by
      show BoAt _ _ _
      rw [fL_congr (g := ntB tl 0) (h := fun _ => false) (fun v _ => ntB_zero tl v)]
      exact heap_alloc_last w z5O
    clear hs hL hB1
    generalize namesC tl = R at HPR HAL ⊢
    go_enter Try.func29, Try.ntmps29
    go_wp2
    generalize w.alloc z5O = W1 at HBL HB0 ⊢
    go_loopw [12] (fun kv wx => ∃ k : Nat, k ≤ 5 ∧ kv = .int .i64 k ∧ (∀ j, j < k → nameC tl j = 0) ∧ BoAt wx w.heap.size (fL (ntB tl k)) ∧ Below w.heap.size w wx) (fun kv _ => 5 - (intOf kv).toNat)
    case atStart => exact ⟨0, by omega, rfl, fun j hj => by omega, HB0.out, HBL.out⟩
    case round =>
      obtain ⟨k, hk, rfl, hz, hB, hb⟩ := hrel
      have HZ := hide hz
      have HB := hide hB
      have HBW := hide hb
      clear hz hb
      by_cases hlt : k < 5
      · have hlti : (k : Int) < 5 := by omega
        obtain ⟨bo, oo, rfl, hc⟩ := sl_cell (sl_below HS.out HBW.out) k hlt
        have HIV := hide (fun W => isVar_any (tl.getD k 0) W)
        have HP := hide (HPR.out k hlt HZ.out)
        by_cases hr : 0 ≤ tl.getD k 0 ∧ tl.getD k 0 < 5
        · rw [decide_eq_true hr] at HIV
          obtain ⟨q, hq⟩ : ∃ q : Nat, tl.getD k 0 = ((q : Nat) : Int) := ⟨(tl.getD k 0).toNat, by omega⟩
          have hq5 : q < 5 := by omega
          have hq5i : (q : Int) < 5 := by omega
          have HNC := hide (nameC_tk hq hq5)
          have HTS := hide (fun v => ntB_succ hq v)
          obtain ⟨hd, hf⟩ := bo_cell hB (k := q) hq5
          rw [fL_get _ hq5] at hd
          rw [hq] at hc HIV
          clear hr hB
          cases htk : ntB tl k q with
          | true =>
            have hnc := HNC.out
            rw [htk, if_pos rfl] at hnc
            have hrz := HP.out (by rw [hnc]; decide)
            rw [hnc] at hrz
            have HRZ := hide hrz
            rw [htk] at hd
            clear htk hnc hrz hq HP HNC HTS
            go_wp2_with (go_at_call 54; refine (HIV.out _).mono ?_; rintro e w' ⟨rfl, hw'⟩; rw [hw']; clear hw' w')
            go_ret
            exact ⟨by rw [HRZ.out]; rfl, HBW.out⟩
          | false =>
            have hnc := HNC.out
            rw [htk, if_neg (by decide)] at hnc
            have HNZ : Hid (∀ j, j < k + 1 → nameC tl j = 0) := fun j hj => by
              by_cases e : j = k
              · subst e; exact hnc
              · exact HZ.out j (by omega)
            rw [htk] at hd
            clear htk hnc hq HP HNC
            go_wp2_with (go_at_call 54; refine (HIV.out _).mono ?_; rintro e w' ⟨rfl, hw'⟩; rw [hw']; clear hw' w')
            go_roundw
            case rel =>
              refine ⟨k + 1, by omega, by go_num, HNZ.out, ?_, HBW.out.setCell (Nat.le_refl _) _⟩
              rw [fL_congr (fun v _ => HTS.out v), ← fL_set _ hq5]
              exact bo_set HB.out q true
            case measure => simp [intOf]; omega
        · rw [decide_eq_false hr] at HIV
          have hnc := nameC_range hr
          have hrz := HP.out (by rw [hnc]; decide)
          rw [hnc] at hrz
          have HRZ := hide hrz
          clear hr hnc hrz HP hB
          generalize tl.getD k 0 = z at hc HIV
          go_wp2_with (go_at_call 54; refine (HIV.out _).mono ?_; rintro e w' ⟨rfl, hw'⟩; rw [hw']; clear hw' w')
          go_ret
          exact ⟨by rw [HRZ.out]; rfl, HBW.out⟩
      · have hlti : ¬ (k : Int) < 5 := by omega
        obtain rfl : k = 5 := by omega
        have HRZ := hide (HAL.out HZ.out)
        clear HZ hB
        go_wp2
        go_ret
        exact ⟨by rw [HRZ.out]; rfl, HBW.out⟩
  · have e : namesC tl = 2 := by unfold namesC; rw [if_neg (by omega)]
    rw [e]
    have h5b : ((n : Int) == 5) = false := by simp; omega
    have h5n : ((n : Int) != 5) = true := by simp; omega
    clear hs hL e h5
    go_enter Try.func29, Try.ntmps29
    go_wp2
    go_ret
    exact ⟨rfl, Below.refl _ _⟩
end Go.Proofs.Ytgbmemkoggogdaa

/- Package formula: Trim: coefficients without 0s at their end: contract. -/
namespace Go.Proofs.Ytgbmemkoggogdaa
open Go.RowKit

theorem lastN_step {l : List Int} {k : Nat} (h : l.getD k 0 = 0) : lastN l (k + 1) = lastN l k := by
  show (if l.getD k 0 = 0 then lastN l k else k + 1) = _
  rw [if_pos h]
theorem lastN_stop {l : List Int} {k : Nat} (h : l.getD k 0 ≠ 0) : lastN l (k + 1) = k + 1 := by
  show (if l.getD k 0 = 0 then lastN l k else k + 1) = _
  rw [if_neg h]
theorem gives_trim {w w3 : World} {l : List Int} {n k : Nat} {v : Value} (hL : l.length = n) (hk : k ≤ n) (hn : n ≤ 1000) (hwf : ∀ x ∈ l, (Lit.int .i64 x).wf = true) (hE : trimL l = l.take k)
    (hown : w3.ownsRow w.heap.size 3 1 v (0 + k) ([] ++ (l.take k).map (Value.int .i64))) (hg : w.grownBy w3 none) : GivesRow w (trimL l) (.returned v) w3 := by
  have hl : (l.take k).length = k := by rw [List.length_take]; omega
  rw [Nat.zero_add, List.nil_append] at hown
  obtain ⟨a, cap, rfl, hs⟩ := sl_of_owns (l := l.take k) hl (by unfold maxLen; omega) (fun x hx => hwf x (List.mem_of_mem_take hx)) hown
  refine ⟨a, cap, by rw [hE, hl], by rw [hE, hl]; exact hs, ?_⟩
  exact Below.grown (Below.refl _ _) hg (Nat.le_refl _) (fun k h => by cases h)
set_option maxHeartbeats 4000000 in
set_option maxRecDepth 4000 in
theorem trim_any (B o n c : Nat) (l : List Int) (w : World) (hs : Sl w (some ⟨B, o, none⟩) n l) (hc : n ≤ c) (hn : n ≤ 1000) : Calls Try.prog 55 #[.slice (some ⟨B, o, none⟩) n c] w (GivesRow w (trimL l)) := by
  obtain ⟨i0, hi, hz0, hz1, hz2⟩ := info_parts info3
  obtain ⟨hL, -, hw, hcl⟩ := hs
  have HCE : Hid (∀ i, i < n → w.cell? ⟨B, o + i, none⟩ = some (.int .i64 (l.getD i 0))) := by
    intro i hi
    rcases hcl with h | ⟨b', o', e, h⟩
    · omega
    · cases e; exact h i hi
  have HWF := hide hw
  have HST := hide (fun k => @lastN_step l k)
  have HSP := hide (fun k => @lastN_stop l k)
  have HTL : Hid (trimL l = l.take (lastN l n)) := by show _ = _; unfold trimL; rw [hL]
  have HLL := hide hL
  have HC := hide hc
  have HN := hide hn
  clear hw hL hc hn hcl
  go_enter Try.func55, Try.ntmps55
  go_wp2
  go_loop [3] (fun kv => ∃ k : Nat, k ≤ n ∧ kv = .int .i64 k ∧ lastN l n = lastN l k) (fun kv => (intOf kv).toNat)
  case atStart => exact ⟨n, Nat.le_refl _, rfl, rfl⟩
  case round =>
    obtain ⟨k, hk, rfl, hz⟩ := hrel
    have HZ := hide hz
    have HK := hide hk
    clear hz
    have HLen : Hid (((l.take k).map (Value.int .i64)).length = k * 1) := by show _ = _; simp [HLL.out]; omega
    have HCell : Hid (∀ j u, ((l.take k).map (Value.int .i64))[j]? = some u → w.cell? ((⟨B, o, none⟩ : Addr).add j) = some u) := by
      intro j u hu
      have hj : j < k := by
        have h1 := (List.getElem?_eq_some_iff.1 hu).1
        have h2 := HLen.out
        omega
      have hadd : (⟨B, o, none⟩ : Addr).add j = ⟨B, o + j, none⟩ := by unfold Addr.add; split <;> simp_all
      have hjl : j < l.length := by rw [HLL.out]; omega
      rw [hadd, HCE.out j (by omega), ← hu]
      simp [hj, hjl, List.getD]
    have HOne : Hid (∀ u ∈ (l.take k).map (Value.int .i64), u.oneCell' = true) := by
      intro u hu
      simp only [List.mem_map] at hu
      obtain ⟨x, _, rfl⟩ := hu
      rfl
    have hkc : (k : Int) ≤ (c : Int) := by have := HC.out; omega
    by_cases h0 : k = 0
    · subst h0
      have HE : Hid (trimL l = l.take 0) := by show _ = _; rw [HTL.out, HZ.out]; rfl
      go_wp2_with (at_builtin; refine wpList_append_own _ rfl _ _ 23 rfl w.heap.size 3 i0 (.int .i64 0) 1 8 Try.underlying23 hi hz0 hz1 hz2 rfl (by decide) _ _ _ rfl (World.ownsRow_nil _ _ _ _) ⟨B, o, none⟩ 0 c ((l.take 0).map (Value.int .i64)) rfl HLen.out HCell.out HOne.out (by unfold maxLen; omega) (by omega) (Nat.le_refl _) ?_; intro v' w3 hown hgrow hni)
      go_ret
      exact gives_trim HLL.out HK.out HN.out HWF.out HE.out hown hgrow
    · obtain ⟨j, rfl⟩ : ∃ j, k = j + 1 := ⟨k - 1, by omega⟩
      have hj0 : ((j + 1 : Nat) : Int) > 0 := by omega
      have hjn : (j : Int) < (n : Int) := by omega
      have hj2 : (j : Int) < 1000 := by have := HN.out; omega
      have hjx : ((j + 1 : Nat) : Int) = (j : Int) + 1 := by omega
      have hce := HCE.out j (by omega)
      by_cases hz : l.getD j 0 = 0
      · have HZN : Hid (lastN l n = lastN l j) := by show _ = _; rw [HZ.out, HST.out j hz]
        rw [hz] at hce
        clear hz HLen HCell HOne
        go_wp2
        exact ⟨⟨j, by omega, by go_num, HZN.out⟩, by simp [intOf]⟩
      · have HE : Hid (trimL l = l.take (j + 1)) := by show _ = _; rw [HTL.out, HZ.out, HSP.out j hz]
        have ez : (l.getD j 0 == 0) = false := by simpa using hz
        generalize l.getD j 0 = z at hce ez
        clear hz
        go_wp2_with (at_builtin; refine wpList_append_own _ rfl _ _ 23 rfl w.heap.size 3 i0 (.int .i64 0) 1 8 Try.underlying23 hi hz0 hz1 hz2 rfl (by decide) _ _ _ rfl (World.ownsRow_nil _ _ _ _) ⟨B, o, none⟩ (j + 1) c ((l.take (j + 1)).map (Value.int .i64)) rfl HLen.out HCell.out HOne.out (by unfold maxLen; have := HN.out; have := HK.out; omega) (by have := HN.out; have := HK.out; omega) (Nat.le_refl _) ?_; intro v' w3 hown hgrow hni)
        go_ret
        exact gives_trim HLL.out HK.out HN.out HWF.out HE.out hown hgrow
/-- Of an array of five in a block. -/
theorem trim5 {W : World} {B : Nat} {T : TypeId} (m0 m1 m2 m3 m4 : Int) (h : W.heap[B]? = some (.cells (iArr [m0, m1, m2, m3, m4]) T (0, 0))) (hw : ∀ x ∈ [m0, m1, m2, m3, m4], (Lit.int .i64 x).wf = true) : Calls Try.prog 55 #[.slice (some ⟨B, 0, none⟩) 5 5] W (GivesRow W (trimL [m0, m1, m2, m3, m4])) :=
  trim_any B 0 5 5 _ W ⟨rfl, (by unfold maxLen; omega), hw, .inr ⟨B, 0, rfl, fun i hi => by rw [cell_of_row _ _ (0 + i) _ _ _ h, Nat.zero_add, iArr_get _ _ (by simpa using hi)]⟩⟩ (Nat.le_refl _) (by omega)
end Go.Proofs.Ytgbmemkoggogdaa

/- Package formula: rename: contract. -/
namespace Go.Proofs.Ytgbmemkoggogdaa
open Go.RowKit

theorem iArr_set (l : List Int) (k : Nat) (x : Int) : (iArr l).setIfInBounds k (.int .i64 x) = iArr (l.set k x) := by
  unfold iArr
  rw [List.setIfInBounds_toArray, List.map_set]
theorem slN_far {base : Nat} {W W' : World} {a : Option Addr} {len : Nat} {l : List Int} (h : SlN base W a len l) (hk : ∀ x, base ≤ x → W'.heap[x]? = W.heap[x]?) : SlN base W' a len l := by
  refine ⟨?_, h.2⟩
  obtain ⟨⟨h1, h2, h3, h4⟩, h5⟩ := h
  refine ⟨h1, h2, h3, ?_⟩
  rcases h4 with h4 | ⟨b, o, rfl, hc⟩
  · exact .inl h4
  · refine .inr ⟨b, o, rfl, fun i hi => ?_⟩
    rw [← hc i hi]
    simp only [World.cell?]
    rw [hk b (h5 _ rfl)]
theorem five_ints {l : List Int} (h : l.length = 5) : ∃ x0 x1 x2 x3 x4, l = [x0, x1, x2, x3, x4] := by
  match l, h with
  | [x0, x1, x2, x3, x4], _ => exact ⟨x0, x1, x2, x3, x4, rfl⟩
theorem movK_wf {tl cf : List Int} (hw : ∀ x ∈ cf, (Lit.int .i64 x).wf = true) (k : Nat) : ∀ x ∈ movK tl cf k, (Lit.int .i64 x).wf = true := by
  induction k with
  | zero => intro x hx; simp [movK, zer5] at hx; subst hx; rfl
  | succ k ih =>
    intro x hx
    rcases List.mem_or_eq_of_mem_set hx with hx | rfl
    · exact ih x hx
    · by_cases h : k < cf.length
      · exact hw _ (by simp [List.getD, h])
      · rw [getD_big (by omega)]; rfl
abbrev z7O : Obj := .cells #[.int .i64 0, .int .i64 0, .int .i64 0, .int .i64 0, .int .i64 0, .int .i64 0, .slice none 0 0] 68
def RenR (w : World) (n' : Nd) (e : Ending) (w' : World) : Prop := ∃ a' c', e = .returned (ndV n' a' c') ∧ SlN w.heap.size w' a' n'.cf.length n'.cf ∧ Below w.heap.size w w'
set_option maxHeartbeats 8000000 in
set_option maxRecDepth 4000 in
theorem rename_none (op var oth wd wd2 num : Int) (cf : List Int) (a : Option Addr) (c : Nat) (a2 : Option Addr) (cap2 : Nat) (tl : List Int) (w : World) (hs : Sl w a cf.length cf) (h2 : Sl w a2 5 tl) (hok : ndF ⟨op, var, oth, wd, wd2, num, cf⟩ = 0) (hN : Names5 tl) (h3 : op ≠ 3 ∧ op ≠ 4 ∧ op ≠ 8 ∧ op ≠ 9) : Calls Try.prog 30 #[ndV ⟨op, var, oth, wd, wd2, num, cf⟩ a c, .slice a2 5 cap2] w (RenR w (renN tl ⟨op, var, oth, wd, wd2, num, cf⟩)) := by
  obtain ⟨hr, hsh⟩ := ndF_zero hok
  have h5 := nd_parts hok
  have hop := hr.1
  simp only at h5 hop
  have HS := hide hs
  have HS2 := hide h2
  have HNM := hide hN
  have HWF := hide hs.2.2.1
  have e3 : (op == 3) = false := by simp; omega
  have e4 : (op == 4) = false := by simp; omega
  have e8 : (op == 8) = false := by simp; omega
  have e9 : (op == 9) = false := by simp; omega
  have HRN : Hid (renN tl ⟨op, var, oth, wd, wd2, num, cf⟩ = ⟨op, var, oth, wd, wd2, num, trimL (movL tl cf)⟩) := by show _ = _; unfold renN; simp only; rw [if_neg (by omega), if_neg (by omega)]
  have hB1 := (Below.refl w.heap.size w).alloc (Nat.le_refl _) (ndO ⟨op, var, oth, wd, wd2, num, cf⟩ a c)
  have hB2 := hB1.alloc hB1.size z7O
  have HB := hide (hB2.alloc hB2.size (.cells #[.int .i64 0, .int .i64 0, .int .i64 0, .int .i64 0, .int .i64 0] 95))
  have HX0 := hide (heap_alloc3_fst w (ndO ⟨op, var, oth, wd, wd2, num, cf⟩ a c) z7O (.cells #[.int .i64 0, .int .i64 0, .int .i64 0, .int .i64 0, .int .i64 0] 95))
  have HX1 := hide (heap3_snd w (ndO ⟨op, var, oth, wd, wd2, num, cf⟩ a c) z7O (.cells #[.int .i64 0, .int .i64 0, .int .i64 0, .int .i64 0, .int .i64 0] 95))
  have HX2 : Hid (((((w.alloc (ndO ⟨op, var, oth, wd, wd2, num, cf⟩ a c)).alloc z7O).alloc (.cells #[.int .i64 0, .int .i64 0, .int .i64 0, .int .i64 0, .int .i64 0] 95)).heap[w.heap.size + 1 + 1]? = some (.cells (iArr (movK tl cf 0)) 95 (0, 0)))) := heap_alloc3_last w _ _ _
  unfold ndV
  clear hs h2 hok hN hr hsh h3 hB1 hB2
  generalize renN tl ⟨op, var, oth, wd, wd2, num, cf⟩ = RN at HRN ⊢
  go_enter Try.func30, Try.ntmps30
  go_wp2
  generalize hWb : ((w.alloc (ndO ⟨op, var, oth, wd, wd2, num, cf⟩ a c)).alloc z7O).alloc (.cells #[.int .i64 0, .int .i64 0, .int .i64 0, .int .i64 0, .int .i64 0] 95) = Wb at HX0 HX1 HX2 HB ⊢
  clear hWb
  go_loopw [37] (fun kv wx => ∃ k : Nat, k ≤ cf.length ∧ kv = .int .i64 k ∧ wx.heap[w.heap.size]? = some (ndO ⟨op, var, oth, wd, wd2, num, cf⟩ a c) ∧ wx.heap[w.heap.size + 1]? = some z7O ∧ wx.heap[w.heap.size + 1 + 1]? = some (.cells (iArr (movK tl cf k)) 95 (0, 0)) ∧ Below w.heap.size w wx) (fun kv _ => cf.length - (intOf kv).toNat)
  case atStart => exact ⟨0, by omega, rfl, HX0.out, HX1.out, HX2.out, HB.out⟩
  case round =>
    obtain ⟨k, hk, rfl, g0, g1, g2, hb⟩ := hrel
    have HG0 := hide g0
    have HG1 := hide g1
    have HG2 := hide g2
    have HBW := hide hb
    clear g0 g1 hb
    by_cases hlt : k < cf.length
    · have hlti : (k : Int) < (cf.length : Int) := by omega
      have hk5 : (k : Int) < 5 := by omega
      obtain ⟨b1, o1, rfl, hc1⟩ := sl_cell (sl_below HS.out HBW.out) k hlt
      obtain ⟨b2, o2, ea2, hc2⟩ := sl_cell (sl_below HS2.out HBW.out) k (by omega)
      cases ea2
      have hr5 := HNM.out.2.1 k (by omega)
      obtain ⟨q, hq⟩ : ∃ q : Nat, tl.getD k 0 = ((q : Nat) : Int) := ⟨(tl.getD k 0).toNat, by omega⟩
      have hq5 : q < 5 := by omega
      have hq5i : (q : Int) < 5 := by omega
      have HST : Hid (movK tl cf (k + 1) = (movK tl cf k).set q (cf.getD k 0)) := by show _ = _; rw [movK, hq, Int.toNat_natCast]
      rw [hq] at hc2
      have hcm : wr.cell? ⟨w.heap.size + 1 + 1, q, none⟩ = some (.int .i64 ((movK tl cf k).getD q 0)) := by rw [cell_of_row _ _ q _ _ _ HG2.out, iArr_get _ _ (by rw [movK_len]; exact hq5)]
      have hfm : wr.frozen? ⟨w.heap.size + 1 + 1, q, none⟩ = false := by simp [World.frozen?, HG2.out]
      clear g2 hr5 hq
      generalize cf.getD k 0 = z at hc1 HST
      generalize (movK tl cf k).getD q 0 = y at hcm
      go_wp2
      go_roundw
      case rel =>
        refine ⟨k + 1, by omega, by go_num, ?_, ?_, ?_, HBW.out.setCell (show w.heap.size ≤ w.heap.size + 1 + 1 by omega) _⟩
        · rw [Below.heap_setCell _ _ _ _ (show w.heap.size ≠ w.heap.size + 1 + 1 by omega)]; exact HG0.out
        · rw [Below.heap_setCell _ _ _ _ (show w.heap.size + 1 ≠ w.heap.size + 1 + 1 by omega)]; exact HG1.out
        · have h := heap_setCell_at (k := q) (v := .int .i64 z) HG2.out
          rw [iArr_set] at h
          rw [HST.out]
          exact h
      case measure => simp [intOf]; omega
    · have hlti : ¬ (k : Int) < (cf.length : Int) := by omega
      obtain rfl : k = cf.length := by omega
      obtain ⟨m0, m1, m2, m3, m4, hm⟩ := five_ints (movK_len tl cf cf.length)
      have hmw := movK_wf (tl := tl) HWF.out cf.length
      rw [hm] at g2 hmw
      have hml : movL tl cf = [m0, m1, m2, m3, m4] := hm
      obtain ⟨⟨y0, y1, y2, y3, y4⟩, -⟩ := box5_cells g2
      have HCO := hide (trim5 m0 m1 m2 m3 m4 g2 hmw)
      rw [← hml] at HCO
      have hrn := HRN.out
      have HTR : Hid (RN = ⟨op, var, oth, wd, wd2, num, trimL (movL tl cf)⟩) := hrn
      clear g2 hm hml hmw HRN hrn
      generalize trimL (movL tl cf) = tr at HCO HTR
      go_wp2_with fail
      clear y0 y1 y2 y3 y4
      refine HCO.out.mono ?_
      rintro e w5 ⟨a5, c5, rfl, hs5, hb5⟩
      have k0 := (hb5.block _ (Array.getElem?_eq_some_iff.1 HG0.out).1).trans HG0.out
      have k1 := (hb5.block _ (Array.getElem?_eq_some_iff.1 HG1.out).1).trans HG1.out
      have hsz := (Array.getElem?_eq_some_iff.1 HG2.out).1
      have k0' : (w5.setCell ⟨w.heap.size, 6, none⟩ (.slice a5 tr.length c5)).heap[w.heap.size]? = some (ndO ⟨op, var, oth, wd, wd2, num, tr⟩ a5 c5) := heap_setCell_at (k := 6) (v := .slice a5 tr.length c5) k0
      have k1' : (w5.setCell ⟨w.heap.size, 6, none⟩ (.slice a5 tr.length c5)).heap[w.heap.size + 1]? = some z7O := by rw [Below.heap_setCell _ _ _ _ (show w.heap.size + 1 ≠ w.heap.size by omega)]; exact k1
      have hb6 : Below w.heap.size w (w5.setCell ⟨w.heap.size, 6, none⟩ (.slice a5 tr.length c5)) := (below_step HBW.out hb5).setCell (Nat.le_refl _) _
      have hs6 : SlN wr.heap.size (w5.setCell ⟨w.heap.size, 6, none⟩ (.slice a5 tr.length c5)) a5 tr.length tr := slN_far hs5 (fun x hx => Below.heap_setCell _ _ _ _ (show x ≠ w.heap.size by omega))
      obtain ⟨⟨j0, j1, j2, j3, j4, j5, j6⟩, -⟩ := box7_cells k0
      obtain ⟨f0, f1, f2, f3, f4, f5, f6⟩ := box7_froz k0
      generalize hW6 : w5.setCell ⟨w.heap.size, 6, none⟩ (.slice a5 tr.length c5) = W6 at k0' k1' hb6 hs6
      obtain ⟨⟨t0, t1, t2, t3, t4, t5, t6⟩, -⟩ := box7_cells k0'
      obtain ⟨⟨v0, v1, v2, v3, v4, v5, v6⟩, -⟩ := box7_cells k1'
      obtain ⟨r0, r1, r2, r3, r4, r5, r6⟩ := box7_froz k1'
      obtain ⟨Wf, hWf, g3, hbf, hkf⟩ := seven_behind k1' hb6 (by omega) (.int .i64 op) (.int .i64 (var)) (.int .i64 (oth)) (.int .i64 wd) (.int .i64 wd2) (.int .i64 num) (.slice a5 tr.length c5)
      obtain ⟨⟨q0, q1, q2, q3, q4, q5, q6⟩, -⟩ := box7_cells g3
      have HSF := hide (SlN.mono (slN_far hs6 (fun x hx => hkf x (by omega))) HBW.out.size)
      have HBF := hide hbf
      clear k0 k1 k0' k1' hb6 hs6 hs5 hb5 g3 hbf hkf hsz
      go_wp2
      exact bodyPost_ret (v := .agg #[.int .i64 op, .int .i64 (var), .int .i64 (oth), .int .i64 wd, .int .i64 wd2, .int .i64 num, .slice a5 tr.length c5]) (by simp [results, Try.results30, go_sem, q0, q1, q2, q3, q4, q5, q6]) rfl ⟨a5, c5, by rw [HTR.out]; rfl, by rw [HTR.out]; exact HSF.out, HBF.out⟩
set_option maxHeartbeats 8000000 in
set_option maxRecDepth 4000 in
theorem rename_op3 (op var oth wd wd2 num : Int) (cf : List Int) (a : Option Addr) (c : Nat) (a2 : Option Addr) (cap2 : Nat) (tl : List Int) (w : World) (hs : Sl w a cf.length cf) (h2 : Sl w a2 5 tl) (hok : ndF ⟨op, var, oth, wd, wd2, num, cf⟩ = 0) (hN : Names5 tl) (h3 : op = 3) : Calls Try.prog 30 #[ndV ⟨op, var, oth, wd, wd2, num, cf⟩ a c, .slice a2 5 cap2] w (RenR w (renN tl ⟨op, var, oth, wd, wd2, num, cf⟩)) := by
  obtain ⟨hr, hsh⟩ := ndF_zero hok
  have h5 := nd_parts hok
  have hop := hr.1
  simp only at h5 hop
  have HS := hide hs
  have HS2 := hide h2
  have HNM := hide hN
  have HWF := hide hs.2.2.1
  subst h3
  have hv := hr.2.1 (by unfold varsP; simp)
  simp only at hv
  have HRN : Hid (renN tl ⟨3, var, oth, wd, wd2, num, cf⟩ = ⟨3, tl.getD var.toNat 0, oth, wd, wd2, num, trimL (movL tl cf)⟩) := by show _ = _; unfold renN; simp
  obtain ⟨u, rfl⟩ : ∃ u : Nat, var = (u : Int) := ⟨var.toNat, by omega⟩
  rw [Int.toNat_natCast] at HRN
  have hu5 : u < 5 := by omega
  have hu5i : (u : Int) < 5 := by omega
  have hB1 := (Below.refl w.heap.size w).alloc (Nat.le_refl _) (ndO ⟨3, (u : Int), oth, wd, wd2, num, cf⟩ a c)
  have hB2 := hB1.alloc hB1.size z7O
  obtain ⟨bx, ox, rfl, hcx⟩ := sl_cell (sl_below h2 hB2) u hu5
  generalize tl.getD u 0 = nv at hcx HRN
  have hC1 := (Below.refl w.heap.size w).alloc (Nat.le_refl _) (ndO ⟨3, nv, oth, wd, wd2, num, cf⟩ a c)
  have hC2 := hC1.alloc hC1.size z7O
  have HB := hide (hC2.alloc hC2.size (.cells #[.int .i64 0, .int .i64 0, .int .i64 0, .int .i64 0, .int .i64 0] 95))
  have HX0 := hide (heap_alloc3_fst w (ndO ⟨3, nv, oth, wd, wd2, num, cf⟩ a c) z7O (.cells #[.int .i64 0, .int .i64 0, .int .i64 0, .int .i64 0, .int .i64 0] 95))
  have HX1 := hide (heap3_snd w (ndO ⟨3, nv, oth, wd, wd2, num, cf⟩ a c) z7O (.cells #[.int .i64 0, .int .i64 0, .int .i64 0, .int .i64 0, .int .i64 0] 95))
  have HX2 : Hid (((((w.alloc (ndO ⟨3, nv, oth, wd, wd2, num, cf⟩ a c)).alloc z7O).alloc (.cells #[.int .i64 0, .int .i64 0, .int .i64 0, .int .i64 0, .int .i64 0] 95)).heap[w.heap.size + 1 + 1]? = some (.cells (iArr (movK tl cf 0)) 95 (0, 0)))) := heap_alloc3_last w _ _ _
  unfold ndV
  clear hs h2 hok hN hr hsh hv hB1 hB2 hC1 hC2 hop
  generalize renN tl ⟨3, (u : Int), oth, wd, wd2, num, cf⟩ = RN at HRN ⊢
  go_enter Try.func30, Try.ntmps30
  go_wp2
  generalize hWb : ((w.alloc (ndO ⟨3, nv, oth, wd, wd2, num, cf⟩ a c)).alloc z7O).alloc (.cells #[.int .i64 0, .int .i64 0, .int .i64 0, .int .i64 0, .int .i64 0] 95) = Wb at HX0 HX1 HX2 HB ⊢
  clear hWb
  go_loopw [37] (fun kv wx => ∃ k : Nat, k ≤ cf.length ∧ kv = .int .i64 k ∧ wx.heap[w.heap.size]? = some (ndO ⟨3, nv, oth, wd, wd2, num, cf⟩ a c) ∧ wx.heap[w.heap.size + 1]? = some z7O ∧ wx.heap[w.heap.size + 1 + 1]? = some (.cells (iArr (movK tl cf k)) 95 (0, 0)) ∧ Below w.heap.size w wx) (fun kv _ => cf.length - (intOf kv).toNat)
  case atStart => exact ⟨0, by omega, rfl, HX0.out, HX1.out, HX2.out, HB.out⟩
  case round =>
    obtain ⟨k, hk, rfl, g0, g1, g2, hb⟩ := hrel
    have HG0 := hide g0
    have HG1 := hide g1
    have HG2 := hide g2
    have HBW := hide hb
    clear g0 g1 hb
    by_cases hlt : k < cf.length
    · have hlti : (k : Int) < (cf.length : Int) := by omega
      have hk5 : (k : Int) < 5 := by omega
      obtain ⟨b1, o1, rfl, hc1⟩ := sl_cell (sl_below HS.out HBW.out) k hlt
      obtain ⟨b2, o2, ea2, hc2⟩ := sl_cell (sl_below HS2.out HBW.out) k (by omega)
      cases ea2
      have hr5 := HNM.out.2.1 k (by omega)
      obtain ⟨q, hq⟩ : ∃ q : Nat, tl.getD k 0 = ((q : Nat) : Int) := ⟨(tl.getD k 0).toNat, by omega⟩
      have hq5 : q < 5 := by omega
      have hq5i : (q : Int) < 5 := by omega
      have HST : Hid (movK tl cf (k + 1) = (movK tl cf k).set q (cf.getD k 0)) := by show _ = _; rw [movK, hq, Int.toNat_natCast]
      rw [hq] at hc2
      have hcm : wr.cell? ⟨w.heap.size + 1 + 1, q, none⟩ = some (.int .i64 ((movK tl cf k).getD q 0)) := by rw [cell_of_row _ _ q _ _ _ HG2.out, iArr_get _ _ (by rw [movK_len]; exact hq5)]
      have hfm : wr.frozen? ⟨w.heap.size + 1 + 1, q, none⟩ = false := by simp [World.frozen?, HG2.out]
      clear g2 hr5 hq
      generalize cf.getD k 0 = z at hc1 HST
      generalize (movK tl cf k).getD q 0 = y at hcm
      go_wp2
      go_roundw
      case rel =>
        refine ⟨k + 1, by omega, by go_num, ?_, ?_, ?_, HBW.out.setCell (show w.heap.size ≤ w.heap.size + 1 + 1 by omega) _⟩
        · rw [Below.heap_setCell _ _ _ _ (show w.heap.size ≠ w.heap.size + 1 + 1 by omega)]; exact HG0.out
        · rw [Below.heap_setCell _ _ _ _ (show w.heap.size + 1 ≠ w.heap.size + 1 + 1 by omega)]; exact HG1.out
        · have h := heap_setCell_at (k := q) (v := .int .i64 z) HG2.out
          rw [iArr_set] at h
          rw [HST.out]
          exact h
      case measure => simp [intOf]; omega
    · have hlti : ¬ (k : Int) < (cf.length : Int) := by omega
      obtain rfl : k = cf.length := by omega
      obtain ⟨m0, m1, m2, m3, m4, hm⟩ := five_ints (movK_len tl cf cf.length)
      have hmw := movK_wf (tl := tl) HWF.out cf.length
      rw [hm] at g2 hmw
      have hml : movL tl cf = [m0, m1, m2, m3, m4] := hm
      obtain ⟨⟨y0, y1, y2, y3, y4⟩, -⟩ := box5_cells g2
      have HCO := hide (trim5 m0 m1 m2 m3 m4 g2 hmw)
      rw [← hml] at HCO
      have hrn := HRN.out
      have HTR : Hid (RN = ⟨3, nv, oth, wd, wd2, num, trimL (movL tl cf)⟩) := hrn
      clear g2 hm hml hmw HRN hrn
      generalize trimL (movL tl cf) = tr at HCO HTR
      go_wp2_with fail
      clear y0 y1 y2 y3 y4
      refine HCO.out.mono ?_
      rintro e w5 ⟨a5, c5, rfl, hs5, hb5⟩
      have k0 := (hb5.block _ (Array.getElem?_eq_some_iff.1 HG0.out).1).trans HG0.out
      have k1 := (hb5.block _ (Array.getElem?_eq_some_iff.1 HG1.out).1).trans HG1.out
      have hsz := (Array.getElem?_eq_some_iff.1 HG2.out).1
      have k0' : (w5.setCell ⟨w.heap.size, 6, none⟩ (.slice a5 tr.length c5)).heap[w.heap.size]? = some (ndO ⟨3, nv, oth, wd, wd2, num, tr⟩ a5 c5) := heap_setCell_at (k := 6) (v := .slice a5 tr.length c5) k0
      have k1' : (w5.setCell ⟨w.heap.size, 6, none⟩ (.slice a5 tr.length c5)).heap[w.heap.size + 1]? = some z7O := by rw [Below.heap_setCell _ _ _ _ (show w.heap.size + 1 ≠ w.heap.size by omega)]; exact k1
      have hb6 : Below w.heap.size w (w5.setCell ⟨w.heap.size, 6, none⟩ (.slice a5 tr.length c5)) := (below_step HBW.out hb5).setCell (Nat.le_refl _) _
      have hs6 : SlN wr.heap.size (w5.setCell ⟨w.heap.size, 6, none⟩ (.slice a5 tr.length c5)) a5 tr.length tr := slN_far hs5 (fun x hx => Below.heap_setCell _ _ _ _ (show x ≠ w.heap.size by omega))
      obtain ⟨⟨j0, j1, j2, j3, j4, j5, j6⟩, -⟩ := box7_cells k0
      obtain ⟨f0, f1, f2, f3, f4, f5, f6⟩ := box7_froz k0
      generalize hW6 : w5.setCell ⟨w.heap.size, 6, none⟩ (.slice a5 tr.length c5) = W6 at k0' k1' hb6 hs6
      obtain ⟨⟨t0, t1, t2, t3, t4, t5, t6⟩, -⟩ := box7_cells k0'
      obtain ⟨⟨v0, v1, v2, v3, v4, v5, v6⟩, -⟩ := box7_cells k1'
      obtain ⟨r0, r1, r2, r3, r4, r5, r6⟩ := box7_froz k1'
      obtain ⟨Wf, hWf, g3, hbf, hkf⟩ := seven_behind k1' hb6 (by omega) (.int .i64 3) (.int .i64 (nv)) (.int .i64 (oth)) (.int .i64 wd) (.int .i64 wd2) (.int .i64 num) (.slice a5 tr.length c5)
      obtain ⟨⟨q0, q1, q2, q3, q4, q5, q6⟩, -⟩ := box7_cells g3
      have HSF := hide (SlN.mono (slN_far hs6 (fun x hx => hkf x (by omega))) HBW.out.size)
      have HBF := hide hbf
      clear k0 k1 k0' k1' hb6 hs6 hs5 hb5 g3 hbf hkf hsz
      go_wp2
      exact bodyPost_ret (v := .agg #[.int .i64 3, .int .i64 (nv), .int .i64 (oth), .int .i64 wd, .int .i64 wd2, .int .i64 num, .slice a5 tr.length c5]) (by simp [results, Try.results30, go_sem, q0, q1, q2, q3, q4, q5, q6]) rfl ⟨a5, c5, by rw [HTR.out]; rfl, by rw [HTR.out]; exact HSF.out, HBF.out⟩
end Go.Proofs.Ytgbmemkoggogdaa

/- Package formula: rename, at Like: contract. -/
namespace Go.Proofs.Ytgbmemkoggogdaa
open Go.RowKit

set_option maxHeartbeats 8000000 in
set_option maxRecDepth 4000 in
theorem rename_op4 (op var oth wd wd2 num : Int) (cf : List Int) (a : Option Addr) (c : Nat) (a2 : Option Addr) (cap2 : Nat) (tl : List Int) (w : World) (hs : Sl w a cf.length cf) (h2 : Sl w a2 5 tl) (hok : ndF ⟨op, var, oth, wd, wd2, num, cf⟩ = 0) (hN : Names5 tl) (h3 : op = 4) : Calls Try.prog 30 #[ndV ⟨op, var, oth, wd, wd2, num, cf⟩ a c, .slice a2 5 cap2] w (RenR w (renN tl ⟨op, var, oth, wd, wd2, num, cf⟩)) := by
  obtain ⟨hr, hsh⟩ := ndF_zero hok
  have h5 := nd_parts hok
  have hop := hr.1
  simp only at h5 hop
  have HS := hide hs
  have HS2 := hide h2
  have HNM := hide hN
  have HWF := hide hs.2.2.1
  subst h3
  have hv := hr.2.1 (by unfold varsP; simp)
  have ho := hr.2.2.1 rfl
  simp only at hv ho
  have HRN : Hid (renN tl ⟨4, var, oth, wd, wd2, num, cf⟩ = ⟨4, tl.getD var.toNat 0, tl.getD oth.toNat 0, wd, wd2, num, trimL (movL tl cf)⟩) := by show _ = _; unfold renN; simp
  obtain ⟨u, rfl⟩ : ∃ u : Nat, var = (u : Int) := ⟨var.toNat, by omega⟩
  obtain ⟨u2, rfl⟩ : ∃ u : Nat, oth = (u : Int) := ⟨oth.toNat, by omega⟩
  rw [Int.toNat_natCast, Int.toNat_natCast] at HRN
  have hu5 : u < 5 := by omega
  have hu5i : (u : Int) < 5 := by omega
  have hu6 : u2 < 5 := by omega
  have hu6i : (u2 : Int) < 5 := by omega
  have hB1 := (Below.refl w.heap.size w).alloc (Nat.le_refl _) (ndO ⟨4, (u : Int), (u2 : Int), wd, wd2, num, cf⟩ a c)
  have hB2 := hB1.alloc hB1.size z7O
  have hx0 := heap_alloc2_fst w (ndO ⟨4, (u : Int), (u2 : Int), wd, wd2, num, cf⟩ a c) z7O
  have hx1 := heap_alloc2_snd w (ndO ⟨4, (u : Int), (u2 : Int), wd, wd2, num, cf⟩ a c) z7O
  obtain ⟨bx, ox, rfl, hcx⟩ := sl_cell (sl_below h2 hB2) u hu5
  obtain ⟨by_, oy, eay, hcy⟩ := sl_cell (sl_below h2 hB2) u2 hu6
  cases eay
  have HKP : Hid (∀ W, Below w.heap.size w W → W.cell? ⟨bx, ox + u2, none⟩ = some (.int .i64 (tl.getD u2 0))) := fun W hb => by
    obtain ⟨b', o', e', hc'⟩ := sl_cell (sl_below h2 hb) u2 hu6
    cases e'
    exact hc'
  generalize tl.getD u 0 = nv at hcx HRN
  generalize tl.getD u2 0 = no at hcy HRN HKP
  have HBB := hide hB2
  have hszz : ((w.alloc (ndO ⟨4, (u : Int), (u2 : Int), wd, wd2, num, cf⟩ a c)).alloc z7O).heap.size = w.heap.size + 1 + 1 := by simp
  unfold ndV
  clear hs h2 hok hN hr hsh hv ho hB1 hB2 hop
  generalize hW2 : (w.alloc (ndO ⟨4, (u : Int), (u2 : Int), wd, wd2, num, cf⟩ a c)).alloc z7O = W2 at hx0 hx1 hcx hcy HBB hszz
  obtain ⟨⟨z0, z1, z2, z3, z4, z5, z6⟩, -⟩ := box7_cells hx0
  obtain ⟨f0, f1, f2, f3, f4, f5, f6⟩ := box7_froz hx0
  have hy0 : (W2.setCell ⟨w.heap.size, 1, none⟩ (.int .i64 nv)).heap[w.heap.size]? = some (ndO ⟨4, nv, (u2 : Int), wd, wd2, num, cf⟩ a c) := heap_setCell_at (k := 1) (v := .int .i64 nv) hx0
  obtain ⟨⟨y0, y1, y2, y3, y4, y5, y6⟩, -⟩ := box7_cells hy0
  obtain ⟨e0, e1, e2, e3, e4, e5, e6⟩ := box7_froz hy0
  have hcy2 := HKP.out (W2.setCell ⟨w.heap.size, 1, none⟩ (.int .i64 nv)) (HBB.out.setCell (Nat.le_refl _) _)
  have hv0 : ((W2.setCell ⟨w.heap.size, 1, none⟩ (.int .i64 nv)).setCell ⟨w.heap.size, 2, none⟩ (.int .i64 no)).heap[w.heap.size]? = some (ndO ⟨4, nv, no, wd, wd2, num, cf⟩ a c) := heap_setCell_at (k := 2) (v := .int .i64 no) hy0
  have hv1 : ((W2.setCell ⟨w.heap.size, 1, none⟩ (.int .i64 nv)).setCell ⟨w.heap.size, 2, none⟩ (.int .i64 no)).heap[w.heap.size + 1]? = some z7O := by rw [Below.heap_setCell _ _ _ _ (show w.heap.size + 1 ≠ w.heap.size by omega), Below.heap_setCell _ _ _ _ (show w.heap.size + 1 ≠ w.heap.size by omega)]; exact hx1
  have hbv : Below w.heap.size w ((W2.setCell ⟨w.heap.size, 1, none⟩ (.int .i64 nv)).setCell ⟨w.heap.size, 2, none⟩ (.int .i64 no)) := (HBB.out.setCell (Nat.le_refl _) _).setCell (Nat.le_refl _) _
  have hszv : ((W2.setCell ⟨w.heap.size, 1, none⟩ (.int .i64 nv)).setCell ⟨w.heap.size, 2, none⟩ (.int .i64 no)).heap.size = w.heap.size + 1 + 1 := by rw [setCell_size, setCell_size]; exact hszz
  generalize hW3 : (W2.setCell ⟨w.heap.size, 1, none⟩ (.int .i64 nv)).setCell ⟨w.heap.size, 2, none⟩ (.int .i64 no) = W3 at hv0 hv1 hbv hszv
  have HB := hide (hbv.drew.alloc hbv.drew.size (.cells #[.int .i64 0, .int .i64 0, .int .i64 0, .int .i64 0, .int .i64 0] 95))
  have HX0 : Hid ((W3.drew.alloc (.cells #[.int .i64 0, .int .i64 0, .int .i64 0, .int .i64 0, .int .i64 0] 95)).heap[w.heap.size]? = _) := (Below.heap_alloc W3.drew (.cells #[.int .i64 0, .int .i64 0, .int .i64 0, .int .i64 0, .int .i64 0] 95) w.heap.size (by show _ < W3.heap.size; omega)).trans hv0
  have HX1 : Hid ((W3.drew.alloc (.cells #[.int .i64 0, .int .i64 0, .int .i64 0, .int .i64 0, .int .i64 0] 95)).heap[w.heap.size + 1]? = _) := (Below.heap_alloc W3.drew (.cells #[.int .i64 0, .int .i64 0, .int .i64 0, .int .i64 0, .int .i64 0] 95) (w.heap.size + 1) (by show _ < W3.heap.size; omega)).trans hv1
  have HX2 : Hid ((W3.drew.alloc (.cells #[.int .i64 0, .int .i64 0, .int .i64 0, .int .i64 0, .int .i64 0] 95)).heap[w.heap.size + 1 + 1]? = some (.cells (iArr (movK tl cf 0)) 95 (0, 0))) := by
    show _ = _
    rw [← hszv]
    exact heap_alloc_last W3.drew (.cells #[.int .i64 0, .int .i64 0, .int .i64 0, .int .i64 0, .int .i64 0] 95)
  have HSZV : Hid (W3.drew.heap.size = w.heap.size + 1 + 1) := hszv
  clear hx0 hx1 hy0 hv0 hv1 hbv hszz hszv
  generalize renN tl ⟨4, (u : Int), (u2 : Int), wd, wd2, num, cf⟩ = RN at HRN ⊢
  go_enter Try.func30, Try.ntmps30
  go_wp2
  go_region
  clear hW3 hW2 z0 z1 z2 z3 z4 z5 z6 f0 f1 f2 f3 f4 f5 f6 y0 y1 y2 y3 y4 y5 y6 e0 e1 e2 e3 e4 e5 e6 hcx hcy
  generalize W3.drew = Wd at HX0 HX1 HX2 HB HSZV ⊢
  have hszd := HSZV.out
  generalize hWb : Wd.alloc (.cells #[.int .i64 0, .int .i64 0, .int .i64 0, .int .i64 0, .int .i64 0] 95) = Wb at HX0 HX1 HX2 HB
  obtain ⟨⟨z0, z1, z2, z3, z4, z5, z6⟩, -⟩ := box7_cells HX0.out
  go_wp2
  clear hWb z0 z1 z2 z3 z4 z5 z6 hszd
  go_loopw [37] (fun kv wx => ∃ k : Nat, k ≤ cf.length ∧ kv = .int .i64 k ∧ wx.heap[w.heap.size]? = some (ndO ⟨4, nv, no, wd, wd2, num, cf⟩ a c) ∧ wx.heap[w.heap.size + 1]? = some z7O ∧ wx.heap[w.heap.size + 1 + 1]? = some (.cells (iArr (movK tl cf k)) 95 (0, 0)) ∧ Below w.heap.size w wx) (fun kv _ => cf.length - (intOf kv).toNat)
  case atStart => exact ⟨0, by omega, rfl, HX0.out, HX1.out, HX2.out, HB.out⟩
  case round =>
    obtain ⟨k, hk, rfl, g0, g1, g2, hb⟩ := hrel
    have HG0 := hide g0
    have HG1 := hide g1
    have HG2 := hide g2
    have HBW := hide hb
    clear g0 g1 hb
    by_cases hlt : k < cf.length
    · have hlti : (k : Int) < (cf.length : Int) := by omega
      have hk5 : (k : Int) < 5 := by omega
      obtain ⟨b1, o1, rfl, hc1⟩ := sl_cell (sl_below HS.out HBW.out) k hlt
      obtain ⟨b2, o2, ea2, hc2⟩ := sl_cell (sl_below HS2.out HBW.out) k (by omega)
      cases ea2
      have hr5 := HNM.out.2.1 k (by omega)
      obtain ⟨q, hq⟩ : ∃ q : Nat, tl.getD k 0 = ((q : Nat) : Int) := ⟨(tl.getD k 0).toNat, by omega⟩
      have hq5 : q < 5 := by omega
      have hq5i : (q : Int) < 5 := by omega
      have HST : Hid (movK tl cf (k + 1) = (movK tl cf k).set q (cf.getD k 0)) := by show _ = _; rw [movK, hq, Int.toNat_natCast]
      rw [hq] at hc2
      have hcm : wr.cell? ⟨w.heap.size + 1 + 1, q, none⟩ = some (.int .i64 ((movK tl cf k).getD q 0)) := by rw [cell_of_row _ _ q _ _ _ HG2.out, iArr_get _ _ (by rw [movK_len]; exact hq5)]
      have hfm : wr.frozen? ⟨w.heap.size + 1 + 1, q, none⟩ = false := by simp [World.frozen?, HG2.out]
      clear g2 hr5 hq
      generalize cf.getD k 0 = z at hc1 HST
      generalize (movK tl cf k).getD q 0 = y at hcm
      go_wp2
      go_roundw
      case rel =>
        refine ⟨k + 1, by omega, by go_num, ?_, ?_, ?_, HBW.out.setCell (show w.heap.size ≤ w.heap.size + 1 + 1 by omega) _⟩
        · rw [Below.heap_setCell _ _ _ _ (show w.heap.size ≠ w.heap.size + 1 + 1 by omega)]; exact HG0.out
        · rw [Below.heap_setCell _ _ _ _ (show w.heap.size + 1 ≠ w.heap.size + 1 + 1 by omega)]; exact HG1.out
        · have h := heap_setCell_at (k := q) (v := .int .i64 z) HG2.out
          rw [iArr_set] at h
          rw [HST.out]
          exact h
      case measure => simp [intOf]; omega
    · have hlti : ¬ (k : Int) < (cf.length : Int) := by omega
      obtain rfl : k = cf.length := by omega
      obtain ⟨m0, m1, m2, m3, m4, hm⟩ := five_ints (movK_len tl cf cf.length)
      have hmw := movK_wf (tl := tl) HWF.out cf.length
      rw [hm] at g2 hmw
      have hml : movL tl cf = [m0, m1, m2, m3, m4] := hm
      obtain ⟨⟨y0, y1, y2, y3, y4⟩, -⟩ := box5_cells g2
      have HCO := hide (trim5 m0 m1 m2 m3 m4 g2 hmw)
      rw [← hml] at HCO
      have hrn := HRN.out
      have HTR : Hid (RN = ⟨4, nv, no, wd, wd2, num, trimL (movL tl cf)⟩) := hrn
      clear g2 hm hml hmw HRN hrn
      generalize trimL (movL tl cf) = tr at HCO HTR
      go_wp2_with fail
      clear y0 y1 y2 y3 y4
      refine HCO.out.mono ?_
      rintro e w5 ⟨a5, c5, rfl, hs5, hb5⟩
      have k0 := (hb5.block _ (Array.getElem?_eq_some_iff.1 HG0.out).1).trans HG0.out
      have k1 := (hb5.block _ (Array.getElem?_eq_some_iff.1 HG1.out).1).trans HG1.out
      have hsz := (Array.getElem?_eq_some_iff.1 HG2.out).1
      have k0' : (w5.setCell ⟨w.heap.size, 6, none⟩ (.slice a5 tr.length c5)).heap[w.heap.size]? = some (ndO ⟨4, nv, no, wd, wd2, num, tr⟩ a5 c5) := heap_setCell_at (k := 6) (v := .slice a5 tr.length c5) k0
      have k1' : (w5.setCell ⟨w.heap.size, 6, none⟩ (.slice a5 tr.length c5)).heap[w.heap.size + 1]? = some z7O := by rw [Below.heap_setCell _ _ _ _ (show w.heap.size + 1 ≠ w.heap.size by omega)]; exact k1
      have hb6 : Below w.heap.size w (w5.setCell ⟨w.heap.size, 6, none⟩ (.slice a5 tr.length c5)) := (below_step HBW.out hb5).setCell (Nat.le_refl _) _
      have hs6 : SlN wr.heap.size (w5.setCell ⟨w.heap.size, 6, none⟩ (.slice a5 tr.length c5)) a5 tr.length tr := slN_far hs5 (fun x hx => Below.heap_setCell _ _ _ _ (show x ≠ w.heap.size by omega))
      obtain ⟨⟨j0, j1, j2, j3, j4, j5, j6⟩, -⟩ := box7_cells k0
      obtain ⟨f0, f1, f2, f3, f4, f5, f6⟩ := box7_froz k0
      generalize hW6 : w5.setCell ⟨w.heap.size, 6, none⟩ (.slice a5 tr.length c5) = W6 at k0' k1' hb6 hs6
      obtain ⟨⟨t0, t1, t2, t3, t4, t5, t6⟩, -⟩ := box7_cells k0'
      obtain ⟨⟨v0, v1, v2, v3, v4, v5, v6⟩, -⟩ := box7_cells k1'
      obtain ⟨r0, r1, r2, r3, r4, r5, r6⟩ := box7_froz k1'
      obtain ⟨Wf, hWf, g3, hbf, hkf⟩ := seven_behind k1' hb6 (by omega) (.int .i64 4) (.int .i64 (nv)) (.int .i64 (no)) (.int .i64 wd) (.int .i64 wd2) (.int .i64 num) (.slice a5 tr.length c5)
      obtain ⟨⟨q0, q1, q2, q3, q4, q5, q6⟩, -⟩ := box7_cells g3
      have HSF := hide (SlN.mono (slN_far hs6 (fun x hx => hkf x (by omega))) HBW.out.size)
      have HBF := hide hbf
      clear k0 k1 k0' k1' hb6 hs6 hs5 hb5 g3 hbf hkf hsz
      go_wp2
      exact bodyPost_ret (v := .agg #[.int .i64 4, .int .i64 (nv), .int .i64 (no), .int .i64 wd, .int .i64 wd2, .int .i64 num, .slice a5 tr.length c5]) (by simp [results, Try.results30, go_sem, q0, q1, q2, q3, q4, q5, q6]) rfl ⟨a5, c5, by rw [HTR.out]; rfl, by rw [HTR.out]; exact HSF.out, HBF.out⟩
end Go.Proofs.Ytgbmemkoggogdaa

/- Package formula: rename, at quantifiers: contract. -/
namespace Go.Proofs.Ytgbmemkoggogdaa
open Go.RowKit

set_option maxHeartbeats 8000000 in
set_option maxRecDepth 4000 in
theorem rename_op8 (op var oth wd wd2 num : Int) (cf : List Int) (a : Option Addr) (c : Nat) (a2 : Option Addr) (cap2 : Nat) (tl : List Int) (w : World) (hs : Sl w a cf.length cf) (h2 : Sl w a2 5 tl) (hok : ndF ⟨op, var, oth, wd, wd2, num, cf⟩ = 0) (hN : Names5 tl) (h3 : op = 8) : Calls Try.prog 30 #[ndV ⟨op, var, oth, wd, wd2, num, cf⟩ a c, .slice a2 5 cap2] w (RenR w (renN tl ⟨op, var, oth, wd, wd2, num, cf⟩)) := by
  obtain ⟨hr, hsh⟩ := ndF_zero hok
  have h5 := nd_parts hok
  have hop := hr.1
  simp only at h5 hop
  have HS := hide hs
  have HS2 := hide h2
  have HNM := hide hN
  have HWF := hide hs.2.2.1
  subst h3
  have hv := hr.2.1 (by unfold varsP; simp)
  simp only at hv
  have HRN : Hid (renN tl ⟨8, var, oth, wd, wd2, num, cf⟩ = ⟨8, tl.getD var.toNat 0, oth, wd, wd2, num, trimL (movL tl cf)⟩) := by show _ = _; unfold renN; simp
  obtain ⟨u, rfl⟩ : ∃ u : Nat, var = (u : Int) := ⟨var.toNat, by omega⟩
  rw [Int.toNat_natCast] at HRN
  have hu5 : u < 5 := by omega
  have hu5i : (u : Int) < 5 := by omega
  have hB1 := (Below.refl w.heap.size w).alloc (Nat.le_refl _) (ndO ⟨8, (u : Int), oth, wd, wd2, num, cf⟩ a c)
  have hB2 := hB1.alloc hB1.size z7O
  obtain ⟨bx, ox, rfl, hcx⟩ := sl_cell (sl_below h2 hB2) u hu5
  generalize tl.getD u 0 = nv at hcx HRN
  have hC1 := (Below.refl w.heap.size w).alloc (Nat.le_refl _) (ndO ⟨8, nv, oth, wd, wd2, num, cf⟩ a c)
  have hC2 := hC1.alloc hC1.size z7O
  have HB := hide (hC2.alloc hC2.size (.cells #[.int .i64 0, .int .i64 0, .int .i64 0, .int .i64 0, .int .i64 0] 95))
  have HX0 := hide (heap_alloc3_fst w (ndO ⟨8, nv, oth, wd, wd2, num, cf⟩ a c) z7O (.cells #[.int .i64 0, .int .i64 0, .int .i64 0, .int .i64 0, .int .i64 0] 95))
  have HX1 := hide (heap3_snd w (ndO ⟨8, nv, oth, wd, wd2, num, cf⟩ a c) z7O (.cells #[.int .i64 0, .int .i64 0, .int .i64 0, .int .i64 0, .int .i64 0] 95))
  have HX2 : Hid (((((w.alloc (ndO ⟨8, nv, oth, wd, wd2, num, cf⟩ a c)).alloc z7O).alloc (.cells #[.int .i64 0, .int .i64 0, .int .i64 0, .int .i64 0, .int .i64 0] 95)).heap[w.heap.size + 1 + 1]? = some (.cells (iArr (movK tl cf 0)) 95 (0, 0)))) := heap_alloc3_last w _ _ _
  unfold ndV
  clear hs h2 hok hN hr hsh hv hB1 hB2 hC1 hC2 hop
  generalize renN tl ⟨8, (u : Int), oth, wd, wd2, num, cf⟩ = RN at HRN ⊢
  go_enter Try.func30, Try.ntmps30
  go_wp2
  generalize hWb : ((w.alloc (ndO ⟨8, nv, oth, wd, wd2, num, cf⟩ a c)).alloc z7O).alloc (.cells #[.int .i64 0, .int .i64 0, .int .i64 0, .int .i64 0, .int .i64 0] 95) = Wb at HX0 HX1 HX2 HB ⊢
  clear hWb
  go_loopw [37] (fun kv wx => ∃ k : Nat, k ≤ cf.length ∧ kv = .int .i64 k ∧ wx.heap[w.heap.size]? = some (ndO ⟨8, nv, oth, wd, wd2, num, cf⟩ a c) ∧ wx.heap[w.heap.size + 1]? = some z7O ∧ wx.heap[w.heap.size + 1 + 1]? = some (.cells (iArr (movK tl cf k)) 95 (0, 0)) ∧ Below w.heap.size w wx) (fun kv _ => cf.length - (intOf kv).toNat)
  case atStart => exact ⟨0, by omega, rfl, HX0.out, HX1.out, HX2.out, HB.out⟩
  case round =>
    obtain ⟨k, hk, rfl, g0, g1, g2, hb⟩ := hrel
    have HG0 := hide g0
    have HG1 := hide g1
    have HG2 := hide g2
    have HBW := hide hb
    clear g0 g1 hb
    by_cases hlt : k < cf.length
    · have hlti : (k : Int) < (cf.length : Int) := by omega
      have hk5 : (k : Int) < 5 := by omega
      obtain ⟨b1, o1, rfl, hc1⟩ := sl_cell (sl_below HS.out HBW.out) k hlt
      obtain ⟨b2, o2, ea2, hc2⟩ := sl_cell (sl_below HS2.out HBW.out) k (by omega)
      cases ea2
      have hr5 := HNM.out.2.1 k (by omega)
      obtain ⟨q, hq⟩ : ∃ q : Nat, tl.getD k 0 = ((q : Nat) : Int) := ⟨(tl.getD k 0).toNat, by omega⟩
      have hq5 : q < 5 := by omega
      have hq5i : (q : Int) < 5 := by omega
      have HST : Hid (movK tl cf (k + 1) = (movK tl cf k).set q (cf.getD k 0)) := by show _ = _; rw [movK, hq, Int.toNat_natCast]
      rw [hq] at hc2
      have hcm : wr.cell? ⟨w.heap.size + 1 + 1, q, none⟩ = some (.int .i64 ((movK tl cf k).getD q 0)) := by rw [cell_of_row _ _ q _ _ _ HG2.out, iArr_get _ _ (by rw [movK_len]; exact hq5)]
      have hfm : wr.frozen? ⟨w.heap.size + 1 + 1, q, none⟩ = false := by simp [World.frozen?, HG2.out]
      clear g2 hr5 hq
      generalize cf.getD k 0 = z at hc1 HST
      generalize (movK tl cf k).getD q 0 = y at hcm
      go_wp2
      go_roundw
      case rel =>
        refine ⟨k + 1, by omega, by go_num, ?_, ?_, ?_, HBW.out.setCell (show w.heap.size ≤ w.heap.size + 1 + 1 by omega) _⟩
        · rw [Below.heap_setCell _ _ _ _ (show w.heap.size ≠ w.heap.size + 1 + 1 by omega)]; exact HG0.out
        · rw [Below.heap_setCell _ _ _ _ (show w.heap.size + 1 ≠ w.heap.size + 1 + 1 by omega)]; exact HG1.out
        · have h := heap_setCell_at (k := q) (v := .int .i64 z) HG2.out
          rw [iArr_set] at h
          rw [HST.out]
          exact h
      case measure => simp [intOf]; omega
    · have hlti : ¬ (k : Int) < (cf.length : Int) := by omega
      obtain rfl : k = cf.length := by omega
      obtain ⟨m0, m1, m2, m3, m4, hm⟩ := five_ints (movK_len tl cf cf.length)
      have hmw := movK_wf (tl := tl) HWF.out cf.length
      rw [hm] at g2 hmw
      have hml : movL tl cf = [m0, m1, m2, m3, m4] := hm
      obtain ⟨⟨y0, y1, y2, y3, y4⟩, -⟩ := box5_cells g2
      have HCO := hide (trim5 m0 m1 m2 m3 m4 g2 hmw)
      rw [← hml] at HCO
      have hrn := HRN.out
      have HTR : Hid (RN = ⟨8, nv, oth, wd, wd2, num, trimL (movL tl cf)⟩) := hrn
      clear g2 hm hml hmw HRN hrn
      generalize trimL (movL tl cf) = tr at HCO HTR
      go_wp2_with fail
      clear y0 y1 y2 y3 y4
      refine HCO.out.mono ?_
      rintro e w5 ⟨a5, c5, rfl, hs5, hb5⟩
      have k0 := (hb5.block _ (Array.getElem?_eq_some_iff.1 HG0.out).1).trans HG0.out
      have k1 := (hb5.block _ (Array.getElem?_eq_some_iff.1 HG1.out).1).trans HG1.out
      have hsz := (Array.getElem?_eq_some_iff.1 HG2.out).1
      have k0' : (w5.setCell ⟨w.heap.size, 6, none⟩ (.slice a5 tr.length c5)).heap[w.heap.size]? = some (ndO ⟨8, nv, oth, wd, wd2, num, tr⟩ a5 c5) := heap_setCell_at (k := 6) (v := .slice a5 tr.length c5) k0
      have k1' : (w5.setCell ⟨w.heap.size, 6, none⟩ (.slice a5 tr.length c5)).heap[w.heap.size + 1]? = some z7O := by rw [Below.heap_setCell _ _ _ _ (show w.heap.size + 1 ≠ w.heap.size by omega)]; exact k1
      have hb6 : Below w.heap.size w (w5.setCell ⟨w.heap.size, 6, none⟩ (.slice a5 tr.length c5)) := (below_step HBW.out hb5).setCell (Nat.le_refl _) _
      have hs6 : SlN wr.heap.size (w5.setCell ⟨w.heap.size, 6, none⟩ (.slice a5 tr.length c5)) a5 tr.length tr := slN_far hs5 (fun x hx => Below.heap_setCell _ _ _ _ (show x ≠ w.heap.size by omega))
      obtain ⟨⟨j0, j1, j2, j3, j4, j5, j6⟩, -⟩ := box7_cells k0
      obtain ⟨f0, f1, f2, f3, f4, f5, f6⟩ := box7_froz k0
      generalize hW6 : w5.setCell ⟨w.heap.size, 6, none⟩ (.slice a5 tr.length c5) = W6 at k0' k1' hb6 hs6
      obtain ⟨⟨t0, t1, t2, t3, t4, t5, t6⟩, -⟩ := box7_cells k0'
      obtain ⟨⟨v0, v1, v2, v3, v4, v5, v6⟩, -⟩ := box7_cells k1'
      obtain ⟨r0, r1, r2, r3, r4, r5, r6⟩ := box7_froz k1'
      obtain ⟨Wf, hWf, g3, hbf, hkf⟩ := seven_behind k1' hb6 (by omega) (.int .i64 8) (.int .i64 (nv)) (.int .i64 (oth)) (.int .i64 wd) (.int .i64 wd2) (.int .i64 num) (.slice a5 tr.length c5)
      obtain ⟨⟨q0, q1, q2, q3, q4, q5, q6⟩, -⟩ := box7_cells g3
      have HSF := hide (SlN.mono (slN_far hs6 (fun x hx => hkf x (by omega))) HBW.out.size)
      have HBF := hide hbf
      clear k0 k1 k0' k1' hb6 hs6 hs5 hb5 g3 hbf hkf hsz
      go_wp2
      exact bodyPost_ret (v := .agg #[.int .i64 8, .int .i64 (nv), .int .i64 (oth), .int .i64 wd, .int .i64 wd2, .int .i64 num, .slice a5 tr.length c5]) (by simp [results, Try.results30, go_sem, q0, q1, q2, q3, q4, q5, q6]) rfl ⟨a5, c5, by rw [HTR.out]; rfl, by rw [HTR.out]; exact HSF.out, HBF.out⟩
set_option maxHeartbeats 8000000 in
set_option maxRecDepth 4000 in
theorem rename_op9 (op var oth wd wd2 num : Int) (cf : List Int) (a : Option Addr) (c : Nat) (a2 : Option Addr) (cap2 : Nat) (tl : List Int) (w : World) (hs : Sl w a cf.length cf) (h2 : Sl w a2 5 tl) (hok : ndF ⟨op, var, oth, wd, wd2, num, cf⟩ = 0) (hN : Names5 tl) (h3 : op = 9) : Calls Try.prog 30 #[ndV ⟨op, var, oth, wd, wd2, num, cf⟩ a c, .slice a2 5 cap2] w (RenR w (renN tl ⟨op, var, oth, wd, wd2, num, cf⟩)) := by
  obtain ⟨hr, hsh⟩ := ndF_zero hok
  have h5 := nd_parts hok
  have hop := hr.1
  simp only at h5 hop
  have HS := hide hs
  have HS2 := hide h2
  have HNM := hide hN
  have HWF := hide hs.2.2.1
  subst h3
  have hv := hr.2.1 (by unfold varsP; simp)
  simp only at hv
  have HRN : Hid (renN tl ⟨9, var, oth, wd, wd2, num, cf⟩ = ⟨9, tl.getD var.toNat 0, oth, wd, wd2, num, trimL (movL tl cf)⟩) := by show _ = _; unfold renN; simp
  obtain ⟨u, rfl⟩ : ∃ u : Nat, var = (u : Int) := ⟨var.toNat, by omega⟩
  rw [Int.toNat_natCast] at HRN
  have hu5 : u < 5 := by omega
  have hu5i : (u : Int) < 5 := by omega
  have hB1 := (Below.refl w.heap.size w).alloc (Nat.le_refl _) (ndO ⟨9, (u : Int), oth, wd, wd2, num, cf⟩ a c)
  have hB2 := hB1.alloc hB1.size z7O
  obtain ⟨bx, ox, rfl, hcx⟩ := sl_cell (sl_below h2 hB2) u hu5
  generalize tl.getD u 0 = nv at hcx HRN
  have hC1 := (Below.refl w.heap.size w).alloc (Nat.le_refl _) (ndO ⟨9, nv, oth, wd, wd2, num, cf⟩ a c)
  have hC2 := hC1.alloc hC1.size z7O
  have HB := hide (hC2.alloc hC2.size (.cells #[.int .i64 0, .int .i64 0, .int .i64 0, .int .i64 0, .int .i64 0] 95))
  have HX0 := hide (heap_alloc3_fst w (ndO ⟨9, nv, oth, wd, wd2, num, cf⟩ a c) z7O (.cells #[.int .i64 0, .int .i64 0, .int .i64 0, .int .i64 0, .int .i64 0] 95))
  have HX1 := hide (heap3_snd w (ndO ⟨9, nv, oth, wd, wd2, num, cf⟩ a c) z7O (.cells #[.int .i64 0, .int .i64 0, .int .i64 0, .int .i64 0, .int .i64 0] 95))
  have HX2 : Hid (((((w.alloc (ndO ⟨9, nv, oth, wd, wd2, num, cf⟩ a c)).alloc z7O).alloc (.cells #[.int .i64 0, .int .i64 0, .int .i64 0, .int .i64 0, .int .i64 0] 95)).heap[w.heap.size + 1 + 1]? = some (.cells (iArr (movK tl cf 0)) 95 (0, 0)))) := heap_alloc3_last w _ _ _
  unfold ndV
  clear hs h2 hok hN hr hsh hv hB1 hB2 hC1 hC2 hop
  generalize renN tl ⟨9, (u : Int), oth, wd, wd2, num, cf⟩ = RN at HRN ⊢
  go_enter Try.func30, Try.ntmps30
  go_wp2
  generalize hWb : ((w.alloc (ndO ⟨9, nv, oth, wd, wd2, num, cf⟩ a c)).alloc z7O).alloc (.cells #[.int .i64 0, .int .i64 0, .int .i64 0, .int .i64 0, .int .i64 0] 95) = Wb at HX0 HX1 HX2 HB ⊢
  clear hWb
  go_loopw [37] (fun kv wx => ∃ k : Nat, k ≤ cf.length ∧ kv = .int .i64 k ∧ wx.heap[w.heap.size]? = some (ndO ⟨9, nv, oth, wd, wd2, num, cf⟩ a c) ∧ wx.heap[w.heap.size + 1]? = some z7O ∧ wx.heap[w.heap.size + 1 + 1]? = some (.cells (iArr (movK tl cf k)) 95 (0, 0)) ∧ Below w.heap.size w wx) (fun kv _ => cf.length - (intOf kv).toNat)
  case atStart => exact ⟨0, by omega, rfl, HX0.out, HX1.out, HX2.out, HB.out⟩
  case round =>
    obtain ⟨k, hk, rfl, g0, g1, g2, hb⟩ := hrel
    have HG0 := hide g0
    have HG1 := hide g1
    have HG2 := hide g2
    have HBW := hide hb
    clear g0 g1 hb
    by_cases hlt : k < cf.length
    · have hlti : (k : Int) < (cf.length : Int) := by omega
      have hk5 : (k : Int) < 5 := by omega
      obtain ⟨b1, o1, rfl, hc1⟩ := sl_cell (sl_below HS.out HBW.out) k hlt
      obtain ⟨b2, o2, ea2, hc2⟩ := sl_cell (sl_below HS2.out HBW.out) k (by omega)
      cases ea2
      have hr5 := HNM.out.2.1 k (by omega)
      obtain ⟨q, hq⟩ : ∃ q : Nat, tl.getD k 0 = ((q : Nat) : Int) := ⟨(tl.getD k 0).toNat, by omega⟩
      have hq5 : q < 5 := by omega
      have hq5i : (q : Int) < 5 := by omega
      have HST : Hid (movK tl cf (k + 1) = (movK tl cf k).set q (cf.getD k 0)) := by show _ = _; rw [movK, hq, Int.toNat_natCast]
      rw [hq] at hc2
      have hcm : wr.cell? ⟨w.heap.size + 1 + 1, q, none⟩ = some (.int .i64 ((movK tl cf k).getD q 0)) := by rw [cell_of_row _ _ q _ _ _ HG2.out, iArr_get _ _ (by rw [movK_len]; exact hq5)]
      have hfm : wr.frozen? ⟨w.heap.size + 1 + 1, q, none⟩ = false := by simp [World.frozen?, HG2.out]
      clear g2 hr5 hq
      generalize cf.getD k 0 = z at hc1 HST
      generalize (movK tl cf k).getD q 0 = y at hcm
      go_wp2
      go_roundw
      case rel =>
        refine ⟨k + 1, by omega, by go_num, ?_, ?_, ?_, HBW.out.setCell (show w.heap.size ≤ w.heap.size + 1 + 1 by omega) _⟩
        · rw [Below.heap_setCell _ _ _ _ (show w.heap.size ≠ w.heap.size + 1 + 1 by omega)]; exact HG0.out
        · rw [Below.heap_setCell _ _ _ _ (show w.heap.size + 1 ≠ w.heap.size + 1 + 1 by omega)]; exact HG1.out
        · have h := heap_setCell_at (k := q) (v := .int .i64 z) HG2.out
          rw [iArr_set] at h
          rw [HST.out]
          exact h
      case measure => simp [intOf]; omega
    · have hlti : ¬ (k : Int) < (cf.length : Int) := by omega
      obtain rfl : k = cf.length := by omega
      obtain ⟨m0, m1, m2, m3, m4, hm⟩ := five_ints (movK_len tl cf cf.length)
      have hmw := movK_wf (tl := tl) HWF.out cf.length
      rw [hm] at g2 hmw
      have hml : movL tl cf = [m0, m1, m2, m3, m4] := hm
      obtain ⟨⟨y0, y1, y2, y3, y4⟩, -⟩ := box5_cells g2
      have HCO := hide (trim5 m0 m1 m2 m3 m4 g2 hmw)
      rw [← hml] at HCO
      have hrn := HRN.out
      have HTR : Hid (RN = ⟨9, nv, oth, wd, wd2, num, trimL (movL tl cf)⟩) := hrn
      clear g2 hm hml hmw HRN hrn
      generalize trimL (movL tl cf) = tr at HCO HTR
      go_wp2_with fail
      clear y0 y1 y2 y3 y4
      refine HCO.out.mono ?_
      rintro e w5 ⟨a5, c5, rfl, hs5, hb5⟩
      have k0 := (hb5.block _ (Array.getElem?_eq_some_iff.1 HG0.out).1).trans HG0.out
      have k1 := (hb5.block _ (Array.getElem?_eq_some_iff.1 HG1.out).1).trans HG1.out
      have hsz := (Array.getElem?_eq_some_iff.1 HG2.out).1
      have k0' : (w5.setCell ⟨w.heap.size, 6, none⟩ (.slice a5 tr.length c5)).heap[w.heap.size]? = some (ndO ⟨9, nv, oth, wd, wd2, num, tr⟩ a5 c5) := heap_setCell_at (k := 6) (v := .slice a5 tr.length c5) k0
      have k1' : (w5.setCell ⟨w.heap.size, 6, none⟩ (.slice a5 tr.length c5)).heap[w.heap.size + 1]? = some z7O := by rw [Below.heap_setCell _ _ _ _ (show w.heap.size + 1 ≠ w.heap.size by omega)]; exact k1
      have hb6 : Below w.heap.size w (w5.setCell ⟨w.heap.size, 6, none⟩ (.slice a5 tr.length c5)) := (below_step HBW.out hb5).setCell (Nat.le_refl _) _
      have hs6 : SlN wr.heap.size (w5.setCell ⟨w.heap.size, 6, none⟩ (.slice a5 tr.length c5)) a5 tr.length tr := slN_far hs5 (fun x hx => Below.heap_setCell _ _ _ _ (show x ≠ w.heap.size by omega))
      obtain ⟨⟨j0, j1, j2, j3, j4, j5, j6⟩, -⟩ := box7_cells k0
      obtain ⟨f0, f1, f2, f3, f4, f5, f6⟩ := box7_froz k0
      generalize hW6 : w5.setCell ⟨w.heap.size, 6, none⟩ (.slice a5 tr.length c5) = W6 at k0' k1' hb6 hs6
      obtain ⟨⟨t0, t1, t2, t3, t4, t5, t6⟩, -⟩ := box7_cells k0'
      obtain ⟨⟨v0, v1, v2, v3, v4, v5, v6⟩, -⟩ := box7_cells k1'
      obtain ⟨r0, r1, r2, r3, r4, r5, r6⟩ := box7_froz k1'
      obtain ⟨Wf, hWf, g3, hbf, hkf⟩ := seven_behind k1' hb6 (by omega) (.int .i64 9) (.int .i64 (nv)) (.int .i64 (oth)) (.int .i64 wd) (.int .i64 wd2) (.int .i64 num) (.slice a5 tr.length c5)
      obtain ⟨⟨q0, q1, q2, q3, q4, q5, q6⟩, -⟩ := box7_cells g3
      have HSF := hide (SlN.mono (slN_far hs6 (fun x hx => hkf x (by omega))) HBW.out.size)
      have HBF := hide hbf
      clear k0 k1 k0' k1' hb6 hs6 hs5 hb5 g3 hbf hkf hsz
      go_wp2
      exact bodyPost_ret (v := .agg #[.int .i64 9, .int .i64 (nv), .int .i64 (oth), .int .i64 wd, .int .i64 wd2, .int .i64 num, .slice a5 tr.length c5]) (by simp [results, Try.results30, go_sem, q0, q1, q2, q3, q4, q5, q6]) rfl ⟨a5, c5, by rw [HTR.out]; rfl, by rw [HTR.out]; exact HSF.out, HBF.out⟩
end Go.Proofs.Ytgbmemkoggogdaa

/- Package formula: Rename: contract. -/
namespace Go.Proofs.Ytgbmemkoggogdaa
open Go.RowKit

theorem rename_any (n : Nd) (a : Option Addr) (c : Nat) (a2 : Option Addr) (cap2 : Nat) (tl : List Int) (w : World) (hs : Sl w a n.cf.length n.cf) (h2 : Sl w a2 5 tl) (hok : ndF n = 0) (hN : Names5 tl) : Calls Try.prog 30 #[ndV n a c, .slice a2 5 cap2] w (RenR w (renN tl n)) := by
  obtain ⟨op, var, oth, wd, wd2, num, cf⟩ := n
  by_cases h3 : op = 3
  · exact rename_op3 op var oth wd wd2 num cf a c a2 cap2 tl w hs h2 hok hN h3
  by_cases h4 : op = 4
  · exact rename_op4 op var oth wd wd2 num cf a c a2 cap2 tl w hs h2 hok hN h4
  by_cases h8 : op = 8
  · exact rename_op8 op var oth wd wd2 num cf a c a2 cap2 tl w hs h2 hok hN h8
  by_cases h9 : op = 9
  · exact rename_op9 op var oth wd wd2 num cf a c a2 cap2 tl w hs h2 hok hN h9
  exact rename_none op var oth wd wd2 num cf a c a2 cap2 tl w hs h2 hok hN ⟨h3, h4, h8, h9⟩
theorem ren_wf {n : Nd} (h : ndF n = 0) {tl : List Int} (hN : Names5 tl) : ndWf (renN tl n) := by
  obtain ⟨⟨h1, h2, h3, h4, h5, h6, h7⟩, s1, s2, s3, s4, s5, s6⟩ := ndF_zero h
  unfold varsP wordsP lineP at *
  have hv : -100 ≤ (renN tl n).var ∧ (renN tl n).var ≤ 100 := by
    unfold renN
    simp only
    by_cases q : n.op = 3 ∨ n.op = 4 ∨ n.op = 8 ∨ n.op = 9
    · rw [if_pos q]
      have := h2 q
      have := hN.2.1 n.var.toNat (by omega)
      omega
    · rw [if_neg q, s1 q]; omega
  have ho : -100 ≤ (renN tl n).oth ∧ (renN tl n).oth ≤ 100 := by
    unfold renN
    simp only
    by_cases q : n.op = 4
    · rw [if_pos q]
      have := h3 q
      have := hN.2.1 n.oth.toNat (by omega)
      omega
    · rw [if_neg q, (s2 q).1]; omega
  have hop : (renN tl n).op = n.op := rfl
  have hwd : (renN tl n).wd = n.wd := rfl
  have hw2 : (renN tl n).wd2 = n.wd2 := rfl
  have hnu : (renN tl n).num = n.num := rfl
  have b1 : -100 ≤ n.wd ∧ n.wd ≤ 100 := by
    by_cases q : n.op = 3 ∨ n.op = 4
    · have := h4 q; omega
    · rw [s3 q]; omega
  have b2 : -100 ≤ n.wd2 ∧ n.wd2 ≤ 100 := by
    by_cases q : n.op = 4
    · have := h5 q; omega
    · rw [(s2 q).2]; omega
  have b3 : -100 ≤ n.num ∧ n.num ≤ 100 := by
    by_cases q : n.op = 1 ∨ n.op = 2
    · have := h7 q; omega
    · by_cases q3 : n.op = 3
      · have := h6 q3; omega
      · rw [s4 q q3]; omega
  intro x hx
  have : -100 ≤ x ∧ x ≤ 100 := by
    rw [hop, hwd, hw2, hnu] at hx
    simp only [List.mem_cons, List.not_mem_nil, or_false] at hx
    omega
  exact WalkArith.wf_i64 (by omega)
end Go.Proofs.Ytgbmemkoggogdaa
