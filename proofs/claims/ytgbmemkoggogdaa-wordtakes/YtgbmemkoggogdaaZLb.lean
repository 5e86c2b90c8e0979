/- 4 texts in one. -/
import Derived.Deep.RegionWith
import Derived.Test.YtgbmemkoggogdaaZNx
import Derived.Test.YtgbmemkoggogdaaZG
/- The contract of letter.sideBySide: a word of the digits of its tracks. -/
namespace Go.Proofs.Ytgbmemkoggogdaa
open Go.RowKit

/-- The digit at a place of a word so long. -/
def digAt (long p : Nat) (d : List Int) : Int := if long ≤ p + d.length then d.getD (p + d.length - long) 0 else 0
/-- The letter at a place. -/
def letAt (b : Int) (long : Nat) (rows : List (List Int)) (p : Nat) : Int := packL b (rows.map (digAt long p))
def sideL (b : Int) (long : Nat) (rows : List (List Int)) : List Int := (List.range long).map (letAt b long rows)
theorem sideL_length (b : Int) (long : Nat) (rows : List (List Int)) : (sideL b long rows).length = long := by simp [sideL]
theorem sideL_get (b : Int) (long : Nat) (rows : List (List Int)) (p : Nat) (h : p < long) : (sideL b long rows).getD p 0 = letAt b long rows p := by simp [sideL, List.getD, h]

theorem digAt_bd (b : Int) (h2 : b ≤ 6) (long p : Nat) (d : List Int) (hd : digB b d = true) : 0 ≤ digAt long p d ∧ digAt long p d < kindsI b := by
  have hk := kinds_bd2 b h2
  unfold digAt
  split
  · by_cases h : p + d.length - long < d.length
    · exact digB_get2 hd _ h
    · have : d.getD (p + d.length - long) 0 = 0 := by rw [List.getD, List.getElem?_eq_none (by omega)]; rfl
      omega
  · omega

theorem letAt_bd (b : Int) (h2 : b ≤ 6) (long : Nat) (rows : List (List Int)) (hr : rows.length ≤ 5) (hd : ∀ d ∈ rows, digB b d = true) (k : Nat) (hk : k ≤ rows.length) (p : Nat) : 0 ≤ letAt b long (rows.take k) p ∧ letAt b long (rows.take k) p < 7776 := by
  have hK := kinds_bd2 b h2
  have h := packL_bd b h2 (rows.map (digAt long p)) k (by simpa using hk) (fun j hj => by
    have hj' : j < rows.length := by omega
    have : (rows.map (digAt long p)).getD j 0 = digAt long p (rows[j]) := by simp [List.getD, hj']
    rw [this]
    exact digAt_bd b h2 long p _ (hd _ (List.getElem_mem hj')))
  have hb := pw_bd (kindsI b) hK.1 hK.2 k (by omega)
  unfold letAt
  rw [List.map_take]
  omega

theorem letAt_succ (b : Int) (long : Nat) (rows : List (List Int)) (k : Nat) (hk : k < rows.length) (p : Nat) : letAt b long (rows.take (k + 1)) p = letAt b long (rows.take k) p * kindsI b + digAt long p (rows.getD k []) := by
  unfold letAt
  rw [List.take_succ_eq_append_getElem hk, List.map_append]
  simp only [List.map_cons, List.map_nil]
  rw [packL_snoc]
  simp [List.getD, hk]

/-- Behind k rows and p places of the next one. -/
def SbAt (b : Int) (long : Nat) (rows : List (List Int)) (w : World) (k p : Nat) (wr : World) : Prop :=
  wr.rowIs w.heap.size 3 long (fun q => .int .i64 (if q < p then letAt b long (rows.take (k + 1)) q else letAt b long (rows.take k) q)) ∧ Below w.heap.size w wr

theorem sbAt_next {b : Int} {long : Nat} {rows : List (List Int)} {w : World} {k : Nat} {wr : World} (h : SbAt b long rows w k long wr) : SbAt b long rows w (k + 1) 0 wr :=
  ⟨h.1.congr fun q hq => by rw [if_pos hq, if_neg (by omega)], h.2⟩

theorem sbAt_end {b : Int} {long : Nat} {rows : List (List Int)} {w wr : World} (h2 : b ≤ 6) (hr : rows.length ≤ 5) (hd : ∀ d ∈ rows, digB b d = true) (hl : long ≤ 60) (h : SbAt b long rows w rows.length 0 wr) :
    GivesRow w (sideL b long rows) (.returned (.slice (some ⟨w.heap.size, 0, none⟩) long long)) wr := by
  refine ⟨some ⟨w.heap.size, 0, none⟩, long, by rw [sideL_length], ⟨?_, fun ad e => by cases e; exact Nat.le_refl _⟩, h.2⟩
  rw [sideL_length]
  refine sl_of_rowIs (sideL_length _ _ _) (by unfold maxLen; omega) (fun x hx => ?_) (h.1.congr fun i hi => ?_)
  · simp only [sideL, List.mem_map, List.mem_range] at hx
    obtain ⟨i, _, rfl⟩ := hx
    have := letAt_bd b h2 long rows hr hd rows.length (Nat.le_refl _) i
    rw [List.take_of_length_le (Nat.le_refl _)] at this
    exact Go.WalkArith.wf_i64 (by omega)
  · rw [if_neg (by omega), sideL_get _ _ _ _ hi, List.take_of_length_le (Nat.le_refl _)]

/-- One place: the two stores. -/
theorem sbAt_put {b : Int} {long : Nat} {rows : List (List Int)} {w : World} {k p : Nat} {wr : World} (h : SbAt b long rows w k p wr) (hp : p < long) :
    wr.cell? ⟨w.heap.size, p, none⟩ = some (.int .i64 (letAt b long (rows.take k) p)) ∧ wr.frozen? ⟨w.heap.size, p, none⟩ = false ∧
    ∀ x y W2, W2.heap = (wr.setCell ⟨w.heap.size, p, none⟩ x).heap → Below w.heap.size w W2 →
      W2.cell? ⟨w.heap.size, p, none⟩ = some x ∧ W2.frozen? ⟨w.heap.size, p, none⟩ = false ∧
      (x = .int .i64 (letAt b long (rows.take (k + 1)) p) → SbAt b long rows w k (p + 1) W2) ∧
      ∀ W3, W3.heap = (W2.setCell ⟨w.heap.size, p, none⟩ y).heap → Below w.heap.size w W3 → y = .int .i64 (letAt b long (rows.take (k + 1)) p) → SbAt b long rows w k (p + 1) W3 := by
  have fin : ∀ {W : World} {f : Nat → Value} (v : Value), W.rowIs w.heap.size 3 long f → (∀ q, q < long → q ≠ p → f q = .int .i64 (if q < p then letAt b long (rows.take (k + 1)) q else letAt b long (rows.take k) q)) → f p = v → v = .int .i64 (letAt b long (rows.take (k + 1)) p) → Below w.heap.size w W → SbAt b long rows w k (p + 1) W := by
    intro W f v hrow hq hfp hv hb
    refine ⟨hrow.congr fun q hql => ?_, hb⟩
    by_cases e : q = p
    · subst e; rw [hfp, hv, if_pos (by omega)]
    · rw [hq q hql e]
      by_cases e2 : q < p
      · rw [if_pos e2, if_pos (by omega)]
      · rw [if_neg e2, if_neg (by omega)]
  refine ⟨?_, h.1.frozen p, fun x y W2 hW2 hb2 => ?_⟩
  · rw [h.1.cell hp, if_neg (by omega)]
  · have r2 := (h.1.set p x).of_block (w' := W2) (by rw [hW2])
    refine ⟨by rw [r2.cell hp, if_pos rfl], r2.frozen p, fun hx => fin x r2 (fun q _ e => by rw [if_neg e]) (if_pos rfl) hx hb2, fun W3 hW3 hb3 hy => ?_⟩
    have r3 := (r2.set p y).of_block (w' := W3) (by rw [hW3])
    exact fin y r3 (fun q _ e => by rw [if_neg e, if_neg e]) (if_pos rfl) hy hb3

theorem wrap_i64_id {x : Int} (h : 0 ≤ x ∧ x ≤ 1000000000000000) : IntKind.i64.wrap x = x := by rw [IntKind.wrap_i64]; omega

set_option maxHeartbeats 4000000 in
set_option maxRecDepth 4000 in
theorem side_any (b : Int) (a : Option Addr) (len cap long : Nat) (rows : List (List Int)) (w : World) (h1 : 1 ≤ b) (h2 : b ≤ 6) (hr : len ≤ 5) (hl : long ≤ 60) (hd : ∀ d ∈ rows, digB b d = true) (hdl : ∀ d ∈ rows, d.length ≤ 60) (hs : Sl2 w a len rows) :
    Calls Try.prog 22 #[.int .i64 b, .slice a len cap, .int .i64 long] w (GivesRow w (sideL b long rows)) := by
  have hK := kinds_bd2 b h2
  obtain ⟨hK1, hK2⟩ := hK
  have HL := hide hs.1
  have HS := hide hs
  have HDL := hide hdl
  have HK := hide (fun w => kinds_any b w h1 h2)
  have hmk := make_ints long (by omega)
  have HEND := hide (fun wr => @sbAt_end b long rows w wr h2 (by rw [hs.1]; exact hr) hd hl)
  have HBD := hide (letAt_bd b h2 long rows (by rw [hs.1]; exact hr) hd)
  have HSU := hide (letAt_succ b long rows)
  have HNX := hide (fun k wr => @sbAt_next b long rows w k wr)
  have HPUT := hide (fun k p wr => @sbAt_put b long rows w k p wr)
  have HDG := hide (fun k (hk : k < len) => (digAt_bd b h2 long · _ (hd (rows.getD k []) (by rw [List.getD, List.getElem?_eq_getElem (by rw [hs.1]; exact hk)]; exact List.getElem_mem _))))
  have H0 : Hid (SbAt b long rows w 0 0 (w.alloc (.cells (madeCells #[.int .i64 0] long) 3))) := by
    refine ⟨(World.rowIs_made w (.int .i64 0) long 3).congr fun p hp => ?_, (Below.refl _ _).alloc (Nat.le_refl _) _⟩
    rw [if_neg (by omega)]
    rfl
  clear hs hd hdl
  generalize kindsI b = K at hK1 hK2 HK HSU HDG
  go_enter Try.func22, Try.ntmps22
  go_wp2
  generalize w.alloc (.cells (madeCells #[.int .i64 0] long) 3) = W at H0 ⊢
  go_loopw [16] (fun i wx => ∃ k : Nat, k ≤ len ∧ i = .int .i64 k ∧ SbAt b long rows w k 0 wx) (fun i _ => len - (intOf i).toNat)
  case atStart => exact ⟨0, by omega, rfl, H0.out⟩
  case round =>
    obtain ⟨k, hk, rfl, hat⟩ := hrel
    have HAT := hide hat
    clear hat
    by_cases hlt : k < len
    · have hlti : (k : Int) < (len : Int) := by omega
      obtain ⟨bb, o, a2, cap2, rfl, hck, hs2⟩ := sl2_cell (sl2_below HS.out HAT.out.2) k hlt
      have hdl2 := HDL.out (rows.getD k []) (by rw [List.getD, List.getElem?_eq_getElem (by rw [HL.out]; exact hlt)]; exact List.getElem_mem _)
      have HS2 : Hid (∀ W, Below w.heap.size w W → Sl W a2 (rows.getD k []).length (rows.getD k [])) := by
        intro W hW
        obtain ⟨bb', o', a2', cap2', e1, hck', hs2'⟩ := sl2_cell HS.out k hlt
        cases e1
        have := hck
        rw [HAT.out.2.cell (p := ⟨bb, o + k, none⟩) (World.block_lt_of_cell? w _ hck'), hck'] at this
        injection this with this
        injection this with e2
        subst e2
        exact sl_below hs2' hW
      have HSU' := hide (HSU.out k (by rw [HL.out]; exact hlt))
      have HBD' := hide (HBD.out k (by rw [HL.out]; omega))
      have HBD2 := hide (HBD.out (k + 1) (by rw [HL.out]; omega))
      have HDG' := hide (HDG.out k hlt)
      have HNX' := hide (fun wr => HNX.out k wr)
      have HPUT' := hide (fun p wr => HPUT.out k p wr)
      clear hs2
      obtain ⟨wo, hwo⟩ : ∃ wo : World, wo = wr := ⟨_, rfl⟩
      rw [← hwo] at hck HAT ⊢
      clear hwo wr
      generalize rows.getD k [] = d at hck hdl2 HS2 HSU' HDG'
      go_wp2
      go_loopw [21] (fun i wx => ∃ p : Nat, p ≤ long ∧ i = .int .i64 p ∧ SbAt b long rows w k p wx) (fun i _ => long - (intOf i).toNat)
      case atStart => exact ⟨0, by omega, rfl, HAT.out⟩
      case round =>
        obtain ⟨p, hp, rfl, hin⟩ := hrel
        have HIN := hide hin
        clear hin
        by_cases hpt : p < long
        · have hpti : (p : Int) < (long : Int) := by omega
          obtain ⟨hc, hf, hput⟩ := HPUT'.out p wr HIN.out hpt
          have HPUT2 := hide hput
          clear hput
          have hbd := HBD'.out p
          obtain ⟨hv0, hv1⟩ := hbd
          have HSU2 := hide (HSU'.out p)
          have hdg := HDG'.out p
          obtain ⟨hx0, hx1⟩ := hdg
          generalize letAt b long (rows.take k) p = v at hc hv0 hv1 HSU2
          have hm1 : 0 ≤ v * K := Int.mul_nonneg hv0 (by omega)
          have hm2 : v * K ≤ 7776 * 6 := Int.mul_le_mul (by omega) hK2 (by omega) (by omega)
          go_wp2
          go_region_with (go_at_call 24; refine (HK.out _).mono ?_; rintro e w' ⟨rfl, hw⟩; rw [hw]; clear hw w')
          all_goals
            rw [wrap_i64_id (by omega)]
            have HW2 : Hid (Below w.heap.size w (wr.setCell ⟨w.heap.size, p, none⟩ (.int .i64 (v * K))).drew) := (HIN.out.2.setCell (Nat.le_refl _) _).drew
            have HP3 := hide (HPUT2.out (.int .i64 (v * K)) (.int .i64 (v * K + digAt long p d)) _ (show (wr.setCell ⟨w.heap.size, p, none⟩ (.int .i64 (v * K))).drew.heap = _ from rfl) HW2.out)
            generalize (wr.setCell ⟨w.heap.size, p, none⟩ (.int .i64 (v * K))).drew = W2 at HW2 HP3 ⊢
            obtain ⟨hc2, hf2, hx2, hy2⟩ := HP3.out
            have HX2 := hide hx2
            have HY2 := hide hy2
            clear hx2 hy2 HP3 HPUT2 hc hf
            by_cases hge : long ≤ p + d.length
            · obtain ⟨m, hm⟩ : ∃ m : Nat, p + d.length = long + m := ⟨p + d.length - long, by omega⟩
              have hmi : (p : Int) - (long : Int) + (d.length : Int) = (m : Int) := by omega
              have hml : m < d.length := by omega
              have hmli : (m : Int) < (d.length : Int) := by omega
              have HDA : Hid (digAt long p d = d.getD m 0) := by
                show _ = _
                unfold digAt
                rw [if_pos hge, hm, Nat.add_sub_cancel_left]
              obtain ⟨bs, os, rfl, hcd⟩ := sl_cell (HS2.out W2 HW2.out) m hml
              rw [HDA.out] at hx0 hx1 HY2 HSU2
              generalize d.getD m 0 = x at hcd hx0 hx1 HY2 HSU2
              clear hm hge HDA
              generalize v * K = u at hm1 hm2 hc2 HY2 HX2 HSU2 ⊢
              go_wp2
              go_region
              all_goals go_wp2
              all_goals
                go_roundw
                case rel =>
                  exact ⟨p + 1, by omega, by go_num, HY2.out (W2.setCell ⟨w.heap.size, p, none⟩ (.int .i64 (u + x))).drew rfl ((HW2.out.setCell (Nat.le_refl _) _).drew) (by rw [HSU2.out])⟩
                case measure => simp [intOf]; omega
            · have hneg : (p : Int) - (long : Int) + (d.length : Int) < 0 := by omega
              have HDA : Hid (digAt long p d = 0) := by
                show _ = _
                unfold digAt
                rw [if_neg hge]
              rw [HDA.out, Int.add_zero] at HSU2
              have HX3 := hide (HX2.out (by rw [HSU2.out]))
              clear hge HDA HX2 HY2 HSU2
              generalize v * K = u at hm1 hm2 hc2 ⊢
              go_wp2
              go_roundw
              case rel =>
                exact ⟨p + 1, by omega, by go_num, HX3.out⟩
              case measure => simp [intOf]; omega
        · have hpti : ¬ ((p : Int) < (long : Int)) := by omega
          obtain rfl : p = long := by omega
          have HE := hide (HNX'.out wr HIN.out)
          go_wp2
          go_roundw
          case rel => exact ⟨k + 1, by omega, by go_num, HE.out⟩
          case measure => simp [intOf]; omega
    · have hlti : ¬ ((k : Int) < (len : Int)) := by omega
      obtain rfl : k = len := by omega
      go_wp2
      go_ret
      exact HEND.out wr (by rw [HL.out]; exact HAT.out)
end Go.Proofs.Ytgbmemkoggogdaa

/- The contract of letter.Word. -/
namespace Go.Proofs.Ytgbmemkoggogdaa
open Go.RowKit

def rowsL (b : Int) (nums : List Int) : List (List Int) := nums.map (numL b)
def longL (rows : List (List Int)) : Nat := rows.foldl (fun m d => max m d.length) 0
def wordL (b : Int) (nums : List Int) : List Int := sideL b (longL (rowsL b nums)) (rowsL b nums)
def codeWd (b : Int) (nums : List Int) : Int := if codeM b nums.length = 0 then firstC (nums.map (codeN b)) else codeM b nums.length

theorem rowsL_length (b : Int) (nums : List Int) : (rowsL b nums).length = nums.length := by simp [rowsL]
theorem rowsL_get (b : Int) (nums : List Int) (i : Nat) (h : i < nums.length) : (rowsL b nums).getD i [] = numL b (nums.getD i 0) := by simp [rowsL, List.getD, h]
theorem longL_snoc (rows : List (List Int)) (d : List Int) : longL (rows ++ [d]) = max (longL rows) d.length := by simp [longL, List.foldl_append]
theorem longL_take_succ (b : Int) (nums : List Int) (k : Nat) (h : k < nums.length) : longL ((rowsL b nums).take (k + 1)) = max (longL ((rowsL b nums).take k)) (numL b (nums.getD k 0)).length := by
  have h' : k < (rowsL b nums).length := by rw [rowsL_length]; exact h
  rw [List.take_succ_eq_append_getElem h', longL_snoc]
  congr 2
  simp [rowsL, List.getD, h]
theorem numL_length (b n : Int) : (numL b n).length ≤ 60 := by
  unfold numL; split
  · exact dgs_length b n
  · simp
theorem numL_digB (b n : Int) : digB b (numL b n) = true := by
  unfold numL; split
  · rename_i h; exact dgs_digB b n h.1.1 h.1.2 h.2.1 h.2.2
  · rfl
theorem longL_le (b : Int) (nums : List Int) (k : Nat) (hk : k ≤ nums.length) : longL ((rowsL b nums).take k) ≤ 60 := by
  induction k with
  | zero => simp [longL]
  | succ k ih =>
    rw [longL_take_succ b nums k (by omega)]
    have := ih (by omega)
    have := numL_length b (nums.getD k 0)
    omega

/-- Behind k numbers. -/
def WdAt (b : Int) (nums : List Int) (w : World) (k : Nat) (wr : World) : Prop :=
  ∃ V : Nat → Value, wr.rowIs w.heap.size 23 nums.length V ∧ (∀ j, j < k → ∃ a cap, V j = .slice a (numL b (nums.getD j 0)).length cap ∧ SlN (w.heap.size + 1) wr a (numL b (nums.getD j 0)).length (numL b (nums.getD j 0))) ∧ Below w.heap.size w wr

theorem wdAt_step {b : Int} {nums : List Int} {w wr w2 : World} {k : Nat} {a : Option Addr} {cap : Nat} (h : WdAt b nums w k wr) (hk : k < nums.length) (hb : Below wr.heap.size wr w2) (hs : SlN wr.heap.size w2 a (numL b (nums.getD k 0)).length (numL b (nums.getD k 0))) :
    ∃ v, w2.cell? ⟨w.heap.size, k, none⟩ = some v ∧ w2.frozen? ⟨w.heap.size, k, none⟩ = false ∧ WdAt b nums w (k + 1) (w2.setCell ⟨w.heap.size, k, none⟩ (.slice a (numL b (nums.getD k 0)).length cap)) := by
  obtain ⟨V, h1, h2, h3⟩ := h
  have r := h1.of_block (hb.block _ h1.lt)
  have keep : ∀ {a' len' l'}, SlN (w.heap.size + 1) w2 a' len' l' → SlN (w.heap.size + 1) (w2.setCell ⟨w.heap.size, k, none⟩ (.slice a (numL b (nums.getD k 0)).length cap)) a' len' l' := fun {a' len' l'} hs' => ⟨sl_keep hs'.1 (fun x hx => by
    obtain ⟨_, ad, e, rfl⟩ := hx
    have := hs'.2 ad e
    exact Below.heap_setCell _ _ _ _ (by simp; omega)), hs'.2⟩
  refine ⟨V k, r.cell hk, r.frozen k, fun j => if j = k then .slice a (numL b (nums.getD k 0)).length cap else V j, r.set k _, fun j hj => ?_, (below_step h3 hb).setCell (Nat.le_refl _) _⟩
  by_cases e : j = k
  · subst e
    exact ⟨a, cap, if_pos rfl, keep (hs.mono h1.lt)⟩
  · obtain ⟨a', cap', e1, e2⟩ := h2 j (by omega)
    exact ⟨a', cap', by simp only [if_neg e]; exact e1, keep ⟨sl_below e2.1 hb, e2.2⟩⟩

theorem wdAt_end {b : Int} {nums : List Int} {w wr : World} (hn : nums.length ≤ 5) (h : WdAt b nums w nums.length wr) : Sl2 wr (some ⟨w.heap.size, 0, none⟩) nums.length (rowsL b nums) := by
  obtain ⟨V, h1, h2, h3⟩ := h
  refine ⟨rowsL_length _ _, by unfold maxLen; omega, Or.inr ⟨w.heap.size, 0, rfl, fun i hi => ?_⟩⟩
  obtain ⟨a, cap, e1, e2⟩ := h2 i hi
  rw [rowsL_get _ _ _ hi, Nat.zero_add, h1.cell hi]
  exact ⟨a, cap, by rw [e1], e2.1⟩

def WordU (b : Int) (nums : List Int) (w : World) (e : Ending) (w' : World) : Prop := OfU w (if codeWd b nums = 0 then wordL b nums else []) (errV (codeWd b nums)) e w'

set_option maxHeartbeats 1000000 in
set_option maxRecDepth 4000 in
theorem word_many (b : Int) (a : Option Addr) (len cap : Nat) (w : World) (hM : codeM b len ≠ 0) :
    Calls Try.prog 7 #[.int .i64 b, .slice a len cap] w fun e w' => e = .returned (.tuple #[.slice none 0 0, errV (codeM b len)]) ∧ w' = w := by
  have HMC := hide (many_u b len w)
  rw [errV_ne hM] at HMC ⊢
  generalize codeM b len = c at HMC ⊢
  generalize manyU b len = M at HMC
  clear hM
  go_enter Try.func7, Try.ntmps7
  go_wp2_with (go_at_call 21; refine HMC.out.mono ?_; rintro e w' ⟨rfl, hw⟩; rw [hw]; clear hw w')
  go_ret2
  exact ⟨by simp, rfl⟩

set_option maxHeartbeats 1000000 in
set_option maxRecDepth 4000 in
theorem word_ok (b : Int) (a : Option Addr) (len cap : Nat) (nums : List Int) (w : World) (hM : codeM b len = 0) (hs : Sl w a len nums) :
    Calls Try.prog 7 #[.int .i64 b, .slice a len cap] w (WordU b nums w) := by
  obtain ⟨h1, h2, h3, h4, _, _⟩ := codeM_zero hM
  have hn : len ≤ 5 := by omega
  have HL := hide hs.1
  have HS := hide hs
  have HMC := hide (many_u b len w)
  rw [hM, errV_zero] at HMC
  generalize manyU b len = M at HMC
  have hmk := make_rows len (by omega)
  have HSTEP := hide (fun wr w2 k a cap => @wdAt_step b nums w wr w2 k a cap)
  have HLT := hide (longL_take_succ b nums)
  have HLE := hide (longL_le b nums)
  have HNL := hide (numL_length b)
  have HSIDE : Hid (∀ wr, WdAt b nums w len wr → Calls Try.prog 22 #[.int .i64 b, .slice (some ⟨w.heap.size, 0, none⟩) len len, .int .i64 (longL (rowsL b nums) : Nat)] wr (GivesRow wr (wordL b nums))) := by
    intro wr h
    have hL := hs.1
    subst hL
    refine side_any b _ _ _ _ (rowsL b nums) wr h1 h2 hn ?_ ?_ ?_ (wdAt_end hn h)
    · have := longL_le b nums nums.length (Nat.le_refl _)
      rw [List.take_of_length_le (by rw [rowsL_length]; omega)] at this
      exact this
    · intro d hd
      simp only [rowsL, List.mem_map] at hd
      obtain ⟨x, _, rfl⟩ := hd
      exact numL_digB b x
    · intro d hd
      simp only [rowsL, List.mem_map] at hd
      obtain ⟨x, _, rfl⟩ := hd
      exact numL_length b x
  have H0 : Hid (WdAt b nums w 0 (w.alloc (.cells (madeCells #[.slice none 0 0] len) 23))) := by
    refine ⟨_, by rw [hs.1]; exact World.rowIs_made w _ len _, fun j hj => by omega, (Below.refl _ _).alloc (Nat.le_refl _) _⟩
  have HG1 : Hid ((∀ j, j < len → codeN b (nums.getD j 0) = 0) → ∀ e w', OfU w (wordL b nums) .nilIface e w' → WordU b nums w e w') := by
    intro h e w' hg
    have : codeWd b nums = 0 := by
      unfold codeWd
      rw [hs.1, if_pos hM]
      refine firstC_all _ fun j hj => ?_
      have hj' : j < nums.length := by simpa using hj
      have := h j (by rw [← hs.1]; exact hj')
      simpa [List.getD, hj'] using this
    unfold WordU
    rw [this, if_pos rfl, errV_zero]
    exact hg
  have HG2 : Hid (∀ k, k < len → (∀ j, j < k → codeN b (nums.getD j 0) = 0) → codeN b (nums.getD k 0) ≠ 0 → ∀ w', Below w.heap.size w w' → WordU b nums w (.returned (.tuple #[.slice none 0 0, errV (codeN b (nums.getD k 0))])) w') := by
    intro k hk h hck w' hb
    have hk' : k < nums.length := by rw [hs.1]; exact hk
    have hg : ∀ j, j < nums.length → (nums.map (codeN b)).getD j 0 = codeN b (nums.getD j 0) := fun j hj => by simp [List.getD, hj]
    have : codeWd b nums = codeN b (nums.getD k 0) := by
      unfold codeWd
      rw [hs.1, if_pos hM, firstC_pre (nums.map (codeN b)) k (fun j hj => by rw [hg j (by omega)]; exact h j hj) (by simpa using hk') (by rw [hg k hk']; exact hck), hg k hk']
    unfold WordU
    rw [this, if_neg hck]
    exact ofU_none _ _ _ hb
  clear hs hM
  go_enter Try.func7, Try.ntmps7
  go_wp2_with (go_at_call 21; refine HMC.out.mono ?_; rintro e w' ⟨rfl, hw⟩; rw [hw]; clear hw w')
  generalize w.alloc (.cells (madeCells #[.slice none 0 0] len) 23) = W at H0 ⊢
  clear HMC
  go_loopw [9, 29] (fun s i wx => ∃ k : Nat, k ≤ len ∧ i = .int .i64 k ∧ s = .int .i64 (longL ((rowsL b nums).take k) : Nat) ∧ (∀ j, j < k → codeN b (nums.getD j 0) = 0) ∧ WdAt b nums w k wx) (fun _ i _ => len - (intOf i).toNat)
  case atStart => exact ⟨0, by omega, rfl, rfl, by omega, H0.out⟩
  case round =>
    obtain ⟨k, hk, rfl, rfl, hd, hat⟩ := hrel
    have HD := hide hd
    have HAT := hide hat
    have HBA : Hid (Below w.heap.size w wr) := by obtain ⟨_, _, _, h⟩ := hat; exact h
    clear hd hat
    have hle := HLE.out k (by rw [HL.out]; exact hk)
    by_cases hlt : k < len
    · have hlti : (k : Int) < (len : Int) := by omega
      obtain ⟨bb, o, rfl, hck⟩ := sl_cell (sl_below HS.out HBA.out) k hlt
      have HLT' := hide (HLT.out k (by rw [HL.out]; exact hlt))
      have HST' := hide (fun w2 a cap => HSTEP.out wr w2 k a cap HAT.out (by rw [HL.out]; exact hlt))
      have hnl := HNL.out (nums.getD k 0)
      have HG2' := hide (HG2.out k hlt HD.out)
      have HX : Hid (codeN b (nums.getD k 0) = 0 → ∀ j, j < k + 1 → codeN b (nums.getD j 0) = 0) := by
        intro h j hj
        by_cases e : j = k
        · subst e; exact h
        · exact HD.out j (by omega)
      have HOF := hide (of_u b (nums.getD k 0) wr)
      generalize codeN b (nums.getD k 0) = c at HG2' HX HOF
      generalize hgl : numL b (nums.getD k 0) = dl at HLT' HST' hnl HOF
      clear hgl
      generalize nums.getD k 0 = x at hck HOF
      generalize longL ((rowsL b nums).take k) = L at hle HLT' ⊢
      go_wp2_with fail
      refine HOF.out.mono ?_
      rintro e w2 ⟨a2, cap2, rfl, hs2, hb2⟩
      obtain ⟨v, hcv, hfv, hnx⟩ := HST'.out w2 a2 cap2 hb2 hs2
      have HNX := hide hnx
      have HB2 := hide (below_step HBA.out hb2)
      clear hnx hb2 hs2 HOF HST'
      by_cases hc : c = 0
      · replace HX := hide (HX.out hc)
        subst hc
        rw [errV_zero]
        go_wp2
        go_roundw
        case rel => exact ⟨k + 1, by omega, by go_num, by rw [HLT'.out]; congr 1; split <;> omega, HX.out, HNX.out⟩
        case measure => simp [intOf]; omega
      · replace HG2' := hide (HG2'.out hc)
        rw [errV_ne hc] at HG2' ⊢
        clear hc HX
        go_wp2
        go_ret2
        exact HG2'.out _ HB2.out
    · have hlti : ¬ ((k : Int) < (len : Int)) := by omega
      obtain rfl : k = len := by omega
      have HALL : Hid ((rowsL b nums).take k = rowsL b nums) := List.take_of_length_le (by rw [rowsL_length, HL.out]; omega)
      rw [HALL.out] at hle ⊢
      have HSD := hide (HSIDE.out wr HAT.out)
      generalize longL (rowsL b nums) = L at hle HSD ⊢
      go_wp2_with fail
      refine HSD.out.mono ?_
      rintro e w2 ⟨a2, cap2, rfl, hs2, hb2⟩
      have HF := hide (HG1.out HD.out _ _ ⟨a2, cap2, rfl, hs2.mono HBA.out.size, below_step HBA.out hb2⟩)
      clear hs2 hb2 HSD
      go_wp2
      go_ret2
      exact HF.out

theorem word_u (b : Int) (a : Option Addr) (len cap : Nat) (nums : List Int) (w : World) (hs : Sl w a len nums) :
    Calls Try.prog 7 #[.int .i64 b, .slice a len cap] w (WordU b nums w) := by
  by_cases hM : codeM b len = 0
  · exact word_ok b a len cap nums w hM hs
  · refine (word_many b a len cap w hM).mono ?_
    rintro e w' ⟨rfl, rfl⟩
    have hc : codeWd b nums = codeM b len := by unfold codeWd; rw [hs.1, if_neg hM]
    unfold WordU
    rw [hc, if_neg hM]
    exact ofU_none _ _ _ (Below.refl _ _)
end Go.Proofs.Ytgbmemkoggogdaa

/- Side by side they are what they were: mathematics. -/
namespace Go.Proofs.Ytgbmemkoggogdaa
open Go.RowKit

theorem pack_div (b : Int) (h2 : b ≤ 6) (ds : List Int) (hd : ∀ j, j < ds.length → 0 ≤ ds.getD j 0 ∧ ds.getD j 0 < kindsI b) (j : Nat) (hj : j ≤ ds.length) : packL b ds / pw (kindsI b) j = packL b (ds.take (ds.length - j)) := by
  have hk := kinds_bd2 b h2
  induction j with
  | zero => simp [pw]
  | succ j ih =>
    have ih := ih (by omega)
    rw [← div_pw _ hk.1, ih]
    obtain ⟨m, hm⟩ : ∃ m, ds.length - j = m + 1 := ⟨ds.length - j - 1, by omega⟩
    rw [hm, show ds.length - (j + 1) = m by omega, packL_take_succ b ds m (by omega)]
    have hx := hd m (by omega)
    rw [Int.add_comm, Int.add_mul_ediv_right _ _ (by omega), Int.ediv_eq_zero_of_lt hx.1 hx.2]
    omega

theorem dOf_pack (b : Int) (h2 : b ≤ 6) (ds : List Int) (hd : ∀ j, j < ds.length → 0 ≤ ds.getD j 0 ∧ ds.getD j 0 < kindsI b) (i : Nat) (hi : i < ds.length) : dOf b ds.length (packL b ds) i = ds.getD i 0 := by
  have hk := kinds_bd2 b h2
  unfold dOf
  rw [pack_div b h2 ds hd _ (by omega), show ds.length - (ds.length - 1 - i) = i + 1 by omega, packL_take_succ b ds i hi]
  have hx := hd i hi
  rw [Int.add_comm, Int.add_mul_emod_self_right, Int.emod_eq_of_lt hx.1 hx.2]

/-- Digits with 0s ahead. -/
def padL (long : Nat) (d : List Int) : List Int := List.replicate (long - d.length) 0 ++ d
theorem padL_length (long : Nat) (d : List Int) (h : d.length ≤ long) : (padL long d).length = long := by simp [padL]; omega
theorem padL_get (long : Nat) (d : List Int) (h : d.length ≤ long) (p : Nat) : (padL long d).getD p 0 = digAt long p d := by
  unfold padL digAt
  by_cases e : long ≤ p + d.length
  · rw [if_pos e, List.getD, List.getElem?_append_right (by simp; omega), List.length_replicate, List.getD]
    congr 2
    omega
  · rw [if_neg e, List.getD, List.getElem?_append_left (by simp; omega), List.getElem?_replicate, if_pos (by omega)]
    rfl
theorem dropZ_pad (k : Nat) (d : List Int) : dropZ (List.replicate k 0 ++ d) = dropZ d := by
  induction k with
  | zero => rfl
  | succ k ih => simp only [List.replicate_succ, List.cons_append]; unfold dropZ at ih ⊢; simp [ih]
theorem val_pad (b : Int) (long : Nat) (d : List Int) : val b (padL long d) = val b d := by
  unfold padL
  rw [← val_dropZ b (List.replicate _ 0 ++ d), dropZ_pad, val_dropZ]
theorem onesB_cons0 (d : List Int) : onesB (0 :: d) = onesB d := by
  cases d with
  | nil => rfl
  | cons x r => simp [onesB]
theorem onesB_pad (k : Nat) (d : List Int) : onesB (List.replicate k 0 ++ d) = onesB d := by
  induction k with
  | zero => rfl
  | succ k ih => simp only [List.replicate_succ, List.cons_append]; rw [onesB_cons0, ih]
theorem rightB_pad (b : Int) (long : Nat) (d : List Int) : rightB b (padL long d) = rightB b d := by
  unfold rightB padL
  rw [onesB_pad]

theorem longL_ge (rows : List (List Int)) : ∀ d ∈ rows, d.length ≤ longL rows := by
  suffices h : ∀ (n : Nat) (rows : List (List Int)), n ≤ rows.foldl (fun m d => max m d.length) n ∧ ∀ d ∈ rows, d.length ≤ rows.foldl (fun m d => max m d.length) n from (h 0 rows).2
  intro n rows
  induction rows generalizing n with
  | nil => simp
  | cons c r ih =>
    simp only [List.foldl_cons]
    have := ih (max n c.length)
    refine ⟨by omega, fun d hd => ?_⟩
    rcases List.mem_cons.1 hd with rfl | hd
    · omega
    · exact this.2 d hd
theorem map_get {α : Type} (f : List Int → α) (z : α) (rows : List (List Int)) (i : Nat) (h : i < rows.length) : (rows.map f).getD i z = f (rows.getD i []) := by simp [List.getD, h]

/-- The track of a word that was made of rows. -/
theorem track_side (b : Int) (h2 : b ≤ 6) (long : Nat) (rows : List (List Int)) (hd : ∀ d ∈ rows, digB b d = true) (hl : ∀ d ∈ rows, d.length ≤ long) (i : Nat) (hi : i < rows.length) : trackL b rows.length (sideL b long rows) i = padL long (rows.getD i []) := by
  have hmem : rows.getD i [] ∈ rows := by rw [List.getD, List.getElem?_eq_getElem hi]; exact List.getElem_mem _
  apply ext_getD
  · rw [trackL_length, sideL_length, padL_length _ _ (hl _ hmem)]
  · intro p hp
    rw [trackL_length, sideL_length] at hp
    rw [trackL_get _ _ _ _ _ (by rw [sideL_length]; exact hp), sideL_get _ _ _ _ hp, padL_get _ _ (hl _ hmem)]
    unfold letAt
    have := dOf_pack b h2 (rows.map (digAt long p)) (fun j hj => by
      rw [List.length_map] at hj
      rw [map_get _ _ _ _ hj]
      exact digAt_bd b h2 long p _ (hd _ (by rw [List.getD, List.getElem?_eq_getElem hj]; exact List.getElem_mem _))) i (by simpa using hi)
    rw [List.length_map] at this
    rw [this, map_get _ _ _ _ hi]

theorem codeWd_zero {b : Int} {nums : List Int} (h : codeWd b nums = 0) : codeM b nums.length = 0 ∧ ∀ j, j < nums.length → codeN b (nums.getD j 0) = 0 := by
  unfold codeWd at h
  split at h
  · rename_i hM
    refine ⟨hM, fun j hj => ?_⟩
    have := firstC_get0 _ h j (by simpa using hj)
    simpa [List.getD, hj] using this
  · contradiction

theorem codeN_zero {b n : Int} (h : codeN b n = 0) : ((1 ≤ b ∧ b ≤ 6) ∧ 0 ≤ n ∧ n ≤ 1099511627776) ∧ numL b n = dgs b n := by
  unfold codeN at h
  split at h
  · rename_i hh
    exact ⟨hh, by unfold numL; rw [if_pos hh]⟩
  · cases h

theorem word_tracks {b : Int} {nums : List Int} (h : codeWd b nums = 0) (i : Nat) (hi : i < nums.length) : trackL b nums.length (wordL b nums) i = padL (longL (rowsL b nums)) (dgs b (nums.getD i 0)) := by
  obtain ⟨hM, hN⟩ := codeWd_zero h
  obtain ⟨h1, h2, _⟩ := codeM_zero hM
  have := track_side b h2 (longL (rowsL b nums)) (rowsL b nums) (fun d hd => by
    simp only [rowsL, List.mem_map] at hd
    obtain ⟨x, _, rfl⟩ := hd
    exact numL_digB b x) (longL_ge _) i (by rw [rowsL_length]; exact hi)
  rw [rowsL_length, rowsL_get _ _ _ hi, (codeN_zero (hN i hi)).2] at this
  exact this

theorem wordL_length_le (b : Int) (nums : List Int) : (wordL b nums).length ≤ 60 := by
  unfold wordL
  rw [sideL_length]
  have := longL_le b nums nums.length (Nat.le_refl _)
  rw [List.take_of_length_le (by rw [rowsL_length]; omega)] at this
  exact this

theorem letter_bd {b : Int} (h2 : b ≤ 6) (nums : List Int) (p : Nat) : 0 ≤ letAt b (longL (rowsL b nums)) (rowsL b nums) p ∧ letAt b (longL (rowsL b nums)) (rowsL b nums) p < pw (kindsI b) nums.length := by
  have := packL_bd b h2 ((rowsL b nums).map (digAt (longL (rowsL b nums)) p)) nums.length (by simp [rowsL]) (fun j hj => by
    rw [map_get _ _ _ _ (by rw [rowsL_length]; exact hj)]
    refine digAt_bd b h2 _ p _ ?_
    rw [rowsL_get _ _ _ hj]
    exact numL_digB b _)
  rw [List.take_of_length_le (by simp [rowsL])] at this
  exact this

theorem word_codeW {b : Int} {nums : List Int} (h : codeWd b nums = 0) : codeW b nums.length (wordL b nums) = 0 := by
  obtain ⟨hM, hN⟩ := codeWd_zero h
  obtain ⟨h1, h2, h3, h4, h5, h6⟩ := codeM_zero hM
  unfold codeW
  rw [if_pos hM, if_pos (wordL_length_le b nums), if_pos]
  unfold letB
  rw [List.all_eq_true]
  intro x hx
  simp only [wordL, sideL, List.mem_map, List.mem_range] at hx
  obtain ⟨p, _, rfl⟩ := hx
  rw [h6, Int.toNat_natCast]
  have := letter_bd h2 nums p
  simp [this]

theorem word_val {b : Int} {nums : List Int} (h : codeWd b nums = 0) (i : Nat) (hi : i < nums.length) : codeV b (trackL b nums.length (wordL b nums) i) = 0 ∧ valU b (trackL b nums.length (wordL b nums) i) = nums.getD i 0 ∧ rightB b (trackL b nums.length (wordL b nums) i) = true := by
  obtain ⟨hM, hN⟩ := codeWd_zero h
  obtain ⟨h1, h2, h3, h4, h5, h6⟩ := codeM_zero hM
  have hn := (codeN_zero (hN i hi)).1
  have hv : val b (trackL b nums.length (wordL b nums) i) = nums.getD i 0 := by rw [word_tracks h i hi, val_pad, dgs_val]
  have hc : codeV b (trackL b nums.length (wordL b nums) i) = 0 := by
    unfold codeV
    rw [codeD_track b h1 h2 nums.length (wordL b nums) (wordL_length_le b nums) i, if_pos rfl, hv, if_pos hn.2.2]
  refine ⟨hc, ?_, ?_⟩
  · unfold valU; rw [if_pos hc, hv]
  · rw [word_tracks h i hi, rightB_pad, dgs_rightB b _ hn.2.1 hn.2.2]

theorem word_right {b : Int} {nums : List Int} (h : codeWd b nums = 0) : rightW b nums.length (wordL b nums) = true :=
  rightW_yes fun i hi => (word_val h i hi).2.2
end Go.Proofs.Ytgbmemkoggogdaa

/- The walk of the law LetterBack. -/
namespace Go.Proofs.Ytgbmemkoggogdaa
open Go.RowKit

/-- A slice that was just built. -/
theorem sl_lit (w : World) (t : TypeId) (l : List Int) (hm : l.length ≤ maxLen) (hw : ∀ x ∈ l, (Lit.int .i64 x).wf = true) : Sl (w.alloc (.cells (iArr l) t)) (some ⟨w.heap.size, 0, none⟩) l.length l := by
  refine ⟨rfl, hm, hw, Or.inr ⟨_, _, rfl, fun i hi => ?_⟩⟩
  rw [cell_of_row _ _ (0 + i) _ t (0, 0) (heap_alloc_last w _), Nat.zero_add, iArr_get _ _ hi]

end Go.Proofs.Ytgbmemkoggogdaa
