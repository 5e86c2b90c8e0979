/- The contract of letter.sideBySide: a word of the digits of its tracks. -/
import Derived.Test.YtdmkjhccdknndaaDoorNx
import Derived.Deep.RegionWith
namespace Go.Proofs.YtdmkjhccdknndaaDoor
open Go.RowKit

/-- The digit at a place of a word so long. -/
def digAt (long p : Nat) (d : List Int) : Int := if long ≤ p + d.length then d.getD (p + d.length - long) 0 else 0
/-- The letter at a place. -/
def letAt (b : Int) (long : Nat) (rows : List (List Int)) (p : Nat) : Int := packL b (rows.map (digAt long p))
def sideL (b : Int) (long : Nat) (rows : List (List Int)) : List Int := (List.range long).map (letAt b long rows)
theorem sideL_length (b : Int) (long : Nat) (rows : List (List Int)) : (sideL b long rows).length = long := by simp [sideL]
theorem sideL_get (b : Int) (long : Nat) (rows : List (List Int)) (p : Nat) (h : p < long) : (sideL b long rows).getD p 0 = letAt b long rows p := by simp [sideL, List.getD, h]

theorem digAt_bd (b : Int) (h2 : b ≤ 6) (long p : Nat) (d : List Int) (hd : digB b d = true) : 0 ≤ digAt long p d ∧ digAt long p d < kindsI b := by
  have hk := kinds_bd2 b h2
  unfold digAt
  split
  · by_cases h : p + d.length - long < d.length
    · exact digB_get2 hd _ h
    · have : d.getD (p + d.length - long) 0 = 0 := by rw [List.getD, List.getElem?_eq_none (by omega)]; rfl
      omega
  · omega

theorem letAt_bd (b : Int) (h2 : b ≤ 6) (long : Nat) (rows : List (List Int)) (hr : rows.length ≤ 5) (hd : ∀ d ∈ rows, digB b d = true) (k : Nat) (hk : k ≤ rows.length) (p : Nat) : 0 ≤ letAt b long (rows.take k) p ∧ letAt b long (rows.take k) p < 7776 := by
  have hK := kinds_bd2 b h2
  have h := packL_bd b h2 (rows.map (digAt long p)) k (by simpa using hk) (fun j hj => by
    have hj' : j < rows.length := by omega
    have : (rows.map (digAt long p)).getD j 0 = digAt long p (rows[j]) := by simp [List.getD, hj']
    rw [this]
    exact digAt_bd b h2 long p _ (hd _ (List.getElem_mem hj')))
  have hb := pw_bd (kindsI b) hK.1 hK.2 k (by omega)
  unfold letAt
  rw [List.map_take]
  omega

theorem letAt_succ (b : Int) (long : Nat) (rows : List (List Int)) (k : Nat) (hk : k < rows.length) (p : Nat) : letAt b long (rows.take (k + 1)) p = letAt b long (rows.take k) p * kindsI b + digAt long p (rows.getD k []) := by
  unfold letAt
  rw [List.take_succ_eq_append_getElem hk, List.map_append]
  simp only [List.map_cons, List.map_nil]
  rw [packL_snoc]
  simp [List.getD, hk]

/-- Behind k rows and p places of the next one. -/
def SbAt (b : Int) (long : Nat) (rows : List (List Int)) (w : World) (k p : Nat) (wr : World) : Prop :=
  wr.rowIs w.heap.size 3 long (fun q => .int .i64 (if q < p then letAt b long (rows.take (k + 1)) q else letAt b long (rows.take k) q)) ∧ Below w.heap.size w wr

theorem sbAt_next {b : Int} {long : Nat} {rows : List (List Int)} {w : World} {k : Nat} {wr : World} (h : SbAt b long rows w k long wr) : SbAt b long rows w (k + 1) 0 wr :=
  ⟨h.1.congr fun q hq => by rw [if_pos hq, if_neg (by omega)], h.2⟩

theorem sbAt_end {b : Int} {long : Nat} {rows : List (List Int)} {w wr : World} (h2 : b ≤ 6) (hr : rows.length ≤ 5) (hd : ∀ d ∈ rows, digB b d = true) (hl : long ≤ 60) (h : SbAt b long rows w rows.length 0 wr) :
    GivesRow w (sideL b long rows) (.returned (.slice (some ⟨w.heap.size, 0, none⟩) long long)) wr := by
  refine ⟨some ⟨w.heap.size, 0, none⟩, long, by rw [sideL_length], ⟨?_, fun ad e => by cases e; exact Nat.le_refl _⟩, h.2⟩
  rw [sideL_length]
  refine sl_of_rowIs (sideL_length _ _ _) (by unfold maxLen; omega) (fun x hx => ?_) (h.1.congr fun i hi => ?_)
  · simp only [sideL, List.mem_map, List.mem_range] at hx
    obtain ⟨i, _, rfl⟩ := hx
    have := letAt_bd b h2 long rows hr hd rows.length (Nat.le_refl _) i
    rw [List.take_of_length_le (Nat.le_refl _)] at this
    exact Go.WalkArith.wf_i64 (by omega)
  · rw [if_neg (by omega), sideL_get _ _ _ _ hi, List.take_of_length_le (Nat.le_refl _)]

/-- One place: the two stores. -/
theorem sbAt_put {b : Int} {long : Nat} {rows : List (List Int)} {w : World} {k p : Nat} {wr : World} (h : SbAt b long rows w k p wr) (hp : p < long) :
    wr.cell? ⟨w.heap.size, p, none⟩ = some (.int .i64 (letAt b long (rows.take k) p)) ∧ wr.frozen? ⟨w.heap.size, p, none⟩ = false ∧
    ∀ x y W2, W2.heap = (wr.setCell ⟨w.heap.size, p, none⟩ x).heap → Below w.heap.size w W2 →
      W2.cell? ⟨w.heap.size, p, none⟩ = some x ∧ W2.frozen? ⟨w.heap.size, p, none⟩ = false ∧
      (x = .int .i64 (letAt b long (rows.take (k + 1)) p) → SbAt b long rows w k (p + 1) W2) ∧
      ∀ W3, W3.heap = (W2.setCell ⟨w.heap.size, p, none⟩ y).heap → Below w.heap.size w W3 → y = .int .i64 (letAt b long (rows.take (k + 1)) p) → SbAt b long rows w k (p + 1) W3 := by
  have fin : ∀ {W : World} {f : Nat → Value} (v : Value), W.rowIs w.heap.size 3 long f → (∀ q, q < long → q ≠ p → f q = .int .i64 (if q < p then letAt b long (rows.take (k + 1)) q else letAt b long (rows.take k) q)) → f p = v → v = .int .i64 (letAt b long (rows.take (k + 1)) p) → Below w.heap.size w W → SbAt b long rows w k (p + 1) W := by
    intro W f v hrow hq hfp hv hb
    refine ⟨hrow.congr fun q hql => ?_, hb⟩
    by_cases e : q = p
    · subst e; rw [hfp, hv, if_pos (by omega)]
    · rw [hq q hql e]
      by_cases e2 : q < p
      · rw [if_pos e2, if_pos (by omega)]
      · rw [if_neg e2, if_neg (by omega)]
  refine ⟨?_, h.1.frozen p, fun x y W2 hW2 hb2 => ?_⟩
  · rw [h.1.cell hp, if_neg (by omega)]
  · have r2 := (h.1.set p x).of_block (w' := W2) (by rw [hW2])
    refine ⟨by rw [r2.cell hp, if_pos rfl], r2.frozen p, fun hx => fin x r2 (fun q _ e => by rw [if_neg e]) (if_pos rfl) hx hb2, fun W3 hW3 hb3 hy => ?_⟩
    have r3 := (r2.set p y).of_block (w' := W3) (by rw [hW3])
    exact fin y r3 (fun q _ e => by rw [if_neg e, if_neg e]) (if_pos rfl) hy hb3

theorem wrap_i64_id {x : Int} (h : 0 ≤ x ∧ x ≤ 1000000000000000) : IntKind.i64.wrap x = x := by rw [IntKind.wrap_i64]; omega

set_option maxHeartbeats 4000000 in
set_option maxRecDepth 4000 in
theorem side_any (b : Int) (a : Option Addr) (len cap long : Nat) (rows : List (List Int)) (w : World) (h1 : 1 ≤ b) (h2 : b ≤ 6) (hr : len ≤ 5) (hl : long ≤ 60) (hd : ∀ d ∈ rows, digB b d = true) (hdl : ∀ d ∈ rows, d.length ≤ 60) (hs : Sl2 w a len rows) :
    Calls Tryd.prog 39 #[.int .i64 b, .slice a len cap, .int .i64 long] w (GivesRow w (sideL b long rows)) := by
  have hK := kinds_bd2 b h2
  obtain ⟨hK1, hK2⟩ := hK
  have HL := hide hs.1
  have HS := hide hs
  have HDL := hide hdl
  have HK := hide (fun w => kinds_any b w h1 h2)
  have hmk := make_ints long (by omega)
  have HEND := hide (fun wr => @sbAt_end b long rows w wr h2 (by rw [hs.1]; exact hr) hd hl)
  have HBD := hide (letAt_bd b h2 long rows (by rw [hs.1]; exact hr) hd)
  have HSU := hide (letAt_succ b long rows)
  have HNX := hide (fun k wr => @sbAt_next b long rows w k wr)
  have HPUT := hide (fun k p wr => @sbAt_put b long rows w k p wr)
  have HDG := hide (fun k (hk : k < len) => (digAt_bd b h2 long · _ (hd (rows.getD k []) (by rw [List.getD, List.getElem?_eq_getElem (by rw [hs.1]; exact hk)]; exact List.getElem_mem _))))
  have H0 : Hid (SbAt b long rows w 0 0 (w.alloc (.cells (madeCells #[.int .i64 0] long) 3))) := by
    refine ⟨(World.rowIs_made w (.int .i64 0) long 3).congr fun p hp => ?_, (Below.refl _ _).alloc (Nat.le_refl _) _⟩
    rw [if_neg (by omega)]
    rfl
  clear hs hd hdl
  generalize kindsI b = K at hK1 hK2 HK HSU HDG
  go_enter Tryd.func39, Tryd.ntmps39
  go_wp2
  generalize w.alloc (.cells (madeCells #[.int .i64 0] long) 3) = W at H0 ⊢
  go_loopw [16] (fun i wx => ∃ k : Nat, k ≤ len ∧ i = .int .i64 k ∧ SbAt b long rows w k 0 wx) (fun i _ => len - (intOf i).toNat)
  case atStart => exact ⟨0, by omega, rfl, H0.out⟩
  case round =>
    obtain ⟨k, hk, rfl, hat⟩ := hrel
    have HAT := hide hat
    clear hat
    by_cases hlt : k < len
    · have hlti : (k : Int) < (len : Int) := by omega
      obtain ⟨bb, o, a2, cap2, rfl, hck, hs2⟩ := sl2_cell (sl2_below HS.out HAT.out.2) k hlt
      have hdl2 := HDL.out (rows.getD k []) (by rw [List.getD, List.getElem?_eq_getElem (by rw [HL.out]; exact hlt)]; exact List.getElem_mem _)
      have HS2 : Hid (∀ W, Below w.heap.size w W → Sl W a2 (rows.getD k []).length (rows.getD k [])) := by
        intro W hW
        obtain ⟨bb', o', a2', cap2', e1, hck', hs2'⟩ := sl2_cell HS.out k hlt
        cases e1
        have := hck
        rw [HAT.out.2.cell (p := ⟨bb, o + k, none⟩) (World.block_lt_of_cell? w _ hck'), hck'] at this
        injection this with this
        injection this with e2
        subst e2
        exact sl_below hs2' hW
      have HSU' := hide (HSU.out k (by rw [HL.out]; exact hlt))
      have HBD' := hide (HBD.out k (by rw [HL.out]; omega))
      have HBD2 := hide (HBD.out (k + 1) (by rw [HL.out]; omega))
      have HDG' := hide (HDG.out k hlt)
      have HNX' := hide (fun wr => HNX.out k wr)
      have HPUT' := hide (fun p wr => HPUT.out k p wr)
      clear hs2
      obtain ⟨wo, hwo⟩ : ∃ wo : World, wo = wr := ⟨_, rfl⟩
      rw [← hwo] at hck HAT ⊢
      clear hwo wr
      generalize rows.getD k [] = d at hck hdl2 HS2 HSU' HDG'
      go_wp2
      go_loopw [21] (fun i wx => ∃ p : Nat, p ≤ long ∧ i = .int .i64 p ∧ SbAt b long rows w k p wx) (fun i _ => long - (intOf i).toNat)
      case atStart => exact ⟨0, by omega, rfl, HAT.out⟩
      case round =>
        obtain ⟨p, hp, rfl, hin⟩ := hrel
        have HIN := hide hin
        clear hin
        by_cases hpt : p < long
        · have hpti : (p : Int) < (long : Int) := by omega
          obtain ⟨hc, hf, hput⟩ := HPUT'.out p wr HIN.out hpt
          have HPUT2 := hide hput
          clear hput
          have hbd := HBD'.out p
          obtain ⟨hv0, hv1⟩ := hbd
          have HSU2 := hide (HSU'.out p)
          have hdg := HDG'.out p
          obtain ⟨hx0, hx1⟩ := hdg
          generalize letAt b long (rows.take k) p = v at hc hv0 hv1 HSU2
          have hm1 : 0 ≤ v * K := Int.mul_nonneg hv0 (by omega)
          have hm2 : v * K ≤ 7776 * 6 := Int.mul_le_mul (by omega) hK2 (by omega) (by omega)
          go_wp2
          go_region_with (go_at_call 37; refine (HK.out _).mono ?_; rintro e w' ⟨rfl, hw⟩; rw [hw]; clear hw w')
          all_goals
            rw [wrap_i64_id (by omega)]
            have HW2 : Hid (Below w.heap.size w (wr.setCell ⟨w.heap.size, p, none⟩ (.int .i64 (v * K))).drew) := (HIN.out.2.setCell (Nat.le_refl _) _).drew
            have HP3 := hide (HPUT2.out (.int .i64 (v * K)) (.int .i64 (v * K + digAt long p d)) _ (show (wr.setCell ⟨w.heap.size, p, none⟩ (.int .i64 (v * K))).drew.heap = _ from rfl) HW2.out)
            generalize (wr.setCell ⟨w.heap.size, p, none⟩ (.int .i64 (v * K))).drew = W2 at HW2 HP3 ⊢
            obtain ⟨hc2, hf2, hx2, hy2⟩ := HP3.out
            have HX2 := hide hx2
            have HY2 := hide hy2
            clear hx2 hy2 HP3 HPUT2 hc hf
            by_cases hge : long ≤ p + d.length
            · obtain ⟨m, hm⟩ : ∃ m : Nat, p + d.length = long + m := ⟨p + d.length - long, by omega⟩
              have hmi : (p : Int) - (long : Int) + (d.length : Int) = (m : Int) := by omega
              have hml : m < d.length := by omega
              have hmli : (m : Int) < (d.length : Int) := by omega
              have HDA : Hid (digAt long p d = d.getD m 0) := by
                show _ = _
                unfold digAt
                rw [if_pos hge, hm, Nat.add_sub_cancel_left]
              obtain ⟨bs, os, rfl, hcd⟩ := sl_cell (HS2.out W2 HW2.out) m hml
              rw [HDA.out] at hx0 hx1 HY2 HSU2
              generalize d.getD m 0 = x at hcd hx0 hx1 HY2 HSU2
              clear hm hge HDA
              generalize v * K = u at hm1 hm2 hc2 HY2 HX2 HSU2 ⊢
              go_wp2
              go_region
              all_goals go_wp2
              all_goals
                go_roundw
                case rel =>
                  exact ⟨p + 1, by omega, by go_num, HY2.out (W2.setCell ⟨w.heap.size, p, none⟩ (.int .i64 (u + x))).drew rfl ((HW2.out.setCell (Nat.le_refl _) _).drew) (by rw [HSU2.out])⟩
                case measure => simp [intOf]; omega
            · have hneg : (p : Int) - (long : Int) + (d.length : Int) < 0 := by omega
              have HDA : Hid (digAt long p d = 0) := by
                show _ = _
                unfold digAt
                rw [if_neg hge]
              rw [HDA.out, Int.add_zero] at HSU2
              have HX3 := hide (HX2.out (by rw [HSU2.out]))
              clear hge HDA HX2 HY2 HSU2
              generalize v * K = u at hm1 hm2 hc2 ⊢
              go_wp2
              go_roundw
              case rel =>
                exact ⟨p + 1, by omega, by go_num, HX3.out⟩
              case measure => simp [intOf]; omega
        · have hpti : ¬ ((p : Int) < (long : Int)) := by omega
          obtain rfl : p = long := by omega
          have HE := hide (HNX'.out wr HIN.out)
          go_wp2
          go_roundw
          case rel => exact ⟨k + 1, by omega, by go_num, HE.out⟩
          case measure => simp [intOf]; omega
    · have hlti : ¬ ((k : Int) < (len : Int)) := by omega
      obtain rfl : k = len := by omega
      go_wp2
      go_ret
      exact HEND.out wr (by rw [HL.out]; exact HAT.out)
end Go.Proofs.YtdmkjhccdknndaaDoor
