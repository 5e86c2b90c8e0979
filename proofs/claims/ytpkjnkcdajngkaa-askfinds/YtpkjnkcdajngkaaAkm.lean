/- AskFinds: its walk. -/
import Derived.Test.YtpkjnkcdajngkaaAkl
import Derived.Deep.Cut
import Derived.Deep.CutRange
namespace Go.Proofs.Ytpkjnkcdajngkaa
open Go.RowKit

theorem ints_u (a a' : Option Addr) (len cap len' cap' : Nat) (l m : List Int) (w : World) (hs : Sl w a len l) (hs' : Sl w a' len' m) :
    Calls Try.prog 9 #[.slice a len cap, .slice a' len' cap'] w fun e w' => e = .returned (.bool (decide (l = m))) ∧ Below w.heap.size w w' := by
  by_cases h : len = len'
  · subst h
    refine (ints_long a a' len cap cap' l m w hs hs').mono ?_
    rintro e w' ⟨rfl, n, rfl⟩
    exact ⟨rfl, below_drewN (Below.refl _ _) n⟩
  · refine (ints_short a a' len cap len' cap' w h).mono ?_
    rintro e w' ⟨rfl, rfl⟩
    have : decide (l = m) = false := decide_eq_false fun e => h (by rw [← hs.1, ← hs'.1, e])
    exact ⟨by rw [this], Below.refl _ _⟩
set_option maxHeartbeats 16000000 in
set_option maxRecDepth 8000 in
theorem askfinds_any (b t : Int) (a : Option Addr) (n cap : Nat) (a' : Option Addr) (k cap' : Nat) (N : List (List Int)) (E : List Bool) (most : Int) (aw : Option Addr) (lw cw : Nat) (u : List Int) (w : World) (hs : Sl2 w a n N) (he : SlB w a' k E) (hw : Sl w aw lw u) :
    Calls Try.prog 3 #[.agg #[.int .i64 b, .int .i64 t, .slice a n cap, .slice a' k cap'], .int .i64 most, .slice aw lw cw] w fun e w' => e = .returned (.bool true) ∧ Below w.heap.size w w' := by
  have hEl := he.1
  have hNl := hs.1
  have HB1 : Hid (Below w.heap.size w (w.alloc (.cells #[.int .i64 b, .int .i64 t, .slice a n cap, .slice a' k cap'] 25))) := (Below.refl _ _).alloc (Nat.le_refl _) _
  have HBX := hide (fun W => @box4 w W (.int .i64 b) (.int .i64 t) (.slice a n cap) (.slice a' k cap') 25)
  generalize hw1 : w.alloc (.cells #[.int .i64 b, .int .i64 t, .slice a n cap, .slice a' k cap'] 25) = w1 at HB1 HBX
  have HTH := hide (threes_any w1)
  unfold ThrU at HTH
  have HLI := hide (fun (W : World) (hb : Below w1.heap.size w1 W) => askList_any b t a a' n cap k cap' N E most W (sl2_below (sl2_below hs HB1.out) hb) (slB_below (slB_below he HB1.out) hb))
  have HTK := hide (fun (W : World) (hb : Below w1.heap.size w1 W) (ax : Option Addr) (lx cx : Nat) (l : List Int) (h : Sl W ax lx l) => takes_u b t a a' n cap k cap' N E ax lx cx l W (sl2_below (sl2_below hs HB1.out) hb) (slB_below (slB_below he HB1.out) hb) h)
  have HW := hide (fun (W : World) (hb : Below w1.heap.size w1 W) => sl_below (sl_below hw HB1.out) hb)
  clear hs he hw
  go_enter Try.func3, Try.ntmps3
  go_wp2_with (go_at_call 6; refine HTH.out.mono ?_; rintro e w2 ⟨a3, c3, a3', c3', rfl, hs3, he3, hb2⟩; have HL3 := hide (askList_any 2 1 a3 a3' 3 c3 3 c3' thrN thrE 4 w2 hs3 he3); have HB2 := hide hb2; clear hs3 he3 hb2)
  refine HL3.out.mono ?_
  rintro e w3 (⟨hbad, -, -⟩ | ⟨-, al, cl, rfl, hl3, hb3⟩)
  · exact absurd thr_code hbad
  rw [show (4 : Int).toNat = 4 from rfl, thr_list] at hl3
  have hq : ((clnL thrN thrE 401).take (4 : Int).toNat).length = 4 := by rw [show (4 : Int).toNat = 4 from rfl, thr_list]; rfl
  rw [hq]
  obtain ⟨b3, o3, x0, y0, rfl, hc0, -⟩ := sl2_cell hl3 0 (by decide)
  obtain ⟨_, _, x1, y1, e1, hc1, -⟩ := sl2_cell hl3 1 (by decide)
  cases e1
  obtain ⟨_, _, x2, y2, e2, hc2, -⟩ := sl2_cell hl3 2 (by decide)
  cases e2
  have HB3 := hide (below_step HB2.out hb3)
  replace hc0 : w3.cell? ⟨b3, o3, none⟩ = some (.slice x0 0 y0) := hc0
  replace hc1 : w3.cell? ⟨b3, o3 + 1, none⟩ = some (.slice x1 2 y1) := hc1
  replace hc2 : w3.cell? ⟨b3, o3 + 2, none⟩ = some (.slice x2 3 y2) := hc2
  obtain ⟨z0, z1, z2, z3⟩ := HBX.out w3 HB3.out
  have HLA := hide (HLI.out w3 HB3.out)
  clear hl3 hb3 hq HL3 HTH
  go_wp2_with fail
  refine HLA.out.mono ?_
  rintro e w4 (⟨hbad, rfl, hb4⟩ | ⟨hz, al2, cl2, rfl, hl4, hb4⟩)
  · have hne : errV (listC b t N E.length most) = .iface 39 (.int .i64 (listC b t N E.length most)) := by unfold errV; rw [if_neg hbad]
    have HB4 := hide (below_step (below_step HB1.out HB3.out) hb4)
    rw [hne]
    clear hbad hb4 hc0 hc1 hc2 z0 z1 z2 z3 hEl hNl
    go_wp2
    go_ret
    exact ⟨rfl, HB4.out⟩
  rw [hEl] at hz
  obtain ⟨hA, hm0, hm1⟩ := listC_zero hz
  obtain ⟨mst, rfl⟩ : ∃ mst : Nat, most = mst := ⟨most.toNat, by omega⟩
  rw [Int.toNat_natCast] at hl4 ⊢
  have HEACH := hide (fun i hi => @fnd_each b t N E k mst hA hEl i hi)
  have HAHD := hide (fun i hi => @fnd_ahead b t N E k mst hA i hi)
  have HMEM := hide (fun (v : List Int) h1 h2 h3 => @fnd_mem b t N E k hA hEl v h1 h2 h3)
  have HEND := hide (fun (v : List Int) hv h => @fnd_end b t N E k mst hA v hv h)
  have hLm : ((clnL N E 401).take mst).length ≤ mst := by rw [List.length_take]; omega
  generalize (clnL N E 401).take mst = L at HEACH HAHD HEND hLm hl4 ⊢
  have HL4 := hide hl4
  have HB4 := hide (below_step HB3.out hb4)
  clear hl4 hb4 hc0 hc1 hc2 z0 z1 z2 z3 hEl hNl hz hA HLA HLI
  go_wp2
  go_loopw [11] (fun i wx => ∃ x : Nat, x ≤ L.length ∧ i = .int .i64 x ∧ Below w4.heap.size w4 wx) (fun i _ => L.length - (intOf i).toNat)
  case atStart => exact ⟨0, by omega, rfl, Below.refl _ _⟩
  case round =>
    obtain ⟨x, hx, rfl, hbx⟩ := hrel
    have HBR := hide (below_step HB4.out hbx)
    have HL := hide (sl2_below HL4.out hbx)
    have HBQ := hide hbx
    clear hbx
    obtain ⟨z0, z1, z2, z3⟩ := HBX.out wr HBR.out
    by_cases hlt : x < L.length
    · have hlti : (x : Int) < (L.length : Int) := by omega
      obtain ⟨bl, ol, ax, cx, rfl, hcx, hsx⟩ := sl2_cell HL.out x hlt
      obtain ⟨e1, e2, e3⟩ := HEACH.out x hlt
      have HT := hide (HTK.out wr.drew (below_step HBR.out (Below.refl _ _).drew) ax _ cx _ (sl_below hsx (Below.refl _ _).drew))
      rw [e1, e2, errV_yes rfl] at HT
      have HDR : Hid (Below wr.heap.size wr wr.drew) := (Below.refl _ _).drew
      have HPR : Hid (0 < x → ∀ W, Below wr.heap.size wr W → ∃ ap cp, W.cell? ⟨bl, ol + (x - 1), none⟩ = some (.slice ap (L.getD (x - 1) []).length cp) ∧ Sl W ap (L.getD (x - 1) []).length (L.getD (x - 1) []) ∧ aheadB (L.getD (x - 1) []) (L.getD x []) = true) := fun h0 W hW => by
        obtain ⟨b', o', a2, c2, e, q1, q2⟩ := sl2_cell (sl2_below HL.out hW) (x - 1) (by omega)
        cases e
        have h := HAHD.out (x - 1) (by omega)
        rw [show x - 1 + 1 = x by omega] at h
        exact ⟨a2, c2, q1, q2, h⟩
      have HCX : Hid (∀ W, Below wr.heap.size wr W → W.cell? ⟨bl, ol + x, none⟩ = some (.slice ax (L.getD x []).length cx) ∧ Sl W ax (L.getD x []).length (L.getD x [])) := fun W hW => ⟨(hW.cell (p := ⟨bl, ol + x, none⟩) (World.block_lt_of_cell? wr _ hcx)).trans hcx, sl_below hsx hW⟩
      have HE3 := hide e3
      clear e1 e2 e3 hsx
      generalize L.getD x [] = l at hcx HT HPR HCX HE3
      go_upto_region 10 with fail
      go_cut [12, 13] from 59 to 111 (fun s12 s13 wx => s12 = .bool true ∧ s13 = .nilIface ∧ Below wr.heap.size wr wx)
      case first =>
        go_region_law (first
          | (go_simp; go_at_call 7; refine HT.out.mono ?_; rintro e w5 ⟨rfl, hb5⟩; have HB5 := hide (HDR.out.trans hb5); have y0 := (HBX.out w5 (below_step HBR.out HB5.out)); clear hb5))
        all_goals
          go_wp2
          go_meet
          case rel => exact ⟨rfl, rfl, HB5.out⟩
      case rest =>
        obtain ⟨rfl, rfl, hbc⟩ := hcut
        have HBC := hide hbc
        obtain ⟨hc1, hs1⟩ := HCX.out wc hbc
        have HPC := hide (fun h => HPR.out h wc hbc)
        have HSC := hide hs1
        have HC1 := hide hc1
        clear hcx hbc HT HPR HCX z0 z1 z2 z3 hs1
        go_upto_region 11 with fail
        go_cut [96] from 59 to 111 (fun s96 wx => s96 = .bool false ∧ wx = wc)
        case first =>
          have hcase : l.length = 0 ∨ 0 < l.length := by omega
          rcases hcase with hl0 | hl0
          · rw [hl0] at hc1
            clear HC1 HSC HPC HE3 hl0
            go_wp2
            go_meet
            case rel => exact ⟨rfl, rfl⟩
          · obtain ⟨b2, o2, rfl, hc2⟩ := sl_cell HSC.out 0 hl0
            replace hc2 : wc.cell? ⟨b2, o2, none⟩ = some (.int .i64 (l.getD 0 0)) := hc2
            have hnz : ((l.getD 0 0) == 0) = false := by simpa using HE3.out hl0
            have hli : (0 : Int) < (l.length : Int) := by omega
            generalize l.getD 0 0 = y0 at hc2 hnz
            clear HC1 HSC HPC HE3 hl0
            go_wp2
            go_meet
            case rel => exact ⟨rfl, rfl⟩
        case rest =>
          obtain ⟨rfl, rfl⟩ := hcut
          by_cases hx0 : 0 < x
          · obtain ⟨ap, cp, hp1, hp2, hp3⟩ := HPC.out hx0
            have hxi : (0 : Int) < (x : Int) := by omega
            have hx1 : ((x : Int) - 1).toNat = x - 1 := by omega
            have hxd : decide ((0 : Int) < (x : Int)) = true := decide_eq_true hxi
            replace hp1 : wc.cell? ⟨bl, ol + (x - 1), none⟩ = some (.slice ap (L.getD (x - 1) []).length cp) := hp1
            have HAD := hide (fun q => lahead_any ap _ _ cp _ cx _ _ (wc.drewN q) (sl_below hp2 (below_drewN (Below.refl _ _) q)) (sl_below HSC.out (below_drewN (Below.refl _ _) q)))
            simp only [hp3] at HAD
            clear hp2 hp3 HSC HPC HE3
            generalize (L.getD (x - 1) []).length = lp at hp1 HAD
            generalize l.length = lx at hc1 HAD
            go_wp2_with fail
            go_quiet (first | (go_at_call 8; refine Calls.quiet_of (HAD.out _)))
            go_wp2
            go_roundw
            case rel => exact ⟨x + 1, by omega, by go_num, below_drewN (below_step HBQ.out HBC.out) _⟩
            case measure => simp [intOf]; omega
          · obtain rfl : x = 0 := by omega
            clear HPC HSC HE3
            go_wp2_with fail
            go_quiet (fail)
            go_wp2
            go_roundw
            case rel => exact ⟨1, by omega, by go_num, below_drewN (below_step HBQ.out HBC.out) _⟩
            case measure => simp [intOf]; omega
    · have hlti : ¬ (x : Int) < (L.length : Int) := by omega
      obtain rfl : x = L.length := by omega
      have HTW := hide (HTK.out wr HBR.out aw lw cw u (HW.out wr HBR.out))
      have HUW := hide (fun (W : World) (hb : Below wr.heap.size wr W) => HW.out W (below_step HBR.out hb))
      have HBZ : Hid (∀ W, Below wr.heap.size wr W → Below w.heap.size w W) := fun W hb => below_step HB1.out (below_step HBR.out hb)
      have hle : ((L.length : Nat) : Int) ≤ (mst : Int) := by omega
      have HLE := hide hle
      have HLX := hide HL.out
      clear HEACH HAHD HTK HW HBX HB1 HB2 HB3 HBR HL HBQ
      have hlz : L.length = mst ∨ L.length ≠ mst := by omega
      by_cases hall : takesB b t N E u = true ∧ runC b t N k u = 0 ∧ (0 < u.length → u.getD 0 0 ≠ 0)
      · obtain ⟨h1, h2, h3⟩ := hall
        have HFI := hide (HEND.out u (HMEM.out u h1 h2 h3))
        have HNZ := hide h3
        rw [h1, errV_yes h2] at HTW
        clear h1 h2 h3 HEND HMEM hle HLE
        go_wp2_with fail
        refine HTW.out.mono ?_
        rintro e w5 ⟨rfl, hb5⟩
        have HB5 := hide hb5
        have hsw := HUW.out w5 hb5
        have HLQ := hide (sl2_below HLX.out hb5)
        clear hb5
        go_upto_region 16 with fail
        go_cut [134] from 112 to 134 (fun s134 wx => s134 = .bool false ∧ wx = w5)
        case first =>
          have hul := hsw.1
          have hcase : lw = 0 ∨ 0 < lw := by omega
          rcases hcase with hl0 | hl0
          · subst hl0
            clear hsw hul
            go_wp2
            go_meet
            case rel => exact ⟨rfl, rfl⟩
          · obtain ⟨b2, o2, rfl, hc2⟩ := sl_cell hsw 0 hl0
            replace hc2 : w5.cell? ⟨b2, o2, none⟩ = some (.int .i64 (u.getD 0 0)) := hc2
            have hnz : ((u.getD 0 0) == 0) = false := by simpa using HNZ.out (by omega)
            have hli : (0 : Int) < (lw : Int) := by omega
            generalize u.getD 0 0 = y0 at hc2 hnz
            clear hsw hul
            go_wp2
            go_meet
            case rel => exact ⟨rfl, rfl⟩
        case rest =>
          obtain ⟨rfl, hwc⟩ := hcut
          obtain rfl : w5 = wc := hwc.symm
          have HSW := hide hsw
          clear hsw
          obtain ⟨C, hC⟩ : ∃ C : Bool, C = decide (L.length = mst ∧ (mst = 0 ∨ aheadB (L.getD (mst - 1) []) u = true)) := ⟨_, rfl⟩
          have HCY : Hid (L.length = mst ∧ (mst = 0 ∨ aheadB (L.getD (mst - 1) []) u = true) → C = true) := fun h => by rw [hC]; exact decide_eq_true h
          have HCN : Hid (¬ (L.length = mst ∧ (mst = 0 ∨ aheadB (L.getD (mst - 1) []) u = true)) → C = false) := fun h => by rw [hC]; exact decide_eq_false h
          have HFN : Hid (C = false → ∃ i, i < L.length ∧ L.getD i [] = u) := fun h => HFI.out (of_decide_eq_false (hC.symm.trans h))
          clear hC HFI HNZ hlz HUW
          go_upto_region 18 with fail
          go_cut [155] from 112 to 155 (fun s155 wx => s155 = .bool C ∧ ∃ q, wx = w5.drewN q)
          case first =>
            by_cases hlm : L.length = mst
            · have hb1 : ((L.length : Int) == (mst : Int)) = true := by simp [hlm]
              by_cases h0 : mst = 0
              · have hb2 : ((mst : Int) == 0) = true := by simp [h0]
                have HC := hide (HCY.out ⟨hlm, Or.inl h0⟩)
                clear hlm h0 HCY HCN HFN
                go_wp2
                go_meet
                case rel => exact ⟨by rw [HC.out], 0, rfl⟩
              · have hb2 : ((mst : Int) == 0) = false := by simp; omega
                obtain ⟨bl, ol, ap, cp, rfl, hp1, hp2⟩ := sl2_cell HLQ.out (mst - 1) (by omega)
                have hm2 : ((mst : Int) - 1).toNat = mst - 1 := by omega
                have hm3 : (0 : Int) ≤ (mst : Int) - 1 := by omega
                have hm4 : (mst : Int) - 1 < (L.length : Int) := by omega
                have HAD := hide (lahead_any ap _ _ cp _ cw _ _ w5 hp2 HSW.out)
                have HC : Hid (C = aheadB (L.getD (mst - 1) []) u) := by
                  cases hq : aheadB (L.getD (mst - 1) []) u with
                  | true => exact HCY.out ⟨hlm, Or.inr hq⟩
                  | false => exact HCN.out fun h => by rcases h.2 with h | h; exact h0 h; rw [hq] at h; cases h
                clear hp2 hlm h0 HCY HCN HFN
                generalize aheadB (L.getD (mst - 1) []) u = R at HAD HC
                generalize (L.getD (mst - 1) []).length = lp at hp1 HAD
                go_wp2_with fail
                refine HAD.out.mono ?_
                rintro e w6 ⟨rfl, q, rfl⟩
                go_wp2
                go_meet
                case rel => exact ⟨by rw [HC.out], q, rfl⟩
            · have hb1 : ((L.length : Int) == (mst : Int)) = false := by simp; omega
              have HC := hide (HCN.out fun h => hlm h.1)
              clear hlm HCY HCN HFN
              go_wp2
              go_meet
              case rel => exact ⟨by rw [HC.out], 0, rfl⟩
          case rest =>
            obtain ⟨rfl, q, rfl⟩ := hcut
            clear HCY HCN
            cases C with
            | true =>
              go_wp2
              go_ret
              exact ⟨rfl, HBZ.out _ (below_drewN HB5.out q)⟩
            | false =>
              have HFX := hide (HFN.out rfl)
              clear HFN
              go_wp2
              go_loopw [16] (fun i wx => ∃ y : Nat, y ≤ L.length ∧ i = .int .i64 y ∧ Below w5.heap.size w5 wx ∧ ∀ j, j < y → L.getD j [] ≠ u) (fun i _ => L.length - (intOf i).toNat)
              case atStart => exact ⟨0, by omega, rfl, below_drewN (Below.refl _ _) q, fun j hj => by omega⟩
              case round =>
                obtain ⟨y, hy, rfl, hby, hno⟩ := hrel
                have HBY := hide hby
                by_cases hlt : y < L.length
                · have hlti : (y : Int) < (L.length : Int) := by omega
                  obtain ⟨bl, ol, ax, cx, rfl, hcx, hsx⟩ := sl2_cell (sl2_below HLQ.out hby) y hlt
                  have HT := hide (ints_u ax aw _ cx lw cw _ u wr hsx (sl_below HSW.out hby))
                  have HNX : Hid (L.getD y [] ≠ u → ∀ j, j < y + 1 → L.getD j [] ≠ u) := fun h j hj => by
                    by_cases e : j = y
                    · subst e; exact h
                    · exact hno j (by omega)
                  clear hno hby hsx
                  generalize L.getD y [] = l at hcx HT HNX
                  by_cases hq : l = u
                  · rw [decide_eq_true hq] at HT
                    clear hq HNX
                    go_wp2_with fail
                    refine HT.out.mono ?_
                    rintro e w6 ⟨rfl, hb6⟩
                    have HB6 := hide (below_step HB5.out (below_step HBY.out hb6))
                    clear hb6
                    go_wp2
                    go_ret
                    exact ⟨rfl, HBZ.out _ HB6.out⟩
                  · rw [decide_eq_false hq] at HT
                    have HN2 := hide (HNX.out hq)
                    clear hq HNX
                    go_wp2_with fail
                    refine HT.out.mono ?_
                    rintro e w6 ⟨rfl, hb6⟩
                    have HB6 := hide (below_step HBY.out hb6)
                    clear hb6
                    go_wp2
                    go_roundw
                    case rel => exact ⟨y + 1, by omega, by go_num, HB6.out, HN2.out⟩
                    case measure => simp [intOf]; omega
                · exfalso
                  obtain ⟨i, hi, e⟩ := HFX.out
                  exact hno i (by omega) e
      · have HFL : Hid (∀ W, Below wr.heap.size wr W → Below w.heap.size w W) := HBZ
        clear HEND HMEM HLX
        by_cases h2 : runC b t N k u = 0
        · rw [errV_yes h2] at HTW
          cases h1 : takesB b t N E u with
          | false =>
            rw [h1] at HTW
            clear h1 h2 hall HUW hlz
            go_wp2_with fail
            refine HTW.out.mono ?_
            rintro e w5 ⟨rfl, hb5⟩
            have HB5 := hide (HBZ.out w5 hb5)
            clear hb5
            go_wp2
            go_ret
            exact ⟨by simp, HB5.out⟩
          | true =>
            rw [h1] at HTW
            have hz : 0 < u.length ∧ u.getD 0 0 = 0 := by
              apply Classical.byContradiction
              intro hz
              exact hall ⟨h1, h2, fun hp h0 => hz ⟨hp, h0⟩⟩
            have HZ := hide hz
            clear h1 h2 hall hz hlz
            go_wp2_with fail
            refine HTW.out.mono ?_
            rintro e w5 ⟨rfl, hb5⟩
            have HB5 := hide (HBZ.out w5 hb5)
            have hsw := HUW.out w5 hb5
            have hul := hsw.1
            obtain ⟨b2, o2, rfl, hc2⟩ := sl_cell hsw 0 (by have := HZ.out.1; omega)
            replace hc2 : w5.cell? ⟨b2, o2, none⟩ = some (.int .i64 (u.getD 0 0)) := hc2
            rw [HZ.out.2] at hc2
            have hli : (0 : Int) < (lw : Int) := by have := HZ.out.1; omega
            clear hb5 hsw hul
            go_wp2
            go_ret
            exact ⟨by simp, HB5.out⟩
        · have hne : errV (runC b t N k u) = .iface 39 (.int .i64 (runC b t N k u)) := by unfold errV; rw [if_neg h2]
          rw [hne] at HTW
          clear hne h2 hall HUW hlz
          generalize runC b t N k u = rc at HTW
          generalize takesB b t N E u = tb at HTW
          go_wp2_with fail
          refine HTW.out.mono ?_
          rintro e w5 ⟨rfl, hb5⟩
          have HB5 := hide (HBZ.out w5 hb5)
          clear hb5
          go_wp2
          go_ret
          exact ⟨by simp, HB5.out⟩
end Go.Proofs.Ytpkjnkcdajngkaa
